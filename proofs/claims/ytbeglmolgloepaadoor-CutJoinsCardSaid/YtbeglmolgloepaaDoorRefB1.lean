/-
  Contracts of the document's answer for layer 1: what opens code.
-/
import Derived.Test.YtbeglmolgloepaaDoorRefA
import Derived.Test.YtbeglmolgloepaaDoorPhp
import Derived.Laws.BytesString
import Derived.Laws.IdiomStrings
namespace Go.Proofs.YtbeglmolgloepaaDoor
open Go Go.RowKit Cutting

theorem low_up (b : UInt8) (h : 65 ≤ (b.toNat : Int) ∧ (b.toNat : Int) ≤ 90) : ((lowB b).toNat : Int) = (b.toNat : Int) + 32 := by
  unfold lowB
  rw [if_pos (by simp only [UInt8.le_iff_toNat_le, Bool.and_eq_true, decide_eq_true_eq]; simp; omega), UInt8.toNat_add]
  simp
  omega
theorem low_no (b : UInt8) (h : ¬ (65 ≤ (b.toNat : Int) ∧ (b.toNat : Int) ≤ 90)) : lowB b = b := by
  unfold lowB
  rw [if_neg (by simp only [UInt8.le_iff_toNat_le, Bool.and_eq_true, decide_eq_true_eq]; simp; omega)]

/-- The call's own three bytes. -/
structure Three (B : Nat) (w W : World) (x y z : UInt8) : Prop where
  below : Below B w W
  c0 : W.cell? ⟨B, 0, none⟩ = some (.int .u8 x.toNat)
  c1 : W.cell? ⟨B, 1, none⟩ = some (.int .u8 y.toNat)
  c2 : W.cell? ⟨B, 2, none⟩ = some (.int .u8 z.toNat)
  f0 : W.frozen? ⟨B, 0, none⟩ = false
  f1 : W.frozen? ⟨B, 1, none⟩ = false
  f2 : W.frozen? ⟨B, 2, none⟩ = false
theorem Three.new (w : World) (E : ByteArray) (x y z : UInt8) (hE : E.data.toList = [x, y, z]) (cap : Nat) (t : TypeId) :
    Three w.heap.size w (w.alloc (.cells (bytesRow E cap) t ((bytesRow E cap).size, (bytesRow E cap).size + 1))).drew x y z := by
  have hr : ∃ r : List Value, bytesRow E cap = (Value.int .u8 x.toNat :: Value.int .u8 y.toNat :: Value.int .u8 z.toNat :: r).toArray := by
    refine ⟨List.replicate (cap - E.size) (.int .u8 0), ?_⟩
    apply Array.ext'
    simp [bytesRow, hE]
  obtain ⟨r, hr⟩ := hr
  rw [hr]
  have hb : ∀ O : Obj, ((w.alloc O).drew).heap[w.heap.size]? = some O := fun O => heap_alloc_new w O
  refine ⟨((Below.refl _ _).alloc (Nat.le_refl _) _).drew, ?_, ?_, ?_, ?_, ?_, ?_⟩
  · exact cell_of_row _ _ 0 _ _ _ (hb _)
  · exact cell_of_row _ _ 1 _ _ _ (hb _)
  · exact cell_of_row _ _ 2 _ _ _ (hb _)
  · simp only [World.frozen?, hb]; simp
  · simp only [World.frozen?, hb]; simp
  · simp only [World.frozen?, hb]; simp
theorem Three.set1 {B : Nat} {w W : World} {x y z : UInt8} (h : Three B w W x y z) (y' : UInt8) : Three B w (W.setCell ⟨B, 1, none⟩ (.int .u8 y'.toNat)) x y' z := by
  have c0 := h.c0; have c1 := h.c1; have c2 := h.c2; have f0 := h.f0; have f1 := h.f1; have f2 := h.f2
  refine ⟨h.below.setCell (Nat.le_refl _) _, ?_, ?_, ?_, ?_, ?_, ?_⟩ <;> simp [go_sem, c0, c1, c2, f0, f1, f2]
theorem Three.set2 {B : Nat} {w W : World} {x y z : UInt8} (h : Three B w W x y z) (z' : UInt8) : Three B w (W.setCell ⟨B, 2, none⟩ (.int .u8 z'.toNat)) x y z' := by
  have c0 := h.c0; have c1 := h.c1; have c2 := h.c2; have f0 := h.f0; have f1 := h.f1; have f2 := h.f2
  refine ⟨h.below.setCell (Nat.le_refl _) _, ?_, ?_, ?_, ?_, ?_, ?_⟩ <;> simp [go_sem, c0, c1, c2, f0, f1, f2]
theorem Three.set0 {B : Nat} {w W : World} {x y z : UInt8} (h : Three B w W x y z) (x' : UInt8) : Three B w (W.setCell ⟨B, 0, none⟩ (.int .u8 x'.toNat)) x' y z := by
  have c0 := h.c0; have c1 := h.c1; have c2 := h.c2; have f0 := h.f0; have f1 := h.f1; have f2 := h.f2
  refine ⟨h.below.setCell (Nat.le_refl _) _, ?_, ?_, ?_, ?_, ?_, ?_⟩ <;> simp [go_sem, c0, c1, c2, f0, f1, f2]
end Go.Proofs.YtbeglmolgloepaaDoor
