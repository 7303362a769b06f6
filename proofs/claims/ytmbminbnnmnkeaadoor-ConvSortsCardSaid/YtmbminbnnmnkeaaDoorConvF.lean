/-
  The contract of the probe that stands in each statement of layer 6.
-/
import Derived.Test.YtmbminbnnmnkeaaDoorConvE
namespace Go.Proofs.YtmbminbnnmnkeaaDoor
open Go Go.RowKit Convs

theorem alive_order : orderN 3 0 [49, 48] 0 2 9 [] 0 = (1, 0) := by decide +kernel
theorem alive_number : numberN 3 0 [49, 50, 120] 0 = 12 := by decide +kernel
theorem alive_truth : truthN 3 0 [49, 50, 120] 0 = true := by decide
theorem alive_digits : digitsT (-70) = [45, 55, 48] := by
  unfold digitsT
  rw [if_pos (by decide), show (-70 : Int).natAbs = 70 from rfl, natDig_step 70 (by decide), natDig_small 7 (by decide)]
  rfl

set_option maxRecDepth 100000 in
theorem alive_any (w : World) (hM : Met w) :
    Calls Tryd.prog 17 #[] w fun e w' => e = .returned (.bool true) ∧ Below w.heap.size w w' := by
  have hBX := Box.new w 3 0 ⟨#[49, 50, 120]⟩ none 0 0
  have hb0 : Below w.heap.size w (w.alloc (.cells #[.int .i64 3, .int .i64 0, .string ⟨#[49, 50, 120]⟩, .slice none 0 0] 24)) := below_box w _
  have hlt : w.heap.size < (w.alloc (.cells #[.int .i64 3, .int .i64 0, .string ⟨#[49, 50, 120]⟩, .slice none 0 0] 24)).heap.size := by simp
  obtain ⟨W0, hW0⟩ : ∃ W0, w.alloc (.cells #[.int .i64 3, .int .i64 0, .string ⟨#[49, 50, 120]⟩, .slice none 0 0] 24) = W0 := ⟨_, rfl⟩
  rw [hW0] at hBX hb0 hlt
  have HW0 := Lib.hid hW0
  have hM0 := hM.below hb0
  have hO : ∀ u, Below W0.heap.size W0 u → _ := fun u hu => from_ hu (Order_any 3 0 ⟨#[49, 48]⟩ none 0 0 2 9 ⟨#[]⟩ none 0 0 u (hM0.below hu) (by decide) (by decide) (by decide) (by decide) (by decide) (by decide))
  have hN : ∀ u, Below W0.heap.size W0 u → _ := fun u hu => from_ hu (Number_any 3 0 ⟨#[49, 50, 120]⟩ none 0 0 u (hM0.below hu) (by decide))
  have hT : ∀ u, Below W0.heap.size W0 u → _ := fun u hu => from_ hu (Truth_any 3 0 ⟨#[49, 50, 120]⟩ none 0 0 u)
  have hD : ∀ u, Below W0.heap.size W0 u → _ := fun u hu => from_ hu (Digits_any (-70) u (hM0.below hu) (by decide) (by decide))
  rw [alive_digits] at hD
  have HO : Hid (∀ u, Below W0.heap.size W0 u → Calls Tryd.prog 22 #[.agg #[.int .i64 3, .int .i64 0, .string ⟨#[49, 48]⟩, .slice none 0 0], .agg #[.int .i64 2, .int .i64 9, .string ⟨#[]⟩, .slice none 0 0]] u fun e w' => e = .returned (.tuple #[.int .i64 1, .int .i64 0]) ∧ Below W0.heap.size W0 w') := by
    intro u hu
    have := hO u hu
    rw [show orderN 3 0 (ByteArray.mk #[49, 48]).data.toList 0 2 9 (ByteArray.mk #[]).data.toList 0 = (1, 0) from alive_order] at this
    exact this
  have HN : Hid (∀ u, Below W0.heap.size W0 u → Calls Tryd.prog 13 #[.agg #[.int .i64 3, .int .i64 0, .string ⟨#[49, 50, 120]⟩, .slice none 0 0]] u fun e w' => e = .returned (.int .i64 12) ∧ Below W0.heap.size W0 w') := by
    intro u hu
    have := hN u hu
    rw [show numberN 3 0 (ByteArray.mk #[49, 50, 120]).data.toList 0 = 12 from alive_number] at this
    exact this
  have HT : Hid (∀ u, Below W0.heap.size W0 u → Calls Tryd.prog 11 #[.agg #[.int .i64 3, .int .i64 0, .string ⟨#[49, 50, 120]⟩, .slice none 0 0]] u fun e w' => e = .returned (.bool true) ∧ Below W0.heap.size W0 w') := by
    intro u hu
    have := hT u hu
    rw [show truthN 3 0 (ByteArray.mk #[49, 50, 120]).data.toList 0 = true from alive_truth] at this
    exact this
  have HD := hide hD
  have HX := hide (fun (u : World) (hu : Below W0.heap.size W0 u) => hBX.below hu hlt)
  have hOB := hb0.size
  obtain ⟨ca0, ca1, ca2, ca3⟩ := hBX
  clear hM hM0 hW0 hO hN hT hD hlt
  go_enter Tryd.func17, Tryd.ntmps17
  go_upto_region 2 with fail
  rw [HW0.out]
  go_wp2_with (first | (go_at_call 22; with_reducible refine ((unhide HO) _ (by first | exact Below.refl _ _ | assumption)).mono ?_; rintro e w2 ⟨rfl, hb2⟩; obtain ⟨ca0, ca1, ca2, ca3⟩ := (unhide HX) _ hb2) | (go_at_call 13; with_reducible refine ((unhide HN) _ (by first | exact Below.refl _ _ | assumption)).mono ?_; rintro e w2 ⟨rfl, hb2⟩; obtain ⟨ca0, ca1, ca2, ca3⟩ := (unhide HX) _ hb2) | (go_at_call 11; with_reducible refine ((unhide HT) _ (by first | exact Below.refl _ _ | assumption)).mono ?_; rintro e w2 ⟨rfl, hb2⟩; obtain ⟨ca0, ca1, ca2, ca3⟩ := (unhide HX) _ hb2) | (go_at_call 26; with_reducible refine ((unhide HD) _ (by first | exact Below.refl _ _ | assumption)).mono ?_; rintro e w2 ⟨rfl, hb2⟩; obtain ⟨ca0, ca1, ca2, ca3⟩ := (unhide HX) _ hb2))
  go_ret
  exact ⟨rfl, hb0.trans (Below.mono (by assumption) hOB)⟩
end Go.Proofs.YtmbminbnnmnkeaaDoor
