/-
  The keys ahead, while they are told; small rules of memory for ranges over a list.
-/
import Derived.Test.YtbbmfpffanhgnaaDoorLApp0
namespace Go.Proofs.YtbbmfpffanhgnaaDoor
open Go Go.RowKit Convs Lists

theorem name_act {F : Fence} {n : Nat} {P : Program} {C : Code} {Q : Exit → Act → World → Prop} {a : Act} {w : World} (h : ∀ a0, a0 = a → C.wpIn F n P Q a0 w) : C.wpIn F n P Q a w := h a rfl
theorem lend_size (lb : Nat) (W : World) : (lend lb W).heap.size = W.heap.size := by simp [lend, World.setCell]
theorem lend_far (lb : Nat) (W : World) (k : Nat) (h : k ≠ lb) : (lend lb W).heap[k]? = W.heap[k]? := Below.heap_setCell _ _ _ _ h
theorem lend_below {lb : Nat} {V W : World} (h : Below V.heap.size V W) (S : Nat → Prop) : Turned S (lend lb V) (lend lb W) := by
  refine ⟨h.os, h.tape, h.output, by rw [lend_size, lend_size]; exact h.size, fun k hk _ => ?_⟩
  rw [lend_size] at hk
  have hb := h.block k hk
  unfold lend World.setCell
  simp only [Array.getElem?_modify]
  rw [hb]
/-- Blocks that are no cells stay where only cells turn. -/
theorem keeps_of_turned {S : Nat → Prop} {W W' : World} (B : Nat) (h : Turned S W W') (hS : ∀ k, S k → ∃ cs T, Blk W k cs T) : KeepsFrom B W W' :=
  ⟨h.size, fun k o _ hk ho => (h.block k (Array.getElem?_eq_some_iff.1 hk).1 (fun hs => by
    obtain ⟨cs, T, hb⟩ := hS k hs
    unfold Blk at hb
    rw [hk] at hb
    cases hb
    cases ho)).trans hk⟩
theorem blk_own {A B : World} {row : Option Nat} {N b : Nat} {cs : Array Value} {T : TypeId} (h : Blk A b cs T) (hg : A.grownBy B row) (hr : ∀ r, row = some r → N ≤ r ∧ ∃ o : Obj, A.heap[r]? = some o ∧ o.isCells = false) : Blk B b cs T :=
  h.same (hg.block b h.lt (fun e => by
    obtain ⟨_, o, ho, hc⟩ := hr b e.symm
    unfold Blk at h
    rw [h] at ho
    cases ho
    cases hc))
theorem turned_own {A B V : World} {row : Option Nat} {S : Nat → Prop} (h : Turned S V A) (hg : A.grownBy B row) (hr : ∀ r, row = some r → V.heap.size ≤ r ∧ ∃ o : Obj, A.heap[r]? = some o ∧ o.isCells = false) : Turned S V B :=
  ⟨hg.os.trans h.os, hg.tape.trans h.tape, hg.output.trans h.output, Nat.le_trans h.size hg.size, fun k hk hs => (hg.block k (Nat.lt_of_lt_of_le hk h.size) (fun e => by have := (hr k e.symm).1; omega)).trans (h.block k hk hs)⟩

def Ahead (V : World) (b7 : Nat) (ks : List K) (v : Value) (W : World) : Prop :=
  Blk W b7 #[v] 54 ∧ W.ownsRow V.heap.size 30 3 v ks.length (encKeys ks) ∧ Turned (fun k => k = b7) V W
section
variable {V W : World} {b7 : Nat} {ks : List K} {v : Value}
theorem Ahead.own {β : Type} (f : β → List K) : OwnFrom V.heap.size (fun (s : β) W => ∃ v, Ahead V b7 (f s) v W) := by
  rintro s A B row ⟨v, h1, h2, h3⟩ hg hr
  refine ⟨v, blk_own h1 hg hr, ownsRow_same h2 (fun k hk => ?_), turned_own h3 hg hr⟩
  obtain ⟨l1, _, cs, hcs⟩ := ownsRow_lt h2 hk
  exact (blk_own hcs hg hr).trans hcs.symm
theorem Ahead.later (h : Ahead V b7 ks v W) {W' : World} (hb : Below W.heap.size W W') : Ahead V b7 ks v W' :=
  ⟨h.1.below hb h.1.lt, ownsRow_same h.2.1 (fun k hk => hb.block k (ownsRow_lt h.2.1 hk).1), h.2.2.trans (.of_below hb)⟩
theorem Ahead.push (h : Ahead V b7 ks v W) {o : Obj} {w1 : World} {v' : Value} {k : K} (hg : (W.alloc o).grownBy w1 v.ownBlock) (hr : w1.ownsRow V.heap.size 30 3 v' (ks.length + 1) (encKeys ks ++ keyV k)) :
    Blk w1 b7 #[v] 54 ∧ Ahead V b7 (ks ++ [k]) v' (w1.setCell ⟨b7, 0, none⟩ v') ∧ KeepsFrom V.heap.size W (w1.setCell ⟨b7, 0, none⟩ v') ∧
    (∀ g cs T, Blk W g cs T → T ≠ 54 → T ≠ 30 → (w1.setCell ⟨b7, 0, none⟩ v').heap[g]? = W.heap[g]?) ∧ W.heap.size ≤ (w1.setCell ⟨b7, 0, none⟩ v').heap.size := by
  obtain ⟨h1, h2, h3⟩ := h
  have hrow : ∀ i, v.ownBlock = some i → ∃ cs, Blk W i cs 30 ∧ V.heap.size ≤ i := fun i hi => by
    obtain ⟨_, l2, cs, hcs⟩ := ownsRow_lt h2 hi
    exact ⟨cs, hcs, l2⟩
  have t1 : Turned (fun i => v.ownBlock = some i) W w1 := (Turned.alloc _ W o).trans (.grown hg (fun i hi => hi))
  have k1 : Blk w1 b7 #[v] 54 := t1.blk h1 (fun hi => by
    obtain ⟨cs, hcs, _⟩ := hrow b7 hi
    exact absurd (hcs.inj h1) (by decide))
  have t2 : Turned (fun i => i = b7 ∨ v.ownBlock = some i) W (w1.setCell ⟨b7, 0, none⟩ v') := (t1.mono (fun i hi _ => .inr hi)).trans (.setCell _ _ _ (.inl rfl))
  refine ⟨k1, ⟨k1.set 0 v', ?_, ?_⟩, keeps_of_turned _ t2 ?_, ?_, t2.size⟩
  · have e : encKeys (ks ++ [k]) = encKeys ks ++ keyV k := by simp [encKeys]
    rw [List.length_append, List.length_singleton, e]
    refine ownsRow_same hr (fun i hi => Below.heap_setCell _ _ _ _ ?_)
    rintro rfl
    obtain ⟨_, _, cs, hcs⟩ := ownsRow_lt hr hi
    exact absurd (hcs.inj k1) (by decide)
  · refine h3.then t2 (fun i hi hl => ?_)
    rcases hi with hi | hi
    · exact hi
    · obtain ⟨_, _, l2⟩ := hrow i hi
      omega
  · rintro i (rfl | hi)
    · exact ⟨_, _, h1⟩
    · obtain ⟨cs, hcs, _⟩ := hrow i hi
      exact ⟨_, _, hcs⟩
  · intro g cs T hb n1 n2
    refine t2.block g hb.lt ?_
    rintro (rfl | hi)
    · exact n1 (hb.inj h1)
    · obtain ⟨cs', hcs, _⟩ := hrow g hi
      exact n2 (hb.inj hcs)
end
theorem rowStays_trans {iv : Value} {A B C : World} (h : RowStays iv A B) (k : RowStays iv B C) : RowStays iv A C := ⟨Nat.le_trans h.1 k.1, fun g hg => (k.2 g hg).trans (h.2 g hg)⟩
theorem rowStays_put {iv : Value} {N : Nat} (hN : ∀ g, iv.ownBlock = some g → g < N) (W : World) (r : Nat) (o : Obj) (hr : N ≤ r) : RowStays iv W (W.putObj r o) :=
  ⟨by simp, fun g hg => World.putObj_heap_other (by have := hN g hg; omega)⟩
section
variable {w : World} {b2 b3 lb b6 b7 : Nat} {T6 T7 : TypeId} {act : Array Value} {Ds : List Nat} {W : World} {mb : Nat} {iv : Value} {lent : Bool} {l : Ls} {m : Int} {v : Value} {ah : List K}
/-- A block of the law's own, of another kind than all that is told, turns. -/
theorem Mid.other (h : Mid w b2 b3 lb b6 b7 T6 T7 act Ds W mb iv lent l m v ah) {b : Nat} {cs : Array Value} (hb : Blk W b cs 3) (h6 : T6 ≠ 3) (h7 : T7 ≠ 3) (hw : w.heap.size ≤ b) {W' : World} (ht : Turned (fun k => k = b) W W') :
    Mid w b2 b3 lb b6 b7 T6 T7 act Ds W' mb iv lent l m v ah := by
  refine ⟨h.below.trans (ht.below h.below.size (fun k hk => hk ▸ hw)), ht.blk h.res (hb.apart h.res (by decide)).symm, ht.blk h.box (hb.apart h.box (by decide)).symm, h.lst.same (fun k hk => ht.block k (h.lst.fp_lt hk) ?_), h.most, h.nodup, fun D hD => ?_, ht.blk h.acts (hb.apart h.acts (Ne.symm h6)).symm, ht.blk h.ahb (hb.apart h.ahb (Ne.symm h7)).symm, ownsRow_same h.ahr (fun k hk => ?_), h.ge2⟩
  · rintro rfl
    exact h.lst.apart hb (by decide) (by decide) hk
  · obtain ⟨h1, h2⟩ := h.marks D hD
    exact ⟨h1, (ht.block D (Array.getElem?_eq_some_iff.1 h2).1 (cells_not_mark hb h2)).trans h2⟩
  · obtain ⟨l1, _, cs', hcs⟩ := ownsRow_lt h.ahr hk
    exact ht.block k l1 (fun e => by
      have e' : k = b := e
      subst e'
      exact absurd (hcs.inj hb) (by decide))
end
theorem skip_nil {get : K → Bool} {k : K} {r : List K} (h : skipTo get k [] = some r) : r = [] := by
  simp [skipTo] at h
  exact h
theorem skip_hit {get : K → Bool} {k : K} {q r : List K} (h : skipTo get k (k :: q) = some r) : r = q := by
  simp [skipTo] at h
  exact h.symm
theorem skip_miss {get : K → Bool} {k a : K} {q r : List K} (hne : a ≠ k) (h : skipTo get k (a :: q) = some r) : get a = false ∧ skipTo get k q = some r := by
  simp only [skipTo, if_neg hne] at h
  cases hg : get a
  · rw [hg] at h; exact ⟨rfl, by simpa using h⟩
  · rw [hg] at h; simp at h
theorem scan_cons {get : K → Bool} {k : K} {a e : List K} (h : scanK get a (k :: e) = true) : ∃ r, skipTo get k a = some r ∧ scanK get r e = true := by
  simp only [scanK] at h
  cases hs : skipTo get k a with
  | none => rw [hs] at h; cases h
  | some r => rw [hs] at h; exact ⟨r, rfl, h⟩
theorem drop_cons {α : Type} {l : List α} {i : Nat} {a : α} (h : l[i]? = some a) : l.drop i = a :: l.drop (i + 1) := by
  obtain ⟨hl, rfl⟩ := List.getElem?_eq_some_iff.1 h
  exact List.drop_eq_getElem_cons hl
theorem pre_at {α : Type} {pre xs : List α} {x : α} (h : (pre ++ [x]) <+: xs) : xs[pre.length]? = some x := by
  obtain ⟨t, rfl⟩ := h
  simp
end Go.Proofs.YtbbmfpffanhgnaaDoor
