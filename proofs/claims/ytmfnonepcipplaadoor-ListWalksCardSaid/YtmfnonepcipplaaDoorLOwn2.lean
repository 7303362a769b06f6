/-
  The contract of package list's own: what is lent becomes the list's alone.
-/
import Derived.Test.YtmfnonepcipplaaDoorLOwn
namespace Go.Proofs.YtmfnonepcipplaaDoor
open Go Go.RowKit Convs Lists

/-- What a call on a list has turned, and where the list lies now. -/
structure Stepped (w w' : World) (lb mb : Nat) (iv : Value) (lent : Bool) (mb' : Nat) (iv' : Value) (lent' : Bool) : Prop where
  turned : Turned (Lst.own lb mb iv lent) w w'
  own : ∀ k, Lst.own lb mb' iv' lent' k → Lst.own lb mb iv lent k ∨ w.heap.size ≤ k
  fp : ∀ k, Lst.own lb mb' iv' false k → Lst.own lb mb iv false k ∨ w.heap.size ≤ k
theorem Stepped.refl (w : World) (lb mb : Nat) (iv : Value) (lent : Bool) : Stepped w w lb mb iv lent mb iv lent := ⟨.refl _ _, fun _ h => .inl h, fun _ h => .inl h⟩
theorem Stepped.trans {a b c : World} {lb mb mb' mb'' : Nat} {iv iv' iv'' : Value} {lent lent' lent'' : Bool} (h : Stepped a b lb mb iv lent mb' iv' lent') (k : Stepped b c lb mb' iv' lent' mb'' iv'' lent'') : Stepped a c lb mb iv lent mb'' iv'' lent'' := by
  refine ⟨h.turned.then k.turned (fun i hi hlt => ?_), fun i hi => ?_, fun i hi => ?_⟩
  · rcases h.own i hi with h1 | h1
    · exact h1
    · omega
  · rcases k.own i hi with h1 | h1
    · exact h.own i h1
    · exact .inr (Nat.le_trans h.turned.size h1)
  · rcases k.fp i hi with h1 | h1
    · exact h.fp i h1
    · exact .inr (Nat.le_trans h.turned.size h1)
theorem Stepped.below {w w' : World} {lb mb mb' : Nat} {iv iv' : Value} {lent lent' : Bool} {B : Nat} (h : Stepped w w' lb mb iv lent mb' iv' lent') {l : Ls} (hl : Lst B w lb mb iv lent l) : Below B w w' := by
  refine h.turned.below (Nat.le_trans hl.hlb (Nat.le_of_lt hl.blk.lt)) (fun k hk => ?_)
  rcases hk with rfl | ⟨_, hk | rfl⟩
  · exact hl.hlb
  · exact (ownsRow_lt hl.row hk).2.1
  · exact hl.hmb

/-- Blocks of other kinds stay. -/
theorem Stepped.blk {w w' : World} {lb mb mb' : Nat} {iv iv' : Value} {lent lent' : Bool} {B : Nat} (h : Stepped w w' lb mb iv lent mb' iv' lent') {l : Ls} (hl : Lst B w lb mb iv lent l) {b : Nat} {cs : Array Value} {T : TypeId}
    (hb : Blk w b cs T) (h1 : T ≠ 50) (h2 : T ≠ 69) : Blk w' b cs T := by
  refine h.turned.blk hb (fun hk => ?_)
  rcases hk with rfl | ⟨_, hk | rfl⟩
  · exact h1 (hb.inj hl.blk)
  · obtain ⟨_, _, cs', hcs⟩ := ownsRow_lt hl.row hk
    exact h2 (hb.inj hcs)
  · obtain ⟨es, clock, hm⟩ := hl.map.isMap
    unfold Blk at hb
    rw [hb] at hm
    cases hm

theorem row_form {w : World} {B : Nat} {e : TypeId} {size : Nat} {v : Value} {n : Nat} {xs : List Value} (h : w.ownsRow B e size v n xs) : ∃ A cap, v = .slice A n cap := by
  rcases h.2 with ⟨rfl, rfl⟩ | ⟨g, cap, cur, rfl, _⟩
  · exact ⟨_, _, rfl⟩
  · exact ⟨_, _, rfl⟩
section
variable {B : Nat} {w : World} {lb mb : Nat} {iv : Value} {lent : Bool} {l : Ls}
/-- The list stays what it is where its blocks do. -/
theorem Lst.same {w' : World} (h : Lst B w lb mb iv lent l) (hs : ∀ k, Lst.own lb mb iv false k → w'.heap[k]? = w.heap[k]?) : Lst B w' lb mb iv lent l :=
  ⟨h.blk.same (hs lb (.inl rfl)), ownsRow_same h.row (fun k hk => hs k (.inr ⟨rfl, .inl hk⟩)), h.map.same (hs mb (.inr ⟨rfl, .inr rfl⟩)), h.good, h.keys, h.hlb, h.hmb⟩
theorem Lst.lb_ne_mb (h : Lst B w lb mb iv lent l) : lb ≠ mb := by
  rintro rfl
  obtain ⟨es, clock, hm⟩ := h.map.isMap
  have hb := h.blk
  unfold Blk at hb
  rw [hb] at hm
  cases hm
theorem Lst.fp_lt (h : Lst B w lb mb iv lent l) {k : Nat} (hk : Lst.own lb mb iv false k) : k < w.heap.size := by
  rcases hk with rfl | ⟨_, hk | rfl⟩
  · exact h.blk.lt
  · exact (ownsRow_lt h.row hk).1
  · exact h.map.lt
theorem Lst.below (h : Lst B w lb mb iv lent l) {w' : World} (hb : Below w.heap.size w w') : Lst B w' lb mb iv lent l := h.same fun _ hk => hb.block _ (h.fp_lt hk)

set_option maxRecDepth 100000 in
set_option maxHeartbeats 1000000 in
theorem own_any (h : Lst B w lb mb iv lent l) :
    Calls Tryd.prog 28 #[.pointer (some ⟨lb, 0, none⟩)] w fun e w' => ∃ mb' iv', e = .returned (.tuple #[]) ∧ Lst B w' lb mb' iv' false l ∧ Stepped w w' lb mb iv lent mb' iv' false := by
  obtain ⟨c0, c1, c2, c3, c4, f0, f1, f2, f3, f4⟩ := h.cells
  cases lent
  · have HH := hide h
    clear h
    go_enter Tryd.func28, Tryd.ntmps28
    go_wp2_with fail
    refine bodyPost_ret (results_none rfl _ _ _) rfl ?_
    exact ⟨mb, iv, rfl, HH.out, .refl _ _ _ _ _⟩
  · have HH := hide h
    have HS := hide (SClone_any w B iv l.items h.good.len h.row)
    clear h
    go_enter Tryd.func28, Tryd.ntmps28
    go_wp2_with fail
    refine (unhide HS).mono ?_
    rintro e w1 ⟨iv', rfl, hr1, hb1⟩
    obtain ⟨A, cap, hiv⟩ := row_form hr1
    subst hiv
    obtain ⟨iv', hiv⟩ : ∃ iv', Value.slice A l.items.length cap = iv' := ⟨_, rfl⟩
    rw [hiv] at hr1
    have k1 : Blk w1 lb (lstCells lb iv mb l.next true) 50 := HH.out.blk.below hb1 HH.out.blk.lt
    obtain ⟨d0, d1, d2, d3, d4, g0, g1, g2, g3, g4⟩ := k1.five
    have m1 : Idx (w1.setCell ⟨lb, 1, none⟩ iv') mb (placeOf l.items) := by
      have hne : mb ≠ lb := by
        rintro rfl
        obtain ⟨es, clock, hm⟩ := HH.out.map.isMap
        have hb := HH.out.blk
        unfold Blk at hb
        rw [hb] at hm
        cases hm
      exact (HH.out.map.same (hb1.block mb HH.out.map.lt)).same (Below.heap_setCell _ _ _ _ hne)
    have HM := hide (MClone_any _ mb _ m1)
    rw [← hiv] at HM
    have HV := hide hiv
    clear hiv
    have KK := hide k1
    have R1 := hide hr1
    have B1 := hide hb1
    clear k1 m1 hr1 hb1
    go_wp2_with fail
    refine (unhide HM).mono ?_
    rintro e w2 ⟨rfl, hi2, hb2, hz2⟩
    rw [HV.out] at hi2 hb2 hz2 ⊢
    have k2 : Blk w2 lb (lstCells lb iv' mb l.next true) 50 := (KK.out.set 1 iv').below hb2 (by simp [World.setCell]; exact KK.out.lt)
    have hsz : (w1.setCell ⟨lb, 1, none⟩ iv').heap.size = w1.heap.size := by simp [World.setCell]
    rw [hsz] at hi2 hb2 hz2 ⊢
    obtain ⟨d0, d1, d2, d3, d4, g0, g1, g2, g3, g4⟩ := k2.five
    have K2 := hide k2
    have I2 := hide hi2
    have B2 := hide hb2
    have Z2 := hide hz2
    clear k2 hi2 hb2 hz2
    go_wp2_with fail
    go_end0
    have k3 := (K2.out.set 2 (.map (some w1.heap.size))).set 4 (.bool false)
    have hlt : lb < w.heap.size := HH.out.blk.lt
    have hB : B ≤ w.heap.size := Nat.le_trans HH.out.hlb (Nat.le_of_lt hlt)
    have hw1 := B1.out.size
    have row1 : ∀ k, iv'.ownBlock = some k → w.heap.size ≤ k ∧ k < w1.heap.size := fun k hk => ⟨(ownsRow_lt R1.out hk).2.1, (ownsRow_lt R1.out hk).1⟩
    have same2 : ∀ k, k < w1.heap.size → k ≠ lb → (((w2.setCell ⟨lb, 2, none⟩ (.map (some w1.heap.size))).setCell ⟨lb, 4, none⟩ (.bool false))).heap[k]? = w1.heap[k]? := fun k hk hne => by
      rw [Below.heap_setCell _ _ _ _ hne, Below.heap_setCell _ _ _ _ hne, B2.out.block k hk, Below.heap_setCell _ _ _ _ hne]
    refine ⟨w1.heap.size, iv', rfl, ⟨k3, ?_, ?_, HH.out.good, HH.out.keys, HH.out.hlb, by omega⟩, ⟨?_, ?_, ?_⟩⟩
    · exact ownsRow_same (ownsRow_base R1.out hB) (fun k hk => same2 k (row1 k hk).2 (by have := (row1 k hk).1; omega))
    · refine I2.out.same ?_
      rw [Below.heap_setCell _ _ _ _ (by show w1.heap.size ≠ lb; omega), Below.heap_setCell _ _ _ _ (by show w1.heap.size ≠ lb; omega)]
    · refine ⟨(show w2.os = w.os from B2.out.os.trans B1.out.os), (show w2.tape = w.tape from B2.out.tape.trans B1.out.tape), (show w2.output = w.output from B2.out.output.trans B1.out.output), ?_, fun k hk hne => ?_⟩
      · have := B2.out.size
        simp only [World.setCell, Array.size_modify] at this ⊢
        omega
      · have hk' : k ≠ lb := fun e => hne (.inl e)
        rw [same2 k (by omega) hk', B1.out.block k hk]
    · rintro k (rfl | ⟨_, hk | rfl⟩)
      · exact .inl (.inl rfl)
      · exact .inr (row1 k hk).1
      · exact .inr hw1
    · rintro k (rfl | ⟨_, hk | rfl⟩)
      · exact .inl (.inl rfl)
      · exact .inr (row1 k hk).1
      · exact .inr hw1
end
end Go.Proofs.YtmfnonepcipplaaDoor
