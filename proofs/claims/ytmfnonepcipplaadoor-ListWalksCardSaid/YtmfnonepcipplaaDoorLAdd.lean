/-
  The contract of package list's add: an item comes last, under a key that is not there.
-/
import Derived.Test.YtmfnonepcipplaaDoorLOwn2
import Derived.Test.YtmfnonepcipplaaDoorLPlace
import Derived.Deep.Cut
import Derived.StillTailTactics
import Derived.Deep.RegionHeld3
import Derived.Deep.RegionLaw
import Derived.Deep.AppendLies
namespace Go.Proofs.YtmfnonepcipplaaDoor
open Go Go.RowKit Convs Lists

theorem Lst.alloc {B : Nat} {w : World} {lb mb : Nat} {iv : Value} {lent : Bool} {l : Ls} (h : Lst B w lb mb iv lent l) (o : Obj) : Lst B (w.alloc o) lb mb iv lent l := h.below (below_box w o)

/-- The error's number of a list that is full. -/
def fullN (b : Bool) : Int := if b then 8 else 0
/-- What a call that may turn a list leaves: the list, and what has turned. -/
def LPost (B : Nat) (w : World) (lb mb : Nat) (iv : Value) (lent : Bool) (l' : Ls) (r : Value) (e : Ending) (w' : World) : Prop :=
  ∃ mb' iv' lent', e = .returned r ∧ Lst B w' lb mb' iv' lent' l' ∧ Stepped w w' lb mb iv lent mb' iv' lent'

theorem below_undrew {w w' : World} (h : Below w.drew.heap.size w.drew w') : Below w.heap.size w w' := ⟨h.os, h.tape, h.output, h.size, h.block⟩
theorem keys_set {l : Ls} {k : K} {v : Int} (hk : Kok k) (h : ∀ j ∈ l.keys, Kok j) : ∀ j ∈ (l.set k v).1.keys, Kok j := by
  unfold Ls.set
  split
  · have e : (⟨putI l.items k v, l.next⟩ : Ls).keys = l.keys := putI_keys _ _ _
    rw [e]; exact h
  · split
    · exact h
    · have e : (⟨l.items ++ [(k, v)], nextT l.next k⟩ : Ls).keys = l.keys ++ [k] := by simp [Ls.keys]
      rw [e]
      intro j hj
      rcases List.mem_append.1 hj with hj | hj
      · exact h j hj
      · simp at hj; subst hj; exact hk

theorem add_close {B : Nat} {w W0 w1 w2 w3 w5 : World} {lb mb mb1 : Nat} {iv iv1 iv3 : Value} {lent : Bool} {l : Ls} {k : K} {v : Int} {g cap2 : Nat} {X : Obj}
    (h : Lst B w lb mb iv lent l) (hk : Kok k) (hn : normT k = k) (hh : hasI l.items k = false) (hf : l.set k v = (⟨l.items ++ [(k, v)], nextT l.next k⟩, false))
    (hb0 : Below w.heap.size w W0) (h1 : Lst B w1 lb mb1 iv1 false l) (s1 : Stepped W0 w1 lb mb iv lent mb1 iv1 false)
    (i2 : Idx w2 mb1 (updF (placeOf l.items) k (some (l.items.length : Int)))) (g2 : w1.drew.grownBy w2 (some mb1)) (z2 : w2.heap.size = w1.drew.heap.size)
    (hiv3 : iv3 = .slice (some ⟨g, 0, none⟩) (l.items.length + 1) cap2)
    (o3 : w3.ownsRow B 69 4 iv3 (l.items.length + 1) (encItems l.items ++ itemV (k, v))) (g3 : (w2.alloc X).drew.grownBy w3 iv1.ownBlock) (at3 : iv1.ownBlock = some g ∨ g = w2.heap.size + 1)
    (k3 : Blk w3 lb (lstCells lb iv1 mb1 l.next false) 50)
    (hb5 : Below (w3.setCell ⟨lb, 1, none⟩ iv3).drew.heap.size (w3.setCell ⟨lb, 1, none⟩ iv3).drew w5) :
    LPost B w lb mb iv lent (l.set k v).1 (.int .i64 (fullN (l.set k v).2)) (.returned (.int .i64 0)) (w5.setCell ⟨lb, 3, none⟩ (.int .i64 (nextT l.next k))) := by
  have hb5 := below_undrew hb5
  have k4 := k3.set 1 iv3
  have k5 := (k4.below hb5 k4.lt).set 3 (.int .i64 (nextT l.next k))
  have hlb1 : lb < w1.heap.size := h1.blk.lt
  have z3 : w2.heap.size + 1 ≤ w3.heap.size := by have := g3.size; simpa using this
  have z4 : (w3.setCell ⟨lb, 1, none⟩ iv3).heap.size = w3.heap.size := by simp [World.setCell]
  have z2' : w2.heap.size = w1.heap.size := z2
  have hgl : g < w3.heap.size ∧ B ≤ g := by
    have := ownsRow_lt o3 (k := g) (by rw [hiv3]; rfl)
    exact ⟨this.1, this.2.1⟩
  have hg_lb : g ≠ lb := by
    rintro rfl
    obtain ⟨_, _, cs, hcs⟩ := ownsRow_lt o3 (k := g) (by rw [hiv3]; rfl)
    exact absurd (hcs.inj k3) (by decide)
  -- what stays from w1 to the end
  have far : ∀ j, j < w1.heap.size → j ≠ lb → j ≠ mb1 → some j ≠ iv1.ownBlock → (w5.setCell ⟨lb, 3, none⟩ (.int .i64 (nextT l.next k))).heap[j]? = w1.heap[j]? := by
    intro j hj n1 n2 n3
    rw [Below.heap_setCell _ _ _ _ n1, hb5.block j (by omega), Below.heap_setCell _ _ _ _ n1,
      g3.block j (by show j < (w2.alloc X).heap.size; simp; omega) n3]
    show (w2.alloc X).heap[j]? = _
    rw [Below.heap_alloc _ _ _ (by omega), g2.block j hj (fun e => n2 (Option.some.inj e))]
    rfl
  have row_mb : iv1.ownBlock ≠ some mb1 := by
    intro e
    obtain ⟨_, _, cs, hcs⟩ := ownsRow_lt h1.row e
    obtain ⟨es, clock, hm⟩ := h1.map.isMap
    unfold Blk at hcs
    rw [hm] at hcs
    cases hcs
  have hmb1 : mb1 < w1.heap.size := h1.map.lt
  have hmap : (w5.setCell ⟨lb, 3, none⟩ (.int .i64 (nextT l.next k))).heap[mb1]? = w2.heap[mb1]? := by
    have n1 : mb1 ≠ lb := Ne.symm h1.lb_ne_mb
    rw [Below.heap_setCell _ _ _ _ n1, hb5.block mb1 (by omega), Below.heap_setCell _ _ _ _ n1,
      g3.block mb1 (by show mb1 < (w2.alloc X).heap.size; simp; omega) (fun e => row_mb e.symm)]
    exact Below.heap_alloc _ _ _ (by omega)
  have hrow : (w5.setCell ⟨lb, 3, none⟩ (.int .i64 (nextT l.next k))).heap[g]? = w3.heap[g]? := by
    rw [Below.heap_setCell _ _ _ _ hg_lb, hb5.block g (by omega), Below.heap_setCell _ _ _ _ hg_lb]
  have hgood := h.good.set k v hn
  have hkeys := keys_set (v := v) hk h.keys
  have e1 : (l.set k v).1 = ⟨l.items ++ [(k, v)], nextT l.next k⟩ := by rw [hf]
  have e2 : (l.set k v).2 = false := by rw [hf]
  rw [e1] at hgood hkeys ⊢
  rw [e2]
  have step : Stepped w1 (w5.setCell ⟨lb, 3, none⟩ (.int .i64 (nextT l.next k))) lb mb1 iv1 false mb1 iv3 false := by
    have own : ∀ j, Lst.own lb mb1 iv3 false j → Lst.own lb mb1 iv1 false j ∨ w1.heap.size ≤ j := by
      rintro j (rfl | ⟨_, hj | rfl⟩)
      · exact .inl (.inl rfl)
      · have : g = j := by rw [hiv3] at hj; exact Option.some.inj hj
        subst this
        rcases at3 with h | h
        · exact .inl (.inr ⟨rfl, .inl h⟩)
        · exact .inr (by omega)
      · exact .inl (.inr ⟨rfl, .inr rfl⟩)
    refine ⟨⟨?_, ?_, ?_, ?_, fun j hj hs => far j hj (fun e => hs (.inl e)) (fun e => hs (.inr ⟨rfl, .inr e⟩)) (fun e => hs (.inr ⟨rfl, .inl e.symm⟩))⟩, own, own⟩
    · show w5.os = w1.os
      rw [hb5.os]; show w3.os = w1.os; rw [g3.os]; exact g2.os
    · show w5.tape = w1.tape
      rw [hb5.tape]; show w3.tape = w1.tape; rw [g3.tape]; exact g2.tape
    · show w5.output = w1.output
      rw [hb5.output]; show w3.output = w1.output; rw [g3.output]; exact g2.output
    · have := hb5.size
      simp only [World.setCell, Array.size_modify] at this ⊢
      omega
  have step0 : Stepped w W0 lb mb iv lent mb iv lent := ⟨.of_below hb0, fun _ h => .inl h, fun _ h => .inl h⟩
  refine ⟨mb1, iv3, false, rfl, ⟨k5, ?_, ?_, hgood, hkeys, h.hlb, h1.hmb⟩, (step0.trans s1).trans step⟩
  · have o4 : w3.ownsRow B 69 4 iv3 (l.items ++ [(k, v)]).length (encItems (l.items ++ [(k, v)])) := by
      rw [encItems_app, List.length_append, List.length_singleton]
      have : encItems [(k, v)] = itemV (k, v) := by simp [encItems]
      rw [this]; exact o3
    exact ownsRow_same o4 (fun j hj => by
      have : g = j := by rw [hiv3] at hj; exact Option.some.inj hj
      subst this
      exact hrow)
  · exact (i2.same hmap).ext (placeOf_app l.items k v hh)

set_option maxRecDepth 100000 in
set_option maxHeartbeats 2000000 in
theorem add_any {B : Nat} {w : World} {lb mb : Nat} {iv : Value} {lent : Bool} {l : Ls} (h : Lst B w lb mb iv lent l) (t : Bool) (n : Int) (s : ByteArray) (v : Int)
    (hk : Kok ⟨t, n, s.data.toList⟩) (hn : normT ⟨t, n, s.data.toList⟩ = ⟨t, n, s.data.toList⟩) (hh : hasI l.items ⟨t, n, s.data.toList⟩ = false) :
    Calls Tryd.prog 27 #[.pointer (some ⟨lb, 0, none⟩), .agg #[.bool t, .int .i64 n, .string s], .int .i64 v] w
      (LPost B w lb mb iv lent (l.set ⟨t, n, s.data.toList⟩ v).1 (.int .i64 (fullN (l.set ⟨t, n, s.data.toList⟩ v).2))) := by
  have hset : l.set ⟨t, n, s.data.toList⟩ v = if maxItems ≤ l.items.length then (l, true) else (⟨l.items ++ [(⟨t, n, s.data.toList⟩, v)], nextT l.next ⟨t, n, s.data.toList⟩⟩, false) := by
    unfold Ls.set; rw [hh]; rfl
  have h0 := h.alloc (.cells #[.bool t, .int .i64 n, .string s] 30)
  have hb0 := below_box w (.cells #[.bool t, .int .i64 n, .string s] 30)
  have hkb := Blk.new w #[.bool t, .int .i64 n, .string s] 30
  obtain ⟨W0, hW0⟩ : ∃ W0, w.alloc (.cells #[.bool t, .int .i64 n, .string s] 30) = W0 := ⟨_, rfl⟩
  rw [hW0] at h0 hb0 hkb
  have HW0 := hide hW0
  clear hW0
  obtain ⟨A, cap, hiv, hc1, hc2, _⟩ := h.form
  have hlen := h.good.len
  by_cases hf : maxItems ≤ l.items.length
  · rw [if_pos hf] at hset
    have HH := hide h0
    have HT := hide hset
    obtain ⟨c0, c1, c2, c3, c4, f0, f1, f2, f3, f4⟩ := h0.cells
    subst hiv
    unfold maxItems at hf hlen
    have hd : (2048 : Int) ≤ (l.items.length : Int) := by omega
    clear h h0 hset hf hk hn hh hkb
    go_enter Tryd.func27, Tryd.ntmps27
    go_upto_region 1 with fail
    rw [HW0.out]
    go_wp2_with fail
    go_ret
    exact ⟨mb, _, lent, by rw [HT.out]; rfl, by rw [HT.out]; exact HH.out, ⟨.of_below hb0, fun _ h => .inl h, fun _ h => .inl h⟩⟩
  · rw [if_neg hf] at hset
    have HH := hide h0
    have HKB := hide hkb
    have HT := hide hset
    have HO := hide (own_any h0)
    obtain ⟨c0, c1, c2, c3, c4, f0, f1, f2, f3, f4⟩ := h0.cells
    have HI := hide h
    subst hiv
    unfold maxItems at hf
    have hd : (l.items.length : Int) < 2048 := by omega
    have HB := hide hb0
    clear h h0 hset hf hb0 hkb
    go_enter Tryd.func27, Tryd.ntmps27
    go_upto_region 1 with fail
    rw [HW0.out]
    go_wp2_with fail
    refine (unhide HO).mono ?_
    rintro e w1 ⟨mb1, iv1, rfl, hl1, hs1⟩
    obtain ⟨A1, cap1, hiv1, hc11, hc12, _⟩ := hl1.form
    obtain ⟨d0, d1, d2, d3, d4, g0, g1, g2, g3, g4⟩ := hl1.cells
    have kb := hs1.blk HH.out HKB.out (by decide) (by decide)
    obtain ⟨b0, b1, b2, q0, q1, q2⟩ := kb.three
    obtain ⟨w2, hrun, hi2, hg2, hz2⟩ := (show Idx w1.drew mb1 (placeOf l.items) from hl1.map).put ⟨t, n, s.data.toList⟩ hk (l.items.length : Int)
    rw [kv_of] at hrun
    subst hiv1
    have H1 := hide hl1
    have S1 := hide hs1
    have KB := hide kb
    have I2 := hide hi2
    have G2 := hide hg2
    have Z2 := hide hz2
    clear hl1 hs1 kb hi2 hg2 hz2
    go_wp2_with fail
    go_still_tail 10, (by kernel_rfl)
    go_wp2_with fail
    have nmb : lb ≠ mb1 := H1.out.lb_ne_mb
    have nkm : w.heap.size ≠ mb1 := by
      rintro h
      obtain ⟨es, clock, hm⟩ := H1.out.map.isMap
      have := KB.out
      unfold Blk at this
      rw [h, hm] at this
      cases this
    have k2 : Blk w2 lb (lstCells lb (.slice A1 l.items.length cap1) mb1 l.next false) 50 := H1.out.blk.same (G2.out.block lb H1.out.blk.lt (fun e => nmb (Option.some.inj e)))
    have kb2 : Blk w2 w.heap.size #[.bool t, .int .i64 n, .string s] 30 := KB.out.same (G2.out.block _ KB.out.lt (fun e => nkm (Option.some.inj e)))
    obtain ⟨d0, d1, d2, d3, d4, g0, g1, g2, g3, g4⟩ := k2.five
    obtain ⟨b0, b1, b2, q0, q1, q2⟩ := kb2.three
    have r2 : w2.ownsRow B 69 4 (.slice A1 l.items.length cap1) l.items.length (encItems l.items) := ownsRow_same H1.out.row (fun k hk => G2.out.block k (ownsRow_lt H1.out.row hk).1 (fun e => by
      have hkm : k = mb1 := Option.some.inj e
      obtain ⟨_, _, cs, hcs⟩ := ownsRow_lt H1.out.row hk
      obtain ⟨es, clock, hm⟩ := H1.out.map.isMap
      unfold Blk at hcs
      rw [hkm, hm] at hcs
      cases hcs))
    have hBw : B ≤ w2.heap.size := by
      have h1 := Nat.le_trans H1.out.hlb (Nat.le_of_lt H1.out.blk.lt)
      have h2 := Z2.out
      have h3 : w1.drew.heap.size = w1.heap.size := rfl
      omega
    have far3 : Hid (∀ w3, ((w2.alloc (.cells #[.bool t, .int .i64 n, .string s, .int .i64 v] 69)).drew).grownBy w3 (Value.slice A1 l.items.length cap1).ownBlock →
        Blk w3 lb (lstCells lb (.slice A1 l.items.length cap1) mb1 l.next false) 50 ∧ Blk w3 w.heap.size #[.bool t, .int .i64 n, .string s] 30) := by
      intro w3 hg
      have a1 := (k2.alloc (.cells #[.bool t, .int .i64 n, .string s, .int .i64 v] 69)).drew
      have a2 := (kb2.alloc (.cells #[.bool t, .int .i64 n, .string s, .int .i64 v] 69)).drew
      refine ⟨a1.same (hg.block lb a1.lt (fun e => ?_)), a2.same (hg.block _ a2.lt (fun e => ?_))⟩
      · obtain ⟨_, _, cs, hcs⟩ := ownsRow_lt r2 e.symm
        exact absurd (k2.inj hcs) (by decide)
      · obtain ⟨_, _, cs, hcs⟩ := ownsRow_lt r2 e.symm
        exact absurd (kb2.inj hcs) (by decide)
    obtain ⟨i0, hi, hz0, hz1, hz2⟩ := info_parts itemInfo
    have A0 : ∀ u ∈ [Value.bool t, .int .i64 n, .string s, .int .i64 v], u.oneCell' = true := by
      intro u hu
      simp only [List.mem_cons, List.not_mem_nil, or_false] at hu
      rcases hu with rfl | rfl | rfl | rfl <;> rfl
    have A0' := hide A0
    have A1' : l.items.length + 1 ≤ maxLen := by unfold maxLen; omega
    have A2' : (l.items.length + 1) * 40 ≤ 140737488355328 := by omega
    have A3' : B ≤ ((w2.alloc (.cells #[.bool t, .int .i64 n, .string s, .int .i64 v] 69)).drew).heap.size := by simp; omega
    have R2 := hide r2
    have R3 := hide (r2.alloc (.cells #[.bool t, .int .i64 n, .string s, .int .i64 v] 69)).drew
    have K2 := hide k2
    have KB2 := hide kb2
    obtain ⟨-, e1, -⟩ := (k2.alloc (.cells #[.bool t, .int .i64 n, .string s, .int .i64 v] 69)).five
    obtain ⟨x0, x1, x2, -⟩ := (kb2.alloc (.cells #[.bool t, .int .i64 n, .string s, .int .i64 v] 69)).three
    clear k2 kb2 nmb nkm hrun r2 A0
    go_region_law (refine step_append_lies _ (by rfl) (.tmp 29) (.tmp 33) 48 (by rfl) B 69 i0 _ 4 40 Tryd.underlying48 hi hz0 hz1 hz2 rfl (by decide) (.slice A1 l.items.length cap1) l.items.length (encItems l.items) (by simp [Act.eval, Act.put]) R3.out ⟨w2.heap.size, 0, none⟩ 1 1 [.bool t, .int .i64 n, .string s, .int .i64 v] (by simp [Act.eval, Act.put]) rfl (World.news_of_block (cs := #[.bool t, .int .i64 n, .string s, .int .i64 v]) (t := 69) (fr := (0, 0)) (heap_alloc_new w2 _)) A0'.out (by decide) A1' A2' A3' (w2.heap.size + 1) (by simp) ?_; intro g cap2 w3 hown3 hgrow3 hat3 hlt3; obtain ⟨k3, kb3⟩ := far3.out w3 hgrow3; obtain ⟨d0, d1, d2, d3, d4, g0, g1, g2, g3, g4⟩ := k3.five; obtain ⟨b0, b1, b2, q0, q1, q2⟩ := kb3.three; have K3 := hide k3; have KB3 := hide kb3; have O3 := hide hown3; have G3 := hide hgrow3; have AT3 := hide hat3; clear k3 kb3 hown3 hgrow3 hat3)
    all_goals
      have N0 := HI.out.good.lo
      have N1 := HI.out.good.hi
      unfold most at N1
      have KK := hide hk
      go_wp2_with fail
      have k4 := K3.out.set 1 (.slice (some ⟨g, 0, none⟩) (l.items.length + 1) cap2)
      have kb4 := KB3.out.far ⟨lb, 1, none⟩ (.slice (some ⟨g, 0, none⟩) (l.items.length + 1) cap2) (fun e => absurd (e ▸ KB3.out : Blk w3 lb _ _) (fun h => absurd (h.inj K3.out) (by decide)))
      obtain ⟨w4, hw4⟩ : ∃ w4, w3.setCell ⟨lb, 1, none⟩ (.slice (some ⟨g, 0, none⟩) (l.items.length + 1) cap2) = w4 := ⟨_, rfl⟩
      rw [hw4] at k4 kb4 ⊢
      have HW4 := hide hw4
      obtain ⟨d0, d1, d2, d3, d4, g0, g1, g2, g3, g4⟩ := k4.five
      obtain ⟨b0, b1, b2, q0, q1, q2⟩ := kb4.three
      have K4 := hide k4
      clear k4 kb4 hw4
      have HNB := hide (fun W => nextBehind_any l.next t n s W N0 N1 KK.out.1 KK.out.2.1)
      go_region_law ((go_simp; go_at_call 33; refine (HNB.out _).mono ?_; rintro e w5 ⟨rfl, hb5⟩; have k5 := K4.out.drew.below hb5 K4.out.lt; obtain ⟨d0, d1, d2, d3, d4, g0, g1, g2, g3, g4⟩ := k5.five; have K5 := hide k5; clear k5))
      all_goals (go_wp2_with fail)
      all_goals go_ret
    all_goals exact add_close (k := ⟨t, n, s.data.toList⟩) HI.out KK.out hn hh HT.out HB.out H1.out S1.out I2.out G2.out Z2.out rfl O3.out G3.out AT3.out K3.out (HW4.out ▸ hb5)
end Go.Proofs.YtmfnonepcipplaaDoor
