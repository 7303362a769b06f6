/-
  The contract of the document's Norm.
-/
import Derived.Test.YtmfnonepcipplaaDoorLNorm
import Derived.Test.YtmfnonepcipplaaDoorRef6D
import Derived.Deep.RegionHeld3
import Derived.Deep.Cut
namespace Go.Proofs.YtmfnonepcipplaaDoor
open Go Go.RowKit Convs Lists

theorem numN_some {s : L} {n : Int} (h : numericT s = some n) : numN s = (n, true) := by unfold numN; rw [h]; rfl
theorem numN_none {s : L} (h : numericT s = none) : numN s = (0, false) := by unfold numN; rw [h]; rfl

theorem below_drewN {B : Nat} {a w : World} (h : Below B a w) (n : Nat) : Below B a (w.drewN n) := ⟨h.os, h.tape, h.output, h.size, h.block⟩
set_option maxRecDepth 100000 in
set_option maxHeartbeats 2000000 in
theorem RNorm_any (t : Bool) (n : Int) (s : ByteArray) (w : World) (hs : s.size ≤ 281474976710656) :
    Calls Tryd.prog 29 #[.agg #[.bool t, .int .i64 n, .string s]] w fun e w' => e = .returned (kv (normT ⟨t, n, s.data.toList⟩)) ∧ Below w.heap.size w w' := by
  have hb := below_box2 w (.cells #[.bool t, .int .i64 n, .string s] 30) (.cells #[.bool false, .int .i64 0, .string ⟨#[]⟩] 30)
  cases t
  · have HE : Hid (normT ⟨false, n, s.data.toList⟩ = ⟨false, n, []⟩) := by show _ = _; simp [normT]
    go_enter Tryd.func29, Tryd.ntmps29
    go_wp2_with fail
    exact bodyPost_ret (v := .agg #[.bool false, .int .i64 n, .string ⟨#[]⟩]) (by simp [results, Tryd.results29, go_sem]) rfl ⟨by rw [HE.out]; rfl, below_box2 w _ _⟩
  · have hN := fun W => refNumeric_any s W hs
    obtain ⟨W0, hW0⟩ : ∃ W0, (w.alloc (.cells #[.bool true, .int .i64 n, .string s] 30)).alloc (.cells #[.bool false, .int .i64 0, .string ⟨#[]⟩] 30) = W0 := ⟨_, rfl⟩
    have hk := boxes_at (Below.refl _ ((w.alloc (.cells #[.bool true, .int .i64 n, .string s] 30)).alloc (.cells #[.bool false, .int .i64 0, .string ⟨#[]⟩] 30)))
    rw [hW0] at hb hk
    have HW0 := hide hW0
    have HB := hide hb
    obtain ⟨k0, k1⟩ := hk
    obtain ⟨c0, c1, c2, f0, f1, f2⟩ := k0.three
    obtain ⟨d0, d1, d2, g0, g1, g2⟩ := k1.three
    have K0 := hide k0
    have K1 := hide k1
    clear hW0 hb
    cases hn : numericT s.data.toList with
    | none =>
      have HE : Hid (normT ⟨true, n, s.data.toList⟩ = ⟨true, 0, s.data.toList⟩) := by show _ = _; simp [normT, hn]
      rw [numN_none hn] at hN
      have HN := hide hN
      clear hn hN k0 k1
      go_enter Tryd.func29, Tryd.ntmps29
      go_upto_region 1 with fail
      rw [HW0.out]
      go_wp2_with (go_at_call 36; with_reducible refine (HN.out _).mono ?_; rintro e w1 ⟨rfl, rfl⟩)
      go_quiet (fail)
      go_wp2_with fail
      exact bodyPost_ret (v := .agg #[.bool true, .int .i64 0, .string s]) (by simp [results, Tryd.results29, go_sem, d0, d1, d2]) rfl ⟨by rw [HE.out]; rfl, below_three (below_drewN HB.out _) (by omega) _ _ _⟩
    | some m =>
      have hmb := numericT_bounds _ _ hn
      unfold least most at hmb
      rw [numN_some hn] at hN
      obtain ⟨ds, hds⟩ : ∃ x : ByteArray, (⟨(digitsT m).toArray⟩ : ByteArray) = x := ⟨_, rfl⟩
      have hdl : ds.data.toList = digitsT m := by rw [← hds]
      have HD : Hid (∀ u, Below W0.heap.size W0 u → _) := hide (fun u hu => from_ hu (refDigits_any m u hmb.1 hmb.2))
      rw [hds] at HD
      have HS : Hid (∀ u, Below W0.heap.size W0 u → (Below W0.heap.size W0 u ∧ u.cell? ⟨w.heap.size, 2, none⟩ = some (.string s))) := fun u hu => ⟨hu, (k0.below hu k0.lt).three.2.2.1⟩
      have HN := hide hN
      by_cases hd : digitsT m = s.data.toList
      · have HE : Hid (normT ⟨true, n, s.data.toList⟩ = ⟨false, m, []⟩) := by show _ = _; simp [normT, hn, hd]
        obtain rfl : ds = s := bytes_eq (hdl.trans hd)
        clear hn hN k0 k1 hmb hds hdl hd
        go_enter Tryd.func29, Tryd.ntmps29
        go_upto_region 1 with fail
        rw [HW0.out]
        go_wp2_with (go_at_call 36; with_reducible refine (HN.out _).mono ?_; rintro e w1 ⟨rfl, rfl⟩)
        go_region_held3 (fun u => Below W0.heap.size W0 u ∧ u.cell? ⟨w.heap.size, 2, none⟩ = some (.string ds)) (first | exact HS.out _ (by assumption) | exact HS.out _ (Below.refl _ _).drew)
          (first | (go_at_call 37; refine (HD.out _ (by first | assumption | exact (Below.refl _ _).drew)).mono ?_; rintro e w2 ⟨rfl, hb2⟩))
        all_goals
          go_split_ands
          obtain ⟨d0, d1, d2, g0, g1, g2⟩ := (K1.out.below hb2 K1.out.lt).three
          go_wp2_with fail
          exact bodyPost_ret (v := .agg #[.bool false, .int .i64 m, .string ⟨#[]⟩]) (by simp [results, Tryd.results29, go_sem, d0, d1, d2]) rfl ⟨by rw [HE.out]; rfl, below_three (HB.out.trans (hb2.mono HB.out.size)) (by omega) _ _ _⟩
      · have HE : Hid (normT ⟨true, n, s.data.toList⟩ = ⟨true, 0, s.data.toList⟩) := by show _ = _; simp [normT, hn, hd]
        have ne : (ds.toList == s.toList) = false := by
          rw [Lib.toList_data, Lib.toList_data, beq_eq_false_iff_ne, hdl]
          exact hd
        clear hn hN k0 k1 hmb hds hdl hd
        go_enter Tryd.func29, Tryd.ntmps29
        go_upto_region 1 with fail
        rw [HW0.out]
        go_wp2_with (go_at_call 36; with_reducible refine (HN.out _).mono ?_; rintro e w1 ⟨rfl, rfl⟩)
        go_region_held3 (fun u => Below W0.heap.size W0 u ∧ u.cell? ⟨w.heap.size, 2, none⟩ = some (.string s)) (first | exact HS.out _ (by assumption) | exact HS.out _ (Below.refl _ _).drew)
          (first | (go_at_call 37; refine (HD.out _ (by first | assumption | exact (Below.refl _ _).drew)).mono ?_; rintro e w2 ⟨rfl, hb2⟩))
        all_goals
          go_split_ands
          obtain ⟨d0, d1, d2, g0, g1, g2⟩ := (K1.out.below hb2 K1.out.lt).three
          obtain ⟨c0, c1, c2, f0, f1, f2⟩ := (K0.out.below hb2 K0.out.lt).three
          go_wp2_with fail
          exact bodyPost_ret (v := .agg #[.bool true, .int .i64 0, .string s]) (by simp [results, Tryd.results29, go_sem, d0, d1, d2]) rfl ⟨by rw [HE.out]; rfl, below_three (HB.out.trans (hb2.mono HB.out.size)) (by omega) _ _ _⟩
end Go.Proofs.YtmfnonepcipplaaDoor
