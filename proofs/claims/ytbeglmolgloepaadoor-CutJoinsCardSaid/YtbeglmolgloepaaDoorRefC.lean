/-
  Contracts of the document's answer for layer 1: long texts.
-/
import Derived.Test.YtbeglmolgloepaaDoorRefA
import Derived.Test.YtbeglmolgloepaaDoorLong2
namespace Go.Proofs.YtbeglmolgloepaaDoor
open Go Go.RowKit Cutting

theorem prefix_one (r : List UInt8) (b : UInt8) (p : List UInt8) : Lib.hasPrefix r (b :: p) = (Lib.hasPrefix r [b] && Lib.hasPrefix (r.drop 1) p) := by
  cases r with
  | nil => simp [Lib.hasPrefix]
  | cons c r => simp [Lib.hasPrefix, List.isPrefixOf]

theorem At_n (s t : ByteArray) (z : Int) (n : Nat) (b : Bool) (w : World) (hz : z = n) (hn : n ≤ 262144) (hs : s.size ≤ 65536) (ht : t.size ≤ 65536) (hne : 0 < t.size ∨ n ≤ s.size) (hb : Lib.hasPrefix (s.data.toList.drop n) t.data.toList = b) :
    Calls Tryd.prog 20 #[.string s, .int .i64 z, .string t] w fun e w' => e = .returned (.bool b) ∧ w = w' := by
  subst hz
  exact At_b s t n b w (by omega) (by omega) (by omega) (by omega) (by omega) (by rw [Int.toNat_natCast]; exact hb)
theorem Word_n (s : ByteArray) (z : Int) (n m : Nat) (w : World) (hz : z = n) (hn : n ≤ 262144) (hs : s.size ≤ 65536) (hm : wordN (s.data.toList.drop n) = m) :
    Calls Tryd.prog 44 #[.string s, .int .i64 z] w fun e w' => e = .returned (.int .i64 m) ∧ w = w' := by
  subst hz
  refine (Word_any s n w (by omega) (by omega) (by omega)).mono ?_
  rintro e w' ⟨rfl, rfl⟩
  exact ⟨by rw [Int.toNat_natCast, hm], rfl⟩

/-- What the answer's Long tells, by what stands at the place. -/
def longRes (i : Nat) (r : List UInt8) : Value :=
  if headOk r then .tuple #[.int .i64 ((i + 3 + quoteN r : Nat) : Int), .int .i64 (wordN (headRest r)), .int .i64 ((i + headAt r : Nat) : Int)] else .tuple #[.int .i64 0, .int .i64 0, .int .i64 0]

set_option maxHeartbeats 2000000 in
theorem RLong_any (s : ByteArray) (i : Nat) (w : World) (hs : s.size ≤ 65536) (hi : i ≤ s.size) (h3 : Lib.hasPrefix (s.data.toList.drop i) [60, 60, 60] = true) :
    Calls Tryd.prog 31 #[.string s, .int .i64 i] w fun e w' => e = .returned (longRes i (s.data.toList.drop i)) ∧ w = w' := by
  have hi3 : i + 3 ≤ s.size := by
    have h1 := hasPrefix_length h3
    rw [List.length_drop, ← Lib.size_eq] at h1
    simp only [List.length_cons, List.length_nil] at h1
    omega
  obtain ⟨r, hr⟩ : ∃ r, r = s.data.toList.drop i := ⟨_, rfl⟩
  have hrl : r.length = s.size - i := by rw [hr, List.length_drop, ← Lib.size_eq]
  have hr3 : r.drop 3 = s.data.toList.drop (i + 3) := by rw [hr, List.drop_drop]
  rw [← hr]
  have H3 := Lib.hid h3

  clear h3
  obtain ⟨q, hq⟩ : ∃ q : Nat, q = quoteN r := ⟨_, rfl⟩
  have hrest : headRest r = s.data.toList.drop (i + 3 + q) := by rw [headRest, ← hq, hr3, List.drop_drop]
  obtain ⟨n, hn⟩ : ∃ n, n = wordN (headRest r) := ⟨_, rfl⟩
  have hrest2 : (headRest r).drop n = s.data.toList.drop (i + 3 + q + n) := by rw [hrest, List.drop_drop]
  have hok1 : Hid (headOk r = (decide (0 < n) && Lib.hasPrefix (s.data.toList.drop (i + 3 + q + n)) (headFin r))) := by show _ = _; rw [headOk, ← hn, hrest2]
  have hat : Hid (headOk r = true → headAt r = 3 + q + n + (headFin r).length) := by intro h; rw [headAt, if_pos h, ← hq, ← hn]
  have hnb : n ≤ s.size := by
    have := wordN_le (headRest r)
    rw [← hn, hrest, List.length_drop, ← Lib.size_eq] at this
    omega
  have HNW : Hid (wordN (headRest r) = n) := hn.symm
  have HN : Hid (wordN (s.data.toList.drop (i + 3 + q)) = n) := by show _ = _; rw [hn, hrest]
  have HR3 := Lib.hid hr3
  have HRQ := Lib.hid hq
  clear hr hrl hr3 hrest hrest2 hn hq
  cases hqb : Lib.hasPrefix (r.drop 3) [39]
  · have hq0 : q = 0 := by rw [HRQ.out, quoteN, hqb]; rfl
    subst hq0
    have hfin : Hid (headFin r = [10]) := by show _ = _; rw [headFin, hqb]; rfl
    have HQ : Hid (Lib.hasPrefix (s.data.toList.drop (i + 3)) [39] = false) := by show _ = _; rw [← HR3.out]; exact hqb
    clear hqb
    rcases Nat.eq_zero_or_pos n with h0 | h0
    · have hko : Hid (headOk r = false) := by show _ = _; rw [hok1.out, h0]; rfl
      have hn0 : ((n : Int) == 0) = true := by rw [beq_iff_eq]; omega
      clear h0
      go_enter Tryd.func31, Tryd.ntmps31
      go_wp2_with fail
      refine (At_n _ _ _ (i) true _ (by omega) (by omega) hs (by show 3 ≤ 65536; omega) (.inl (by show 0 < 3; omega)) (by exact H3.out)).mono ?_
      rintro e w' ⟨rfl, rfl⟩
      go_wp2_with fail
      refine (At_n _ _ _ (i + 3) false _ (by omega) (by omega) hs (by show 1 ≤ 65536; omega) (.inl (by show 0 < 1; omega)) (by exact HQ.out)).mono ?_
      rintro e w' ⟨rfl, rfl⟩
      go_wp2_with fail
      refine (Word_n _ _ (i + 3 + 0) n _ (by omega) (by omega) hs (by exact HN.out)).mono ?_
      rintro e w' ⟨rfl, rfl⟩
      go_wp2_with fail
      go_ret3
      exact ⟨by unfold longRes; rw [hko.out]; rfl, rfl⟩
    · have hne : ((n : Int) == 0) = false := by rw [beq_eq_false_iff_ne]; omega
      cases h2 : Lib.hasPrefix (s.data.toList.drop (i + 3 + 0 + n)) [10]
      · have hko : Hid (headOk r = false) := by show _ = _; rw [hok1.out, hfin.out, h2, Bool.and_false]
        have H2 := Lib.hid h2
        clear h2
        go_enter Tryd.func31, Tryd.ntmps31
        go_wp2_with fail
        refine (At_n _ _ _ (i) true _ (by omega) (by omega) hs (by show 3 ≤ 65536; omega) (.inl (by show 0 < 3; omega)) (by exact H3.out)).mono ?_
        rintro e w' ⟨rfl, rfl⟩
        go_wp2_with fail
        refine (At_n _ _ _ (i + 3) false _ (by omega) (by omega) hs (by show 1 ≤ 65536; omega) (.inl (by show 0 < 1; omega)) (by exact HQ.out)).mono ?_
        rintro e w' ⟨rfl, rfl⟩
        go_wp2_with fail
        refine (Word_n _ _ (i + 3 + 0) n _ (by omega) (by omega) hs (by exact HN.out)).mono ?_
        rintro e w' ⟨rfl, rfl⟩
        go_wp2_with fail
        refine (At_n _ _ _ (i + 3 + 0 + n) false _ (by omega) (by omega) hs (by show 1 ≤ 65536; omega) (.inl (by show 0 < 1; omega)) (by exact H2.out)).mono ?_
        rintro e w' ⟨rfl, rfl⟩
        go_wp2_with fail
        go_ret3
        exact ⟨by unfold longRes; rw [hko.out]; rfl, rfl⟩
      · have hko : Hid (headOk r = true) := by show _ = _; rw [hok1.out, hfin.out, h2, decide_eq_true h0]; rfl
        have H2 := Lib.hid h2
        clear h2
        go_enter Tryd.func31, Tryd.ntmps31
        go_wp2_with fail
        refine (At_n _ _ _ (i) true _ (by omega) (by omega) hs (by show 3 ≤ 65536; omega) (.inl (by show 0 < 3; omega)) (by exact H3.out)).mono ?_
        rintro e w' ⟨rfl, rfl⟩
        go_wp2_with fail
        refine (At_n _ _ _ (i + 3) false _ (by omega) (by omega) hs (by show 1 ≤ 65536; omega) (.inl (by show 0 < 1; omega)) (by exact HQ.out)).mono ?_
        rintro e w' ⟨rfl, rfl⟩
        go_wp2_with fail
        refine (Word_n _ _ (i + 3 + 0) n _ (by omega) (by omega) hs (by exact HN.out)).mono ?_
        rintro e w' ⟨rfl, rfl⟩
        go_wp2_with fail
        refine (At_n _ _ _ (i + 3 + 0 + n) true _ (by omega) (by omega) hs (by show 1 ≤ 65536; omega) (.inl (by show 0 < 1; omega)) (by exact H2.out)).mono ?_
        rintro e w' ⟨rfl, rfl⟩
        go_wp2_with fail
        go_ret3
        refine ⟨?_, rfl⟩
        have h9 := hat.out hko.out
        rw [hfin.out] at h9
        simp only [List.length_cons, List.length_nil] at h9
        unfold longRes
        rw [hko.out, if_pos rfl, h9, ← HRQ.out, HNW.out]
        simp
        omega
  · have hq0 : q = 1 := by rw [HRQ.out, quoteN, hqb]; rfl
    subst hq0
    have hfin : Hid (headFin r = [39, 10]) := by show _ = _; rw [headFin, hqb]; rfl
    have HQ : Hid (Lib.hasPrefix (s.data.toList.drop (i + 3)) [39] = true) := by show _ = _; rw [← HR3.out]; exact hqb
    clear hqb
    rcases Nat.eq_zero_or_pos n with h0 | h0
    · have hko : Hid (headOk r = false) := by show _ = _; rw [hok1.out, h0]; rfl
      have hn0 : ((n : Int) == 0) = true := by rw [beq_iff_eq]; omega
      clear h0
      go_enter Tryd.func31, Tryd.ntmps31
      go_wp2_with fail
      refine (At_n _ _ _ (i) true _ (by omega) (by omega) hs (by show 3 ≤ 65536; omega) (.inl (by show 0 < 3; omega)) (by exact H3.out)).mono ?_
      rintro e w' ⟨rfl, rfl⟩
      go_wp2_with fail
      refine (At_n _ _ _ (i + 3) true _ (by omega) (by omega) hs (by show 1 ≤ 65536; omega) (.inl (by show 0 < 1; omega)) (by exact HQ.out)).mono ?_
      rintro e w' ⟨rfl, rfl⟩
      go_wp2_with fail
      refine (Word_n _ _ (i + 3 + 1) n _ (by omega) (by omega) hs (by exact HN.out)).mono ?_
      rintro e w' ⟨rfl, rfl⟩
      go_wp2_with fail
      go_ret3
      exact ⟨by unfold longRes; rw [hko.out]; rfl, rfl⟩
    · have hne : ((n : Int) == 0) = false := by rw [beq_eq_false_iff_ne]; omega
      cases h1 : Lib.hasPrefix (s.data.toList.drop (i + 3 + 1 + n)) [39]
      · have hko : Hid (headOk r = false) := by show _ = _; rw [hok1.out, hfin.out, prefix_one, h1, Bool.false_and, Bool.and_false]
        have H1 := Lib.hid h1
        clear h1
        go_enter Tryd.func31, Tryd.ntmps31
        go_wp2_with fail
        refine (At_n _ _ _ (i) true _ (by omega) (by omega) hs (by show 3 ≤ 65536; omega) (.inl (by show 0 < 3; omega)) (by exact H3.out)).mono ?_
        rintro e w' ⟨rfl, rfl⟩
        go_wp2_with fail
        refine (At_n _ _ _ (i + 3) true _ (by omega) (by omega) hs (by show 1 ≤ 65536; omega) (.inl (by show 0 < 1; omega)) (by exact HQ.out)).mono ?_
        rintro e w' ⟨rfl, rfl⟩
        go_wp2_with fail
        refine (Word_n _ _ (i + 3 + 1) n _ (by omega) (by omega) hs (by exact HN.out)).mono ?_
        rintro e w' ⟨rfl, rfl⟩
        go_wp2_with fail
        refine (At_n _ _ _ (i + 3 + 1 + n) false _ (by omega) (by omega) hs (by show 1 ≤ 65536; omega) (.inl (by show 0 < 1; omega)) (by exact H1.out)).mono ?_
        rintro e w' ⟨rfl, rfl⟩
        go_wp2_with fail
        go_ret3
        exact ⟨by unfold longRes; rw [hko.out]; rfl, rfl⟩
      · have H1 := Lib.hid h1
        cases h2 : Lib.hasPrefix (s.data.toList.drop (i + 3 + 1 + n + 1)) [10]
        · have hko : Hid (headOk r = false) := by show _ = _; rw [hok1.out, hfin.out, prefix_one, List.drop_drop, h2, Bool.and_false, Bool.and_false]
          have H2 := Lib.hid h2
          clear h1 h2
          go_enter Tryd.func31, Tryd.ntmps31
          go_wp2_with fail
          refine (At_n _ _ _ (i) true _ (by omega) (by omega) hs (by show 3 ≤ 65536; omega) (.inl (by show 0 < 3; omega)) (by exact H3.out)).mono ?_
          rintro e w' ⟨rfl, rfl⟩
          go_wp2_with fail
          refine (At_n _ _ _ (i + 3) true _ (by omega) (by omega) hs (by show 1 ≤ 65536; omega) (.inl (by show 0 < 1; omega)) (by exact HQ.out)).mono ?_
          rintro e w' ⟨rfl, rfl⟩
          go_wp2_with fail
          refine (Word_n _ _ (i + 3 + 1) n _ (by omega) (by omega) hs (by exact HN.out)).mono ?_
          rintro e w' ⟨rfl, rfl⟩
          go_wp2_with fail
          refine (At_n _ _ _ (i + 3 + 1 + n) true _ (by omega) (by omega) hs (by show 1 ≤ 65536; omega) (.inl (by show 0 < 1; omega)) (by exact H1.out)).mono ?_
          rintro e w' ⟨rfl, rfl⟩
          go_wp2_with fail
          refine (At_n _ _ _ (i + 3 + 1 + n + 1) false _ (by omega) (by omega) hs (by show 1 ≤ 65536; omega) (.inl (by show 0 < 1; omega)) (by exact H2.out)).mono ?_
          rintro e w' ⟨rfl, rfl⟩
          go_wp2_with fail
          go_ret3
          exact ⟨by unfold longRes; rw [hko.out]; rfl, rfl⟩
        · have hko : Hid (headOk r = true) := by show _ = _; rw [hok1.out, hfin.out, prefix_one, List.drop_drop, h1, h2, decide_eq_true h0]; rfl
          have H2 := Lib.hid h2
          clear h1 h2
          go_enter Tryd.func31, Tryd.ntmps31
          go_wp2_with fail
          refine (At_n _ _ _ (i) true _ (by omega) (by omega) hs (by show 3 ≤ 65536; omega) (.inl (by show 0 < 3; omega)) (by exact H3.out)).mono ?_
          rintro e w' ⟨rfl, rfl⟩
          go_wp2_with fail
          refine (At_n _ _ _ (i + 3) true _ (by omega) (by omega) hs (by show 1 ≤ 65536; omega) (.inl (by show 0 < 1; omega)) (by exact HQ.out)).mono ?_
          rintro e w' ⟨rfl, rfl⟩
          go_wp2_with fail
          refine (Word_n _ _ (i + 3 + 1) n _ (by omega) (by omega) hs (by exact HN.out)).mono ?_
          rintro e w' ⟨rfl, rfl⟩
          go_wp2_with fail
          refine (At_n _ _ _ (i + 3 + 1 + n) true _ (by omega) (by omega) hs (by show 1 ≤ 65536; omega) (.inl (by show 0 < 1; omega)) (by exact H1.out)).mono ?_
          rintro e w' ⟨rfl, rfl⟩
          go_wp2_with fail
          refine (At_n _ _ _ (i + 3 + 1 + n + 1) true _ (by omega) (by omega) hs (by show 1 ≤ 65536; omega) (.inl (by show 0 < 1; omega)) (by exact H2.out)).mono ?_
          rintro e w' ⟨rfl, rfl⟩
          go_wp2_with fail
          go_ret3
          refine ⟨?_, rfl⟩
          have h9 := hat.out hko.out
          rw [hfin.out] at h9
          simp only [List.length_cons, List.length_nil] at h9
          unfold longRes
          rw [hko.out, if_pos rfl, h9, ← HRQ.out, HNW.out]
          simp
          omega
end Go.Proofs.YtbeglmolgloepaaDoor
