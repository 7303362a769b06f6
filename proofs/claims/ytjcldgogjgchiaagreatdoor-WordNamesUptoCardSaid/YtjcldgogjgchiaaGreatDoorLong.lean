/-
  Contracts of package cut's functions over strings alone: long texts, what closes code.
-/
import Derived.Test.YtjcldgogjgchiaaGreatDoorStrs
namespace Go.Proofs.YtjcldgogjgchiaaGreatDoor
open Go Go.RowKit Cutting

theorem closing_any (s : ByteArray) (w : World) :
    Calls Tryz.prog 31 #[.string s] w fun e w' => e = .returned (.int .i64 (closeN s.data.toList)) ∧ w = w' := by
  cases h : Lib.hasPrefix s.data.toList [63, 62]
  · have hc : closeN s.data.toList = 0 := by simp [closeN, h]
    have HC := Lib.hid hc
    have H := Lib.hid h
    clear hc h
    go_enter Tryz.func31, Tryz.ntmps31
    go_wp2_with fail
    refine (Tryz.strings_CutPrefix _ _ _).mono ?_
    rintro e w' ⟨rfl, rfl⟩
    rw [H.out]
    go_wp2_with fail
    go_ret
    exact ⟨ret_int (by rw [HC.out]; rfl), rfl⟩
  · obtain ⟨R, hR⟩ : ∃ R : ByteArray, R = ⟨(Lib.trimPrefix s.data.toList [63, 62]).toArray⟩ := ⟨_, rfl⟩
    have hRl : R.data.toList = s.data.toList.drop 2 := by rw [hR]; simp [Lib.trimPrefix, h]
    have H := Lib.hid h
    have HR := Lib.hid hR
    clear h hR
    cases h1 : Lib.hasPrefix (s.data.toList.drop 2) [10]
    · cases h2 : Lib.hasPrefix (s.data.toList.drop 2) [13, 10]
      · have HC : Hid (closeN s.data.toList = 2) := by show _ = _; simp [closeN, H.out, h1, h2]
        have H1 : Hid (Lib.hasPrefix R.data.toList [10] = false) := by show _ = _; rw [hRl]; exact h1
        have H2 : Hid (Lib.hasPrefix R.data.toList [13, 10] = false) := by show _ = _; rw [hRl]; exact h2
        clear hRl h1 h2
        go_enter Tryz.func31, Tryz.ntmps31
        go_wp2_with fail
        refine (Tryz.strings_CutPrefix _ _ _).mono ?_
        rintro e w' ⟨rfl, rfl⟩
        rw [H.out, ← HR.out]
        go_wp2_with fail
        refine (hasPrefix_b _ _ false _ H1.out).mono ?_
        rintro e w' ⟨rfl, rfl⟩
        go_wp2_with fail
        refine (hasPrefix_b _ _ false _ H2.out).mono ?_
        rintro e w' ⟨rfl, rfl⟩
        go_wp2_with fail
        go_ret
        exact ⟨ret_int (by rw [HC.out]; rfl), rfl⟩
      · have HC : Hid (closeN s.data.toList = 4) := by show _ = _; simp [closeN, H.out, h1, h2]
        have H1 : Hid (Lib.hasPrefix R.data.toList [10] = false) := by show _ = _; rw [hRl]; exact h1
        have H2 : Hid (Lib.hasPrefix R.data.toList [13, 10] = true) := by show _ = _; rw [hRl]; exact h2
        clear hRl h1 h2
        go_enter Tryz.func31, Tryz.ntmps31
        go_wp2_with fail
        refine (Tryz.strings_CutPrefix _ _ _).mono ?_
        rintro e w' ⟨rfl, rfl⟩
        rw [H.out, ← HR.out]
        go_wp2_with fail
        refine (hasPrefix_b _ _ false _ H1.out).mono ?_
        rintro e w' ⟨rfl, rfl⟩
        go_wp2_with fail
        refine (hasPrefix_b _ _ true _ H2.out).mono ?_
        rintro e w' ⟨rfl, rfl⟩
        go_wp2_with fail
        go_ret
        exact ⟨ret_int (by rw [HC.out]; rfl), rfl⟩
    · have HC : Hid (closeN s.data.toList = 3) := by show _ = _; simp [closeN, H.out, h1]
      have H1 : Hid (Lib.hasPrefix R.data.toList [10] = true) := by show _ = _; rw [hRl]; exact h1
      clear hRl h1
      go_enter Tryz.func31, Tryz.ntmps31
      go_wp2_with fail
      refine (Tryz.strings_CutPrefix _ _ _).mono ?_
      rintro e w' ⟨rfl, rfl⟩
      rw [H.out, ← HR.out]
      go_wp2_with fail
      refine (hasPrefix_b _ _ true _ H1.out).mono ?_
      rintro e w' ⟨rfl, rfl⟩
      go_wp2_with fail
      go_ret
      exact ⟨ret_int (by rw [HC.out]; rfl), rfl⟩

set_option maxHeartbeats 1000000 in
theorem longHead_quoted (s : ByteArray) (w : World) (h4 : 4 ≤ s.size) (hs : s.size ≤ 4294967280) (hq : Lib.hasPrefix (s.data.toList.drop 3) [39] = true) :
    Calls Tryz.prog 64 #[.string s] w fun e w' => e = .returned (.tuple #[.string ⟨(headName s.data.toList).toArray⟩, .int .i64 (headAt s.data.toList)]) ∧ w = w' := by
  have HQ := Lib.hid hq
  obtain ⟨R, hR⟩ : ∃ R : ByteArray, R = (s.extract 3 s.size).extract 1 (s.size - 3) := ⟨_, rfl⟩
  have hRs : R.size = s.size - 4 := by rw [hR]; simp <;> omega
  have hRl : R.data.toList = headRest s.data.toList := by
    rw [hR, Lib.extract_data, tail_list, headRest, quoteN, if_pos hq]
    exact List.take_of_length_le (by simp; omega)
  have hRb : R.size ≤ 4294967280 := by omega
  have hnl : wordN R.data.toList ≤ R.size := by rw [Lib.size_eq]; exact wordN_le _
  obtain ⟨n, hn⟩ : ∃ n, n = wordN R.data.toList := ⟨_, rfl⟩
  rw [← hn] at hnl
  have hfin : headFin s.data.toList = [39, 10] := by simp [headFin, HQ.out]
  have hqn : quoteN s.data.toList = 1 := by simp [quoteN, HQ.out]
  have HR := Lib.hid hR
  have HN := Lib.hid hn
  have HL := Lib.hid hRl
  have HS := Lib.hid hRs
  have HF := Lib.hid hfin
  have HK := Lib.hid hqn
  clear hq hR hn hRl hRs hfin hqn
  have hok : Hid (headOk s.data.toList = (decide (0 < n) && Lib.hasPrefix (R.data.toList.drop n) [39, 10])) := by
    show _ = _
    rw [headOk, ← HL.out, ← HN.out, HF.out]
  rcases Nat.eq_zero_or_pos n with h0 | h0
  · have he : (R.extract 0 n).toList.isEmpty = true := by rw [Lib.toList_data, Lib.extract_data, h0]; rfl
    have hko : Hid (headOk s.data.toList = false) := by show _ = _; rw [hok.out, h0]; rfl
    have H0 := Lib.hid h0
    clear h0
    go_enter Tryz.func64, Tryz.ntmps64
    go_wp2_with (go_at_call 28; refine (hasPrefix_b _ _ true _ (by rw [tail_list]; exact HQ.out)).mono ?_; rintro e w' ⟨rfl, rfl⟩)
    rw [← HR.out]
    refine (wordLen_any R _ hRb).mono ?_
    rintro e w' ⟨rfl, rfl⟩
    rw [← HN.out]
    go_wp2_with fail
    go_ret2
    exact ⟨by rw [headName, headAt, hko.out]; rfl, rfl⟩
  · have he : (R.extract 0 n).toList.isEmpty = false := by
      rw [Lib.toList_data, Lib.extract_data]
      cases e : R.data.toList with
      | nil => have h1 := Lib.size_eq R; rw [e] at h1; simp only [List.length_nil] at h1; omega
      | cons b r => obtain ⟨k, rfl⟩ : ∃ k, n = k + 1 := ⟨n - 1, by omega⟩; rfl
    have hen : (R.extract 0 n).toList ≠ [] := fun h => by rw [h] at he; cases he
    have hp : Hid (Lib.hasPrefix (R.data.toList.drop n) [39, 10] = Lib.hasPrefix (R.extract n R.size).data.toList [39, 10]) := by show _ = _; rw [tail_list]
    have hnm : Hid ((⟨((headRest s.data.toList).take n).toArray⟩ : ByteArray) = R.extract 0 n) := by
      show _ = _
      rw [Lib.extract_eq, ← HL.out, List.drop_zero, Nat.sub_zero]
    cases hb : Lib.hasPrefix (R.data.toList.drop n) [39, 10]
    · have hko : Hid (headOk s.data.toList = false) := by show _ = _; rw [hok.out, hb, Bool.and_false]
      have HB : Hid (Lib.hasPrefix (R.extract n R.size).data.toList [39, 10] = false) := hp.out.symm.trans hb
      clear hb
      go_enter Tryz.func64, Tryz.ntmps64
      go_wp2_with (go_at_call 28; refine (hasPrefix_b _ _ true _ (by rw [tail_list]; exact HQ.out)).mono ?_; rintro e w' ⟨rfl, rfl⟩)
      rw [← HR.out]
      refine (wordLen_any R _ hRb).mono ?_
      rintro e w' ⟨rfl, rfl⟩
      rw [← HN.out]
      go_wp2_with fail
      refine (hasPrefix_b _ _ false _ (by simpa using HB.out)).mono ?_
      rintro e w' ⟨rfl, rfl⟩
      go_wp2_with fail
      go_ret2
      exact ⟨by rw [headName, headAt, hko.out]; rfl, rfl⟩
    · have hko : Hid (headOk s.data.toList = true) := by show _ = _; rw [hok.out, hb]; simp; omega
      have HB : Hid (Lib.hasPrefix (R.extract n R.size).data.toList [39, 10] = true) := hp.out.symm.trans hb
      clear hb
      go_enter Tryz.func64, Tryz.ntmps64
      go_wp2_with (go_at_call 28; refine (hasPrefix_b _ _ true _ (by rw [tail_list]; exact HQ.out)).mono ?_; rintro e w' ⟨rfl, rfl⟩)
      rw [← HR.out]
      refine (wordLen_any R _ hRb).mono ?_
      rintro e w' ⟨rfl, rfl⟩
      rw [← HN.out]
      go_wp2_with fail
      refine (hasPrefix_b _ _ true _ (by simpa using HB.out)).mono ?_
      rintro e w' ⟨rfl, rfl⟩
      go_wp2_with fail
      go_ret2
      refine ⟨?_, rfl⟩
      rw [headName, headAt, hko.out, HF.out, HK.out, ← HL.out, ← HN.out, HL.out]
      simp only [if_true]
      rw [hnm.out]
      simp

set_option maxHeartbeats 1000000 in
theorem longHead_bare (s : ByteArray) (w : World) (h4 : 3 ≤ s.size) (hs : s.size ≤ 4294967280) (hq : Lib.hasPrefix (s.data.toList.drop 3) [39] = false) :
    Calls Tryz.prog 64 #[.string s] w fun e w' => e = .returned (.tuple #[.string ⟨(headName s.data.toList).toArray⟩, .int .i64 (headAt s.data.toList)]) ∧ w = w' := by
  have HQ := Lib.hid hq
  obtain ⟨R, hR⟩ : ∃ R : ByteArray, R = (s.extract 3 s.size).extract 0 (s.size - 3) := ⟨_, rfl⟩
  have hRs : R.size = s.size - 3 := by rw [hR]; simp <;> omega
  have hRl : R.data.toList = headRest s.data.toList := by
    rw [hR, Lib.extract_data, tail_list, headRest, quoteN, if_neg (by rw [hq]; simp)]
    exact List.take_of_length_le (by simp)
  have hRb : R.size ≤ 4294967280 := by omega
  have hnl : wordN R.data.toList ≤ R.size := by rw [Lib.size_eq]; exact wordN_le _
  obtain ⟨n, hn⟩ : ∃ n, n = wordN R.data.toList := ⟨_, rfl⟩
  rw [← hn] at hnl
  have hfin : headFin s.data.toList = [10] := by simp [headFin, HQ.out]
  have hqn : quoteN s.data.toList = 0 := by simp [quoteN, HQ.out]
  have HR := Lib.hid hR
  have HN := Lib.hid hn
  have HL := Lib.hid hRl
  have HS := Lib.hid hRs
  have HF := Lib.hid hfin
  have HK := Lib.hid hqn
  clear hq hR hn hRl hRs hfin hqn
  have hok : Hid (headOk s.data.toList = (decide (0 < n) && Lib.hasPrefix (R.data.toList.drop n) [10])) := by
    show _ = _
    rw [headOk, ← HL.out, ← HN.out, HF.out]
  rcases Nat.eq_zero_or_pos n with h0 | h0
  · have he : (R.extract 0 n).toList.isEmpty = true := by rw [Lib.toList_data, Lib.extract_data, h0]; rfl
    have hko : Hid (headOk s.data.toList = false) := by show _ = _; rw [hok.out, h0]; rfl
    have H0 := Lib.hid h0
    clear h0
    go_enter Tryz.func64, Tryz.ntmps64
    go_wp2_with (go_at_call 28; refine (hasPrefix_b _ _ false _ (by rw [tail_list]; exact HQ.out)).mono ?_; rintro e w' ⟨rfl, rfl⟩)
    rw [← HR.out]
    refine (wordLen_any R _ hRb).mono ?_
    rintro e w' ⟨rfl, rfl⟩
    rw [← HN.out]
    go_wp2_with fail
    go_ret2
    exact ⟨by rw [headName, headAt, hko.out]; rfl, rfl⟩
  · have he : (R.extract 0 n).toList.isEmpty = false := by
      rw [Lib.toList_data, Lib.extract_data]
      cases e : R.data.toList with
      | nil => have h1 := Lib.size_eq R; rw [e] at h1; simp only [List.length_nil] at h1; omega
      | cons b r => obtain ⟨k, rfl⟩ : ∃ k, n = k + 1 := ⟨n - 1, by omega⟩; rfl
    have hen : (R.extract 0 n).toList ≠ [] := fun h => by rw [h] at he; cases he
    have hp : Hid (Lib.hasPrefix (R.data.toList.drop n) [10] = Lib.hasPrefix (R.extract n R.size).data.toList [10]) := by show _ = _; rw [tail_list]
    have hnm : Hid ((⟨((headRest s.data.toList).take n).toArray⟩ : ByteArray) = R.extract 0 n) := by
      show _ = _
      rw [Lib.extract_eq, ← HL.out, List.drop_zero, Nat.sub_zero]
    cases hb : Lib.hasPrefix (R.data.toList.drop n) [10]
    · have hko : Hid (headOk s.data.toList = false) := by show _ = _; rw [hok.out, hb, Bool.and_false]
      have HB : Hid (Lib.hasPrefix (R.extract n R.size).data.toList [10] = false) := hp.out.symm.trans hb
      clear hb
      go_enter Tryz.func64, Tryz.ntmps64
      go_wp2_with (go_at_call 28; refine (hasPrefix_b _ _ false _ (by rw [tail_list]; exact HQ.out)).mono ?_; rintro e w' ⟨rfl, rfl⟩)
      rw [← HR.out]
      refine (wordLen_any R _ hRb).mono ?_
      rintro e w' ⟨rfl, rfl⟩
      rw [← HN.out]
      go_wp2_with fail
      refine (hasPrefix_b _ _ false _ (by simpa using HB.out)).mono ?_
      rintro e w' ⟨rfl, rfl⟩
      go_wp2_with fail
      go_ret2
      exact ⟨by rw [headName, headAt, hko.out]; rfl, rfl⟩
    · have hko : Hid (headOk s.data.toList = true) := by show _ = _; rw [hok.out, hb]; simp; omega
      have HB : Hid (Lib.hasPrefix (R.extract n R.size).data.toList [10] = true) := hp.out.symm.trans hb
      clear hb
      go_enter Tryz.func64, Tryz.ntmps64
      go_wp2_with (go_at_call 28; refine (hasPrefix_b _ _ false _ (by rw [tail_list]; exact HQ.out)).mono ?_; rintro e w' ⟨rfl, rfl⟩)
      rw [← HR.out]
      refine (wordLen_any R _ hRb).mono ?_
      rintro e w' ⟨rfl, rfl⟩
      rw [← HN.out]
      go_wp2_with fail
      refine (hasPrefix_b _ _ true _ (by simpa using HB.out)).mono ?_
      rintro e w' ⟨rfl, rfl⟩
      go_wp2_with fail
      go_ret2
      refine ⟨?_, rfl⟩
      rw [headName, headAt, hko.out, HF.out, HK.out, ← HL.out, ← HN.out, HL.out]
      simp only [if_true]
      rw [hnm.out]
      simp
end Go.Proofs.YtjcldgogjgchiaaGreatDoor
