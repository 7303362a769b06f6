/-
  Contracts of package word's longHead, linesLen and longText.
-/
import Derived.Test.YtjcldgogjgchiaaGreatDoorWideText
namespace Go.Proofs.YtjcldgogjgchiaaGreatDoor
open Go Go.RowKit Cutting Wording

theorem long_info : (Tryz.prog.info? 97).map (fun i => (i.zero, i.size, i.bytes)) = some (some (.agg #[.string ⟨#[]⟩, .bool false, .int .i64 0]), 3, 32) := by kernel_rfl
def headV (s : L) : Value := if isLong s then .agg #[.string ⟨(headName s).toArray⟩, .bool (quoteN s == 1), .int .i64 (headAt s)] else .agg #[.string ⟨#[]⟩, .bool false, .int .i64 0]
abbrev hdZ : Array Value := #[.string ⟨#[]⟩, .bool false, .int .i64 0]
theorem headV_no (s : L) (h : isLong s = false) : headV s = .agg #[.string ⟨#[]⟩, .bool false, .int .i64 0] := by rw [headV, h]; rfl
theorem below_three {C B : Nat} {w w' : World} (h : Below C w w') (hB : C ≤ B) (a0 a1 a2 : Value) : Below C w (((w'.setCell ⟨B, 0, none⟩ a0).setCell ⟨B, 1, none⟩ a1).setCell ⟨B, 2, none⟩ a2) :=
  ((h.setCell hB _).setCell hB _).setCell hB _

set_option maxHeartbeats 2000000 in
set_option maxRecDepth 100000 in
theorem wlongHead_quoted (s : ByteArray) (w : World) (h3 : Lib.hasPrefix s.data.toList [60, 60, 60] = true) (hs : s.size ≤ 4294967280) (hq : Lib.hasPrefix (s.data.toList.drop 3) [39] = true) :
    Calls Tryz.prog 77 #[.string s] w fun e w' => e = .returned (headV s.data.toList) ∧ Below w.heap.size w w' := by
  obtain ⟨U, hU⟩ := bytes_of (Lib.trimPrefix s.data.toList [60, 60, 60])
  have hUl : U.data.toList = s.data.toList.drop 3 := by rw [hU, Lib.trimPrefix, if_pos h3]; rfl
  have HU : Hid ((⟨(Lib.trimPrefix s.data.toList [60, 60, 60]).toArray⟩ : ByteArray) = U) := by show _ = _; rw [← hU, Lib.mk_data]
  have hUs : U.size ≤ s.size := by rw [Lib.size_eq, hUl, List.length_drop, ← Lib.size_eq]; omega
  have HQ : Hid (Lib.hasPrefix U.data.toList [39] = true) := by show _ = _; rw [hUl]; exact hq
  have hU1 : 1 ≤ U.size := by
    have := hasPrefix_length HQ.out
    rw [Lib.size_eq]; exact this
  obtain ⟨R, hR⟩ : ∃ R : ByteArray, R = U.extract 1 U.size := ⟨_, rfl⟩
  have hRl : R.data.toList = headRest s.data.toList := by
    rw [hR, tail_list, hUl, headRest, quoteN, if_pos hq]
  have hRs : R.size = U.size - 1 := by rw [hR]; simp
  have hqn : quoteN s.data.toList = 1 := by rw [quoteN, hq]; rfl
  have hfin : headFin s.data.toList = [39, 10] := by rw [headFin, hq]; rfl
  obtain ⟨n, hn⟩ : ∃ n, n = wordN R.data.toList := ⟨_, rfl⟩
  have hnl : n ≤ R.size := by rw [hn, Lib.size_eq]; exact wordN_le _
  have hok : headOk s.data.toList = (decide (0 < n) && Lib.hasPrefix (R.data.toList.drop n) [39, 10]) := by rw [headOk, ← hRl, ← hn, hfin]
  have hB := Blk.new w hdZ 97
  have hb0 : Below w.heap.size w (w.alloc (.cells hdZ 97)) := (Below.refl _ _).alloc (Nat.le_refl _) _
  obtain ⟨W0, hW0⟩ : ∃ W0, W0 = w.alloc (.cells hdZ 97) := ⟨_, rfl⟩
  obtain ⟨B, hBB⟩ : ∃ B, B = w.heap.size := ⟨_, rfl⟩
  rw [← hW0, ← hBB] at hB hb0
  have HB := Lib.hid hBB
  have hRb : R.size ≤ 4294967280 := by omega
  have H3 := Lib.hid h3
  have HR := Lib.hid hR
  have HN := Lib.hid hn
  have HOK := Lib.hid hok
  have HQN := Lib.hid hqn
  have HFIN := Lib.hid hfin
  have HRL := Lib.hid hRl
  clear h3 hq hU hUl hR hn hok hqn hfin hRl hRs
  rcases Nat.eq_zero_or_pos n with h0 | h0
  · have he : (R.extract 0 n).toList.isEmpty = true := by rw [Lib.toList_data, Lib.extract_data, h0]; rfl
    have HRR : Hid (headV s.data.toList = .agg #[.string ⟨#[]⟩, .bool false, .int .i64 0]) := headV_no _ (by rw [isLong, HOK.out, h0]; simp)
    have H0 := Lib.hid h0
    clear h0
    go_enter Tryz.func77, Tryz.ntmps77
    go_wp2_with fail
    rw [← hBB, ← hW0]
    clear hBB hW0
    refine (Tryz.strings_CutPrefix s ⟨#[60, 60, 60]⟩ _).mono ?_
    rintro e w' ⟨rfl, rfl⟩
    rw [H3.out, HU.out]
    go_wp2_with fail
    refine (hasPrefix_b U ⟨#[39]⟩ true _ HQ.out).mono ?_
    rintro e w' ⟨rfl, rfl⟩
    go_wp2_with fail
    rw [← HR.out]
    refine (wwordLen_any R _ hRb).mono ?_
    rintro e w1 ⟨rfl, hb1⟩
    rw [← HN.out]
    have hB2 := hB.below hb1
    have hbb := hb0.trans (hb1.mono (by have := hB.lt; omega))
    clear hB hb0 hb1
    have c0 := hB2.cell 0 rfl; have c1 := hB2.cell 1 rfl; have c2 := hB2.cell 2 rfl
    have f0 := hB2.free 0; have f1 := hB2.free 1; have f2 := hB2.free 2
    have hl := hB2.lt
    go_wp2_with fail
    exact bodyPost_ret (v := .agg #[.string ⟨#[]⟩, .bool false, .int .i64 0]) (by simp [results, Tryz.results77, go_sem, c0, c1, c2]) rfl ⟨by rw [HRR.out], by rw [← HB.out]; exact below_three hbb (Nat.le_refl _) _ _ _⟩
  · have he : (R.extract 0 n).toList.isEmpty = false := by
      rw [Lib.toList_data, Lib.extract_data]
      cases e : R.data.toList with
      | nil => have h1 := Lib.size_eq R; rw [e] at h1; simp only [List.length_nil] at h1; omega
      | cons b r => obtain ⟨k, rfl⟩ : ∃ k, n = k + 1 := ⟨n - 1, by omega⟩; rfl
    have hen : (R.extract 0 n).toList ≠ [] := fun h => by rw [h] at he; cases he
    have hsz : (R.extract 0 n).size = n := by rw [Lib.size_eq, extract_pre, List.length_take, ← Lib.size_eq]; omega
    have HSZ := Lib.hid hsz
    clear hsz
    have hp : Hid (Lib.hasPrefix (R.data.toList.drop n) [39, 10] = Lib.hasPrefix (R.extract n R.size).data.toList [39, 10]) := by show _ = _; rw [tail_list]
    go_enter Tryz.func77, Tryz.ntmps77
    go_wp2_with fail
    rw [← hBB, ← hW0]
    clear hBB hW0
    refine (Tryz.strings_CutPrefix s ⟨#[60, 60, 60]⟩ _).mono ?_
    rintro e w' ⟨rfl, rfl⟩
    rw [H3.out, HU.out]
    go_wp2_with fail
    refine (hasPrefix_b U ⟨#[39]⟩ true _ HQ.out).mono ?_
    rintro e w' ⟨rfl, rfl⟩
    go_wp2_with fail
    rw [← HR.out]
    refine (wwordLen_any R _ hRb).mono ?_
    rintro e w1 ⟨rfl, hb1⟩
    rw [← HN.out]
    have hB2 := hB.below hb1
    have hbb := hb0.trans (hb1.mono (by have := hB.lt; omega))
    clear hB hb0 hb1
    have c0 := hB2.cell 0 rfl; have c1 := hB2.cell 1 rfl; have c2 := hB2.cell 2 rfl
    have f0 := hB2.free 0; have f1 := hB2.free 1; have f2 := hB2.free 2
    have hl := hB2.lt
    cases hb : Lib.hasPrefix (R.data.toList.drop n) [39, 10]
    · have HRR : Hid (headV s.data.toList = .agg #[.string ⟨#[]⟩, .bool false, .int .i64 0]) := headV_no _ (by rw [isLong, HOK.out, hb]; simp)
      have HBF : Hid (Lib.hasPrefix (R.extract n R.size).data.toList [39, 10] = false) := hp.out.symm.trans hb
      clear hb
      go_wp2_with fail
      refine (hasPrefix_b _ _ false _ (by simpa using HBF.out)).mono ?_
      rintro e w' ⟨rfl, rfl⟩
      go_wp2_with fail
      exact bodyPost_ret (v := .agg #[.string ⟨#[]⟩, .bool false, .int .i64 0]) (by simp [results, Tryz.results77, go_sem, c0, c1, c2]) rfl ⟨by rw [HRR.out], by rw [← HB.out]; exact below_three hbb (Nat.le_refl _) _ _ _⟩
    · have hok' : headOk s.data.toList = true := by rw [HOK.out, hb]; simpa using h0
      have HRR : Hid (headV s.data.toList = .agg #[.string (R.extract 0 n), .bool true, .int .i64 (3 + 1 + n + 2 : Nat)]) := by
        show _ = _
        rw [headV, isLong, H3.out, hok', headName, if_pos hok', headAt, if_pos hok', HQN.out, HFIN.out, ← HRL.out, ← HN.out, ← Lib.mk_data (R.extract 0 n), extract_pre]
        rfl
      have HBF : Hid (Lib.hasPrefix (R.extract n R.size).data.toList [39, 10] = true) := hp.out.symm.trans hb
      clear hb hok'
      go_wp2_with fail
      refine (hasPrefix_b _ _ true _ (by simpa using HBF.out)).mono ?_
      rintro e w' ⟨rfl, rfl⟩
      go_wp2_with fail
      exact bodyPost_ret (v := .agg #[.string (R.extract 0 n), .bool true, .int .i64 (3 + 1 + n + 2 : Nat)]) (by simp [results, Tryz.results77, go_sem, c0, c1, c2]; try omega) rfl ⟨by rw [HRR.out], by rw [← HB.out]; exact below_three hbb (Nat.le_refl _) _ _ _⟩

set_option maxHeartbeats 2000000 in
set_option maxRecDepth 100000 in
theorem wlongHead_bare (s : ByteArray) (w : World) (h3 : Lib.hasPrefix s.data.toList [60, 60, 60] = true) (hs : s.size ≤ 4294967280) (hq : Lib.hasPrefix (s.data.toList.drop 3) [39] = false) :
    Calls Tryz.prog 77 #[.string s] w fun e w' => e = .returned (headV s.data.toList) ∧ Below w.heap.size w w' := by
  obtain ⟨U, hU⟩ := bytes_of (Lib.trimPrefix s.data.toList [60, 60, 60])
  have hUl : U.data.toList = s.data.toList.drop 3 := by rw [hU, Lib.trimPrefix, if_pos h3]; rfl
  have HU : Hid ((⟨(Lib.trimPrefix s.data.toList [60, 60, 60]).toArray⟩ : ByteArray) = U) := by show _ = _; rw [← hU, Lib.mk_data]
  have hUs : U.size ≤ s.size := by rw [Lib.size_eq, hUl, List.length_drop, ← Lib.size_eq]; omega
  have HQ : Hid (Lib.hasPrefix U.data.toList [39] = false) := by show _ = _; rw [hUl]; exact hq
  have hU1 : 0 ≤ U.size := Nat.zero_le _
  obtain ⟨R, hR⟩ : ∃ R : ByteArray, R = U := ⟨_, rfl⟩
  have hRl : R.data.toList = headRest s.data.toList := by
    rw [hR, hUl, headRest, quoteN, if_neg (by rw [hq]; decide)]; rfl
  have hRs : R.size = U.size - 0 := by rw [hR]; simp
  have hqn : quoteN s.data.toList = 0 := by rw [quoteN, hq]; rfl
  have hfin : headFin s.data.toList = [10] := by rw [headFin, hq]; rfl
  obtain ⟨n, hn⟩ : ∃ n, n = wordN R.data.toList := ⟨_, rfl⟩
  have hnl : n ≤ R.size := by rw [hn, Lib.size_eq]; exact wordN_le _
  have hok : headOk s.data.toList = (decide (0 < n) && Lib.hasPrefix (R.data.toList.drop n) [10]) := by rw [headOk, ← hRl, ← hn, hfin]
  have hB := Blk.new w hdZ 97
  have hb0 : Below w.heap.size w (w.alloc (.cells hdZ 97)) := (Below.refl _ _).alloc (Nat.le_refl _) _
  obtain ⟨W0, hW0⟩ : ∃ W0, W0 = w.alloc (.cells hdZ 97) := ⟨_, rfl⟩
  obtain ⟨B, hBB⟩ : ∃ B, B = w.heap.size := ⟨_, rfl⟩
  rw [← hW0, ← hBB] at hB hb0
  have HB := Lib.hid hBB
  have hRb : R.size ≤ 4294967280 := by omega
  have H3 := Lib.hid h3
  have HR := Lib.hid hR
  have HN := Lib.hid hn
  have HOK := Lib.hid hok
  have HQN := Lib.hid hqn
  have HFIN := Lib.hid hfin
  have HRL := Lib.hid hRl
  clear h3 hq hU hUl hR hn hok hqn hfin hRl hRs
  rcases Nat.eq_zero_or_pos n with h0 | h0
  · have he : (R.extract 0 n).toList.isEmpty = true := by rw [Lib.toList_data, Lib.extract_data, h0]; rfl
    have HRR : Hid (headV s.data.toList = .agg #[.string ⟨#[]⟩, .bool false, .int .i64 0]) := headV_no _ (by rw [isLong, HOK.out, h0]; simp)
    have H0 := Lib.hid h0
    clear h0
    go_enter Tryz.func77, Tryz.ntmps77
    go_wp2_with fail
    rw [← hBB, ← hW0]
    clear hBB hW0
    refine (Tryz.strings_CutPrefix s ⟨#[60, 60, 60]⟩ _).mono ?_
    rintro e w' ⟨rfl, rfl⟩
    rw [H3.out, HU.out]
    go_wp2_with fail
    refine (hasPrefix_b U ⟨#[39]⟩ false _ HQ.out).mono ?_
    rintro e w' ⟨rfl, rfl⟩
    go_wp2_with fail
    rw [← HR.out]
    refine (wwordLen_any R _ hRb).mono ?_
    rintro e w1 ⟨rfl, hb1⟩
    rw [← HN.out]
    have hB2 := hB.below hb1
    have hbb := hb0.trans (hb1.mono (by have := hB.lt; omega))
    clear hB hb0 hb1
    have c0 := hB2.cell 0 rfl; have c1 := hB2.cell 1 rfl; have c2 := hB2.cell 2 rfl
    have f0 := hB2.free 0; have f1 := hB2.free 1; have f2 := hB2.free 2
    have hl := hB2.lt
    go_wp2_with fail
    exact bodyPost_ret (v := .agg #[.string ⟨#[]⟩, .bool false, .int .i64 0]) (by simp [results, Tryz.results77, go_sem, c0, c1, c2]) rfl ⟨by rw [HRR.out], by rw [← HB.out]; exact below_three hbb (Nat.le_refl _) _ _ _⟩
  · have he : (R.extract 0 n).toList.isEmpty = false := by
      rw [Lib.toList_data, Lib.extract_data]
      cases e : R.data.toList with
      | nil => have h1 := Lib.size_eq R; rw [e] at h1; simp only [List.length_nil] at h1; omega
      | cons b r => obtain ⟨k, rfl⟩ : ∃ k, n = k + 1 := ⟨n - 1, by omega⟩; rfl
    have hen : (R.extract 0 n).toList ≠ [] := fun h => by rw [h] at he; cases he
    have hsz : (R.extract 0 n).size = n := by rw [Lib.size_eq, extract_pre, List.length_take, ← Lib.size_eq]; omega
    have HSZ := Lib.hid hsz
    clear hsz
    have hp : Hid (Lib.hasPrefix (R.data.toList.drop n) [10] = Lib.hasPrefix (R.extract n R.size).data.toList [10]) := by show _ = _; rw [tail_list]
    go_enter Tryz.func77, Tryz.ntmps77
    go_wp2_with fail
    rw [← hBB, ← hW0]
    clear hBB hW0
    refine (Tryz.strings_CutPrefix s ⟨#[60, 60, 60]⟩ _).mono ?_
    rintro e w' ⟨rfl, rfl⟩
    rw [H3.out, HU.out]
    go_wp2_with fail
    refine (hasPrefix_b U ⟨#[39]⟩ false _ HQ.out).mono ?_
    rintro e w' ⟨rfl, rfl⟩
    go_wp2_with fail
    rw [← HR.out]
    refine (wwordLen_any R _ hRb).mono ?_
    rintro e w1 ⟨rfl, hb1⟩
    rw [← HN.out]
    have hB2 := hB.below hb1
    have hbb := hb0.trans (hb1.mono (by have := hB.lt; omega))
    clear hB hb0 hb1
    have c0 := hB2.cell 0 rfl; have c1 := hB2.cell 1 rfl; have c2 := hB2.cell 2 rfl
    have f0 := hB2.free 0; have f1 := hB2.free 1; have f2 := hB2.free 2
    have hl := hB2.lt
    cases hb : Lib.hasPrefix (R.data.toList.drop n) [10]
    · have HRR : Hid (headV s.data.toList = .agg #[.string ⟨#[]⟩, .bool false, .int .i64 0]) := headV_no _ (by rw [isLong, HOK.out, hb]; simp)
      have HBF : Hid (Lib.hasPrefix (R.extract n R.size).data.toList [10] = false) := hp.out.symm.trans hb
      clear hb
      go_wp2_with fail
      refine (hasPrefix_b _ _ false _ (by simpa using HBF.out)).mono ?_
      rintro e w' ⟨rfl, rfl⟩
      go_wp2_with fail
      exact bodyPost_ret (v := .agg #[.string ⟨#[]⟩, .bool false, .int .i64 0]) (by simp [results, Tryz.results77, go_sem, c0, c1, c2]) rfl ⟨by rw [HRR.out], by rw [← HB.out]; exact below_three hbb (Nat.le_refl _) _ _ _⟩
    · have hok' : headOk s.data.toList = true := by rw [HOK.out, hb]; simpa using h0
      have HRR : Hid (headV s.data.toList = .agg #[.string (R.extract 0 n), .bool false, .int .i64 (3 + 0 + n + 1 : Nat)]) := by
        show _ = _
        rw [headV, isLong, H3.out, hok', headName, if_pos hok', headAt, if_pos hok', HQN.out, HFIN.out, ← HRL.out, ← HN.out, ← Lib.mk_data (R.extract 0 n), extract_pre]
        rfl
      have HBF : Hid (Lib.hasPrefix (R.extract n R.size).data.toList [10] = true) := hp.out.symm.trans hb
      clear hb hok'
      go_wp2_with fail
      refine (hasPrefix_b _ _ true _ (by simpa using HBF.out)).mono ?_
      rintro e w' ⟨rfl, rfl⟩
      go_wp2_with fail
      exact bodyPost_ret (v := .agg #[.string (R.extract 0 n), .bool false, .int .i64 (3 + 0 + n + 1 : Nat)]) (by simp [results, Tryz.results77, go_sem, c0, c1, c2]; try omega) rfl ⟨by rw [HRR.out], by rw [← HB.out]; exact below_three hbb (Nat.le_refl _) _ _ _⟩

theorem wlongHead_any (s : ByteArray) (w : World) (hs : s.size ≤ 4294967280) :
    Calls Tryz.prog 77 #[.string s] w fun e w' => e = .returned (headV s.data.toList) ∧ Below w.heap.size w w' := by
  cases h3 : Lib.hasPrefix s.data.toList [60, 60, 60]
  · have HRR : Hid (headV s.data.toList = .agg #[.string ⟨#[]⟩, .bool false, .int .i64 0]) := headV_no _ (by rw [isLong, h3]; rfl)
    have H3 := Lib.hid h3
    clear h3
    go_enter Tryz.func77, Tryz.ntmps77
    go_wp2_with fail
    refine (Tryz.strings_CutPrefix s ⟨#[60, 60, 60]⟩ _).mono ?_
    rintro e w' ⟨rfl, rfl⟩
    rw [H3.out]
    go_wp2_with fail
    exact bodyPost_ret (v := .agg #[.string ⟨#[]⟩, .bool false, .int .i64 0]) (by simp [results, Tryz.results77, go_sem]) rfl ⟨by rw [HRR.out], (Below.refl _ _).alloc (Nat.le_refl _) _⟩
  · cases hq : Lib.hasPrefix (s.data.toList.drop 3) [39]
    · exact wlongHead_bare s w h3 hs hq
    · exact wlongHead_quoted s w h3 hs hq
end Go.Proofs.YtjcldgogjgchiaaGreatDoor
