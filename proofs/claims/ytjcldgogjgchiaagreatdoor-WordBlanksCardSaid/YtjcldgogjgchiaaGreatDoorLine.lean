/-
  Contracts of package cut's Line, Ended, and of Cut beyond the limit; how a slice of pieces lies.
-/
import Derived.Test.YtjcldgogjgchiaaGreatDoorCut
import Derived.Laws.StructEq
import Derived.BigQuiet
import Derived.Deep.QuietTactic
import Derived.Lib.Strings
namespace Go.Proofs.YtjcldgogjgchiaaGreatDoor
open Go Go.RowKit Cutting

def lineN (s : List UInt8) (at_ : Int) : Nat := 1 + (s.take (max at_ 0).toNat).count 10

theorem Line_any (s : ByteArray) (at_ : Int) (w : World) (hs : s.size ≤ 9223372036854775806) (h0 : -9223372036854775808 ≤ at_) (h1 : at_ ≤ 9223372036854775807) :
    Calls Tryz.prog 54 #[.string s, .int .i64 at_] w fun e w' => e = .returned (.int .i64 (lineN s.data.toList at_)) ∧ w = w' := by
  obtain ⟨m, hm⟩ : ∃ m : Nat, min (max at_ 0) (s.size : Int) = m := ⟨(min (max at_ 0) (s.size : Int)).toNat, by omega⟩
  have hms : m ≤ s.size := by omega
  have hcnt : (s.data.toList.take (max at_ 0).toNat) = s.data.toList.take m := by
    by_cases h : (max at_ 0).toNat ≤ s.size
    · rw [show m = (max at_ 0).toNat from by omega]
    · rw [List.take_of_length_le (by rw [← Lib.size_eq]; omega), List.take_of_length_le (by rw [← Lib.size_eq]; omega)]
  have hlen : (s.data.toList.take m).count 10 ≤ m := Nat.le_trans List.count_le_length (by rw [List.length_take]; omega)
  have HL : Hid (lineN s.data.toList at_ = 1 + (s.data.toList.take m).count 10) := by show _ = _; rw [lineN, hcnt]
  have HX : Hid ((Lib.countByte (s.extract 0 m).data.toList 10 : Int) = ((s.data.toList.take m).count 10 : Nat)) := by
    show _ = _
    rw [Lib.extract_data]
    rfl
  obtain ⟨c, hc⟩ : ∃ c, c = (s.data.toList.take m).count 10 := ⟨_, rfl⟩
  rw [← hc] at hlen HL HX
  have HM := Lib.hid hm
  clear hm hcnt hc
  go_enter Tryz.func54, Tryz.ntmps54
  go_wp2_with fail
  rw [HM.out, Int.toNat_natCast]
  refine (Tryz.strings_Count_one _ 10 _).mono ?_
  rintro e w' ⟨rfl, rfl⟩
  rw [HX.out]
  go_wp2_with fail
  go_ret
  exact ⟨ret_int (by rw [HL.out]; omega), rfl⟩
theorem Cut_long (s : ByteArray) (w : World) (hs : 65536 < s.size) :
    Calls Tryz.prog 22 #[.string s] w fun e w' => e = .returned (.tuple #[.slice none 0 0, .int .i64 2]) ∧ w = w' := by
  have hbig : decide ((65536 : Int) < (s.size : Int)) = true := by simpa using (by omega : (65536 : Int) < (s.size : Int))
  go_enter Tryz.func22, Tryz.ntmps22
  go_wp2_with fail
  go_ret2
  exact ⟨rfl, rfl⟩
theorem cell_add (g i j : Nat) : ((⟨g, i, none⟩ : Addr).add j) = ⟨g, i + j, none⟩ := by
  unfold Addr.add
  by_cases h : j = 0 <;> simp [h]

/-- A slice of pieces where it lies. -/
theorem St.form {B : Nat} {w wr : World} {v : Value} {l : List Pc} (h : St B w wr v l) (hl : 0 < l.length) : ∃ g cap, v = .slice (some ⟨g, 0, none⟩) l.length cap ∧ l.length ≤ cap := by
  rcases h.own.2 with ⟨rfl, h0⟩ | ⟨g, cap, cur, rfl, hb, hh, hn, hc, hcs, ht⟩
  · omega
  · exact ⟨g, cap, rfl, hn⟩
theorem encPcs_at (l : List Pc) (i : Nat) (h : i < l.length) : (encPcs l)[i * 3]? = some (.int .i64 l[i].kind) ∧ (encPcs l)[i * 3 + 1]? = some (.string ⟨l[i].text.toArray⟩) ∧ (encPcs l)[i * 3 + 2]? = some (.int .i64 l[i].at_) := by
  induction l generalizing i with
  | nil => exact absurd h (Nat.not_lt_zero _)
  | cons p l ih =>
    cases i with
    | zero => exact ⟨rfl, rfl, rfl⟩
    | succ i =>
      have hi := ih i (by simpa using h)
      have e : encPcs (p :: l) = encPc p ++ encPcs l := rfl
      rw [e]
      have h3 : (encPc p).length = 3 := rfl
      rw [List.getElem?_append_right (by omega), List.getElem?_append_right (by omega), List.getElem?_append_right (by omega), h3,
        show (i + 1) * 3 - 3 = i * 3 from by omega, show (i + 1) * 3 + 1 - 3 = i * 3 + 1 from by omega, show (i + 1) * 3 + 2 - 3 = i * 3 + 2 from by omega]
      exact hi
theorem St.cells {B : Nat} {w wr : World} {v : Value} {l : List Pc} (h : St B w wr v l) {g cap : Nat} (hv : v = .slice (some ⟨g, 0, none⟩) l.length cap) (i : Nat) (hi : i < l.length) :
    wr.cell? ⟨g, i * 3, none⟩ = some (.int .i64 l[i].kind) ∧ wr.cell? ⟨g, i * 3 + 1, none⟩ = some (.string ⟨l[i].text.toArray⟩) ∧ wr.cell? ⟨g, i * 3 + 2, none⟩ = some (.int .i64 l[i].at_) := by
  subst hv
  have he := encPcs_at l i hi
  have hown := h.own
  rw [hown.cellAt _ (by omega), hown.cellAt _ (by omega), hown.cellAt _ (by omega)]
  exact he

def endedB (l t : List UInt8) (x : Int) : Bool := decide (0 ≤ x ∧ x ≤ l.length) && Lib.hasPrefix (l.drop x.toNat) t && Lib.hasPrefix (l.drop (x.toNat + t.length)) [63, 62]
def pcVal (k : Int) (T : ByteArray) (x : Int) : Value := .agg #[.int .i64 k, .string T, .int .i64 x]

set_option maxHeartbeats 2000000 in
theorem Ended_any (s T : ByteArray) (k x : Int) (w : World) (_hs : s.size ≤ 140737488351232) (_hT : T.size ≤ 140737488351232) :
    Calls Tryz.prog 35 #[.string s, .agg #[.int .i64 k, .string T, .int .i64 x]] w fun e w' => e = .returned (.bool (endedB s.data.toList T.data.toList x)) ∧ Below w.heap.size w w' := by
  have hb0 : Below w.heap.size w (w.alloc (.cells #[.int .i64 k, .string T, .int .i64 x] 51)) := (Below.refl _ _).alloc (Nat.le_refl _) _
  by_cases h0 : x < 0
  · have HE : Hid (endedB s.data.toList T.data.toList x = false) := by show _ = _; unfold endedB; rw [decide_eq_false (by omega)]; rfl
    go_enter Tryz.func35, Tryz.ntmps35
    go_wp2_with fail
    go_ret
    exact ⟨ret_bool HE.out.symm, hb0⟩
  · obtain ⟨n, rfl⟩ := Int.eq_ofNat_of_zero_le (by omega : 0 ≤ x)
    by_cases h1 : (s.size : Int) < (n : Int)
    · have HE : Hid (endedB s.data.toList T.data.toList n = false) := by show _ = _; unfold endedB; rw [decide_eq_false (by rw [← Lib.size_eq]; omega)]; rfl
      go_enter Tryz.func35, Tryz.ntmps35
      go_wp2_with fail
      go_ret
      exact ⟨ret_bool HE.out.symm, hb0⟩
    · have HE : Hid (endedB s.data.toList T.data.toList n = (Lib.hasPrefix (s.data.toList.drop n) T.data.toList && Lib.hasPrefix (s.data.toList.drop (n + T.size)) [63, 62])) := by
        show _ = _
        unfold endedB
        rw [decide_eq_true (by rw [← Lib.size_eq]; omega), Bool.true_and, Int.toNat_natCast, ← Lib.size_eq]
      have d0 : decide ((n : Int) < 0) = false := by simp
      have d1 : decide ((s.size : Int) < (n : Int)) = false := by simpa using (by omega : (n : Int) ≤ (s.size : Int))
      have i0 : (0 : Int) ≤ (n : Int) := Int.natCast_nonneg _
      have i1 : (n : Int) ≤ (s.size : Int) := by omega
      cases hp : Lib.hasPrefix (s.data.toList.drop n) T.data.toList
      · have HP : Hid (Lib.hasPrefix (s.extract n s.size).data.toList T.data.toList = false) := by show _ = _; rw [tail_list]; exact hp
        have HE2 : Hid (endedB s.data.toList T.data.toList n = false) := by show _ = _; rw [HE.out, hp]; rfl
        have hcp : ∀ W, Calls Tryz.prog 53 #[.string (s.extract n s.size), .string T] W fun e w' => e = .returned (.tuple #[.string (s.extract n s.size), .bool false]) ∧ w' = W := by
          intro W
          refine (Tryz.strings_CutPrefix _ _ W).mono ?_
          rintro e w' ⟨rfl, rfl⟩
          refine ⟨?_, rfl⟩
          rw [HP.out, Lib.trimPrefix, HP.out]
          simp only [Bool.false_eq_true, if_false, Lib.mk_data]
        have HCP := Lib.hid hcp
        clear hp hcp
        go_enter Tryz.func35, Tryz.ntmps35
        go_wp2_with fail
        go_quiet ((go_at_call 53; exact Calls.quiet_of_same (HCP.out _)))
        go_wp2_with fail
        go_ret
        exact ⟨ret_bool HE2.out.symm, below_drewN hb0 _⟩
      · have HP : Hid (Lib.hasPrefix (s.extract n s.size).data.toList T.data.toList = true) := by show _ = _; rw [tail_list]; exact hp
        obtain ⟨R, hR⟩ := bytes_of (s.data.toList.drop (n + T.size))
        have hcp : ∀ W, Calls Tryz.prog 53 #[.string (s.extract n s.size), .string T] W fun e w' => e = .returned (.tuple #[.string R, .bool true]) ∧ w' = W := by
          intro W
          refine (Tryz.strings_CutPrefix _ _ W).mono ?_
          rintro e w' ⟨rfl, rfl⟩
          refine ⟨?_, rfl⟩
          rw [HP.out, Lib.trimPrefix, HP.out]
          simp only [if_true]
          rw [tail_list, List.drop_drop, ← Lib.size_eq, ← hR, Lib.mk_data]
        have HCP := Lib.hid hcp
        cases hq : Lib.hasPrefix (s.data.toList.drop (n + T.size)) [63, 62]
        · have HE2 : Hid (endedB s.data.toList T.data.toList n = false) := by show _ = _; rw [HE.out, hp, hq]; rfl
          have HQ : Hid (Lib.hasPrefix R.data.toList [63, 62] = false) := by show _ = _; rw [hR]; exact hq
          clear hp hcp hq hR
          go_enter Tryz.func35, Tryz.ntmps35
          go_wp2_with fail
          go_quiet ((go_at_call 53; exact Calls.quiet_of_same (HCP.out _)))
          go_wp2_with fail
          refine (hasPrefix_b _ _ false _ (by exact HQ.out)).mono ?_
          rintro e w' ⟨rfl, rfl⟩
          go_wp2_with fail
          go_ret
          exact ⟨ret_bool HE2.out.symm, below_drewN hb0 _⟩
        · have HE2 : Hid (endedB s.data.toList T.data.toList n = true) := by show _ = _; rw [HE.out, hp, hq]; rfl
          have HQ : Hid (Lib.hasPrefix R.data.toList [63, 62] = true) := by show _ = _; rw [hR]; exact hq
          clear hp hcp hq hR
          go_enter Tryz.func35, Tryz.ntmps35
          go_wp2_with fail
          go_quiet ((go_at_call 53; exact Calls.quiet_of_same (HCP.out _)))
          go_wp2_with fail
          refine (hasPrefix_b _ _ true _ (by exact HQ.out)).mono ?_
          rintro e w' ⟨rfl, rfl⟩
          go_wp2_with fail
          go_ret
          exact ⟨ret_bool HE2.out.symm, below_drewN hb0 _⟩

end Go.Proofs.YtjcldgogjgchiaaGreatDoor
