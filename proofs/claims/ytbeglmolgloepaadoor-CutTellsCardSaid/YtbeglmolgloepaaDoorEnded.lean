/-
  Contracts of Ended and of the answer's Ended and Line.
-/
import Derived.Test.YtbeglmolgloepaaDoorRefA
import Derived.Test.YtbeglmolgloepaaDoorAlive
import Derived.BigQuiet
import Derived.Deep.QuietTactic
import Derived.Lib.Strings
namespace Go.Proofs.YtbeglmolgloepaaDoor
open Go Go.RowKit Cutting

def endedB (l t : List UInt8) (x : Int) : Bool := decide (0 ≤ x ∧ x ≤ l.length) && Lib.hasPrefix (l.drop x.toNat) t && Lib.hasPrefix (l.drop (x.toNat + t.length)) [63, 62]
def pcVal (k : Int) (T : ByteArray) (x : Int) : Value := .agg #[.int .i64 k, .string T, .int .i64 x]

set_option maxHeartbeats 2000000 in
theorem Ended_any (s T : ByteArray) (k x : Int) (w : World) (_hs : s.size ≤ 140737488351232) (_hT : T.size ≤ 140737488351232) :
    Calls Tryd.prog 13 #[.string s, .agg #[.int .i64 k, .string T, .int .i64 x]] w fun e w' => e = .returned (.bool (endedB s.data.toList T.data.toList x)) ∧ Below w.heap.size w w' := by
  have hb0 : Below w.heap.size w (w.alloc (.cells #[.int .i64 k, .string T, .int .i64 x] 32)) := (Below.refl _ _).alloc (Nat.le_refl _) _
  by_cases h0 : x < 0
  · have HE : Hid (endedB s.data.toList T.data.toList x = false) := by show _ = _; unfold endedB; rw [decide_eq_false (by omega)]; rfl
    go_enter Tryd.func13, Tryd.ntmps13
    go_wp2_with fail
    go_ret
    exact ⟨ret_bool HE.out.symm, hb0⟩
  · obtain ⟨n, rfl⟩ := Int.eq_ofNat_of_zero_le (by omega : 0 ≤ x)
    by_cases h1 : (s.size : Int) < (n : Int)
    · have HE : Hid (endedB s.data.toList T.data.toList n = false) := by show _ = _; unfold endedB; rw [decide_eq_false (by rw [← Lib.size_eq]; omega)]; rfl
      go_enter Tryd.func13, Tryd.ntmps13
      go_wp2_with fail
      go_ret
      exact ⟨ret_bool HE.out.symm, hb0⟩
    · have HE : Hid (endedB s.data.toList T.data.toList n = (Lib.hasPrefix (s.data.toList.drop n) T.data.toList && Lib.hasPrefix (s.data.toList.drop (n + T.size)) [63, 62])) := by
        show _ = _
        unfold endedB
        rw [decide_eq_true (by rw [← Lib.size_eq]; omega), Bool.true_and, Int.toNat_natCast, ← Lib.size_eq]
      have d0 : decide ((n : Int) < 0) = false := by simp
      have d1 : decide ((s.size : Int) < (n : Int)) = false := by simpa using (by omega : (n : Int) ≤ (s.size : Int))
      have i0 : (0 : Int) ≤ (n : Int) := Int.natCast_nonneg _
      have i1 : (n : Int) ≤ (s.size : Int) := by omega
      cases hp : Lib.hasPrefix (s.data.toList.drop n) T.data.toList
      · have HP : Hid (Lib.hasPrefix (s.extract n s.size).data.toList T.data.toList = false) := by show _ = _; rw [tail_list]; exact hp
        have HE2 : Hid (endedB s.data.toList T.data.toList n = false) := by show _ = _; rw [HE.out, hp]; rfl
        have hcp : ∀ W, Calls Tryd.prog 23 #[.string (s.extract n s.size), .string T] W fun e w' => e = .returned (.tuple #[.string (s.extract n s.size), .bool false]) ∧ w' = W := by
          intro W
          refine (Tryd.strings_CutPrefix _ _ W).mono ?_
          rintro e w' ⟨rfl, rfl⟩
          refine ⟨?_, rfl⟩
          rw [HP.out, Lib.trimPrefix, HP.out]
          simp only [Bool.false_eq_true, if_false, Lib.mk_data]
        have HCP := Lib.hid hcp
        clear hp hcp
        go_enter Tryd.func13, Tryd.ntmps13
        go_wp2_with fail
        go_quiet ((go_at_call 23; exact Calls.quiet_of_same (HCP.out _)))
        go_wp2_with fail
        go_ret
        exact ⟨ret_bool HE2.out.symm, below_drewN hb0 _⟩
      · have HP : Hid (Lib.hasPrefix (s.extract n s.size).data.toList T.data.toList = true) := by show _ = _; rw [tail_list]; exact hp
        obtain ⟨R, hR⟩ := bytes_of (s.data.toList.drop (n + T.size))
        have hcp : ∀ W, Calls Tryd.prog 23 #[.string (s.extract n s.size), .string T] W fun e w' => e = .returned (.tuple #[.string R, .bool true]) ∧ w' = W := by
          intro W
          refine (Tryd.strings_CutPrefix _ _ W).mono ?_
          rintro e w' ⟨rfl, rfl⟩
          refine ⟨?_, rfl⟩
          rw [HP.out, Lib.trimPrefix, HP.out]
          simp only [if_true]
          rw [tail_list, List.drop_drop, ← Lib.size_eq, ← hR, Lib.mk_data]
        have HCP := Lib.hid hcp
        cases hq : Lib.hasPrefix (s.data.toList.drop (n + T.size)) [63, 62]
        · have HE2 : Hid (endedB s.data.toList T.data.toList n = false) := by show _ = _; rw [HE.out, hp, hq]; rfl
          have HQ : Hid (Lib.hasPrefix R.data.toList [63, 62] = false) := by show _ = _; rw [hR]; exact hq
          clear hp hcp hq hR
          go_enter Tryd.func13, Tryd.ntmps13
          go_wp2_with fail
          go_quiet ((go_at_call 23; exact Calls.quiet_of_same (HCP.out _)))
          go_wp2_with fail
          refine (hasPrefix_b _ _ false _ (by exact HQ.out)).mono ?_
          rintro e w' ⟨rfl, rfl⟩
          go_wp2_with fail
          go_ret
          exact ⟨ret_bool HE2.out.symm, below_drewN hb0 _⟩
        · have HE2 : Hid (endedB s.data.toList T.data.toList n = true) := by show _ = _; rw [HE.out, hp, hq]; rfl
          have HQ : Hid (Lib.hasPrefix R.data.toList [63, 62] = true) := by show _ = _; rw [hR]; exact hq
          clear hp hcp hq hR
          go_enter Tryd.func13, Tryd.ntmps13
          go_wp2_with fail
          go_quiet ((go_at_call 23; exact Calls.quiet_of_same (HCP.out _)))
          go_wp2_with fail
          refine (hasPrefix_b _ _ true _ (by exact HQ.out)).mono ?_
          rintro e w' ⟨rfl, rfl⟩
          go_wp2_with fail
          go_ret
          exact ⟨ret_bool HE2.out.symm, below_drewN hb0 _⟩

set_option maxHeartbeats 2000000 in
theorem REnded_any (s T : ByteArray) (k x : Int) (w : World) (hs : s.size ≤ 140737488351232) (hT : T.size ≤ 140737488351232) :
    Calls Tryd.prog 14 #[.string s, .agg #[.int .i64 k, .string T, .int .i64 x]] w fun e w' => e = .returned (.bool (endedB s.data.toList T.data.toList x)) ∧ Below w.heap.size w w' := by
  have hb0 : Below w.heap.size w (w.alloc (.cells #[.int .i64 k, .string T, .int .i64 x] 32)) := (Below.refl _ _).alloc (Nat.le_refl _) _
  by_cases h0 : x < 0
  · have HE : Hid (endedB s.data.toList T.data.toList x = false) := by show _ = _; unfold endedB; rw [decide_eq_false (by omega)]; rfl
    go_enter Tryd.func14, Tryd.ntmps14
    go_wp2_with fail
    go_ret
    exact ⟨ret_bool HE.out.symm, hb0⟩
  · obtain ⟨n, rfl⟩ := Int.eq_ofNat_of_zero_le (by omega : 0 ≤ x)
    by_cases h1 : (s.size : Int) < (n : Int)
    · have HE : Hid (endedB s.data.toList T.data.toList n = false) := by show _ = _; unfold endedB; rw [decide_eq_false (by rw [← Lib.size_eq]; omega)]; rfl
      go_enter Tryd.func14, Tryd.ntmps14
      go_wp2_with fail
      go_ret
      exact ⟨ret_bool HE.out.symm, hb0⟩
    · have HE : Hid (endedB s.data.toList T.data.toList n = (Lib.hasPrefix (s.data.toList.drop n) T.data.toList && Lib.hasPrefix (s.data.toList.drop (n + T.size)) [63, 62])) := by
        show _ = _
        unfold endedB
        rw [decide_eq_true (by rw [← Lib.size_eq]; omega), Bool.true_and, Int.toNat_natCast, ← Lib.size_eq]
      cases hp : Lib.hasPrefix (s.data.toList.drop n) T.data.toList
      · have HE2 : Hid (endedB s.data.toList T.data.toList n = false) := by show _ = _; rw [HE.out, hp]; rfl
        have HP := Lib.hid hp
        clear hp
        go_enter Tryd.func14, Tryd.ntmps14
        go_wp2_with fail
        refine (At_b s T n false _ (by omega) (by omega) hs hT (.inr (by omega)) (by rw [Int.toNat_natCast]; exact HP.out)).mono ?_
        rintro e w' ⟨rfl, rfl⟩
        go_wp2_with fail
        go_ret
        exact ⟨ret_bool HE2.out.symm, hb0⟩
      · have hnt : n + T.size ≤ s.size ∨ T.size = 0 := by
          have := hasPrefix_length hp
          rw [List.length_drop, ← Lib.size_eq, ← Lib.size_eq] at this
          omega
        have hnt2 : (n : Int) + (T.size : Int) ≤ 281474976710656 := by omega
        obtain ⟨b, hq⟩ : ∃ b, Lib.hasPrefix (s.data.toList.drop (n + T.size)) [63, 62] = b := ⟨_, rfl⟩
        have HE2 : Hid (endedB s.data.toList T.data.toList n = b) := by show _ = _; rw [HE.out, hp, hq]; rfl
        have HP := Lib.hid hp
        have HQ : Hid (Lib.hasPrefix (s.data.toList.drop ((n : Int) + (T.size : Int)).toNat) [63, 62] = b) := by show _ = _; rw [show ((n : Int) + (T.size : Int)).toNat = n + T.size from by omega]; exact hq
        clear hp hq
        go_enter Tryd.func14, Tryd.ntmps14
        go_wp2_with fail
        refine (At_b s T n true _ (by omega) (by omega) hs hT (.inr (by omega)) (by rw [Int.toNat_natCast]; exact HP.out)).mono ?_
        rintro e w' ⟨rfl, rfl⟩
        go_wp2_with fail
        refine (At_b s _ ((n : Int) + (T.size : Int)) b _ (by omega) hnt2 hs (by show 2 ≤ 140737488351232; omega) (.inl (by show 0 < 2; omega)) (by exact HQ.out)).mono ?_
        rintro e w' ⟨rfl, rfl⟩
        go_wp2_with fail
        go_ret
        exact ⟨ret_bool HE2.out.symm, hb0⟩

theorem count_take (s : ByteArray) (k : Nat) (h : k < s.size) : (s.data.toList.take (k + 1)).count 10 = (s.data.toList.take k).count 10 + if s[k] = 10 then 1 else 0 := by
  have hl : k < s.data.toList.length := by rw [← Lib.size_eq]; exact h
  rw [List.take_succ_eq_append_getElem hl, List.count_append]
  have : s.data.toList[k] = s[k] := rfl
  rw [this, List.count_singleton]
  simp

set_option maxHeartbeats 1000000 in
theorem RLine_any (s : ByteArray) (x : Int) (w : World) (hs : s.size ≤ 140737488351232) :
    Calls Tryd.prog 16 #[.string s, .int .i64 x] w fun e w' => e = .returned (.int .i64 (lineN s.data.toList x)) ∧ w = w' := by
  go_enter Tryd.func16, Tryd.ntmps16
  go_wp2_with fail
  go_loop [5, 6] (fun c z => ∃ k : Nat, k ≤ s.size ∧ (k : Int) ≤ max x 0 ∧ z = .int .i64 k ∧ ∃ m : Nat, c = .int .i64 m ∧ m ≤ k + 1 ∧ Hid (m = 1 + (s.data.toList.take k).count 10)) (fun _ z => s.size - (intOf z).toNat)
  case atStart => exact ⟨0, by omega, by omega, rfl, 1, rfl, by omega, rfl⟩
  case round =>
    obtain ⟨k, hk, hkx, rfl, m, rfl, hmk, hm⟩ := hrel
    by_cases hlt : k < s.size
    · by_cases hx : (k : Int) < x
      · have hct := Lib.hid (count_take s k hlt)
        by_cases hc : (s[k].toNat : Int) = 10
        · have hu := Lib.hid (u8_of s[k] 10 hc)
          go_wp2_with fail
          go_round
          case rel => exact ⟨k + 1, by omega, by omega, by go_num, m + 1, by go_num, by omega, by show _ = _; rw [hct.out, hm.out, if_pos hu.out]; omega⟩
          case measure => simp [intOf]; omega
        · have hu : Hid (s[k] ≠ 10) := fun e => hc (by rw [e]; rfl)
          go_wp2_with fail
          go_round
          case rel => exact ⟨k + 1, by omega, by omega, by go_num, m, rfl, by omega, by show _ = _; rw [hct.out, hm.out, if_neg hu.out]; omega⟩
          case measure => simp [intOf]; omega
      · have hL : Hid (lineN s.data.toList x = m) := by show _ = _; rw [lineN, hm.out, show (max x 0).toNat = k from by omega]
        go_wp2_with fail
        go_ret
        exact ⟨ret_int (by rw [hL.out]), rfl⟩
    · have hL : Hid (lineN s.data.toList x = m) := by
        show _ = _
        rw [lineN, hm.out, List.take_of_length_le (by rw [← Lib.size_eq]; omega), List.take_of_length_le (by rw [← Lib.size_eq]; omega)]
      go_wp2_with fail
      go_ret
      exact ⟨ret_int (by rw [hL.out]), rfl⟩
end Go.Proofs.YtbeglmolgloepaaDoor
