/-
  Contracts of the small functions of package cut: bytes and words.
-/
import Derived.Test.YtjcldgogjgchiaaGreatDoorProg
import Derived.Test.YtjcldgogjgchiaaGreatDoorCutting
import Derived.WalkKit
import Derived.Lib.Walk
import Derived.Laws.Strings3
import Derived.BigQuiet
import Derived.Deep.QuietTactic
import Derived.Outline
import Derived.Lib.Hide
import Derived.Deep.DeepFit
namespace Go.Proofs.YtjcldgogjgchiaaGreatDoor
open Go Go.RowKit Cutting

theorem beqU (b c : UInt8) : (b == c) = ((b.toNat : Int) == (c.toNat : Int)) := by
  rw [Bool.eq_iff_iff]; simp only [beq_iff_eq]; constructor
  · rintro rfl; rfl
  · intro h; exact UInt8.toNat_inj.1 (by omega)
theorem leU (b c : UInt8) : (decide (b ≤ c)) = decide ((b.toNat : Int) ≤ (c.toNat : Int)) := by
  simp [UInt8.le_iff_toNat_le]
theorem ret_bool {a b : Bool} (h : a = b) : Ending.returned (.bool a) = .returned (.bool b) := by rw [h]
theorem ret_int {k : IntKind} {a b : Int} (h : a = b) : Ending.returned (.int k a) = .returned (.int k b) := by rw [h]

theorem isBlank_any (b : UInt8) (w : World) :
    Calls Tryz.prog 62 #[.int .u8 b.toNat] w fun e w' => e = .returned (.bool (blankB b)) ∧ w = w' := by
  go_enter Tryz.func62, Tryz.ntmps62
  go_wp2_with fail
  all_goals go_ret
  all_goals exact ⟨ret_bool (by simp only [blankB, beqU]; simp [*]), rfl⟩
theorem isDigit_any (b : UInt8) (w : World) :
    Calls Tryz.prog 86 #[.int .u8 b.toNat] w fun e w' => e = .returned (.bool (digB b)) ∧ w = w' := by
  go_enter Tryz.func86, Tryz.ntmps86
  go_wp2_with fail
  all_goals go_ret
  all_goals exact ⟨ret_bool (by rw [Bool.eq_iff_iff]; simp only [digB, leU, Bool.and_eq_true, decide_eq_true_eq]; simp [*]; try omega), rfl⟩
theorem inWord_any (b : UInt8) (w : World) :
    Calls Tryz.prog 87 #[.int .u8 b.toNat] w fun e w' => e = .returned (.bool (wordB b)) ∧ w = w' := by
  go_enter Tryz.func87, Tryz.ntmps87
  go_wp2_with (go_at_call 86; refine (isDigit_any _ _).mono ?_; rintro e w' ⟨rfl, rfl⟩)
  all_goals go_ret
  all_goals exact ⟨ret_bool (by rw [Bool.eq_iff_iff]; simp only [wordB, beqU, leU, Bool.or_eq_true, Bool.and_eq_true, decide_eq_true_eq, beq_iff_eq]; simp [*]; try omega), rfl⟩

theorem drop_at (s : ByteArray) (k : Nat) (h : k < s.size) : s.data.toList.drop k = s[k] :: s.data.toList.drop (k + 1) := by
  rw [List.drop_eq_getElem_cons (by rw [← Lib.size_eq]; exact h)]; rfl
theorem drop_nil (s : ByteArray) (k : Nat) (h : s.size ≤ k) : s.data.toList.drop k = [] := List.drop_eq_nil_of_le (by rw [← Lib.size_eq]; exact h)
theorem nil_of (s : ByteArray) (h : s.size = 0) : s.data.toList = [] := List.eq_nil_of_length_eq_zero (by rw [← Lib.size_eq]; exact h)
theorem isEmpty_of (s : ByteArray) (h : 0 < s.size) : s.toList.isEmpty = false := by
  rw [Lib.toList_data]; cases e : s.data.toList with
  | nil => have h1 := Lib.size_eq s; rw [e] at h1; simp only [List.length_nil] at h1; omega
  | cons => rfl

theorem wordLen_any (s : ByteArray) (w : World) (hs : s.size ≤ 4294967280) :
    Calls Tryz.prog 65 #[.string s] w fun e w' => e = .returned (.int .i64 (wordN s.data.toList)) ∧ w = w' := by
  rcases Nat.eq_zero_or_pos s.size with h0 | h0
  · have hn := nil_of s h0
    have hn' : s.toList = [] := by rw [Lib.toList_data]; exact hn
    have HN := Lib.hid hn
    clear hn h0
    go_enter Tryz.func65, Tryz.ntmps65
    go_wp2_with fail
    go_ret
    exact ⟨by rw [HN.out]; rfl, rfl⟩
  · have he := isEmpty_of s h0
    have hd := drop_at s 0 h0
    rw [List.drop_zero] at hd
    have HD := Lib.hid hd
    clear hd
    cases hb : digB s[0]
    · go_enter Tryz.func65, Tryz.ntmps65
      go_wp2_with (go_at_call 86; refine (isDigit_any _ _).mono ?_; rintro e w' ⟨rfl, rfl⟩)
      go_loop [3] (fun i => ∃ k : Nat, k ≤ s.size ∧ i = .int .i64 k ∧ Hid (wordN s.data.toList = k + ((s.data.toList.drop k).takeWhile wordB).length)) (fun i => s.size - (intOf i).toNat)
      case atStart => exact ⟨0, Nat.zero_le _, rfl, by show _ = _; rw [List.drop_zero, Nat.zero_add, HD.out]; simp only [wordN, hb]; rfl⟩
      case round =>
        obtain ⟨k, hk, rfl, hrel⟩ := hrel
        by_cases hlt : k < s.size
        · have hdk := Lib.hid (drop_at s k hlt)
          cases hw : wordB s[k]
          · go_wp2_with (go_at_call 87; refine (inWord_any _ _).mono ?_; rintro e w' ⟨rfl, rfl⟩)
            go_ret
            exact ⟨ret_int (by rw [hrel.out, hdk.out]; simp [hw]), rfl⟩
          · go_wp2_with (go_at_call 87; refine (inWord_any _ _).mono ?_; rintro e w' ⟨rfl, rfl⟩)
            go_round
            case rel => exact ⟨k + 1, by omega, by go_num, by show _ = _; rw [hrel.out, hdk.out]; simp only [List.takeWhile_cons, hw, if_true, List.length_cons]; omega⟩
            case measure => simp [intOf]; omega
        · have hdk := Lib.hid (drop_nil s k (by omega))
          go_wp2_with (go_at_call 87; refine (inWord_any _ _).mono ?_; rintro e w' ⟨rfl, rfl⟩)
          go_ret
          exact ⟨ret_int (by rw [hrel.out, hdk.out]; simp), rfl⟩
    · go_enter Tryz.func65, Tryz.ntmps65
      go_wp2_with (go_at_call 86; refine (isDigit_any _ _).mono ?_; rintro e w' ⟨rfl, rfl⟩)
      go_ret
      exact ⟨by rw [HD.out]; simp [wordN, hb], rfl⟩

theorem u8_of (b c : UInt8) (h : (b.toNat : Int) = (c.toNat : Int)) : b = c := UInt8.toNat_inj.1 (by omega)
theorem textGo_back (q : UInt8) (r : List UInt8) : textGo q (92 :: r) = (if r.isEmpty then 1 else 2) + textGo q (r.drop 1) := by
  cases r <;> simp [textGo]
theorem textGo_quote (q : UInt8) (r : List UInt8) (h : q ≠ 92) : textGo q (q :: r) = 1 := by cases r <;> simp [textGo, h]
theorem textGo_other (q c : UInt8) (r : List UInt8) (h : c ≠ 92) (h2 : c ≠ q) : textGo q (c :: r) = 1 + textGo q r := by cases r <;> simp [textGo, h, h2]

theorem textLen_any (s : ByteArray) (w : World) (h0 : 0 < s.size) (hs : s.size ≤ 4294967280) :
    Calls Tryz.prog 49 #[.string s] w fun e w' => e = .returned (.int .i64 (textN s.data.toList)) ∧ w = w' := by
  have hd := drop_at s 0 h0
  rw [List.drop_zero] at hd
  have HD := Lib.hid hd
  clear hd
  go_enter Tryz.func49, Tryz.ntmps49
  go_wp2_with fail
  go_step3
  go_wp2_with fail
  go_step3
  go_wp2_with fail
  go_loop [3] (fun i => ∃ k : Nat, 1 ≤ k ∧ k ≤ s.size + 1 ∧ i = .int .i64 k ∧ Hid (textN s.data.toList = min k s.size + textGo s[0] (s.data.toList.drop k))) (fun i => s.size + 1 - (intOf i).toNat)
  case atStart => exact ⟨1, by omega, by omega, rfl, by show _ = _; rw [HD.out, textN]; simp; omega⟩
  case round =>
    obtain ⟨k, hk1, hk, rfl, hrel⟩ := hrel
    by_cases hlt : k < s.size
    · have hdk := Lib.hid (drop_at s k hlt)
      by_cases hc : (s[k].toNat : Int) = 92
      · have hu := Lib.hid (u8_of s[k] 92 hc)
        go_wp2_with fail
        go_round
        case rel =>
          refine ⟨k + 2, by omega, by omega, by go_num, ?_⟩
          show _ = _
          rw [hrel.out, hdk.out, hu.out, textGo_back, List.drop_drop, show k + 1 + 1 = k + 2 from rfl]
          by_cases hl : k + 1 < s.size
          · rw [if_neg (by rw [drop_at s (k + 1) hl]; simp)]; omega
          · rw [if_pos (by rw [drop_nil s (k + 1) (by omega)]; rfl)]; omega
        case measure => simp [intOf]; omega
      · have hu : s[k] ≠ 92 := fun e => hc (by rw [e]; rfl)
        by_cases hq : (s[k].toNat : Int) = (s[0].toNat : Int)
        · have hv := Lib.hid (u8_of s[k] s[0] hq)
          go_wp2_with fail
          go_ret
          refine ⟨ret_int ?_, rfl⟩
          have h9 : s[0] ≠ 92 := by rw [← hv.out]; exact hu
          rw [hrel.out, hdk.out, hv.out, textGo_quote _ _ h9]
          omega
        · have hv : s[k] ≠ s[0] := fun e => hq (by rw [e])
          go_wp2_with fail
          go_round
          case rel =>
            refine ⟨k + 1, by omega, by omega, by go_num, ?_⟩
            show _ = _
            rw [hrel.out, hdk.out, textGo_other _ _ _ hu hv]
            omega
          case measure => simp [intOf]; omega
    · have hdk := Lib.hid (drop_nil s k (by omega))
      go_wp2_with fail
      go_ret
      refine ⟨ret_int ?_, rfl⟩
      rw [hrel.out, hdk.out]
      simp [textGo]
      omega
end Go.Proofs.YtjcldgogjgchiaaGreatDoor
