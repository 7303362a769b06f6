/-
  Contracts of the document's answer for layer 1: the small functions.
-/
import Derived.Test.YtjcldgogjgchiaaGreatDoorCode
namespace Go.Proofs.YtjcldgogjgchiaaGreatDoor
open Go Go.RowKit Cutting

theorem prefix_take (r p : List UInt8) : Lib.hasPrefix r p = (decide (p.length ≤ r.length) && (r.take p.length == p)) := (Lib.hasPrefix_of_take r p).symm

theorem At_any (s t : ByteArray) (i : Int) (w : World) (h0 : 0 ≤ i) (h1 : i ≤ 281474976710656) (hs : s.size ≤ 140737488351232) (ht : t.size ≤ 140737488351232) (hne : 0 < t.size ∨ i ≤ s.size) :
    Calls Tryz.prog 18 #[.string s, .int .i64 i, .string t] w fun e w' => e = .returned (.bool (Lib.hasPrefix (s.data.toList.drop i.toNat) t.data.toList)) ∧ w = w' := by
  obtain ⟨n, rfl⟩ := Int.eq_ofNat_of_zero_le h0
  rw [Int.toNat_natCast]
  have hl : (s.data.toList.drop n).length = s.size - n := by rw [List.length_drop, ← Lib.size_eq]
  by_cases hle : n + t.size ≤ s.size
  · have hb : Hid (Lib.hasPrefix (s.data.toList.drop n) t.data.toList = ((s.extract n (n + t.size)).toList == t.toList)) := by
      show _ = _
      rw [prefix_take, hl, ← Lib.size_eq, decide_eq_true (by omega), Bool.true_and, Lib.toList_data, Lib.toList_data, Lib.extract_data, Nat.add_sub_cancel_left]
    have hle' : (n : Int) + (t.size : Int) ≤ (s.size : Int) := by omega
    have hle2 : (n : Int) ≤ (n : Int) + (t.size : Int) := by omega
    have hnat : ((n : Int) + (t.size : Int)).toNat = n + t.size := by omega
    have hcmp : ((s.extract n (n + t.size)).toList == t.toList) = true ∨ ((s.extract n (n + t.size)).toList == t.toList) = false := by
      cases ((s.extract n (n + t.size)).toList == t.toList) <;> simp
    clear hle hl
    go_enter Tryz.func18, Tryz.ntmps18
    go_wp2_with fail
    all_goals go_ret
    all_goals exact ⟨ret_bool (by rw [hb.out]), rfl⟩
  · have hb : Hid (Lib.hasPrefix (s.data.toList.drop n) t.data.toList = false) := by
      show _ = _
      rw [prefix_take, hl, ← Lib.size_eq, decide_eq_false (by omega), Bool.false_and]
    go_enter Tryz.func18, Tryz.ntmps18
    go_wp2_with fail
    all_goals go_ret
    all_goals exact ⟨ret_bool (by rw [hb.out]), rfl⟩
theorem At_b (s t : ByteArray) (i : Int) (b : Bool) (w : World) (h0 : 0 ≤ i) (h1 : i ≤ 281474976710656) (hs : s.size ≤ 140737488351232) (ht : t.size ≤ 140737488351232) (hne : 0 < t.size ∨ i ≤ s.size) (hb : Lib.hasPrefix (s.data.toList.drop i.toNat) t.data.toList = b) :
    Calls Tryz.prog 18 #[.string s, .int .i64 i, .string t] w fun e w' => e = .returned (.bool b) ∧ w = w' := by
  refine (At_any s t i w h0 h1 hs ht hne).mono ?_
  rintro e w' ⟨rfl, rfl⟩
  exact ⟨by rw [hb], rfl⟩

def letterB (b : UInt8) : Bool := b == 95 || (97 ≤ b && b ≤ 122) || (65 ≤ b && b ≤ 90)
theorem Letter_any (b : UInt8) (w : World) :
    Calls Tryz.prog 20 #[.int .u8 b.toNat] w fun e w' => e = .returned (.bool (letterB b)) ∧ w = w' := by
  go_enter Tryz.func20, Tryz.ntmps20
  go_wp2_with fail
  all_goals go_ret
  all_goals exact ⟨ret_bool (by rw [Bool.eq_iff_iff]; simp only [letterB, beqU, leU, Bool.or_eq_true, Bool.and_eq_true, decide_eq_true_eq, beq_iff_eq]; simp [*]; try omega), rfl⟩
theorem Digit_any (b : UInt8) (w : World) :
    Calls Tryz.prog 26 #[.int .u8 b.toNat] w fun e w' => e = .returned (.bool (digB b)) ∧ w = w' := by
  go_enter Tryz.func26, Tryz.ntmps26
  go_wp2_with fail
  all_goals go_ret
  all_goals exact ⟨ret_bool (by rw [Bool.eq_iff_iff]; simp only [digB, leU, Bool.and_eq_true, decide_eq_true_eq]; simp [*]; try omega), rfl⟩
theorem wordB_split (b : UInt8) : wordB b = (letterB b || digB b) := by
  rw [Bool.eq_iff_iff]
  simp only [wordB, letterB, digB, beqU, leU, Bool.or_eq_true, Bool.and_eq_true, decide_eq_true_eq, beq_iff_eq]
  simp
  omega
theorem letter_not_digit (b : UInt8) (h : letterB b = true) : digB b = false := by
  rw [← Bool.not_eq_true]
  simp only [letterB, digB, beqU, leU, Bool.or_eq_true, Bool.and_eq_true, decide_eq_true_eq, beq_iff_eq] at h ⊢
  simp at h ⊢
  omega

set_option maxHeartbeats 1000000 in
theorem Word_any (s : ByteArray) (i : Int) (w : World) (h0 : 0 ≤ i) (h1 : i ≤ 140737488351232) (hs : s.size ≤ 140737488351232) :
    Calls Tryz.prog 17 #[.string s, .int .i64 i] w fun e w' => e = .returned (.int .i64 (wordN (s.data.toList.drop i.toNat))) ∧ w = w' := by
  obtain ⟨n, rfl⟩ := Int.eq_ofNat_of_zero_le h0
  rw [Int.toNat_natCast]
  go_enter Tryz.func17, Tryz.ntmps17
  go_wp2_with fail
  go_loop [5] (fun m => ∃ k : Nat, (k = 0 ∨ n + k ≤ s.size) ∧ m = .int .i64 k ∧ Hid (0 < k → wordN (s.data.toList.drop n) = k + ((s.data.toList.drop (n + k)).takeWhile wordB).length)) (fun m => s.size - (intOf m).toNat)
  case atStart => exact ⟨0, .inl rfl, rfl, fun h => absurd h (Nat.lt_irrefl 0)⟩
  case round =>
    obtain ⟨k, hk, rfl, hrel⟩ := hrel
    by_cases hk0 : k = 0
    · subst hk0
      clear hrel
      by_cases hlt : n < s.size
      · have hdk := Lib.hid (drop_at s n hlt)
        cases hl : letterB s[n]
        · have hwn : Hid (wordN (s.data.toList.drop n) = 0) := by
            show _ = _
            rw [hdk.out, wordN]
            split
            · rfl
            · next hd => simp [wordB_split, hl, hd]
          go_wp2_with (first | (go_at_call 20; refine (Letter_any _ _).mono ?_; rintro e w' ⟨rfl, rfl⟩) | (go_at_call 26; refine (Digit_any _ _).mono ?_; rintro e w' ⟨rfl, rfl⟩))
          go_ret
          exact ⟨ret_int (by rw [hwn.out]; rfl), rfl⟩
        · have hwn : Hid (wordN (s.data.toList.drop n) = 1 + ((s.data.toList.drop (n + 1)).takeWhile wordB).length) := by
            show _ = _
            rw [hdk.out, wordN, letter_not_digit _ hl]
            simp [wordB_split, hl]
            omega
          go_wp2_with (first | (go_at_call 20; refine (Letter_any _ _).mono ?_; rintro e w' ⟨rfl, rfl⟩) | (go_at_call 26; refine (Digit_any _ _).mono ?_; rintro e w' ⟨rfl, rfl⟩))
          go_round
          case rel => exact ⟨1, .inr (by omega), by go_num, fun _ => hwn.out⟩
          case measure => simp [intOf]; omega
      · have hdk := Lib.hid (drop_nil s n (by omega))
        go_wp2_with fail
        go_ret
        exact ⟨ret_int (by rw [hdk.out]; rfl), rfl⟩
    · have hkp : (0 : Int) < (k : Int) := by omega
      have hR : Hid (wordN (s.data.toList.drop n) = k + ((s.data.toList.drop (n + k)).takeWhile wordB).length) := hrel.out (by omega)
      by_cases hlt : n + k < s.size
      · have hdk := Lib.hid (drop_at s (n + k) hlt)
        have hi0 : (0 : Int) ≤ (n : Int) + (k : Int) := by omega
        have hi1 : (n : Int) + (k : Int) < (s.size : Int) := by omega
        cases hl : letterB s[n + k]
        · cases hd : digB s[n + k]
          · have hw : Hid (wordB s[n + k] = false) := by show _ = _; rw [wordB_split, hl, hd]; rfl
            go_wp2_with (first | (go_at_call 20; refine (Letter_any _ _).mono ?_; rintro e w' ⟨rfl, rfl⟩) | (go_at_call 26; refine (Digit_any _ _).mono ?_; rintro e w' ⟨rfl, rfl⟩))
            go_ret
            exact ⟨ret_int (by rw [hR.out, hdk.out, List.takeWhile_cons, hw.out]; simp), rfl⟩
          · have hw : Hid (wordB s[n + k] = true) := by show _ = _; rw [wordB_split, hl, hd]; rfl
            go_wp2_with (first | (go_at_call 20; refine (Letter_any _ _).mono ?_; rintro e w' ⟨rfl, rfl⟩) | (go_at_call 26; refine (Digit_any _ _).mono ?_; rintro e w' ⟨rfl, rfl⟩))
            go_round
            case rel => exact ⟨k + 1, .inr (by omega), by go_num, fun _ => by rw [hR.out, hdk.out, List.takeWhile_cons, hw.out]; simp [Nat.add_assoc]; omega⟩
            case measure => simp [intOf]; omega
        · have hw : Hid (wordB s[n + k] = true) := by show _ = _; rw [wordB_split, hl]; rfl
          go_wp2_with (first | (go_at_call 20; refine (Letter_any _ _).mono ?_; rintro e w' ⟨rfl, rfl⟩) | (go_at_call 26; refine (Digit_any _ _).mono ?_; rintro e w' ⟨rfl, rfl⟩))
          go_round
          case rel => exact ⟨k + 1, .inr (by omega), by go_num, fun _ => by rw [hR.out, hdk.out, List.takeWhile_cons, hw.out]; simp [Nat.add_assoc]; omega⟩
          case measure => simp [intOf]; omega
      · have hdk := Lib.hid (drop_nil s (n + k) (by omega))
        go_wp2_with fail
        go_ret
        exact ⟨ret_int (by rw [hR.out, hdk.out]; simp), rfl⟩
end Go.Proofs.YtjcldgogjgchiaaGreatDoor
