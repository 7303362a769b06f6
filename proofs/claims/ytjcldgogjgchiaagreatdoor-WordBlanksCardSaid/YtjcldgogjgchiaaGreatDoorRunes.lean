/-
  Contracts of package word's functions that go over bytes by runes.
-/
import Derived.Test.YtjcldgogjgchiaaGreatDoorSmall
import Derived.Test.YtjcldgogjgchiaaGreatDoorWording
import Derived.Laws.RangeAny
import Derived.Lib.MapLaws
import Derived.Lib.OthersKept
namespace Go.Proofs.YtjcldgogjgchiaaGreatDoor
open Go Go.RowKit Cutting Wording

def digR (n : Nat) : Bool := 48 ≤ n && n ≤ 57
def hexR (n : Nat) : Bool := digR n || (97 ≤ n && n ≤ 102) || (65 ≤ n && n ≤ 70)
def wordR (n : Nat) : Bool := (97 ≤ n && n ≤ 122) || (65 ≤ n && n ≤ 90) || digR n || n == 95

theorem wisDigit_any (n : Nat) (w : World) :
    Calls Tryz.prog 44 #[.int .i32 n] w fun e w' => e = .returned (.bool (digR n)) ∧ w = w' := by
  go_enter Tryz.func44, Tryz.ntmps44
  go_wp2_with fail
  all_goals go_ret
  all_goals exact ⟨ret_bool (by rw [Bool.eq_iff_iff]; simp only [digR, Bool.and_eq_true, decide_eq_true_eq]; first | omega | (simp [*]; try omega)), rfl⟩
theorem wisHex_any (n : Nat) (w : World) :
    Calls Tryz.prog 104 #[.int .i32 n] w fun e w' => e = .returned (.bool (hexR n)) ∧ w = w' := by
  go_enter Tryz.func104, Tryz.ntmps104
  go_wp2_with (go_at_call 44; refine (wisDigit_any _ _).mono ?_; rintro e w' ⟨rfl, rfl⟩)
  all_goals go_ret
  all_goals exact ⟨ret_bool (by rw [Bool.eq_iff_iff]; simp only [hexR, Bool.or_eq_true, Bool.and_eq_true, decide_eq_true_eq]; simp [*]; try omega), rfl⟩
theorem winWord_any (n : Nat) (w : World) :
    Calls Tryz.prog 46 #[.int .i32 n] w fun e w' => e = .returned (.bool (wordR n)) ∧ w = w' := by
  go_enter Tryz.func46, Tryz.ntmps46
  go_wp2_with (go_at_call 44; refine (wisDigit_any _ _).mono ?_; rintro e w' ⟨rfl, rfl⟩)
  all_goals go_ret
  all_goals exact ⟨ret_bool (by rw [Bool.eq_iff_iff]; simp only [wordR, Bool.or_eq_true, Bool.and_eq_true, decide_eq_true_eq, beq_iff_eq]; simp [*]; try omega), rfl⟩

theorem wisDigit_b (n : Nat) (b : Bool) (w : World) (h : digR n = b) : Calls Tryz.prog 44 #[.int .i32 n] w fun e w' => e = .returned (.bool b) ∧ w = w' := h ▸ wisDigit_any n w
theorem winWord_b (n : Nat) (b : Bool) (w : World) (h : wordR n = b) : Calls Tryz.prog 46 #[.int .i32 n] w fun e w' => e = .returned (.bool b) ∧ w = w' := h ▸ winWord_any n w
theorem digR_b (b : UInt8) : digR b.toNat = digB b := by
  rw [Bool.eq_iff_iff]; simp only [digR, digB, Bool.and_eq_true, decide_eq_true_eq, UInt8.le_iff_toNat_le]; rfl
theorem hexR_b (b : UInt8) : hexR b.toNat = hexB b := by
  rw [Bool.eq_iff_iff]; simp only [hexR, hexB, digR_b, Bool.or_eq_true, Bool.and_eq_true, decide_eq_true_eq, UInt8.le_iff_toNat_le]; rfl
theorem wordR_b (b : UInt8) : wordR b.toNat = wordB b := by
  rw [Bool.eq_iff_iff]; simp only [wordR, wordB, digR_b, Bool.or_eq_true, Bool.and_eq_true, decide_eq_true_eq, UInt8.le_iff_toNat_le, beq_iff_eq, ← UInt8.toNat_inj]; rfl

theorem byte_getD (s : ByteArray) (j : Nat) (hj : j < s.size) : s.data.toList.getD j 0 = s[j] := by
  rw [List.getD_eq_getElem?_getD, List.getElem?_eq_getElem (by rw [← Lib.size_eq]; exact hj)]; rfl
/-- What is known of a rune that stands at a place: of an ASCII byte itself; else one that is no ASCII, all of whose bytes are none. -/
theorem rune_high (s : ByteArray) (k : Nat) (h : k < s.size) (hb : 128 ≤ s[k].toNat) :
    128 ≤ (Utf8.decode s k).1 ∧ 1 ≤ (Utf8.decode s k).2 ∧ k + (Utf8.decode s k).2 ≤ s.size ∧ ∀ j (hj : j < s.size), k ≤ j → j < k + (Utf8.decode s k).2 → 128 ≤ s[j].toNat := by
  have e0 := byte_getD s k h
  rw [Lib.decode_N, ← Lib.size_eq, e0]
  have key : ∀ j (hj : j < s.size), 128 ≤ (s.data.toList.getD j 0).toNat → 128 ≤ s[j].toNat := fun j hj hh => by rw [byte_getD s j hj] at hh; exact hh
  have e0' : 128 ≤ (s.data.toList.getD k 0).toNat := by rw [e0]; exact hb
  rcases Lib.decodeN_shape (s.size - k) s[k].toNat (s.data.toList.getD (k + 1) 0).toNat (s.data.toList.getD (k + 2) 0).toNat (s.data.toList.getD (k + 3) 0).toNat with ⟨c, e⟩ | ⟨c1, c2, c3, cv, e⟩ | ⟨c1, c2, c3, c4, cv, cs, e⟩ | ⟨c1, c2, c3, c4, c5, cv, cw, e⟩ | e
  · omega
  all_goals
    rw [e]
    dsimp only
    refine ⟨by omega, by omega, by omega, fun j hj h1 h2 => key j hj ?_⟩
    have hc : j = k ∨ j = k + 1 ∨ j = k + 2 ∨ j = k + 3 := by omega
    rcases hc with rfl | rfl | rfl | rfl <;> omega
theorem rune_low (s : ByteArray) (k : Nat) (h : k < s.size) (hb : s[k].toNat < 128) : Utf8.decode s k = (s[k].toNat, 1) := decode_ascii s k h hb

theorem takeWhile_stop {p : UInt8 → Bool} (s : ByteArray) (k : Nat) (h : k < s.size) (hp : p s[k] = false) : (s.data.toList.drop k).takeWhile p = [] := by
  rw [drop_at s k h, List.takeWhile_cons, hp]; rfl
theorem takeWhile_go {p : UInt8 → Bool} (s : ByteArray) (k : Nat) (h : k < s.size) (hp : p s[k] = true) : spanN p (s.data.toList.drop k) = 1 + spanN p (s.data.toList.drop (k + 1)) := by
  rw [spanN, drop_at s k h, List.takeWhile_cons, hp, if_pos rfl, List.length_cons, spanN, Nat.add_comm]

theorem runLen_isDigit (s : ByteArray) (w : World) (_hs : s.size ≤ 4294967280) :
    Calls Tryz.prog 45 #[.string s, .func (.func 44) #[] #[]] w fun e w' => e = .returned (.int .i64 (spanN digB s.data.toList)) ∧ Below w.heap.size w w' := by
  have hI : ∀ p, Below w.heap.size w (w.iter s p) := fun p => (Below.refl _ _).alloc (Nat.le_refl _) _
  go_enter Tryz.func45, Tryz.ntmps45
  go_wp2_with fail
  obtain ⟨B, hB⟩ : ∃ B, B = w.heap.size := ⟨_, rfl⟩
  have HB := Lib.hid hB
  rw [← hB] at hI
  clear hB
  go_loopw [] (fun wr => ∃ k : Nat, k ≤ s.size ∧ wr = w.iter s k ∧ Hid (spanN digB s.data.toList = k + spanN digB (s.data.toList.drop k))) (fun wr => s.size - wr.iterPos w.heap.size)
  case atStart => exact ⟨0, Nat.zero_le _, rfl, by show _ = _; rw [List.drop_zero, Nat.zero_add]⟩
  case round =>
    obtain ⟨k, hk, rfl, hrel⟩ := hrel
    by_cases hlt : k < s.size
    · have hnx := fun ty => run_next_any (P := Tryz.prog) w s k ty hlt
      cases hp : digB s[k]
      · have hR : Hid (digR (Utf8.decode s k).1 = false) := by
          show _ = _
          by_cases hb : s[k].toNat < 128
          · rw [rune_low s k hlt hb]; show digR s[k].toNat = false; rw [digR_b]; exact hp
          · have := (rune_high s k hlt (by omega)).1; simp [digR]; omega
        have HP := Lib.hid hp
        clear hp
        go_wp2_with (go_at_call 44; refine (wisDigit_any _ _).mono ?_; rintro e w' ⟨rfl, rfl⟩; rw [hR.out])
        go_ret
        exact ⟨ret_int (by rw [hrel.out, spanN, takeWhile_stop s k hlt HP.out]; simp), by rw [← HB.out]; exact hI _⟩
      · have hlow : s[k].toNat < 128 := by
          rcases Nat.lt_or_ge s[k].toNat 128 with h | h
          · exact h
          · have h2 : digR s[k].toNat = true := by rw [digR_b]; exact hp
            simp [digR] at h2; omega
        have hD := Lib.hid (rune_low s k hlt hlow)
        have hR : Hid (digR (Utf8.decode s k).1 = true) := by
          show _ = _
          rw [hD.out]; show digR s[k].toNat = true; rw [digR_b]; exact hp
        have HP := Lib.hid hp
        clear hp
        go_wp2_with (go_at_call 44; refine (wisDigit_any _ _).mono ?_; rintro e w' ⟨rfl, rfl⟩; rw [hR.out])
        rw [hD.out]
        go_roundw
        case rel => exact ⟨k + 1, by omega, rfl, by show _ = _; rw [hrel.out, takeWhile_go s k hlt HP.out]; omega⟩
        case measure => simp; omega
    · have hnx := fun ty => run_next_end (P := Tryz.prog) w s k ty hlt
      have hdk := Lib.hid (drop_nil s k (by omega))
      go_wp2_with fail
      go_ret
      refine ⟨ret_int ?_, by rw [← HB.out]; exact hI _⟩
      rw [hrel.out, hdk.out]
      simp [spanN]
      omega
theorem runLen_isHex (s : ByteArray) (w : World) (_hs : s.size ≤ 4294967280) :
    Calls Tryz.prog 45 #[.string s, .func (.func 104) #[] #[]] w fun e w' => e = .returned (.int .i64 (spanN hexB s.data.toList)) ∧ Below w.heap.size w w' := by
  have hI : ∀ p, Below w.heap.size w (w.iter s p) := fun p => (Below.refl _ _).alloc (Nat.le_refl _) _
  go_enter Tryz.func45, Tryz.ntmps45
  go_wp2_with fail
  obtain ⟨B, hB⟩ : ∃ B, B = w.heap.size := ⟨_, rfl⟩
  have HB := Lib.hid hB
  rw [← hB] at hI
  clear hB
  go_loopw [] (fun wr => ∃ k : Nat, k ≤ s.size ∧ wr = w.iter s k ∧ Hid (spanN hexB s.data.toList = k + spanN hexB (s.data.toList.drop k))) (fun wr => s.size - wr.iterPos w.heap.size)
  case atStart => exact ⟨0, Nat.zero_le _, rfl, by show _ = _; rw [List.drop_zero, Nat.zero_add]⟩
  case round =>
    obtain ⟨k, hk, rfl, hrel⟩ := hrel
    by_cases hlt : k < s.size
    · have hnx := fun ty => run_next_any (P := Tryz.prog) w s k ty hlt
      cases hp : hexB s[k]
      · have hR : Hid (hexR (Utf8.decode s k).1 = false) := by
          show _ = _
          by_cases hb : s[k].toNat < 128
          · rw [rune_low s k hlt hb]; show hexR s[k].toNat = false; rw [hexR_b]; exact hp
          · have := (rune_high s k hlt (by omega)).1; simp [hexR, digR]; omega
        have HP := Lib.hid hp
        clear hp
        go_wp2_with (go_at_call 104; refine (wisHex_any _ _).mono ?_; rintro e w' ⟨rfl, rfl⟩; rw [hR.out])
        go_ret
        exact ⟨ret_int (by rw [hrel.out, spanN, takeWhile_stop s k hlt HP.out]; simp), by rw [← HB.out]; exact hI _⟩
      · have hlow : s[k].toNat < 128 := by
          rcases Nat.lt_or_ge s[k].toNat 128 with h | h
          · exact h
          · have h2 : hexR s[k].toNat = true := by rw [hexR_b]; exact hp
            simp [hexR, digR] at h2; omega
        have hD := Lib.hid (rune_low s k hlt hlow)
        have hR : Hid (hexR (Utf8.decode s k).1 = true) := by
          show _ = _
          rw [hD.out]; show hexR s[k].toNat = true; rw [hexR_b]; exact hp
        have HP := Lib.hid hp
        clear hp
        go_wp2_with (go_at_call 104; refine (wisHex_any _ _).mono ?_; rintro e w' ⟨rfl, rfl⟩; rw [hR.out])
        rw [hD.out]
        go_roundw
        case rel => exact ⟨k + 1, by omega, rfl, by show _ = _; rw [hrel.out, takeWhile_go s k hlt HP.out]; omega⟩
        case measure => simp; omega
    · have hnx := fun ty => run_next_end (P := Tryz.prog) w s k ty hlt
      have hdk := Lib.hid (drop_nil s k (by omega))
      go_wp2_with fail
      go_ret
      refine ⟨ret_int ?_, by rw [← HB.out]; exact hI _⟩
      rw [hrel.out, hdk.out]
      simp [spanN]
      omega
theorem runLen_inWord (s : ByteArray) (w : World) (_hs : s.size ≤ 4294967280) :
    Calls Tryz.prog 45 #[.string s, .func (.func 46) #[] #[]] w fun e w' => e = .returned (.int .i64 (spanN wordB s.data.toList)) ∧ Below w.heap.size w w' := by
  have hI : ∀ p, Below w.heap.size w (w.iter s p) := fun p => (Below.refl _ _).alloc (Nat.le_refl _) _
  go_enter Tryz.func45, Tryz.ntmps45
  go_wp2_with fail
  obtain ⟨B, hB⟩ : ∃ B, B = w.heap.size := ⟨_, rfl⟩
  have HB := Lib.hid hB
  rw [← hB] at hI
  clear hB
  go_loopw [] (fun wr => ∃ k : Nat, k ≤ s.size ∧ wr = w.iter s k ∧ Hid (spanN wordB s.data.toList = k + spanN wordB (s.data.toList.drop k))) (fun wr => s.size - wr.iterPos w.heap.size)
  case atStart => exact ⟨0, Nat.zero_le _, rfl, by show _ = _; rw [List.drop_zero, Nat.zero_add]⟩
  case round =>
    obtain ⟨k, hk, rfl, hrel⟩ := hrel
    by_cases hlt : k < s.size
    · have hnx := fun ty => run_next_any (P := Tryz.prog) w s k ty hlt
      cases hp : wordB s[k]
      · have hR : Hid (wordR (Utf8.decode s k).1 = false) := by
          show _ = _
          by_cases hb : s[k].toNat < 128
          · rw [rune_low s k hlt hb]; show wordR s[k].toNat = false; rw [wordR_b]; exact hp
          · have := (rune_high s k hlt (by omega)).1; simp [wordR, digR]; omega
        have HP := Lib.hid hp
        clear hp
        go_wp2_with (go_at_call 46; refine (winWord_any _ _).mono ?_; rintro e w' ⟨rfl, rfl⟩; rw [hR.out])
        go_ret
        exact ⟨ret_int (by rw [hrel.out, spanN, takeWhile_stop s k hlt HP.out]; simp), by rw [← HB.out]; exact hI _⟩
      · have hlow : s[k].toNat < 128 := by
          rcases Nat.lt_or_ge s[k].toNat 128 with h | h
          · exact h
          · have h2 : wordR s[k].toNat = true := by rw [wordR_b]; exact hp
            simp [wordR, digR] at h2; omega
        have hD := Lib.hid (rune_low s k hlt hlow)
        have hR : Hid (wordR (Utf8.decode s k).1 = true) := by
          show _ = _
          rw [hD.out]; show wordR s[k].toNat = true; rw [wordR_b]; exact hp
        have HP := Lib.hid hp
        clear hp
        go_wp2_with (go_at_call 46; refine (winWord_any _ _).mono ?_; rintro e w' ⟨rfl, rfl⟩; rw [hR.out])
        rw [hD.out]
        go_roundw
        case rel => exact ⟨k + 1, by omega, rfl, by show _ = _; rw [hrel.out, takeWhile_go s k hlt HP.out]; omega⟩
        case measure => simp; omega
    · have hnx := fun ty => run_next_end (P := Tryz.prog) w s k ty hlt
      have hdk := Lib.hid (drop_nil s k (by omega))
      go_wp2_with fail
      go_ret
      refine ⟨ret_int ?_, by rw [← HB.out]; exact hI _⟩
      rw [hrel.out, hdk.out]
      simp [spanN]
      omega
end Go.Proofs.YtjcldgogjgchiaaGreatDoor
