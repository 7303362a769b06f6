/-
  The document's answer on names (ostlerref02.Name) against it.
-/
import Derived.Test.YtjcldgogjgchiaaGreatDoorRefK
namespace Go.Proofs.YtjcldgogjgchiaaGreatDoor
open Go Go.RowKit Cutting Wording

theorem wordN_ge (b : UInt8) (r : L) (h : wordB b = true) (h2 : digB b = false) : wordN (b :: r) ≠ 0 := by simp [wordN, h2, h]
set_option maxRecDepth 100000 in
set_option maxHeartbeats 1000000 in
theorem rName_any (s : ByteArray) (w : World) (hs : s.size ≤ 1073741820) :
    Calls Tryz.prog 10 #[.string s] w fun e w' => e = .returned (.bool (nameB s.data.toList)) ∧ Below w.heap.size w w' := by
  have HB : Hid (nameB s.data.toList = ((nameN s.data.toList).2 && decide (0 < (nameN s.data.toList).1) && decide ((nameN s.data.toList).1 = s.size) && decide (s.size ≤ 64) && !keyB s.data.toList)) := by show _ = _; rw [nameB, Lib.size_eq]
  rcases Nat.eq_zero_or_pos s.size with h0 | h0
  · have hn := nil_of s h0
    have hn' : s.toList = [] := by rw [Lib.toList_data]; exact hn
    have HN := Lib.hid hn
    clear hn h0
    go_enter Tryz.func10, Tryz.ntmps10
    go_wp2_with fail
    go_ret
    exact ⟨ret_bool (by rw [HN.out]; rfl), Below.refl _ _⟩
  have he := isEmpty_of s h0
  have hen : s.toList ≠ [] := fun h => by rw [h] at he; cases he
  have hd := drop_at s 0 h0
  rw [List.drop_zero] at hd
  have HD := Lib.hid hd
  clear hd
  have h8 : s[0].toNat < 256 := s[0].toNat_lt
  obtain ⟨n, hn⟩ : ∃ n, n = (nameN s.data.toList).1 := ⟨_, rfl⟩
  obtain ⟨fm, hf⟩ : ∃ b, b = (nameN s.data.toList).2 := ⟨_, rfl⟩
  rw [← hn, ← hf] at HB
  have HN := Lib.hid hn
  have HF := Lib.hid hf
  clear hn hf
  cases hl : letterB s[0]
  · by_cases h92 : s[0] = 92
    · have HH : Lib.hasPrefix s.data.toList [92] = true ∨ (Lib.hasPrefix s.data.toList [92] = false ∧ wordN s.data.toList ≠ 0) := .inl (by rw [HD.out, h92]; simp [Lib.hasPrefix])
      have hb : s[0].toNat = 92 := by rw [h92]; rfl
      have d2 : ((s[0].toNat : Int) != 92) = false := by rw [hb]; rfl
      have HL := Lib.hid hl
      clear hl h92 hb
      go_enter Tryz.func10, Tryz.ntmps10
      go_wp2_with fail
      refine (Letter_any s[0] _).mono ?_
      rintro e w0 ⟨rfl, rfl⟩
      rw [HL.out]
      go_wp2_with fail
      refine (rKey_any s _ hs).mono ?_
      rintro e w1 ⟨rfl, hb1⟩
      obtain ⟨kb, hkb⟩ : ∃ b, b = keyB s.data.toList := ⟨_, rfl⟩
      rw [← hkb] at HB ⊢
      clear hkb
      cases kb
      · by_cases h64 : s.size ≤ 64
        · have d3 : decide ((64 : Int) < (s.size : Int)) = false := by simpa using (by omega : (s.size : Int) ≤ 64)
          go_wp2_with fail
          refine (named_any s _ hs HH).mono ?_
          rintro e w2 ⟨rfl, rfl⟩
          rw [← HN.out, ← HF.out]
          cases fm
          · go_wp2_with fail
            go_ret
            exact ⟨ret_bool (by rw [HB.out]; rfl), hb1⟩
          · by_cases h1 : n = s.size
            · have d1 : ((n : Int) == (s.size : Int)) = true := by rw [beq_iff_eq]; omega
              have HE : Hid (nameB s.data.toList = true) := by show _ = _; rw [HB.out]; simp; omega
              clear h1
              go_wp2_with fail
              go_ret
              exact ⟨ret_bool (by rw [HE.out]), hb1⟩
            · have d1 : ((n : Int) == (s.size : Int)) = false := by rw [beq_eq_false_iff_ne]; omega
              have HE : Hid (nameB s.data.toList = false) := by show _ = _; rw [HB.out]; simp [h1]
              go_wp2_with fail
              go_ret
              exact ⟨ret_bool (by rw [HE.out]), hb1⟩
        · have d3 : decide ((64 : Int) < (s.size : Int)) = true := by simpa using (by omega : (64 : Int) < (s.size : Int))
          have HE : Hid (nameB s.data.toList = false) := by show _ = _; rw [HB.out]; simp [h64]
          go_wp2_with fail
          go_ret
          exact ⟨ret_bool (by rw [HE.out]), hb1⟩
      · have HE : Hid (nameB s.data.toList = false) := by show _ = _; rw [HB.out]; simp
        go_wp2_with fail
        go_ret
        exact ⟨ret_bool (by rw [HE.out]), hb1⟩
    · have HE : Hid (nameB s.data.toList = false) := by
        show _ = _
        rw [HB.out, HN.out]
        have hw : wordN s.data.toList = 0 := by
          rw [HD.out, wordN]
          split
          · rfl
          · next hdg => simp [wordB_split, hl, hdg]
        have hp : Lib.hasPrefix s.data.toList [92] = false := by rw [HD.out, hp_cons]; simp; exact fun h => absurd h.symm h92
        rw [nameN, hw, List.drop_zero, moreN_none _ hp]; simp
      have hb : s[0].toNat ≠ 92 := fun h => h92 (UInt8.toNat_inj.1 h)
      have d2 : ((s[0].toNat : Int) != 92) = true := by simp; omega
      have HL := Lib.hid hl
      clear hl h92 hb
      go_enter Tryz.func10, Tryz.ntmps10
      go_wp2_with fail
      refine (Letter_any s[0] _).mono ?_
      rintro e w0 ⟨rfl, rfl⟩
      rw [HL.out]
      go_wp2_with fail
      go_ret
      exact ⟨ret_bool (by rw [HE.out]), Below.refl _ _⟩
  · have HH : Lib.hasPrefix s.data.toList [92] = true ∨ (Lib.hasPrefix s.data.toList [92] = false ∧ wordN s.data.toList ≠ 0) := by
      right
      rw [HD.out]
      refine ⟨?_, ?_⟩
      · rw [hp_cons]
        have : s[0] ≠ 92 := by rintro h; rw [h] at hl; revert hl; decide
        simp; exact fun h => absurd h.symm this
      · exact wordN_ge s[0] _ (by rw [wordB_split, hl]; rfl) (letter_not_digit _ hl)
    have HL := Lib.hid hl
    clear hl
    go_enter Tryz.func10, Tryz.ntmps10
    go_wp2_with fail
    refine (Letter_any s[0] _).mono ?_
    rintro e w0 ⟨rfl, rfl⟩
    rw [HL.out]
    go_wp2_with fail
    refine (rKey_any s _ hs).mono ?_
    rintro e w1 ⟨rfl, hb1⟩
    obtain ⟨kb, hkb⟩ : ∃ b, b = keyB s.data.toList := ⟨_, rfl⟩
    rw [← hkb] at HB ⊢
    clear hkb
    cases kb
    · by_cases h64 : s.size ≤ 64
      · have d3 : decide ((64 : Int) < (s.size : Int)) = false := by simpa using (by omega : (s.size : Int) ≤ 64)
        go_wp2_with fail
        refine (named_any s _ hs HH).mono ?_
        rintro e w2 ⟨rfl, rfl⟩
        rw [← HN.out, ← HF.out]
        cases fm
        · go_wp2_with fail
          go_ret
          exact ⟨ret_bool (by rw [HB.out]; rfl), hb1⟩
        · by_cases h1 : n = s.size
          · have d1 : ((n : Int) == (s.size : Int)) = true := by rw [beq_iff_eq]; omega
            have HE : Hid (nameB s.data.toList = true) := by show _ = _; rw [HB.out]; simp; omega
            clear h1
            go_wp2_with fail
            go_ret
            exact ⟨ret_bool (by rw [HE.out]), hb1⟩
          · have d1 : ((n : Int) == (s.size : Int)) = false := by rw [beq_eq_false_iff_ne]; omega
            have HE : Hid (nameB s.data.toList = false) := by show _ = _; rw [HB.out]; simp [h1]
            go_wp2_with fail
            go_ret
            exact ⟨ret_bool (by rw [HE.out]), hb1⟩
      · have d3 : decide ((64 : Int) < (s.size : Int)) = true := by simpa using (by omega : (64 : Int) < (s.size : Int))
        have HE : Hid (nameB s.data.toList = false) := by show _ = _; rw [HB.out]; simp [h64]
        go_wp2_with fail
        go_ret
        exact ⟨ret_bool (by rw [HE.out]), hb1⟩
    · have HE : Hid (nameB s.data.toList = false) := by show _ = _; rw [HB.out]; simp
      go_wp2_with fail
      go_ret
      exact ⟨ret_bool (by rw [HE.out]), hb1⟩
end Go.Proofs.YtjcldgogjgchiaaGreatDoor
