/-
  The contract of package cut's phpLen.
-/
import Derived.Test.YtjcldgogjgchiaaGreatDoorFold
namespace Go.Proofs.YtjcldgogjgchiaaGreatDoor
open Go Go.RowKit Cutting

theorem foldEq_low (b c : UInt8) (hc : c = 60 ∨ c = 63 ∨ c = 104 ∨ c = 112) : Lib.foldEq b c = (lowB b == c) := by
  have hb := b.toNat_lt
  rw [Bool.eq_iff_iff]
  simp only [Lib.foldEq, decide_eq_true_eq, beq_iff_eq, ← UInt8.toNat_inj]
  have e : (lowB b).toNat = if 65 ≤ b.toNat ∧ b.toNat ≤ 90 then b.toNat + 32 else b.toNat := by
    unfold lowB
    by_cases h : 65 ≤ b.toNat ∧ b.toNat ≤ 90
    · rw [if_pos h, if_pos (by simp [UInt8.le_iff_toNat_le, h.1, h.2]), UInt8.toNat_add]
      simp
      omega
    · rw [if_neg h, if_neg (by simpa [UInt8.le_iff_toNat_le] using h)]
  rw [e]
  rcases hc with rfl | rfl | rfl | rfl <;> simp <;> split <;> omega
def opener : List UInt8 := [60, 63, 112, 104, 112]
theorem equalFold_isPhp (l : List UInt8) (h : l.length = 5) : Lib.equalFold l [60, 63, 112, 104, 112] = isPhp l := by
  match l, h with
  | [a, b, c, d, e], _ =>
    simp only [Lib.equalFold, isPhp, foldEq_low _ _ (.inl rfl), foldEq_low _ 63 (.inr (.inl rfl)), foldEq_low _ 104 (.inr (.inr (.inl rfl))), foldEq_low _ 112 (.inr (.inr (.inr rfl)))]
    simp only [List.take_succ_cons, List.take_zero, List.map_cons, List.map_nil, Bool.and_true]
    rw [Bool.eq_iff_iff]
    simp
theorem low_high (b : UInt8) (h : 128 ≤ b.toNat) : lowB b = b := by
  unfold lowB
  rw [if_neg]
  simp [UInt8.le_iff_toNat_le]
  omega
theorem isPhp_high (l : List UInt8) (k : Nat) (b : UInt8) (hk : k < 5) (h : l[k]? = some b) (hb : 128 ≤ b.toNat) : isPhp l = false := by
  rw [isPhp, beq_eq_false_iff_ne]
  intro he
  have h1 : ((l.take 5).map lowB)[k]? = some b := by
    rw [List.getElem?_map, List.getElem?_take_of_lt hk, h]
    simp [low_high b hb]
  rw [he] at h1
  have hm := List.mem_of_getElem? h1
  simp at hm
  rcases hm with rfl | rfl | rfl | rfl | rfl <;> simp at hb

theorem fold5_any (s : ByteArray) (w : World) (h5 : s.size = 5) (hF : FoldTab w) :
    Calls Tryz.prog 61 #[.string s, .string ⟨#[60, 63, 112, 104, 112]⟩] w fun e w' => e = .returned (.bool (isPhp s.data.toList)) ∧ Below w.heap.size w w' := by
  have hl : s.data.toList.length = 5 := by rw [← Lib.size_eq]; exact h5
  by_cases hall : ∀ (j : Nat) b, s.data.toList[j]? = some b → b.toNat < 128
  · refine (Tryz.strings_EqualFold s _ w (by omega) hall ?_).mono ?_
    · intro j b hb
      have hm := List.mem_of_getElem? hb
      simp at hm
      rcases hm with rfl | rfl | rfl | rfl | rfl <;> decide
    · rintro e w' ⟨rfl, rfl⟩
      refine ⟨ret_bool ?_, Below.refl _ _⟩
      exact equalFold_isPhp _ hl
  · obtain ⟨k, hk, hh, hlow⟩ : ∃ (k : Nat) (hk : k < s.size), 128 ≤ (s[k].toNat : Int) ∧ ∀ j (h : j < s.size), j < k → (s[j].toNat : Int) < 128 := by
      have hex : ∃ (k : Nat), ∃ (hk : k < s.size), 128 ≤ (s[k].toNat : Int) := by
        false_or_by_contra
        rename_i hno
        apply hall
        intro j b hb
        false_or_by_contra
        rename_i hlt
        obtain ⟨hj, he⟩ := List.getElem?_eq_some_iff.1 hb
        have hj' : j < s.size := by rw [Lib.size_eq]; exact hj
        refine hno ⟨j, hj', ?_⟩
        have : s[j] = b := he
        rw [this]
        omega
      have hex2 : ∃ k, (∃ hk : k < s.size, 128 ≤ (s[k].toNat : Int)) ∧ ∀ j, j < k → ¬ (∃ hj : j < s.size, 128 ≤ (s[j].toNat : Int)) := by
        obtain ⟨k, hk⟩ := hex
        induction k using Nat.strongRecOn with
        | _ k ih =>
          by_cases hm : ∃ j, j < k ∧ ∃ hj : j < s.size, 128 ≤ (s[j].toNat : Int)
          · obtain ⟨j, hj, hj2⟩ := hm
            exact ih j hj hj2
          · exact ⟨k, hk, fun j hj hj2 => hm ⟨j, hj, hj2⟩⟩
      obtain ⟨k, ⟨hk, hh⟩, hmin⟩ := hex2
      refine ⟨k, hk, hh, fun j hj hjk => ?_⟩
      have := hmin j hjk
      false_or_by_contra
      exact this ⟨hj, by omega⟩
    have hphp : isPhp s.data.toList = false := isPhp_high _ k s[k] (by omega) (by rw [List.getElem?_eq_getElem (by rw [← Lib.size_eq]; exact hk)]; rfl) (by omega)
    have hT : ∀ j (h : j < (⟨#[60, 63, 112, 104, 112]⟩ : ByteArray).size), ((⟨#[60, 63, 112, 104, 112]⟩ : ByteArray)[j] = 60 ∨ (⟨#[60, 63, 112, 104, 112]⟩ : ByteArray)[j] = 63 ∨ (⟨#[60, 63, 112, 104, 112]⟩ : ByteArray)[j] = 104 ∨ (⟨#[60, 63, 112, 104, 112]⟩ : ByteArray)[j] = 112) := by
      intro j h
      have h5 : j < 5 := h
      match j, h5 with
      | 0, _ => exact .inl rfl
      | 1, _ => exact .inr (.inl rfl)
      | 2, _ => exact .inr (.inr (.inr rfl))
      | 3, _ => exact .inr (.inr (.inl rfl))
      | 4, _ => exact .inr (.inr (.inr rfl))
    have hks : k < (⟨#[60, 63, 112, 104, 112]⟩ : ByteArray).size := by show k < 5; omega
    refine (foldOdd_any s _ k w hk hks (by omega) (by show 5 ≤ 65536; omega) hh hlow ?_ (hT k hks) hF).mono ?_
    · intro j h
      rcases hT j h with e | e | e | e <;> rw [e] <;> decide
    · rintro e w' ⟨rfl, hb⟩
      exact ⟨ret_bool hphp.symm, hb⟩

theorem isPhp_short (l : List UInt8) (h : l.length < 5) : isPhp l = false := by
  rw [isPhp, beq_eq_false_iff_ne]
  intro he
  have h1 := congrArg List.length he
  rw [List.length_map, List.length_take] at h1
  simp at h1
  omega
theorem head5 (s : ByteArray) : (s.extract 0 5).data.toList = s.data.toList.take 5 := by rw [Lib.extract_data]; rfl
theorem isPhp_take (l : List UInt8) : isPhp (l.take 5) = isPhp l := by simp [isPhp, List.take_take]

theorem phpN_of (r : List UInt8) (b : UInt8) (t : List UInt8) (hp : isPhp r = true) (hd : r.drop 5 = b :: t) : phpN r = if Lib.hasPrefix (b :: t) [13, 10] then 7 else if blankB b then 6 else 0 := by
  simp only [phpN, hp, hd, if_true]
set_option maxHeartbeats 1000000 in
theorem phpLen_any (s : ByteArray) (w : World) (hs : s.size ≤ 4294967280) (hF : FoldTab w) :
    Calls Tryz.prog 48 #[.string s] w fun e w' => e = .returned (.int .i64 (phpN s.data.toList)) ∧ Below w.heap.size w w' := by
  by_cases h5 : s.size < 5
  · have hN : Hid (phpN s.data.toList = 0) := by show _ = _; rw [phpN, isPhp_short _ (by rw [← Lib.size_eq]; exact h5)]; rfl
    go_enter Tryz.func48, Tryz.ntmps48
    go_wp2_with fail
    go_ret
    exact ⟨ret_int (by rw [hN.out]; rfl), Below.refl _ _⟩
  · obtain ⟨H, hH⟩ : ∃ H, H = s.extract 0 5 := ⟨_, rfl⟩
    have hHs : H.size = 5 := by rw [hH]; simp; omega
    have hHp : isPhp H.data.toList = isPhp s.data.toList := by rw [hH, head5, isPhp_take]
    have HH := Lib.hid hH
    have HHs := Lib.hid hHs
    clear hH hHs
    cases hp : isPhp s.data.toList
    · have hN : Hid (phpN s.data.toList = 0) := by show _ = _; rw [phpN, hp]; rfl
      have HP : Hid (isPhp H.data.toList = false) := by show _ = _; rw [hHp, hp]
      clear hHp hp
      go_enter Tryz.func48, Tryz.ntmps48
      go_wp2_with fail
      rw [← HH.out]
      refine (fold5_any H _ HHs.out hF).mono ?_
      rintro e w1 ⟨rfl, hb1⟩
      rw [HP.out]
      go_wp2_with fail
      go_ret
      exact ⟨ret_int (by rw [hN.out]; rfl), hb1⟩
    · have HP : Hid (isPhp H.data.toList = true) := by show _ = _; rw [hHp, hp]
      have HPs := Lib.hid hp
      clear hHp hp
      obtain ⟨R, hR⟩ : ∃ R, R = s.extract 5 s.size := ⟨_, rfl⟩
      have hRl : R.data.toList = s.data.toList.drop 5 := by rw [hR, tail_list]
      have hRs : R.size = s.size - 5 := by rw [hR]; simp
      have HR := Lib.hid hR
      have HRl := Lib.hid hRl
      have HRs := Lib.hid hRs
      clear hR hRl hRs
      rcases Nat.eq_zero_or_pos R.size with h0 | h0
      · have hn := nil_of R h0
        have hn' : (s.extract 5 s.size).toList = [] := by rw [← HR.out, Lib.toList_data]; exact hn
        have hN : Hid (phpN s.data.toList = 5) := by show _ = _; rw [phpN, HPs.out, ← HRl.out, hn]; rfl
        clear hn h0
        go_enter Tryz.func48, Tryz.ntmps48
        go_wp2_with fail
        rw [← HH.out]
        refine (fold5_any H _ HHs.out hF).mono ?_
        rintro e w1 ⟨rfl, hb1⟩
        rw [HP.out]
        go_wp2_with fail
        go_ret
        exact ⟨ret_int (by rw [hN.out]; rfl), hb1⟩
      · have he' := isEmpty_of R h0
        have he : (s.extract 5 s.size).toList.isEmpty = false := by rw [← HR.out]; exact he'
        clear he'
        have hen : (s.extract 5 s.size).toList ≠ [] := fun h => by rw [h] at he; cases he
        have hd := drop_at R 0 h0
        rw [List.drop_zero] at hd
        have HD := Lib.hid hd
        clear hd
        cases hc : Lib.hasPrefix R.data.toList [13, 10]
        · have HC := Lib.hid hc
          have HC2 : Hid (Lib.hasPrefix (R[0] :: R.data.toList.drop (0 + 1)) [13, 10] = false) := by show _ = _; rw [← HD.out]; exact hc
          clear hc
          cases hbl : blankB R[0]
          · have hN : Hid (phpN s.data.toList = 0) := by show _ = _; rw [phpN_of _ _ _ HPs.out (HRl.out.symm.trans HD.out), HC2.out, hbl]; rfl
            go_enter Tryz.func48, Tryz.ntmps48
            go_wp2_with fail
            rw [← HH.out]
            refine (fold5_any H _ HHs.out hF).mono ?_
            rintro e w1 ⟨rfl, hb1⟩
            rw [HP.out]
            go_wp2_with fail
            rw [← HR.out]
            refine (hasPrefix_b _ _ false _ (by exact HC.out)).mono ?_
            rintro e w' ⟨rfl, rfl⟩
            go_wp2_with fail
            refine (isBlank_any _ _).mono ?_
            rintro e w' ⟨rfl, rfl⟩
            rw [hbl]
            go_wp2_with fail
            go_ret
            exact ⟨ret_int (by rw [hN.out]; rfl), hb1⟩
          · have hN : Hid (phpN s.data.toList = 6) := by show _ = _; rw [phpN_of _ _ _ HPs.out (HRl.out.symm.trans HD.out), HC2.out, hbl]; rfl
            go_enter Tryz.func48, Tryz.ntmps48
            go_wp2_with fail
            rw [← HH.out]
            refine (fold5_any H _ HHs.out hF).mono ?_
            rintro e w1 ⟨rfl, hb1⟩
            rw [HP.out]
            go_wp2_with fail
            rw [← HR.out]
            refine (hasPrefix_b _ _ false _ (by exact HC.out)).mono ?_
            rintro e w' ⟨rfl, rfl⟩
            go_wp2_with fail
            refine (isBlank_any _ _).mono ?_
            rintro e w' ⟨rfl, rfl⟩
            rw [hbl]
            go_wp2_with fail
            go_ret
            exact ⟨ret_int (by rw [hN.out]; rfl), hb1⟩
        · have HC := Lib.hid hc
          have HC2 : Hid (Lib.hasPrefix (R[0] :: R.data.toList.drop (0 + 1)) [13, 10] = true) := by show _ = _; rw [← HD.out]; exact hc
          clear hc
          have hN : Hid (phpN s.data.toList = 7) := by show _ = _; rw [phpN_of _ _ _ HPs.out (HRl.out.symm.trans HD.out), HC2.out]; rfl
          go_enter Tryz.func48, Tryz.ntmps48
          go_wp2_with fail
          rw [← HH.out]
          refine (fold5_any H _ HHs.out hF).mono ?_
          rintro e w1 ⟨rfl, hb1⟩
          rw [HP.out]
          go_wp2_with fail
          rw [← HR.out]
          refine (hasPrefix_b _ _ true _ (by exact HC.out)).mono ?_
          rintro e w' ⟨rfl, rfl⟩
          go_wp2_with fail
          go_ret
          exact ⟨ret_int (by rw [hN.out]; rfl), hb1⟩
end Go.Proofs.YtjcldgogjgchiaaGreatDoor
