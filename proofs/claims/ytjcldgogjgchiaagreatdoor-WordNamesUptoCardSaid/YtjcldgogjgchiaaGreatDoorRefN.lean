/-
  The document's answer on names (ostlerref02) against it.
-/
import Derived.Test.YtjcldgogjgchiaaGreatDoorName
import Derived.Test.YtjcldgogjgchiaaGreatDoorRefA
namespace Go.Proofs.YtjcldgogjgchiaaGreatDoor
open Go Go.RowKit Cutting Wording

/-- What stands from a place on where a word is looked for. -/
def wantN (s : L) (k : Nat) : Nat × Bool := if wordN (s.drop k) = 0 then (k - 1, false) else (k + wordN (s.drop k) + (moreN (s.drop (k + wordN (s.drop k)))).1, (moreN (s.drop (k + wordN (s.drop k)))).2)
theorem wantN_end (s : L) (k : Nat) (h : wordN (s.drop k) ≠ 0) (hp : Lib.hasPrefix (s.drop (k + wordN (s.drop k))) [92] = false) : wantN s k = (k + wordN (s.drop k), true) := by
  rw [wantN, if_neg h, moreN_none _ hp]; rfl
theorem wantN_go (s : L) (k : Nat) (h : wordN (s.drop k) ≠ 0) (hp : Lib.hasPrefix (s.drop (k + wordN (s.drop k))) [92] = true) : wantN s k = wantN s (k + wordN (s.drop k) + 1) := by
  rw [wantN, if_neg h]
  conv => rhs; rw [wantN]
  have e1 : (s.drop (k + wordN (s.drop k))).drop 1 = s.drop (k + wordN (s.drop k) + 1) := by rw [List.drop_drop]
  by_cases h0 : wordN (s.drop (k + wordN (s.drop k) + 1)) = 0
  · rw [moreN_bad _ hp (by rw [e1]; exact h0), if_pos h0]; simp
  · rw [moreN_go _ hp (by rw [e1]; exact h0), if_neg h0, e1, List.drop_drop]
    simp only [Prod.mk.injEq]
    rw [show k + wordN (s.drop k) + (1 + wordN (s.drop (k + wordN (s.drop k) + 1))) = k + wordN (s.drop k) + 1 + wordN (s.drop (k + wordN (s.drop k) + 1)) by omega]
    exact ⟨by omega, rfl⟩
theorem nameN_want0 (s : L) (h : wordN s ≠ 0) : nameN s = wantN s 0 := by
  rw [wantN, List.drop_zero, if_neg h, nameN, Nat.zero_add]
theorem nameN_want1 (s : L) (h : Lib.hasPrefix s [92] = true) : nameN s = wantN s 1 := by
  have hw : wordN s = 0 := by
    obtain ⟨t, ht⟩ := List.isPrefixOf_iff_prefix.1 h
    rw [← ht]; simp [wordN, wordB, digB]
  rw [nameN, hw, List.drop_zero]
  by_cases h0 : wordN (s.drop 1) = 0
  · rw [moreN_bad _ h h0, wantN, if_pos h0]; rfl
  · rw [moreN_go _ h h0, wantN, if_neg h0]
    simp only [Prod.mk.injEq]
    exact ⟨by omega, trivial⟩
theorem named_ret {s : L} {k : Nat} {b : Bool} {z : Int} {c : Bool} (h : nameN s = (k, b)) (hz : z = k) (hc : c = !b) : Ending.returned (.tuple #[.int .i64 z, .bool c]) = .returned (.tuple #[.int .i64 (nameN s).1, .bool (!(nameN s).2)]) := by
  rw [h, hz, hc]
set_option maxHeartbeats 2000000 in
theorem named_any (s : ByteArray) (w : World) (hs : s.size ≤ 1073741820) (hh : Lib.hasPrefix s.data.toList [92] = true ∨ (Lib.hasPrefix s.data.toList [92] = false ∧ wordN s.data.toList ≠ 0)) :
    Calls Tryz.prog 21 #[.string s, .int .i64 0] w fun e w' => e = .returned (.tuple #[.int .i64 (nameN s.data.toList).1, .bool (!(nameN s.data.toList).2)]) ∧ w = w' := by
  have hW : ∀ k : Nat, wordN (s.data.toList.drop k) ≤ s.size - k := fun k => by have := wordN_le (s.data.toList.drop k); rw [List.length_drop, ← Lib.size_eq] at this; exact this
  have HW := Lib.hid hW
  clear hW
  go_enter Tryz.func21, Tryz.ntmps21
  go_wp2_with fail
  obtain ⟨b0, hb0⟩ : ∃ b, b = Lib.hasPrefix s.data.toList [92] := ⟨_, rfl⟩
  refine (At_b s ⟨#[92]⟩ 0 b0 _ (by omega) (by omega) (by omega) (by decide) (.inl (by decide)) (by rw [hb0]; rfl)).mono ?_
  rintro e w' ⟨rfl, rfl⟩
  cases b0
  · have hh0 : wordN s.data.toList ≠ 0 := by
      rcases hh with h | h
      · rw [← hb0] at h; cases h
      · exact h.2
    have HS : Hid (nameN s.data.toList = wantN s.data.toList 0) := nameN_want0 _ hh0
    have HZ := Lib.hid hh0
    clear hh hh0 hb0
    go_wp2_with fail
    go_loop [6] (fun m => ∃ k : Nat, m = .int .i64 k ∧ k ≤ s.size ∧ Hid (nameN s.data.toList = wantN s.data.toList k) ∧ Hid (k = 0 → wordN s.data.toList ≠ 0)) (fun m => s.size - (intOf m).toNat)
    case atStart => exact ⟨0, rfl, Nat.zero_le _, HS, fun _ => HZ.out⟩
    case round =>
      obtain ⟨k, rfl, hk, hrel, hz⟩ := hrel
      obtain ⟨n, hn⟩ : ∃ n, n = wordN (s.data.toList.drop k) := ⟨_, rfl⟩
      have hnl : n ≤ s.size - k := by rw [hn]; exact HW.out k
      go_wp2_with fail
      refine (Word_any s k _ (by omega) (by omega) (by omega)).mono ?_
      rintro e w' ⟨rfl, rfl⟩
      rw [Int.toNat_natCast, ← hn]
      by_cases h0 : n = 0
      · have hk1 : 1 ≤ k := by
          rcases Nat.eq_zero_or_pos k with hk0 | hk0
          · exfalso; refine hz.out hk0 ?_; rw [hk0, List.drop_zero] at hn; rw [← hn, h0]
          · exact hk0
        have HE : Hid (nameN s.data.toList = (k - 1, false)) := by show _ = _; rw [hrel.out, wantN, if_pos (by rw [← hn, h0])]
        subst h0
        clear hn
        go_wp2_with fail
        go_ret2
        exact ⟨named_ret HE.out (by omega) rfl, rfl⟩
      · obtain ⟨b, hb⟩ : ∃ b, b = Lib.hasPrefix (s.data.toList.drop (k + n)) [92] := ⟨_, rfl⟩
        have hn0 : ((n : Int) == 0) = false := by rw [beq_eq_false_iff_ne]; omega
        have HE : b = false → Hid (nameN s.data.toList = (k + n, true)) := fun h => by
          show _ = _
          rw [hrel.out, wantN_end _ _ (by rw [← hn]; exact h0) (by rw [← hn, ← hb, h]), ← hn]
        have HG : b = true → Hid (nameN s.data.toList = wantN s.data.toList (k + n + 1)) := fun h => by
          show _ = _
          rw [hrel.out, wantN_go _ _ (by rw [← hn]; exact h0) (by rw [← hn, ← hb, h]), ← hn]
        have HL : b = true → k + n + 1 ≤ s.size := fun h => by
          have := hasPrefix_length (by rw [← hb, h] : Lib.hasPrefix (s.data.toList.drop (k + n)) [92] = true)
          rw [List.length_drop, ← Lib.size_eq] at this
          simp only [List.length_cons, List.length_nil] at this
          omega
        have HB := Lib.hid hb
        clear hn hb
        go_wp2_with fail
        refine (At_b s ⟨#[92]⟩ ((k : Int) + (n : Int)) b _ (by omega) (by omega) (by omega) (by decide) (.inl (by decide)) (by rw [HB.out, show ((k : Int) + (n : Int)).toNat = k + n by omega])).mono ?_
        rintro e w' ⟨rfl, rfl⟩
        cases b
        · have HE' := HE rfl
          clear HE HG HL
          go_wp2_with fail
          go_ret2
          exact ⟨named_ret HE'.out (by omega) rfl, rfl⟩
        · have HG' := HG rfl
          have HL' := HL rfl
          clear HE HG HL
          go_wp2_with fail
          go_round
          case rel => exact ⟨k + n + 1, by go_num, HL', HG', fun h => by omega⟩
          case measure => simp [intOf]; omega
  · have HS : Hid (nameN s.data.toList = wantN s.data.toList 1) := nameN_want1 _ hb0.symm
    have hl1 : 1 ≤ s.size := by
      have := hasPrefix_length hb0.symm
      rw [← Lib.size_eq] at this
      exact this
    clear hh hb0
    go_wp2_with fail
    go_loop [6] (fun m => ∃ k : Nat, m = .int .i64 k ∧ k ≤ s.size ∧ Hid (nameN s.data.toList = wantN s.data.toList k) ∧ Hid (k = 0 → wordN s.data.toList ≠ 0)) (fun m => s.size - (intOf m).toNat)
    case atStart => exact ⟨1, rfl, hl1, HS, fun h => by omega⟩
    case round =>
      obtain ⟨k, rfl, hk, hrel, hz⟩ := hrel
      obtain ⟨n, hn⟩ : ∃ n, n = wordN (s.data.toList.drop k) := ⟨_, rfl⟩
      have hnl : n ≤ s.size - k := by rw [hn]; exact HW.out k
      go_wp2_with fail
      refine (Word_any s k _ (by omega) (by omega) (by omega)).mono ?_
      rintro e w' ⟨rfl, rfl⟩
      rw [Int.toNat_natCast, ← hn]
      by_cases h0 : n = 0
      · have hk1 : 1 ≤ k := by
          rcases Nat.eq_zero_or_pos k with hk0 | hk0
          · exfalso; refine hz.out hk0 ?_; rw [hk0, List.drop_zero] at hn; rw [← hn, h0]
          · exact hk0
        have HE : Hid (nameN s.data.toList = (k - 1, false)) := by show _ = _; rw [hrel.out, wantN, if_pos (by rw [← hn, h0])]
        subst h0
        clear hn
        go_wp2_with fail
        go_ret2
        exact ⟨named_ret HE.out (by omega) rfl, rfl⟩
      · obtain ⟨b, hb⟩ : ∃ b, b = Lib.hasPrefix (s.data.toList.drop (k + n)) [92] := ⟨_, rfl⟩
        have hn0 : ((n : Int) == 0) = false := by rw [beq_eq_false_iff_ne]; omega
        have HE : b = false → Hid (nameN s.data.toList = (k + n, true)) := fun h => by
          show _ = _
          rw [hrel.out, wantN_end _ _ (by rw [← hn]; exact h0) (by rw [← hn, ← hb, h]), ← hn]
        have HG : b = true → Hid (nameN s.data.toList = wantN s.data.toList (k + n + 1)) := fun h => by
          show _ = _
          rw [hrel.out, wantN_go _ _ (by rw [← hn]; exact h0) (by rw [← hn, ← hb, h]), ← hn]
        have HL : b = true → k + n + 1 ≤ s.size := fun h => by
          have := hasPrefix_length (by rw [← hb, h] : Lib.hasPrefix (s.data.toList.drop (k + n)) [92] = true)
          rw [List.length_drop, ← Lib.size_eq] at this
          simp only [List.length_cons, List.length_nil] at this
          omega
        have HB := Lib.hid hb
        clear hn hb
        go_wp2_with fail
        refine (At_b s ⟨#[92]⟩ ((k : Int) + (n : Int)) b _ (by omega) (by omega) (by omega) (by decide) (.inl (by decide)) (by rw [HB.out, show ((k : Int) + (n : Int)).toNat = k + n by omega])).mono ?_
        rintro e w' ⟨rfl, rfl⟩
        cases b
        · have HE' := HE rfl
          clear HE HG HL
          go_wp2_with fail
          go_ret2
          exact ⟨named_ret HE'.out (by omega) rfl, rfl⟩
        · have HG' := HG rfl
          have HL' := HL rfl
          clear HE HG HL
          go_wp2_with fail
          go_round
          case rel => exact ⟨k + n + 1, by go_num, HL', HG', fun h => by omega⟩
          case measure => simp [intOf]; omega
end Go.Proofs.YtjcldgogjgchiaaGreatDoor
