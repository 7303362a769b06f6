/-
  Contracts of package word's small, Key, signLen and Name.
-/
import Derived.Test.YtjcldgogjgchiaaGreatDoorGaps
namespace Go.Proofs.YtjcldgogjgchiaaGreatDoor
open Go Go.RowKit Cutting Wording

/- ---- letters made small, rune by rune -/
def lowZ (z : Int) : Int := if 65 ≤ z ∧ z ≤ 90 then z + 32 else z
theorem decodeL_low (b : UInt8) (r : L) (h : b.toNat < 128) : Lib.decodeL (b :: r) = (b.toNat, 1) := by
  rw [Lib.decodeL_N]
  unfold Lib.decodeN
  simp only [List.getD_cons_zero]
  rw [if_pos h]
theorem decodeL_high (b : UInt8) (r : L) (h : 128 ≤ b.toNat) : 128 ≤ (Lib.decodeL (b :: r)).1 := by
  rw [Lib.decodeL_N]
  simp only [List.getD_cons_zero]
  rcases Lib.decodeN_shape (b :: r).length b.toNat ((b :: r).getD 1 0).toNat ((b :: r).getD 2 0).toNat ((b :: r).getD 3 0).toNat with ⟨c, e⟩ | ⟨c1, c2, c3, cv, e⟩ | ⟨c1, c2, c3, c4, cv, cs, e⟩ | ⟨c1, c2, c3, c4, c5, cv, cw, e⟩ | e
  · omega
  all_goals (rw [e]; dsimp only; omega)
theorem lowZ_b (b : UInt8) : lowZ (b.toNat : Int) = ((low b).toNat : Int) := by
  have := b.toNat_lt
  unfold lowZ low
  by_cases h : 65 ≤ b && b ≤ 90
  · have h2 := h
    simp only [Bool.and_eq_true, decide_eq_true_eq, UInt8.le_iff_toNat_le] at h2
    have e1 : (65 : UInt8).toNat = 65 := rfl
    have e2 : (90 : UInt8).toNat = 90 := rfl
    rw [if_pos (by omega), if_pos h, UInt8.toNat_add]
    have e3 : (32 : UInt8).toNat = 32 := rfl
    omega
  · have h2 := h
    simp only [Bool.and_eq_true, decide_eq_true_eq, UInt8.le_iff_toNat_le] at h2
    have e1 : (65 : UInt8).toNat = 65 := rfl
    have e2 : (90 : UInt8).toNat = 90 := rfl
    rw [if_neg (by omega), if_neg h]
theorem low_lt (b : UInt8) (h : b.toNat < 128) : (low b).toNat < 128 := by
  have h2 := lowZ_b b
  unfold lowZ at h2
  split at h2 <;> omega
theorem low_ge (b : UInt8) (h : 128 ≤ b.toNat) : 128 ≤ (low b).toNat := by
  have h2 := lowZ_b b
  unfold lowZ at h2
  split at h2 <;> omega
theorem encode_low (b : UInt8) (h : b.toNat < 128) : Lib.encodeRune (lowZ (b.toNat : Int)) = [low b] := by
  have := low_lt b h
  rw [lowZ_b, Lib.encodeRune, Lib.encodeRuneZ_one (by omega) (by omega)]
  simp
theorem encode_high (z : Int) (h : 128 ≤ z) : ∃ b ∈ Lib.encodeRune z, 128 ≤ b.toNat := by
  have key : ∀ x : Int, 128 ≤ x → x < 256 → 128 ≤ (x.toNat.toUInt8).toNat := by
    intro x h1 h2
    rw [Nat.toUInt8, UInt8.toNat_ofNat']
    omega
  have hb := Lib.encodeRuneZ_byte z
  have : ∃ x ∈ Lib.encodeRuneZ z, 128 ≤ x := by
    unfold Lib.encodeRuneZ
    rw [if_neg (by omega)]
    split
    · exact ⟨192 + z / 64, by simp, by omega⟩
    · split
      · exact ⟨224 + z / 4096, by simp, by omega⟩
      · split
        · exact ⟨240 + z / 262144, by simp, by omega⟩
        · exact ⟨239, by simp, by omega⟩
  obtain ⟨x, hx, hx2⟩ := this
  exact ⟨x.toNat.toUInt8, List.mem_map.2 ⟨x, hx, rfl⟩, key x hx2 (hb x hx).2⟩
theorem mapD_low (s : L) (h : ∀ b ∈ s, b.toNat < 128) : Lib.mapD lowZ s = s.map low := by
  induction s with
  | nil => rfl
  | cons b r ih =>
    have hb := h b (by simp)
    have h2 := low_lt b hb
    rw [Lib.mapD_step _ _ (by simp), decodeL_low b r hb]
    dsimp only
    rw [if_pos (by rw [lowZ_b]; omega), encode_low b hb, List.drop_succ_cons, List.drop_zero, ih (fun c hc => h c (by simp [hc]))]
    rfl
theorem mapD_ascii (s : L) (h : ∀ b ∈ Lib.mapD lowZ s, b.toNat < 128) : ∀ b ∈ s, b.toNat < 128 := by
  induction s with
  | nil => intro b hb; cases hb
  | cons b r ih =>
    rcases Nat.lt_or_ge b.toNat 128 with hb | hb
    · have h2 := low_lt b hb
      rw [Lib.mapD_step _ _ (by simp), decodeL_low b r hb] at h
      dsimp only at h
      rw [List.drop_succ_cons, List.drop_zero] at h
      intro c hc
      rcases List.mem_cons.1 hc with rfl | hc
      · exact hb
      · exact ih (fun c hc => h c (List.mem_append_right _ hc)) c hc
    · have hr := decodeL_high b r hb
      have hz : 128 ≤ lowZ ((Lib.decodeL (b :: r)).1 : Int) := by unfold lowZ; split <;> omega
      obtain ⟨x, hx, hx2⟩ := encode_high _ hz
      rw [Lib.mapD_step _ _ (by simp), if_pos (by omega)] at h
      have := h x (List.mem_append_left _ hx)
      omega
theorem key_ascii : ∀ c ∈ keysL, ∀ b ∈ c, b.toNat < 128 := by decide
theorem isKey_map (s : L) : isKeyB (Lib.mapD lowZ s) = keyB s := by
  by_cases h : ∀ b ∈ s, b.toNat < 128
  · rw [mapD_low s h]; rfl
  · have h1 : isKeyB (Lib.mapD lowZ s) = false := by
      rw [← Bool.not_eq_true]
      intro hk
      exact h (mapD_ascii s (key_ascii _ (List.contains_iff_mem.1 hk)))
    have h2 : keyB s = false := by
      rw [← Bool.not_eq_true]
      intro hk
      refine h fun b hb => ?_
      have := key_ascii _ (List.contains_iff_mem.1 hk) (low b) (List.mem_map.2 ⟨b, hb, rfl⟩)
      rcases Nat.lt_or_ge b.toNat 128 with h | h
      · exact h
      · have := low_ge b h; omega
    rw [h1, h2]

theorem smallRune_any (z : Int) (w : World) (h0 : 0 ≤ z) (h1 : z ≤ 1114111) :
    Calls Tryz.prog 25 #[.int .i32 z] w fun e w' => e = .returned (.int .i32 (lowZ z)) ∧ w = w' := by
  by_cases h : 65 ≤ z ∧ z ≤ 90
  · obtain ⟨ha, hb⟩ := h
    have HL : Hid (lowZ z = z + 32) := by show _ = _; rw [lowZ, if_pos ⟨ha, hb⟩]
    go_enter Tryz.func25, Tryz.ntmps25
    go_wp2_with fail
    go_ret
    exact ⟨ret_int (by rw [HL.out]; omega), rfl⟩
  · have HL : Hid (lowZ z = z) := by show _ = _; rw [lowZ, if_neg h]
    have hc : z < 65 ∨ 90 < z := by omega
    clear h
    rcases hc with hc | hc
    all_goals
      go_enter Tryz.func25, Tryz.ntmps25
      go_wp2_with fail
      go_ret
      exact ⟨ret_int (by rw [HL.out]), rfl⟩
abbrev Tabs (w : World) : Prop := Lib.Utf8Tabs 0 1 w
theorem small_any (s : ByteArray) (w : World) (hs : s.size ≤ 4294967280) (hT : Tabs w) :
    Calls Tryz.prog 15 #[.string s] w fun e w' => e = .returned (.string ⟨(Lib.mapD lowZ s.data.toList).toArray⟩) ∧ Below w.heap.size w w' := by
  have hf : MapAtRunes Tryz.prog 25 #[] lowZ w := by
    intro W x hx hb
    refine (smallRune_any x W (by omega) (by omega)).mono ?_
    rintro e w' ⟨rfl, rfl⟩
    exact ⟨rfl, 0, rfl⟩
  have hnn : ∀ x : Nat, x ≤ 1114111 → 0 ≤ lowZ x ∧ lowZ x ≤ 2147483647 := by
    intro x hx; unfold lowZ; split <;> omega
  have hC := Tryz.strings_Map_runes 25 #[] (enters_of Tryz.func25 (by kernel_rfl) rfl) lowZ s w (by omega) hf hnn hT
  have HC : Hid (Calls Tryz.prog 24 #[.func (.func 25) #[] #[], .string s] w fun e w' => e = .returned (.string ⟨(Lib.mapD lowZ s.data.toList).toArray⟩) ∧ Below w.heap.size w w') := hC
  clear hC hf hnn
  go_enter Tryz.func15, Tryz.ntmps15
  go_wp2_with fail
  refine (HC.out).mono ?_
  rintro e w' ⟨rfl, hb⟩
  go_wp2_with fail
  go_ret
  exact ⟨rfl, hb⟩
theorem Key_any (s : ByteArray) (w : World) (hs : s.size ≤ 4294967280) (hT : Tabs w) :
    Calls Tryz.prog 7 #[.string s] w fun e w' => e = .returned (.bool (keyB s.data.toList)) ∧ Below w.heap.size w w' := by
  have HK := Lib.hid (isKey_map s.data.toList)
  go_enter Tryz.func7, Tryz.ntmps7
  go_wp2_with fail
  refine (small_any s _ hs hT).mono ?_
  rintro e w' ⟨rfl, hb⟩
  go_wp2_with fail
  refine (isKeyword_any _ _).mono ?_
  rintro e w1 ⟨rfl, rfl⟩
  go_wp2_with fail
  go_ret
  exact ⟨ret_bool HK.out, hb⟩
end Go.Proofs.YtjcldgogjgchiaaGreatDoor
