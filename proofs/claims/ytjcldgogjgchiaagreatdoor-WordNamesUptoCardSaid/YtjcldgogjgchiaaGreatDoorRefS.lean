/-
  The document's answer on small letters (ostlerref02.small).
-/
import Derived.Test.YtjcldgogjgchiaaGreatDoorLower
import Derived.Laws.IdiomStrings
namespace Go.Proofs.YtjcldgogjgchiaaGreatDoor
open Go Go.RowKit Cutting Wording

/-- A row of bytes, of which the first k have been made small. -/
structure LowRow (R : Nat) (w wr : World) (s : ByteArray) (k : Nat) : Prop where
  cell : ∀ j (hj : j < s.size), wr.cell? ⟨R, j, none⟩ = some (.int .u8 ((if j < k then low s[j] else s[j]).toNat : Int))
  free : ∀ j, j < s.size → wr.frozen? ⟨R, j, none⟩ = false
  below : Below R w wr
  size : w.heap.size = R
theorem LowRow.start (w : World) (s : ByteArray) (cap : Nat) (e : TypeId) : LowRow w.heap.size w (w.drew.alloc (.cells (bytesRow s cap) e ((bytesRow s cap).size, (bytesRow s cap).size + 1))) s 0 := by
  have hsz : s.size ≤ (bytesRow s cap).size := by
    unfold bytesRow
    rw [Array.size_append, Array.size_map]
    have : s.size = s.data.size := rfl
    omega
  refine ⟨fun j hj => ?_, fun j hj => ?_, ((Below.refl _ _).drew).alloc (Nat.le_refl _) _, rfl⟩
  · have := World.cell?_alloc_mark w.drew (bytesRow s cap) e ((bytesRow s cap).size, (bytesRow s cap).size + 1) j
    rw [bytesRow_at s cap j hj] at this
    rw [if_neg (Nat.not_lt_zero _)]
    exact this
  · have := World.frozen?_alloc_mark w.drew (bytesRow s cap) e (bytesRow s cap).size ((bytesRow s cap).size + 1) j
    rw [decide_eq_false (by omega), Bool.false_and] at this
    exact this
theorem LowRow.skip {R : Nat} {w wr : World} {s : ByteArray} {k : Nat} (h : LowRow R w wr s k) (hk : k < s.size) (hl : low s[k] = s[k]) : LowRow R w wr s (k + 1) := by
  refine ⟨fun j hj => ?_, h.free, h.below, h.size⟩
  rw [h.cell j hj]
  by_cases hjk : j = k
  · subst hjk; rw [if_neg (Nat.lt_irrefl _), if_pos (Nat.lt_succ_self _), hl]
  · by_cases h2 : j < k
    · rw [if_pos h2, if_pos (by omega)]
    · rw [if_neg h2, if_neg (by omega)]
theorem LowRow.put {R : Nat} {w wr : World} {s : ByteArray} {k : Nat} (h : LowRow R w wr s k) (hk : k < s.size) {z : Int} (hz : z = ((low s[k]).toNat : Int)) : LowRow R w (wr.setCell ⟨R, k, none⟩ (.int .u8 z)) s (k + 1) := by
  refine ⟨fun j hj => ?_, fun j hj => ?_, h.below.setCell (Nat.le_refl _) _, h.size⟩
  · by_cases hjk : j = k
    · subst hjk
      rw [World.cell?_setCell_same wr _ _ (h.cell j hj), hz, if_pos (Nat.lt_succ_self _)]
    · rw [World.cell?_setCell_other wr _ _ _ (by intro e; injection e with _ e2 _; omega), h.cell j hj]
      by_cases h2 : j < k
      · rw [if_pos h2, if_pos (by omega)]
      · rw [if_neg h2, if_neg (by omega)]
  · rw [World.frozen?_setCell]; exact h.free j hj
theorem low_int {b : UInt8} (h1 : 65 ≤ b.toNat) (h2 : b.toNat ≤ 90) : ((low b).toNat : Int) = (b.toNat : Int) + 32 := by
  rw [← lowZ_b, lowZ, if_pos (by omega)]
theorem low_no {b : UInt8} (h : b.toNat < 65 ∨ 90 < b.toNat) : low b = b := by
  have h1 := lowZ_b b
  rw [lowZ, if_neg (by omega)] at h1
  exact (UInt8.toNat_inj.1 (by omega)).symm
set_option maxRecDepth 1000000 in
set_option maxHeartbeats 2000000 in
theorem rsmall_any (s : ByteArray) (w : World) (hs : s.size ≤ 1073741820) :
    Calls Tryz.prog 16 #[.string s] w fun e w' => e = .returned (.string ⟨(s.data.toList.map low).toArray⟩) ∧ Below w.heap.size w w' := by
  have hconv := run_bytes_of_string (P := Tryz.prog) w 9 55 5 s rfl rfl rfl
  obtain ⟨cap, hcap⟩ : ∃ c, c = grownCap w s.size 0 5 := ⟨_, rfl⟩
  have hle : s.size ≤ cap := by rw [hcap]; exact grownCap_ge _ _ _ _
  rw [← hcap] at hconv
  have hrow := LowRow.start w s cap 5
  obtain ⟨W0, hW0⟩ : ∃ W, W = w.drew.alloc (.cells (bytesRow s cap) 5 ((bytesRow s cap).size, (bytesRow s cap).size + 1)) := ⟨_, rfl⟩
  obtain ⟨R, hR⟩ : ∃ R, R = w.heap.size := ⟨_, rfl⟩
  rw [← hW0, ← hR] at hconv
  rw [← hW0, ← hR] at hrow
  rw [← hR]
  have HW0 := Lib.hid hW0
  have HR := Lib.hid hR
  have HC := Lib.hid hcap
  clear hW0 hR hcap
  go_enter Tryz.func16, Tryz.ntmps16
  go_wp2_with fail
  go_loopw [4] (fun m wr => ∃ k : Nat, m = .int .i64 k ∧ k ≤ s.size ∧ Hid (LowRow R w wr s k)) (fun m wr => s.size - (intOf m).toNat)
  case atStart => exact ⟨0, rfl, Nat.zero_le _, hrow⟩
  case round =>
    obtain ⟨k, rfl, hk, hrel⟩ := hrel
    by_cases hlt : k < s.size
    · have hc := hrel.out.cell k hlt
      rw [if_neg (Nat.lt_irrefl _)] at hc
      have hf := hrel.out.free k hlt
      have h8 : s[k].toNat < 256 := s[k].toNat_lt
      have hcase : (65 ≤ s[k].toNat ∧ s[k].toNat ≤ 90) ∨ s[k].toNat < 65 ∨ (65 ≤ s[k].toNat ∧ 90 < s[k].toNat) := by omega
      rcases hcase with ⟨h1, h2⟩ | h1 | ⟨h1, h2⟩
      · have HP : Hid (LowRow R w (wr.setCell ⟨R, k, none⟩ (.int .u8 ((s[k].toNat : Int) + 32))) s (k + 1)) := hrel.out.put hlt (low_int h1 h2).symm
        obtain ⟨b, hb⟩ : ∃ b, b = s[k].toNat := ⟨_, rfl⟩
        rw [← hb] at hc HP h1 h2 h8
        have d1 : decide ((65 : Int) ≤ (b : Int)) = true := by simpa using (by omega : (65 : Int) ≤ b)
        have d2 : decide ((b : Int) ≤ 90) = true := by simpa using (by omega : (b : Int) ≤ 90)
        have hwr : IntKind.u8.wrap ((b : Int) + 32) = (b : Int) + 32 := IntWalk.u8_in _ ⟨by omega, by omega⟩
        clear hb
        go_wp2_with fail
        exact ⟨⟨k + 1, rfl, by omega, HP.out⟩, by simp [intOf]; omega⟩
      · have HP : Hid (LowRow R w wr s (k + 1)) := hrel.out.skip hlt (low_no (.inl h1))
        obtain ⟨b, hb⟩ : ∃ b, b = s[k].toNat := ⟨_, rfl⟩
        rw [← hb] at hc h1 h8
        have d1 : decide ((65 : Int) ≤ (b : Int)) = false := by simpa using (by omega : (b : Int) < 65)
        clear hb
        go_wp2_with fail
        exact ⟨⟨k + 1, rfl, by omega, HP.out⟩, by simp [intOf]; omega⟩
      · have HP : Hid (LowRow R w wr s (k + 1)) := hrel.out.skip hlt (low_no (.inr h2))
        obtain ⟨b, hb⟩ : ∃ b, b = s[k].toNat := ⟨_, rfl⟩
        rw [← hb] at hc h1 h2 h8
        have d1 : decide ((65 : Int) ≤ (b : Int)) = true := by simpa using (by omega : (65 : Int) ≤ b)
        have d2 : decide ((b : Int) ≤ 90) = false := by simpa using (by omega : (90 : Int) < b)
        clear hb
        go_wp2_with fail
        exact ⟨⟨k + 1, rfl, by omega, HP.out⟩, by simp [intOf]; omega⟩
    · have hks : k = s.size := by omega
      subst hks
      have hL : (s.data.toList.map low).length = s.size := by rw [List.length_map, ← Lib.size_eq]
      have hback := run_convert_bytes_back (P := Tryz.prog) wr 55 9 5 ⟨R, 0, none⟩ cap (s.data.toList.map low) rfl rfl rfl (fun j hj => by
        have hj2 : j < s.size := by omega
        have h := hrel.out.cell j hj2
        rw [if_pos hj2] at h
        rw [Addr.add_lit, Nat.zero_add, h]
        simp
        rfl)
      rw [hL] at hback
      have hbl := hrel.out.below
      go_wp2_with fail
      go_ret
      exact ⟨rfl, hbl⟩
end Go.Proofs.YtjcldgogjgchiaaGreatDoor
