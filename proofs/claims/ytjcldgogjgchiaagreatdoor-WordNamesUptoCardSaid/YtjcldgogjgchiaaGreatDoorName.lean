/-
  The contract of package word's Name.
-/
import Derived.Test.YtjcldgogjgchiaaGreatDoorToks
namespace Go.Proofs.YtjcldgogjgchiaaGreatDoor
open Go Go.RowKit Cutting Wording

set_option maxHeartbeats 2000000 in
theorem Name_any (s : ByteArray) (w : World) (hs : s.size ≤ 4294967280) (_hT : Tabs w) (hTB : ∀ w', Below w.heap.size w w' → Tabs w') :
    Calls Tryz.prog 9 #[.string s] w fun e w' => e = .returned (.bool (nameB s.data.toList)) ∧ Below w.heap.size w w' := by
  have hle := nameN_le s.data.toList
  have HB : Hid (nameB s.data.toList = ((nameN s.data.toList).2 && decide (0 < (nameN s.data.toList).1) && decide ((nameN s.data.toList).1 = s.size) && decide (s.size ≤ 64) && !keyB s.data.toList)) := by show _ = _; rw [nameB, Lib.size_eq]
  rw [← Lib.size_eq] at hle
  obtain ⟨n, hn⟩ : ∃ n, n = (nameN s.data.toList).1 := ⟨_, rfl⟩
  obtain ⟨fm, hf⟩ : ∃ b, b = (nameN s.data.toList).2 := ⟨_, rfl⟩
  rw [← hn] at hle
  rw [← hn, ← hf] at HB
  have HN := Lib.hid hn
  have HF := Lib.hid hf
  clear hn hf
  go_enter Tryz.func9, Tryz.ntmps9
  go_wp2_with fail
  refine (nameLen_any s _ hs).mono ?_
  rintro e w1 ⟨rfl, hb1⟩
  rw [← HN.out, ← HF.out]
  have hT1 := hTB _ hb1
  cases fm
  · go_wp2_with fail
    go_ret
    exact ⟨ret_bool (by rw [HB.out]; rfl), hb1⟩
  · by_cases h0 : 0 < n
    · by_cases h1 : n = s.size
      · by_cases h2 : s.size ≤ 64
        · have d0 : decide ((0 : Int) < (n : Int)) = true := by simpa using (by omega : (0 : Int) < (n : Int))
          have HB2 : Hid (nameB s.data.toList = !keyB s.data.toList) := by show _ = _; rw [HB.out]; simp [h1, h2]; intro h; omega
          have d1 : ((n : Int) == (s.size : Int)) = true := by rw [beq_iff_eq]; omega
          have d2 : decide ((n : Int) ≤ 64) = true := by simpa using (by omega : (n : Int) ≤ 64)
          have h3 : n ≤ s.size := by omega
          clear h1
          go_wp2_with fail
          refine (Key_any s _ hs hT1).mono ?_
          rintro e w2 ⟨rfl, hb2⟩
          have hb3 := hb1.trans (hb2.mono hb1.size)
          obtain ⟨kb, hkb⟩ : ∃ b, b = keyB s.data.toList := ⟨_, rfl⟩
          rw [← hkb] at HB2 ⊢
          clear hkb hb2
          cases kb
          · go_wp2_with fail
            go_ret
            exact ⟨ret_bool (by rw [HB2.out]; rfl), hb3⟩
          · go_wp2_with fail
            go_ret
            exact ⟨ret_bool (by rw [HB2.out]; rfl), hb3⟩
        · have HB2 : Hid (nameB s.data.toList = false) := by show _ = _; rw [HB.out]; simp [h2]
          have d0 : decide ((0 : Int) < (n : Int)) = true := by simpa using (by omega : (0 : Int) < (n : Int))
          have d1 : ((n : Int) == (s.size : Int)) = true := by rw [beq_iff_eq]; omega
          have d2 : decide ((n : Int) ≤ 64) = false := by simpa using (by omega : (64 : Int) < (n : Int))
          clear h1
          go_wp2_with fail
          go_ret
          exact ⟨ret_bool (by rw [HB2.out]), hb1⟩
      · have HB2 : Hid (nameB s.data.toList = false) := by show _ = _; rw [HB.out]; simp [h1]
        have d0 : decide ((0 : Int) < (n : Int)) = true := by simpa using (by omega : (0 : Int) < (n : Int))
        have d1 : ((n : Int) == (s.size : Int)) = false := by rw [beq_eq_false_iff_ne]; omega
        go_wp2_with fail
        go_ret
        exact ⟨ret_bool (by rw [HB2.out]), hb1⟩
    · have HB2 : Hid (nameB s.data.toList = false) := by show _ = _; rw [HB.out]; simp [h0]
      have d0 : decide ((0 : Int) < (n : Int)) = false := by simpa using (by omega : (n : Int) ≤ 0)
      go_wp2_with fail
      go_ret
      exact ⟨ret_bool (by rw [HB2.out]), hb1⟩
end Go.Proofs.YtjcldgogjgchiaaGreatDoor
