/-
  The walk of the law WordNames.
-/
import Derived.Test.YtjcldgogjgchiaaGreatDoorRefM
import Derived.Test.YtjcldgogjgchiaaGreatDoorAlive2
namespace Go.Proofs.YtjcldgogjgchiaaGreatDoor
open Go Go.RowKit Cutting Wording

set_option maxRecDepth 100000 in
theorem WordNames_any (s : ByteArray) (w : World) (hs : s.size ≤ 1073741820) (hM : Met w) :
    Calls Tryz.prog 3 #[.string s] w fun e w' => e = .returned (.bool true) ∧ Below w.heap.size w w' := by
  have hml := hM.lt
  obtain ⟨kb, hkb⟩ : ∃ b, b = keyB s.data.toList := ⟨_, rfl⟩
  obtain ⟨nb, hnb⟩ : ∃ b, b = nameB s.data.toList := ⟨_, rfl⟩
  have HK := Lib.hid hkb
  have HN := Lib.hid hnb
  clear hkb hnb
  have d1 : (kb == kb) = true := by simp
  have d2 : (nb == nb) = true := by simp
  go_enter Tryz.func3, Tryz.ntmps3
  go_wp2_with fail
  refine (Key_any s _ (by omega) hM.hT).mono ?_
  rintro e w1 ⟨rfl, hb1⟩
  rw [← HK.out]
  have hM1 := hM.below hb1 hml
  go_wp2_with fail
  refine (rKey_any s _ hs).mono ?_
  rintro e w2 ⟨rfl, hb2⟩
  rw [← HK.out]
  have hM2 := hM1.below hb2 hM1.lt
  go_wp2_with fail
  refine (Name_any s _ (by omega) hM2.hT (fun w' hb => (hM2.below hb hM2.lt).hT)).mono ?_
  rintro e w3 ⟨rfl, hb3⟩
  rw [← HN.out]
  have hM3 := hM2.below hb3 hM2.lt
  go_wp2_with fail
  refine (rName_any s _ hs).mono ?_
  rintro e w4 ⟨rfl, hb4⟩
  rw [← HN.out]
  have hM4 := hM3.below hb4 hM3.lt
  go_wp2_with fail
  refine (alive2_any _ hM4).mono ?_
  rintro e w5 ⟨rfl, hb5⟩
  have hb : Below w.heap.size w w5 := hb1.trans ((hb2.trans ((hb3.trans ((hb4.trans (hb5.mono hb4.size)).mono hb3.size)).mono hb2.size)).mono hb1.size)
  go_wp2_with fail
  go_ret
  exact ⟨rfl, hb⟩
end Go.Proofs.YtjcldgogjgchiaaGreatDoor
