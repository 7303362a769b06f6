/-
  Contracts of package word's isKeyword and isSign.
-/
import Derived.Test.YtjcldgogjgchiaaGreatDoorSmall
import Derived.Test.YtjcldgogjgchiaaGreatDoorWording
import Derived.WalkLawsBesides
namespace Go.Proofs.YtjcldgogjgchiaaGreatDoor
open Go Go.RowKit Cutting Wording

set_option maxHeartbeats 4000000 in
theorem isKeyword_no (s : ByteArray) (w : World) (h : isKeyB s.data.toList = false) :
    Calls Tryz.prog 14 #[.string s] w fun e w' => e = .returned (.bool false) ∧ w = w' := by
  have hc : ∀ c ∈ keysL, (s.toList == c) = false := by
    intro c hc
    rw [beq_eq_false_iff_ne, Lib.toList_data]
    rintro rfl
    rw [isKeyB, List.contains_iff_mem.2 hc] at h
    cases h
  simp only [keysL, List.forall_mem_cons, List.not_mem_nil, false_imp_iff, implies_true, and_true] at hc
  obtain ⟨h0, h1, h2, h3, h4, h5, h6, h7, h8, h9, h10, h11, h12, h13, h14, h15, h16, h17, h18, h19, h20, h21, h22, h23, h24, h25, h26, h27, h28, h29, h30, h31, h32, h33, h34, h35, h36, h37, h38, h39, h40, h41, h42, h43, h44, h45, h46, h47⟩ := hc
  clear h
  go_enter Tryz.func14, Tryz.ntmps14
  go_wp2_with fail
  go_ret
  exact ⟨rfl, rfl⟩
set_option maxHeartbeats 40000000 in
theorem isKeyword_yes (s : ByteArray) (w : World) (h : isKeyB s.data.toList = true) :
    Calls Tryz.prog 14 #[.string s] w fun e w' => e = .returned (.bool true) ∧ w = w' := by
  have hm : s.data.toList ∈ keysL := List.contains_iff_mem.1 h
  obtain ⟨l, hl⟩ : ∃ l, l = s.data.toList := ⟨_, rfl⟩
  have hs : s = ⟨l.toArray⟩ := by rw [hl]
  rw [← hl] at hm
  clear hl h
  subst hs
  simp only [keysL, List.mem_cons, List.not_mem_nil, or_false] at hm
  rcases hm with rfl | rfl | rfl | rfl | rfl | rfl | rfl | rfl | rfl | rfl | rfl | rfl | rfl | rfl | rfl | rfl | rfl | rfl | rfl | rfl | rfl | rfl | rfl | rfl | rfl | rfl | rfl | rfl | rfl | rfl | rfl | rfl | rfl | rfl | rfl | rfl | rfl | rfl | rfl | rfl | rfl | rfl | rfl | rfl | rfl | rfl | rfl | rfl
  all_goals
    go_enter Tryz.func14, Tryz.ntmps14
    go_wp2_with fail
    go_ret
    exact ⟨rfl, rfl⟩
theorem isKeyword_any (s : ByteArray) (w : World) :
    Calls Tryz.prog 14 #[.string s] w fun e w' => e = .returned (.bool (isKeyB s.data.toList)) ∧ w = w' := by
  cases h : isKeyB s.data.toList
  · exact isKeyword_no s w h
  · exact isKeyword_yes s w h
set_option maxHeartbeats 4000000 in
theorem isSign_no (s : ByteArray) (w : World) (h : isSignB s.data.toList = false) :
    Calls Tryz.prog 99 #[.string s] w fun e w' => e = .returned (.bool false) ∧ w = w' := by
  have hc : ∀ c ∈ signsL, (s.toList == c) = false := by
    intro c hc
    rw [beq_eq_false_iff_ne, Lib.toList_data]
    rintro rfl
    rw [isSignB, List.contains_iff_mem.2 hc] at h
    cases h
  simp only [signsL, List.forall_mem_cons, List.not_mem_nil, false_imp_iff, implies_true, and_true] at hc
  obtain ⟨h0, h1, h2, h3, h4, h5, h6, h7, h8, h9, h10, h11, h12, h13, h14, h15, h16, h17, h18, h19, h20, h21, h22, h23, h24, h25, h26, h27, h28, h29, h30, h31, h32, h33, h34, h35, h36, h37, h38, h39, h40, h41, h42⟩ := hc
  clear h
  go_enter Tryz.func99, Tryz.ntmps99
  go_wp2_with fail
  go_ret
  exact ⟨rfl, rfl⟩
set_option maxHeartbeats 40000000 in
theorem isSign_yes (s : ByteArray) (w : World) (h : isSignB s.data.toList = true) :
    Calls Tryz.prog 99 #[.string s] w fun e w' => e = .returned (.bool true) ∧ w = w' := by
  have hm : s.data.toList ∈ signsL := List.contains_iff_mem.1 h
  obtain ⟨l, hl⟩ : ∃ l, l = s.data.toList := ⟨_, rfl⟩
  have hs : s = ⟨l.toArray⟩ := by rw [hl]
  rw [← hl] at hm
  clear hl h
  subst hs
  simp only [signsL, List.mem_cons, List.not_mem_nil, or_false] at hm
  rcases hm with rfl | rfl | rfl | rfl | rfl | rfl | rfl | rfl | rfl | rfl | rfl | rfl | rfl | rfl | rfl | rfl | rfl | rfl | rfl | rfl | rfl | rfl | rfl | rfl | rfl | rfl | rfl | rfl | rfl | rfl | rfl | rfl | rfl | rfl | rfl | rfl | rfl | rfl | rfl | rfl | rfl | rfl | rfl
  all_goals
    go_enter Tryz.func99, Tryz.ntmps99
    go_wp2_with fail
    go_ret
    exact ⟨rfl, rfl⟩
theorem isSign_any (s : ByteArray) (w : World) :
    Calls Tryz.prog 99 #[.string s] w fun e w' => e = .returned (.bool (isSignB s.data.toList)) ∧ w = w' := by
  cases h : isSignB s.data.toList
  · exact isSign_no s w h
  · exact isSign_yes s w h
end Go.Proofs.YtjcldgogjgchiaaGreatDoor
