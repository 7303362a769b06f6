/-
  Plain facts: a word between blanks in the document's row of keywords.
-/
import Derived.Test.YtjcldgogjgchiaaGreatDoorStayB
namespace Go.Proofs.YtjcldgogjgchiaaGreatDoor
open Go Cutting Wording

/-- A row of words, each with a blank on either side. -/
def rowT : List L → L
  | [] => [32]
  | c :: ws => 32 :: (c ++ rowT ws)
def hitB (T s : L) (i : Nat) : Bool := Lib.hasPrefix (T.drop i) (32 :: (s ++ [32]))
theorem plain_eq : ∀ (s c : L) (r : L), (∀ b ∈ s, b ≠ 32) → (∀ b ∈ c, b ≠ 32) → Lib.hasPrefix (c ++ 32 :: r) (s ++ [32]) = true → s = c := by
  intro s
  induction s with
  | nil =>
    intro c r _ hc h
    cases c with
    | nil => rfl
    | cons b c =>
      rw [List.cons_append, List.nil_append, hp_cons, Bool.and_eq_true, beq_iff_eq] at h
      exact absurd h.1.symm (hc b (by simp))
  | cons a s ih =>
    intro c r hs hc h
    cases c with
    | nil =>
      rw [List.nil_append, List.cons_append, hp_cons, Bool.and_eq_true, beq_iff_eq] at h
      exact absurd h.1 (hs a (by simp))
    | cons b c =>
      rw [List.cons_append, List.cons_append, hp_cons, Bool.and_eq_true, beq_iff_eq] at h
      rw [h.1, ih c r (fun x hx => hs x (by simp [hx])) (fun x hx => hc x (by simp [hx])) h.2]
theorem rowT_cons (ws : List L) : ∃ r, rowT ws = 32 :: r := by cases ws <;> exact ⟨_, rfl⟩
theorem hit_row (s : L) (hs : ∀ b ∈ s, b ≠ 32) (hs0 : s ≠ []) : ∀ (ws : List L), (∀ c ∈ ws, ∀ b ∈ c, b ≠ 32) → ∀ i, hitB (rowT ws) s i = true → s ∈ ws := by
  intro ws
  induction ws with
  | nil =>
    intro _ i h
    have := hasPrefix_length h
    rw [List.length_drop] at this
    simp only [rowT, List.length_cons, List.length_append, List.length_nil] at this
    have := List.length_pos_iff.2 hs0
    omega
  | cons c ws ih =>
    intro hw i h
    obtain ⟨r, hr⟩ := rowT_cons ws
    have hc := hw c (by simp)
    unfold hitB at h
    cases i with
    | zero =>
      rw [List.drop_zero, rowT, hp_cons, Bool.and_eq_true, hr] at h
      rw [plain_eq s c r hs hc h.2]
      simp
    | succ i =>
      rw [rowT, List.drop_succ_cons] at h
      rcases Nat.lt_or_ge i c.length with hi | hi
      · exfalso
        rw [List.drop_append_of_le_length (by omega), List.drop_eq_getElem_cons hi, List.cons_append, hp_cons, Bool.and_eq_true, beq_iff_eq] at h
        exact hc c[i] (List.getElem_mem hi) h.1.symm
      · rw [List.drop_append, List.drop_eq_nil_of_le hi, List.nil_append] at h
        exact List.mem_cons_of_mem _ (ih (fun d hd => hw d (by simp [hd])) (i - c.length) h)
theorem row_hit (s : L) : ∀ ws : List L, s ∈ ws → ∃ i, i < (rowT ws).length ∧ hitB (rowT ws) s i = true := by
  intro ws
  induction ws with
  | nil => intro h; cases h
  | cons c ws ih =>
    intro h
    rcases List.mem_cons.1 h with rfl | h
    · refine ⟨0, by simp [rowT], ?_⟩
      obtain ⟨r, hr⟩ := rowT_cons ws
      unfold hitB
      rw [List.drop_zero, rowT, hr, hp_cons, show s ++ 32 :: r = (s ++ [32]) ++ r by simp, hp_mk]
      rfl
    · obtain ⟨i, hi, hh⟩ := ih h
      refine ⟨i + c.length + 1, by simp only [rowT, List.length_cons, List.length_append]; omega, ?_⟩
      unfold hitB at hh ⊢
      rw [rowT, List.drop_succ_cons, List.drop_append, List.drop_eq_nil_of_le (by omega), List.nil_append, Nat.add_sub_cancel]
      exact hh
theorem keys_plain : ∀ c ∈ keysL, ∀ b ∈ c, b ≠ 32 := by decide
theorem keys_word : ∀ c ∈ keysL, c ≠ [] ∧ wordN c = c.length := by decide
theorem key_of_hit {s : L} (h0 : s ≠ []) (hw : wordN s = s.length) {i : Nat} (h : hitB (rowT keysL) s i = true) : isKeyB s = true := by
  refine List.contains_iff_mem.2 (hit_row s (fun b hb => ?_) h0 keysL keys_plain i h)
  rintro rfl
  have := NameL.word ⟨h0, hw⟩ 32 hb
  revert this; decide
theorem key_of_none {s : L} (h : ∀ i, i < (rowT keysL).length → hitB (rowT keysL) s i = false) : isKeyB s = false := by
  rw [← Bool.not_eq_true]
  intro hk
  obtain ⟨i, hi, hh⟩ := row_hit s keysL (List.contains_iff_mem.1 hk)
  rw [h i hi] at hh
  cases hh
theorem key_word {s : L} (h : ¬ (s ≠ [] ∧ wordN s = s.length)) : isKeyB s = false := by
  rw [← Bool.not_eq_true]
  intro hk
  exact h (keys_word s (List.contains_iff_mem.1 hk))
end Go.Proofs.YtjcldgogjgchiaaGreatDoor
