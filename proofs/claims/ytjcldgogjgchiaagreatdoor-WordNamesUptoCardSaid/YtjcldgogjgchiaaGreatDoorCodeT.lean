/-
  Plain facts: how far a token goes; the tokens of code, step by step.
-/
import Derived.Test.YtjcldgogjgchiaaGreatDoorReader
namespace Go.Proofs.YtjcldgogjgchiaaGreatDoor
open Go Go.RowKit Cutting Wording

theorem wordN_pos (b : UInt8) (r : L) (h : wordB b = true) (h2 : digB b = false) : 1 ≤ wordN (b :: r) := by
  simp [wordN, h2, h]
theorem nameN_pos (s : L) (h : s.head?.map (fun b => b == 92 || (wordB b && !digB b)) = some true) (hf : (nameN s).2 = true) : 1 ≤ (nameN s).1 := by
  cases s with
  | nil => cases h
  | cons b r =>
    have hb : b = 92 ∨ (wordB b = true ∧ digB b = false) := by simpa using h
    unfold nameN at hf ⊢
    dsimp only at hf ⊢
    rcases hb with rfl | ⟨h1, h2⟩
    · have hw : wordN (92 :: r) = 0 := by simp [wordN, digB, wordB]
      rw [hw, List.drop_zero] at hf ⊢
      have hp : Lib.hasPrefix (92 :: r) [92] = true := by simp [Lib.hasPrefix]
      by_cases h0 : wordN ((92 :: r : L).drop 1) = 0
      · rw [moreN_bad _ hp h0] at hf; cases hf
      · rw [moreN_go _ hp h0]; dsimp only; omega
    · have := wordN_pos b r h1 h2
      omega
theorem tokT_le (s : L) (hs : s ≠ []) (x : Tk × Nat) (hx : tokT s = .ok x) : 1 ≤ x.2 ∧ x.2 ≤ s.length := by
  match s, hs with
  | b :: r, _ =>
    have hl : (b :: r).length = r.length + 1 := rfl
    by_cases h36 : b = 36
    · rw [tokT_var _ (by rw [h36]; rfl)] at hx
      have := wordN_le ((b :: r).drop 1)
      rw [List.length_drop] at this
      split at hx
      · cases hx
      · split at hx
        · cases hx
        · injection hx with hx; subst hx; dsimp only; omega
    · cases hdg : digB b
      · by_cases h39 : b = 39
        · rw [tokT_plain _ (by rw [h39]; rfl)] at hx
          cases he : endGo 39 ((b :: r).drop 1) with
          | none => rw [he] at hx; cases hx
          | some e =>
            rw [he] at hx
            injection hx with hx
            have := endGo_lt 39 _ _ (Nat.le_refl _) e he
            rw [List.length_drop] at this
            subst hx; dsimp only; omega
        · by_cases h34 : b = 34
          · rw [tokT_wide _ (by rw [h34]; rfl)] at hx
            cases he : endGo 34 ((b :: r).drop 1) with
            | none =>
              rw [he] at hx
              dsimp only at hx
              cases hw : wideT ((b :: r).drop 1) true with
              | error y => rw [hw] at hx; cases hx
              | ok y => rw [hw] at hx; cases hx
            | some e =>
              rw [he] at hx
              dsimp only at hx
              have := endGo_lt 34 _ _ (Nat.le_refl _) e he
              rw [List.length_drop] at this
              cases hw : wideT (((b :: r).drop 1).take e) true with
              | error y => rw [hw] at hx; cases hx
              | ok y => rw [hw] at hx; injection hx with hx; subst hx; dsimp only; omega
          · cases hnm : (b == 92 || (wordB b && !digB b))
            · rw [Bool.or_eq_false_iff] at hnm
              have h92 : b ≠ 92 := by simpa using hnm.1
              have hwd : wordB b = false := by have := hnm.2; rw [hdg] at this; simpa using this
              rw [tokT_other _ b rfl h36 hdg h39 h34 h92 hwd] at hx
              split at hx
              · next hlg =>
                have hok : headOk (b :: r) = true := by unfold isLong at hlg; rw [Bool.and_eq_true] at hlg; exact hlg.2
                have hle := headAt_le _ hok
                unfold longT at hx
                cases hli : linesGo (headName (b :: r)) true ((b :: r).drop (headAt (b :: r))) with
                | none => rw [hli] at hx; cases hx
                | some n =>
                  rw [hli] at hx
                  dsimp only at hx
                  have := linesGo_le _ _ _ _ hli
                  rw [List.length_drop] at this
                  split at hx
                  · injection hx with hx; subst hx; dsimp only; omega
                  · cases hw : wideT (trimNl (((b :: r).drop (headAt (b :: r))).take n)) false with
                    | error y => rw [hw] at hx; cases hx
                    | ok y => rw [hw] at hx; injection hx with hx; subst hx; dsimp only; omega
              · split at hx
                · cases hx
                · have := (signN_le (b :: r)).2
                  injection hx with hx; subst hx; dsimp only; omega
            · have hh : (b :: r : L).head?.map (fun b => b == 92 || (wordB b && !digB b)) = some true := by simpa using hnm
              rw [tokT_name _ hh] at hx
              have h1 := nameN_le (b :: r)
              cases hf : (nameN (b :: r)).2
              · rw [hf] at hx; cases hx
              · have h2 := nameN_pos _ hh hf
                rw [hf] at hx
                simp only [Bool.not_true, Bool.false_eq_true, if_false] at hx
                split at hx
                · cases hx
                · split at hx
                  · injection hx with hx; subst hx; dsimp only; omega
                  · injection hx with hx; subst hx; dsimp only; omega
      · rw [tokT_num _ (by simpa using hdg)] at hx
        have := numN_le (b :: r) (by simp) (by simpa using hdg)
        split at hx
        · cases hx
        · split at hx
          · cases hx
          · injection hx with hx; subst hx; dsimp only; omega

theorem codeF_fuel2 : ∀ (f g a : Nat) (r : L), r.length < f → r.length < g → Wording.codeF f a r = Wording.codeF g a r := by
  intro f
  induction f with
  | zero => intro g a r h; omega
  | succ f ih =>
    intro g a r h hg
    cases g with
    | zero => omega
    | succ g =>
      simp only [Wording.codeF]
      split
      · rfl
      · split
        · rfl
        · next h2 =>
          cases ht : tokT (r.drop (gapN r).1) with
          | error x => rfl
          | ok x =>
            have hne : r.drop (gapN r).1 ≠ [] := by intro h; rw [h] at h2; simp at h2
            have hx := tokT_le _ hne x ht
            have hl := List.length_pos_iff.2 hne
            rw [List.length_drop] at hx hl
            dsimp only
            rw [ih g (a + (gapN r).1 + x.2) ((r.drop (gapN r).1).drop x.2) (by rw [List.length_drop, List.length_drop]; omega) (by rw [List.length_drop, List.length_drop]; omega)]
/-- The tokens of code from a place on. -/
theorem codeT_step (a : Nat) (r : L) : codeT a r = if (gapN r).2 then .error (10, a + (gapN r).1) else if (r.drop (gapN r).1).isEmpty then .ok [] else
    match tokT (r.drop (gapN r).1) with
    | .error x => .error (x.1, a + (gapN r).1 + x.2)
    | .ok x => match codeT (a + (gapN r).1 + x.2) ((r.drop (gapN r).1).drop x.2) with
      | .error y => .error y
      | .ok l => .ok ((x.1, a + (gapN r).1) :: l) := by
  conv => lhs; unfold codeT
  simp only [Wording.codeF]
  split
  · rfl
  · split
    · rfl
    · next h2 =>
      cases ht : tokT (r.drop (gapN r).1) with
      | error x => rfl
      | ok x =>
        have hne : r.drop (gapN r).1 ≠ [] := by intro h; rw [h] at h2; simp at h2
        have hx := tokT_le _ hne x ht
        have hl := List.length_pos_iff.2 hne
        rw [List.length_drop] at hx hl
        dsimp only
        rw [codeF_fuel2 r.length (((r.drop (gapN r).1).drop x.2).length + 1) (a + (gapN r).1 + x.2) ((r.drop (gapN r).1).drop x.2) (by rw [List.length_drop, List.length_drop]; omega) (by omega)]
        rfl
def prep (l : List (Tk × Nat)) (r : R (List (Tk × Nat))) : R (List (Tk × Nat)) := match r with | .error y => .error y | .ok m => .ok (l ++ m)
theorem prep_nil (r : R (List (Tk × Nat))) : prep [] r = r := by cases r <;> rfl
theorem prep_snoc (l : List (Tk × Nat)) (x : Tk × Nat) (r : R (List (Tk × Nat))) : prep l (match r with | .error y => .error y | .ok m => .ok (x :: m)) = prep (l ++ [x]) r := by
  cases r with
  | error y => rfl
  | ok m => simp [prep]
/-- What is wrong with a token is told by a number that is not 0. -/
theorem tokT_err (s : L) (x : Nat × Nat) (hx : tokT s = .error x) : x.1 ≠ 0 ∧ x.2 ≤ s.length := by
  cases s with
  | nil => injection hx with hx; subst hx; exact ⟨by simp, Nat.le_refl _⟩
  | cons b r =>
    have hl : (b :: r).length = r.length + 1 := rfl
    have fin : ∀ (a c : Nat), a ≠ 0 → c ≤ (b :: r).length → (Except.error (a, c) : R (Tk × Nat)) = .error x → x.1 ≠ 0 ∧ x.2 ≤ (b :: r).length := by
      intro a c h1 h2 h
      injection h with h
      subst h
      exact ⟨h1, h2⟩
    by_cases h36 : b = 36
    · rw [tokT_var _ (by rw [h36]; rfl)] at hx
      split at hx
      · exact fin _ _ (by decide) (Nat.zero_le _) hx
      · split at hx
        · exact fin _ _ (by decide) (Nat.zero_le _) hx
        · cases hx
    · cases hdg : digB b
      · by_cases h39 : b = 39
        · rw [tokT_plain _ (by rw [h39]; rfl)] at hx
          cases he : endGo 39 ((b :: r).drop 1) with
          | none => rw [he] at hx; exact fin _ _ (by decide) (Nat.zero_le _) hx
          | some e => rw [he] at hx; cases hx
        · by_cases h34 : b = 34
          · rw [tokT_wide _ (by rw [h34]; rfl)] at hx
            cases he : endGo 34 ((b :: r).drop 1) with
            | none =>
              rw [he] at hx
              dsimp only at hx
              cases hw : wideT ((b :: r).drop 1) true with
              | error y =>
                rw [hw] at hx
                have := wideT_err _ _ _ hw
                rw [List.length_drop] at this
                exact fin _ _ this.1 (by omega) hx
              | ok y => rw [hw] at hx; exact fin _ _ (by decide) (Nat.zero_le _) hx
            | some e =>
              rw [he] at hx
              dsimp only at hx
              cases hw : wideT (((b :: r).drop 1).take e) true with
              | error y =>
                rw [hw] at hx
                have := wideT_err _ _ _ hw
                rw [List.length_take, List.length_drop] at this
                exact fin _ _ this.1 (by omega) hx
              | ok y => rw [hw] at hx; cases hx
          · cases hnm : (b == 92 || (wordB b && !digB b))
            · rw [Bool.or_eq_false_iff] at hnm
              have h92 : b ≠ 92 := by simpa using hnm.1
              have hwd : wordB b = false := by have := hnm.2; rw [hdg] at this; simpa using this
              rw [tokT_other _ b rfl h36 hdg h39 h34 h92 hwd] at hx
              split at hx
              · next hlg =>
                have hok : headOk (b :: r) = true := by unfold isLong at hlg; rw [Bool.and_eq_true] at hlg; exact hlg.2
                have hle := headAt_le _ hok
                unfold longT at hx
                cases hli : linesGo (headName (b :: r)) true ((b :: r).drop (headAt (b :: r))) with
                | none => rw [hli] at hx; exact fin _ _ (by decide) (Nat.zero_le _) hx
                | some n =>
                  rw [hli] at hx
                  dsimp only at hx
                  split at hx
                  · cases hx
                  · cases hw : wideT (trimNl (((b :: r).drop (headAt (b :: r))).take n)) false with
                    | error y =>
                      rw [hw] at hx
                      have h1 := wideT_err _ _ _ hw
                      have h2 : (trimNl (((b :: r).drop (headAt (b :: r))).take n)).length ≤ (((b :: r).drop (headAt (b :: r))).take n).length := by
                        unfold trimNl
                        split
                        · rw [List.length_take]; omega
                        · exact Nat.le_refl _
                      rw [List.length_take, List.length_drop] at h2
                      exact fin _ _ h1.1 (by omega) hx
                    | ok y => rw [hw] at hx; cases hx
              · split at hx
                · exact fin _ _ (by decide) (Nat.zero_le _) hx
                · cases hx
            · have hh : (b :: r : L).head?.map (fun b => b == 92 || (wordB b && !digB b)) = some true := by simpa using hnm
              rw [tokT_name _ hh] at hx
              have h1 := nameN_le (b :: r)
              cases hf : (nameN (b :: r)).2
              · rw [hf] at hx; exact fin _ _ (by decide) h1 hx
              · rw [hf] at hx
                simp only [Bool.not_true, Bool.false_eq_true, if_false] at hx
                split at hx
                · exact fin _ _ (by decide) (Nat.zero_le _) hx
                · split at hx <;> cases hx
      · rw [tokT_num _ (by simpa using hdg)] at hx
        split at hx
        · exact fin _ _ (by decide) (Nat.zero_le _) hx
        · split at hx
          · exact fin _ _ (by decide) (Nat.zero_le _) hx
          · cases hx
end Go.Proofs.YtjcldgogjgchiaaGreatDoor
