/-
  Pieces stand one behind the other, within the file.
-/
import Derived.Test.YtjcldgogjgchiaaGreatDoorCut
namespace Go.Proofs.YtjcldgogjgchiaaGreatDoor
open Go Go.RowKit Cutting

/-- Each piece stands where it is told to, behind the one ahead; no two texts outside of code are neighbours. -/
def Within (s : List UInt8) : Nat → Bool → List Pc → Prop
  | _, _, [] => True
  | a, h, p :: l => a ≤ p.at_ ∧ p.at_ + p.text.length ≤ s.length ∧ (s.drop p.at_).take p.text.length = p.text ∧ ¬ (p.kind = 1 ∧ (h = true ∨ p.text = [])) ∧ Within s (p.at_ + p.text.length) (p.kind == 1) l
theorem openN_kind (r : List UInt8) : (openN r).kind = 0 ∨ (openN r).kind = 2 ∨ (openN r).kind = 3 := by
  induction r with
  | nil => exact .inl rfl
  | cons b r ih =>
    simp only [openN]
    split
    · exact .inr (.inr rfl)
    · split
      · exact .inr (.inl rfl)
      · split
        · exact .inl rfl
        · exact ih
theorem within_pieces (s : List UInt8) : ∀ (n k a : Nat), s.length - k ≤ n → a ≤ k → Within s a false (piecesN k (s.drop k)) := by
  intro n
  induction n with
  | zero =>
    intro k a hk ha
    rw [List.drop_eq_nil_of_le (by omega)]
    trivial
  | succ n ih =>
    intro k a hk ha
    by_cases hr : s.drop k = []
    · rw [hr]; trivial
    · have hlk : k < s.length := by
        rcases Nat.lt_or_ge k s.length with h | h
        · exact h
        · exact absurd (List.drop_eq_nil_of_le h) hr
      rw [piecesN_eq _ _ hr]
      have hle := openN_le (s.drop k)
      rw [List.length_drop] at hle
      -- the code and what comes behind it
      have hcode : ∀ (b : Nat) (h : Bool), b ≤ k + (openN (s.drop k)).mark → Within s b h (if (openN (s.drop k)).kind = 0 then [] else codePc k (s.drop k) :: piecesN (k + nextN (s.drop k)) ((s.drop k).drop (nextN (s.drop k)))) := by
        intro b h hb
        split
        · trivial
        · next hK =>
          have h1 := hle.2.2 hK
          have h2 := codeN_le ((s.drop k).drop (openN (s.drop k)).code)
          have h3 := nextN_le (s.drop k) hK
          rw [List.length_drop, List.length_drop] at h2
          rw [List.length_drop] at h3
          have hlen : (codePc k (s.drop k)).text.length = codeN ((s.drop k).drop (openN (s.drop k)).code) := by
            simp only [codePc, List.length_take, List.length_drop]; omega
          refine ⟨?_, ?_, ?_, ?_, ?_⟩
          · simp only [codePc]; omega
          · rw [hlen]; simp only [codePc]; omega
          · rw [hlen]; simp only [codePc, List.drop_drop]
          · rintro ⟨hk1, _⟩
            have := openN_kind (s.drop k)
            simp only [codePc] at hk1
            omega
          · have hk1 : ((codePc k (s.drop k)).kind == 1) = false := by
              rw [beq_eq_false_iff_ne]
              have := openN_kind (s.drop k)
              simp only [codePc]
              omega
            have e4 : (s.drop k).drop (nextN (s.drop k)) = s.drop (k + nextN (s.drop k)) := List.drop_drop
            rw [hk1, hlen, e4]
            refine ih (k + nextN (s.drop k)) _ (by omega) ?_
            simp only [codePc]
            unfold nextN
            omega
      by_cases hm : 0 < (openN (s.drop k)).mark
      · rw [htmlN, if_pos hm]
        have hlen : ((s.drop k).take (openN (s.drop k)).mark).length = (openN (s.drop k)).mark := by rw [List.length_take, List.length_drop]; omega
        refine ⟨ha, ?_, ?_, ?_, ?_⟩
        · simp only [hlen]; omega
        · simp only [hlen]
        · rintro ⟨_, h | h⟩
          · cases h
          · have := congrArg List.length h
            simp only [hlen, List.length_nil] at this
            omega
        · exact hcode _ _ (by simp only [hlen]; omega)
      · rw [htmlN, if_neg hm, List.nil_append]
        exact hcode _ _ (by omega)
theorem within_all (s : List UInt8) : Within s 0 false (pieces s) := by
  have := within_pieces s s.length 0 0 (by omega) (Nat.le_refl _)
  rw [List.drop_zero] at this
  exact this
theorem Within.at_ {s : List UInt8} {a : Nat} {h : Bool} {l : List Pc} {i : Nat} (hi : i < l.length) (hw : Within s a h (l.drop i)) :
    a ≤ l[i].at_ ∧ l[i].at_ + l[i].text.length ≤ s.length ∧ (s.drop l[i].at_).take l[i].text.length = l[i].text ∧ ¬ (l[i].kind = 1 ∧ (h = true ∨ l[i].text = [])) ∧ Within s (l[i].at_ + l[i].text.length) (l[i].kind == 1) (l.drop (i + 1)) := by
  rw [List.drop_eq_getElem_cons hi] at hw
  exact hw

end Go.Proofs.YtjcldgogjgchiaaGreatDoor
