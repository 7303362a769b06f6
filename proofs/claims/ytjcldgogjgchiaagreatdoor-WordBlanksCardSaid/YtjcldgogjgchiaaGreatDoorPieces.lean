/-
  Plain facts on the pieces of a file: places, lengths, and how they are told step by step.
-/
import Derived.Test.YtjcldgogjgchiaaGreatDoorCutting
namespace Go.Proofs.YtjcldgogjgchiaaGreatDoor.Cutting
open Go

theorem isPhp_len (r : List UInt8) (h : isPhp r = true) : 5 ≤ r.length := by
  simp only [isPhp, beq_iff_eq] at h
  have h1 := congrArg List.length h
  rw [List.length_map, List.length_take] at h1
  simp at h1
  omega
theorem phpN_le (r : List UInt8) : phpN r = 0 ∨ (5 ≤ phpN r ∧ phpN r ≤ r.length) := by
  cases hp : isPhp r with
  | false => left; simp [phpN, hp]
  | true =>
    have h5 := isPhp_len r hp
    simp only [phpN, hp, if_true]
    cases hd : r.drop 5 with
    | nil => right; exact ⟨Nat.le_refl _, h5⟩
    | cons b t =>
      have hl : r.length - 5 = t.length + 1 := by rw [← List.length_drop, hd]; rfl
      dsimp only
      split
      · next h7 =>
        have := hasPrefix_length h7
        simp only [List.length_cons, List.length_nil] at this
        right; omega
      · split
        · right; omega
        · left; rfl
theorem openN_le : ∀ r : List UInt8, (openN r).mark ≤ r.length ∧ ((openN r).kind = 0 → (openN r).mark = r.length) ∧ ((openN r).kind ≠ 0 → (openN r).mark + 3 ≤ (openN r).code ∧ (openN r).code ≤ r.length) := by
  intro r
  induction r with
  | nil => exact ⟨Nat.le_refl _, fun _ => rfl, fun h => absurd rfl h⟩
  | cons b r ih =>
    simp only [openN]
    split
    · next h =>
      have := hasPrefix_length h
      simp only [List.length_cons, List.length_nil] at this ⊢
      exact ⟨by omega, fun h => absurd h (by decide), fun _ => by omega⟩
    · split
      · next h =>
        have := phpN_le (b :: r)
        exact ⟨Nat.zero_le _, fun h => by simp at h, fun _ => ⟨by simp only; omega, by simp only; omega⟩⟩
      · split
        · next h0 =>
          have := ih.2.1 h0
          simp only [List.length_cons]
          exact ⟨by omega, fun _ => by omega, fun h => absurd rfl h⟩
        · next h0 =>
          have := ih.2.2 h0
          simp only [List.length_cons]
          exact ⟨by omega, fun h => absurd h h0, fun _ => by omega⟩
theorem closeN_le (r : List UInt8) : closeN r ≤ r.length ∧ closeN r ≤ 4 := by
  unfold closeN
  split
  · next h =>
    have h2 := hasPrefix_length h
    simp only [List.length_cons, List.length_nil] at h2
    split
    · next h3 => have := hasPrefix_length h3; rw [List.length_drop] at this; simp only [List.length_cons, List.length_nil] at this; omega
    · split
      · next h3 => have := hasPrefix_length h3; rw [List.length_drop] at this; simp only [List.length_cons, List.length_nil] at this; omega
      · omega
  · omega

/-- Where what comes behind a piece of code begins, from where the search began. -/
def nextN (r : List UInt8) : Nat := (openN r).code + codeN (r.drop (openN r).code) + closeN (r.drop ((openN r).code + codeN (r.drop (openN r).code)))
theorem nextN_le (r : List UInt8) (h : (openN r).kind ≠ 0) : 3 ≤ nextN r ∧ nextN r ≤ r.length := by
  have h1 := (openN_le r).2.2 h
  have h2 := codeN_le (r.drop (openN r).code)
  have h3 := (closeN_le (r.drop ((openN r).code + codeN (r.drop (openN r).code)))).1
  rw [List.length_drop] at h2 h3
  unfold nextN
  omega
theorem piecesF_fuel : ∀ (f g a : Nat) (r : List UInt8), r.length ≤ f → r.length ≤ g → piecesF f a r = piecesF g a r := by
  intro f
  induction f with
  | zero =>
    intro g a r h _
    have := List.eq_nil_of_length_eq_zero (Nat.le_zero.1 h); subst this
    cases g <;> rfl
  | succ f ih =>
    intro g a r h hg
    cases g with
    | zero => have := List.eq_nil_of_length_eq_zero (Nat.le_zero.1 hg); subst this; rfl
    | succ g =>
      simp only [piecesF]
      split
      · rfl
      · congr 1
        split
        · rfl
        · next hk =>
          have hn := nextN_le r hk
          unfold nextN at hn
          rw [ih g _ _ (by rw [List.length_drop]; omega) (by rw [List.length_drop]; omega)]
def piecesN (a : Nat) (r : List UInt8) : List Pc := piecesF r.length a r
theorem pieces_eq (s : List UInt8) : pieces s = piecesN 0 s := rfl
def htmlN (a : Nat) (r : List UInt8) : List Pc := if 0 < (openN r).mark then [⟨1, r.take (openN r).mark, a⟩] else []
def codePc (a : Nat) (r : List UInt8) : Pc := ⟨(openN r).kind, (r.drop (openN r).code).take (codeN (r.drop (openN r).code)), a + (openN r).code⟩
theorem piecesN_nil (a : Nat) : piecesN a [] = [] := rfl
theorem piecesN_eq (a : Nat) (r : List UInt8) (h : r ≠ []) :
    piecesN a r = htmlN a r ++ (if (openN r).kind = 0 then [] else codePc a r :: piecesN (a + nextN r) (r.drop (nextN r))) := by
  unfold piecesN
  cases r with
  | nil => exact absurd rfl h
  | cons b r =>
    rw [List.length_cons, piecesF]
    rw [if_neg (by simp)]
    unfold htmlN
    congr 1
    split
    · rfl
    · next hk =>
      have hn := nextN_le (b :: r) hk
      show _ = codePc a (b :: r) :: _
      rw [piecesF_fuel (((b :: r).drop (nextN (b :: r))).length) r.length _ _ (Nat.le_refl _) (by rw [List.length_drop, List.length_cons]; omega)]
      rfl
/-- Each piece but the last takes some bytes: so there are no more pieces than bytes. -/
theorem piecesN_length : ∀ (n a : Nat) (r : List UInt8), r.length ≤ n → (piecesN a r).length ≤ r.length := by
  intro n
  induction n with
  | zero => intro a r h; have := List.eq_nil_of_length_eq_zero (Nat.le_zero.1 h); subst this; exact Nat.le_refl _
  | succ n ih =>
    intro a r h
    by_cases hr : r = []
    · subst hr; exact Nat.le_refl _
    · rw [piecesN_eq a r hr, List.length_append]
      have h1 : (htmlN a r).length ≤ 1 := by unfold htmlN; split <;> simp
      have h0 : 1 ≤ r.length := List.length_pos_iff.2 hr
      split
      · simp; omega
      · next hk =>
        have hn := nextN_le r hk
        have := ih (a + nextN r) (r.drop (nextN r)) (by rw [List.length_drop]; omega)
        rw [List.length_drop] at this
        rw [List.length_cons]
        omega
end Go.Proofs.YtjcldgogjgchiaaGreatDoor.Cutting
