/-
  Two files, one behind the other: the pieces of both.
-/
import Derived.Test.YtbeglmolgloepaaDoorJoinB
import Derived.Test.YtbeglmolgloepaaDoorWithin
namespace Go.Proofs.YtbeglmolgloepaaDoor.Cutting
open Go

theorem isPhp_last (u : List UInt8) (h : u.length < 5) (e : List UInt8) : isPhp (u ++ 120 :: e) = false := by
  match u, h with
  | [], _ => simp [isPhp, lowB]
  | [a], _ => simp [isPhp, lowB]
  | [a, b], _ => simp [isPhp, lowB]
  | [a, b, c], _ => simp [isPhp, lowB]
  | [a, b, c, d], _ => simp [isPhp, lowB]
  | _ :: _ :: _ :: _ :: _ :: _, h => simp at h; omega
/-- What ends with an 'x' is no opening that what comes behind has a part in. -/
theorem phpN_last (u e : List UInt8) : phpN (u ++ 120 :: e) = phpN (u ++ [120]) ∧ phpN (u ++ [120]) < u.length + 1 := by
  rcases Nat.lt_or_ge u.length 5 with h | h
  · unfold phpN
    rw [isPhp_last u h e, isPhp_last u h []]
    exact ⟨rfl, Nat.zero_lt_succ _⟩
  · have h1 : ∀ x : List UInt8, isPhp (u ++ x) = isPhp u := fun x => by
      unfold isPhp
      rw [List.take_append_of_le_length h]
    have h2 : ∀ x : List UInt8, (u ++ x).drop 5 = u.drop 5 ++ x := fun x => List.drop_append_of_le_length h
    have hl : (u.drop 5).length = u.length - 5 := List.length_drop ..
    unfold phpN
    rw [h1, h1, h2, h2]
    cases hp : isPhp u
    · exact ⟨rfl, Nat.zero_lt_succ _⟩
    · simp only [if_true]
      match hd : u.drop 5 with
      | [] =>
        simp only [List.nil_append]
        rw [hp_head (by decide), hp_head (by decide)]
        exact ⟨rfl, Nat.zero_lt_succ _⟩
      | [b] =>
        rw [hd] at hl
        simp only [List.length_cons, List.length_nil] at hl
        have e1 : ∀ x : List UInt8, Lib.hasPrefix (b :: 120 :: x) [13, 10] = false := fun x => by
          cases h7 : Lib.hasPrefix (b :: 120 :: x) [13, 10]
          · rfl
          · have := hp_at (i := 1) h7 rfl
            simp at this
        simp only [List.cons_append, List.nil_append]
        rw [e1, e1]
        refine ⟨rfl, ?_⟩
        simp only [Bool.false_eq_true, if_false]
        split <;> omega
      | b :: c :: r =>
        rw [hd] at hl
        simp only [List.length_cons] at hl
        have e1 : ∀ x : List UInt8, Lib.hasPrefix (b :: c :: (r ++ x)) [13, 10] = Lib.hasPrefix (b :: c :: r) [13, 10] := fun x => hp_app (t := b :: c :: r) x (by simp)
        simp only [List.cons_append]
        rw [e1, e1]
        refine ⟨rfl, ?_⟩
        split
        · omega
        · split <;> omega
theorem echo_last (u e : List UInt8) : Lib.hasPrefix (u ++ 120 :: e) [60, 63, 61] = Lib.hasPrefix (u ++ [120]) [60, 63, 61] := by
  match u with
  | [] => rw [List.nil_append, List.nil_append, hp_head (by decide), hp_head (by decide)]
  | [a] =>
    have e1 : ∀ x : List UInt8, Lib.hasPrefix ([a] ++ 120 :: x) [60, 63, 61] = false := fun x => by
      cases h7 : Lib.hasPrefix ([a] ++ 120 :: x) [60, 63, 61]
      · rfl
      · have := hp_at (i := 1) h7 rfl
        simp at this
    rw [e1, e1]
  | a :: b :: r =>
    have := hp_app (t := (a :: b :: r) ++ [120]) (p := [60, 63, 61]) e (by simp)
    rw [List.append_assoc] at this
    exact this
theorem openN_last (e : List UInt8) : ∀ u : List UInt8,
    ((openN (u ++ [120])).kind ≠ 0 → openN (u ++ 120 :: e) = openN (u ++ [120]) ∧ (openN (u ++ [120])).code < u.length + 1) ∧
    ((openN (u ++ [120])).kind = 0 → openN (u ++ 120 :: e) = if (openN e).kind = 0 then ⟨0, u.length + 1 + (openN e).mark, 0⟩ else ⟨(openN e).kind, u.length + 1 + (openN e).mark, u.length + 1 + (openN e).code⟩) := by
  intro u
  induction u with
  | nil =>
    have h1 : ∀ x : List UInt8, openN (120 :: x) = if (openN x).kind = 0 then ⟨0, (openN x).mark + 1, 0⟩ else ⟨(openN x).kind, (openN x).mark + 1, (openN x).code + 1⟩ := fun x => by
      rw [openN, hp_head (by decide)]
      have := (phpN_last [] x)
      rw [List.nil_append, List.nil_append] at this
      rw [this.1]
      rfl
    rw [List.nil_append, List.nil_append, h1, h1]
    refine ⟨fun h => absurd rfl h, fun _ => ?_⟩
    split
    · simp; omega
    · simp; omega
  | cons b u ih =>
    have hp := phpN_last (b :: u) e
    have he := echo_last (b :: u) e
    rw [List.cons_append, List.cons_append] at hp he ⊢
    rw [openN, openN, he, hp.1]
    by_cases c1 : Lib.hasPrefix (b :: (u ++ [120])) [60, 63, 61] = true
    · rw [if_pos c1, if_pos c1]
      refine ⟨fun _ => ⟨rfl, ?_⟩, fun h => by cases h⟩
      have h3 := hasPrefix_length c1
      rcases Nat.lt_or_ge u.length 2 with h | h
      · simp only [List.length_cons, List.length_append, List.length_nil] at h3
        have h4 : u.length = 1 := by omega
        match u, h4 with
        | [c], _ =>
          have := hp_at (i := 2) c1 rfl
          simp at this
      · show 3 < u.length + 1 + 1
        omega
    · rw [if_neg c1, if_neg c1]
      by_cases c2 : 0 < phpN (b :: (u ++ [120]))
      · rw [if_pos c2, if_pos c2]
        refine ⟨fun _ => ⟨rfl, ?_⟩, fun h => by cases h⟩
        exact hp.2
      · rw [if_neg c2, if_neg c2]
        by_cases c3 : (openN (u ++ [120])).kind = 0
        · rw [if_pos c3]
          refine ⟨fun h => absurd rfl h, fun _ => ?_⟩
          rw [ih.2 c3]
          by_cases c4 : (openN e).kind = 0
          · rw [if_pos c4, if_pos c4]
            simp; omega
          · rw [if_neg c4, if_neg c4, if_neg (by simpa using c4)]
            simp; omega
        · rw [if_neg c3]
          refine ⟨fun _ => ?_, fun h => absurd h c3⟩
          obtain ⟨h1, h2⟩ := ih.1 c3
          rw [h1, if_neg c3]
          refine ⟨rfl, ?_⟩
          simp only [List.length_cons]
          omega

def shiftPc (d : Nat) (p : Pc) : Pc := ⟨p.kind, p.text, p.at_ + d⟩
theorem pieces_shift (d : Nat) : ∀ (n a : Nat) (r : List UInt8), r.length ≤ n → piecesN (a + d) r = (piecesN a r).map (shiftPc d) := by
  intro n
  induction n with
  | zero => intro a r h; have := List.eq_nil_of_length_eq_zero (Nat.le_zero.1 h); subst this; rfl
  | succ n ih =>
    intro a r h
    by_cases hr : r = []
    · subst hr; rfl
    · rw [piecesN_eq _ _ hr, piecesN_eq _ _ hr, List.map_append]
      have h0 : 1 ≤ r.length := List.length_pos_iff.2 hr
      congr 1
      · unfold htmlN
        split <;> rfl
      · by_cases hk : (openN r).kind = 0
        · rw [if_pos hk, if_pos hk]; rfl
        · have hn := nextN_le r hk
          rw [if_neg hk, if_neg hk, List.map_cons, show a + d + nextN r = (a + nextN r) + d from by omega, ih _ _ (by rw [List.length_drop]; omega)]
          congr 1
          unfold codePc shiftPc
          simp only [Pc.mk.injEq, true_and]
          omega
end Go.Proofs.YtbeglmolgloepaaDoor.Cutting
