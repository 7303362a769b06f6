/-
  What stands behind code that is closed has no part in where it is closed.
-/
import Derived.Test.YtbeglmolgloepaaDoorRefF
namespace Go.Proofs.YtbeglmolgloepaaDoor.Cutting
open Go

theorem hp_app {t p : List UInt8} (e : List UInt8) (h : p.length ≤ t.length) : Lib.hasPrefix (t ++ e) p = Lib.hasPrefix t p := by
  cases h1 : Lib.hasPrefix t p
  · cases h2 : Lib.hasPrefix (t ++ e) p
    · rfl
    · have h3 := List.isPrefixOf_iff_prefix.1 h2
      have h4 : p <+: t := List.prefix_of_prefix_length_le h3 (List.prefix_append t e) h
      have h5 : Lib.hasPrefix t p = true := List.isPrefixOf_iff_prefix.2 h4
      rw [h1] at h5
      cases h5
  · have h3 : p <+: t := List.isPrefixOf_iff_prefix.1 h1
    exact List.isPrefixOf_iff_prefix.2 (h3.trans (List.prefix_append t e))
theorem hp_head {b c : UInt8} {r p : List UInt8} (h : b ≠ c) : Lib.hasPrefix (b :: r) (c :: p) = false := by
  cases h1 : Lib.hasPrefix (b :: r) (c :: p)
  · rfl
  · obtain ⟨t, ht⟩ := List.isPrefixOf_iff_prefix.1 h1
    injection ht with h2 _
    exact absurd h2.symm h
theorem textGo_app (q : UInt8) (e : List UInt8) : ∀ (n : Nat) (t : List UInt8), t.length ≤ n → textGo q t < t.length → textGo q (t ++ e) = textGo q t := by
  intro n
  induction n with
  | zero => intro t h h2; omega
  | succ n ih =>
    intro t h h2
    match t, h, h2 with
    | [], _, h2 => exact absurd h2 (Nat.not_lt_zero _)
    | [b], _, h2 =>
      exfalso
      simp only [textGo] at h2
      split at h2 <;> (try split at h2) <;> simp at h2
    | b :: c :: r, h, h2 =>
      rw [textGo] at h2
      show textGo q (b :: c :: (r ++ e)) = _
      rw [textGo, textGo]
      simp only [List.length_cons] at h h2
      by_cases hb : (b == 92) = true
      · rw [if_pos hb] at h2
        rw [if_pos hb, if_pos hb, ih r (by omega) (by omega)]
      · rw [if_neg hb] at h2
        rw [if_neg hb, if_neg hb]
        by_cases hq : (b == q) = true
        · rw [if_pos hq, if_pos hq]
        · rw [if_neg hq] at h2
          rw [if_neg hq, if_neg hq, ← List.cons_append, ih (c :: r) (by simp only [List.length_cons]; omega) (by simp only [List.length_cons]; omega)]
theorem commentGo_app (e : List UInt8) : ∀ t : List UInt8, commentGo t < t.length → commentGo (t ++ e) = commentGo t := by
  intro t
  induction t with
  | nil => intro h; exact absurd h (Nat.not_lt_zero _)
  | cons b r ih =>
    intro h
    rw [commentGo] at h
    rw [List.cons_append, commentGo, commentGo, ← List.cons_append]
    by_cases hp : Lib.hasPrefix (b :: r) [42, 47] = true
    · rw [hp_app e (hasPrefix_length hp)]
      rw [if_pos hp, if_pos hp]
    · rw [if_neg hp] at h ⊢
      simp only [List.length_cons] at h
      rw [hp_app e (by simp only [List.length_cons, List.length_nil]; omega), if_neg hp, ih (by omega)]
theorem remarkN_app (e : List UInt8) : ∀ t : List UInt8, remarkN t < t.length → remarkN (t ++ e) = remarkN t := by
  intro t
  induction t with
  | nil => intro h; exact absurd h (Nat.not_lt_zero _)
  | cons b r ih =>
    intro h
    rw [remarkN] at h
    rw [List.cons_append, remarkN, remarkN, ← List.cons_append]
    by_cases hp : (b == 10 || Lib.hasPrefix (b :: r) [63, 62]) = true
    · rw [if_pos hp]
      rw [if_pos]
      rcases Bool.or_eq_true _ _ ▸ hp with h1 | h1
      · rw [h1]; rfl
      · rw [hp_app e (hasPrefix_length h1), h1, Bool.or_true]
    · rw [if_neg hp] at h ⊢
      simp only [List.length_cons] at h
      rw [hp_app e (by simp only [List.length_cons, List.length_nil]; omega), if_neg hp, ih (by omega)]
theorem wordN_app (e : List UInt8) (t : List UInt8) (h : wordN t < t.length) : wordN (t ++ e) = wordN t := by
  cases t with
  | nil => exact absurd h (Nat.not_lt_zero _)
  | cons b r =>
    rw [wordN] at h ⊢
    rw [List.cons_append, wordN]
    by_cases hd : digB b = true
    · rw [if_pos hd, if_pos hd]
    · rw [if_neg hd] at h ⊢
      rw [if_neg hd, ← List.cons_append, List.takeWhile_append, if_neg (by omega)]
theorem wordN_app_full (e : List UInt8) (t : List UInt8) (h : wordN t = t.length) : t.length ≤ wordN (t ++ e) ∨ t = [] := by
  cases t with
  | nil => exact .inr rfl
  | cons b r =>
    left
    rw [wordN] at h
    rw [List.cons_append, wordN]
    by_cases hd : digB b = true
    · rw [if_pos hd] at h; simp at h
    · rw [if_neg hd] at h ⊢
      rw [← List.cons_append, List.takeWhile_append, if_pos h, List.length_append]
      omega
theorem longGo_ends (name : List UInt8) : ∀ (t : List UInt8) (st : Bool), longGo name st t = t.length ∨ name.length ≤ longGo name st t := by
  intro t
  induction t with
  | nil => intro st; exact .inl rfl
  | cons b r ih =>
    intro st
    rw [longGo]
    split
    · exact .inr (Nat.le_refl _)
    · rcases ih (b == 10) with h | h
      · left; rw [h, List.length_cons]; omega
      · right; omega
theorem longGo_app (name e : List UInt8) : ∀ (t : List UInt8) (st : Bool), longGo name st t < t.length → longGo name st (t ++ e) = longGo name st t := by
  intro t
  induction t with
  | nil => intro st h; exact absurd h (Nat.not_lt_zero _)
  | cons b r ih =>
    intro st h
    rw [longGo] at h
    rw [List.cons_append, longGo, longGo, ← List.cons_append]
    by_cases hc : (st && (Lib.hasPrefix (b :: r) name && wordN (b :: r) == name.length)) = true
    · rw [if_pos hc] at h ⊢
      have h2 : wordN (b :: r) = name.length := by simp only [Bool.and_eq_true, beq_iff_eq] at hc; exact hc.2.2
      rw [hp_app e (by omega), wordN_app e (b :: r) (by omega), if_pos hc]
    · rw [if_neg hc] at h ⊢
      simp only [List.length_cons] at h
      have h3 : name.length ≤ r.length := by
        rcases longGo_ends name r (b == 10) with h4 | h4 <;> omega
      rw [ih (b == 10) (by omega)]
      have hn : name.length < r.length := by
        rcases longGo_ends name r (b == 10) with h4 | h4 <;> omega
      have h5 : (wordN ((b :: r) ++ e) == name.length) = (wordN (b :: r) == name.length) := by
        rcases Nat.lt_or_ge (wordN (b :: r)) (b :: r).length with hw | hw
        · rw [wordN_app e _ hw]
        · have hw2 : wordN (b :: r) = (b :: r).length := Nat.le_antisymm (wordN_le _) hw
          rcases wordN_app_full e _ hw2 with h6 | h6
          · have a1 : (wordN ((b :: r) ++ e) == name.length) = false := by rw [beq_eq_false_iff_ne]; simp only [List.length_cons] at h6; omega
            have a2 : (wordN (b :: r) == name.length) = false := by rw [beq_eq_false_iff_ne]; simp only [List.length_cons] at hw; omega
            rw [a1, a2]
          · cases h6
      rw [hp_app e (by simp only [List.length_cons]; omega), h5, if_neg hc]
theorem word_stop (r : List UInt8) : ∀ i, r[i]? = some 63 → (r.takeWhile wordB).length ≤ i := by
  induction r with
  | nil => intro i h; cases h
  | cons b r ih =>
    intro i h
    cases hb : wordB b with
    | false => rw [List.takeWhile_cons, hb]; exact Nat.zero_le _
    | true =>
      rw [List.takeWhile_cons, hb]
      cases i with
      | zero =>
        injection h with h
        subst h
        cases hb
      | succ i =>
        have := ih i h
        simp only [if_true, List.length_cons]
        omega
theorem wordN_stop (t : List UInt8) (i : Nat) (h : t[i]? = some 63) : wordN t ≤ i := by
  cases t with
  | nil => cases h
  | cons b r =>
    rw [wordN]
    split
    · exact Nat.zero_le _
    · exact word_stop _ i h
theorem at_of_close {t : List UInt8} {c : Nat} (h : Lib.hasPrefix (t.drop c) [63, 62] = true) : t[c]? = some 63 ∧ c + 2 ≤ t.length := by
  have h1 := hasPrefix_length h
  obtain ⟨x, hx⟩ := List.isPrefixOf_iff_prefix.1 h
  rw [List.length_drop] at h1
  simp only [List.length_cons, List.length_nil] at h1
  refine ⟨?_, by omega⟩
  have h2 : (t.drop c)[0]? = some 63 := by rw [← hx]; rfl
  rw [List.getElem?_drop] at h2
  exact h2
theorem hp_at {t p : List UInt8} (h : Lib.hasPrefix t p = true) {i : Nat} {b : UInt8} (hi : p[i]? = some b) : t[i]? = some b := by
  obtain ⟨x, hx⟩ := List.isPrefixOf_iff_prefix.1 h
  rw [← hx, List.getElem?_append_left]
  · exact hi
  · exact (List.getElem?_eq_some_iff.1 hi).1
end Go.Proofs.YtbeglmolgloepaaDoor.Cutting
