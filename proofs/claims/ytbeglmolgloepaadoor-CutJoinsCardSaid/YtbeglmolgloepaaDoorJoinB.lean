/-
  Where a hidden part, and where code, ends: told by what stands up to there.
-/
import Derived.Test.YtbeglmolgloepaaDoorJoinA
namespace Go.Proofs.YtbeglmolgloepaaDoor.Cutting
open Go

theorem drop_app (t e : List UInt8) (n : Nat) (h : n ≤ t.length) : (t ++ e).drop n = t.drop n ++ e := List.drop_append_of_le_length h

/-- The heads of a long text, where a '?' comes behind. -/
theorem head_app (t e : List UInt8) (c : Nat) (h3 : Lib.hasPrefix t [60, 60, 60] = true) (hc : Lib.hasPrefix (t.drop c) [63, 62] = true) :
    quoteN (t ++ e) = quoteN t ∧ headFin (t ++ e) = headFin t ∧ headRest (t ++ e) = headRest t ++ e ∧ wordN (headRest (t ++ e)) = wordN (headRest t) ∧ wordN (headRest t) ≤ (headRest t).length ∧ headOk (t ++ e) = headOk t ∧ 3 + quoteN t ≤ t.length := by
  obtain ⟨hq, hl⟩ := at_of_close hc
  have c0 : t[0]? = some 60 := hp_at h3 rfl
  have c1 : t[1]? = some 60 := hp_at h3 rfl
  have c2 : t[2]? = some 60 := hp_at h3 rfl
  have n0 : c ≠ 0 := fun h => by subst h; rw [c0] at hq; cases hq
  have n1 : c ≠ 1 := fun h => by subst h; rw [c1] at hq; cases hq
  have n2 : c ≠ 2 := fun h => by subst h; rw [c2] at hq; cases hq
  have e3 : (t ++ e).drop 3 = t.drop 3 ++ e := drop_app t e 3 (by omega)
  have p3 : Lib.hasPrefix ((t ++ e).drop 3) [39] = Lib.hasPrefix (t.drop 3) [39] := by
    rw [e3, hp_app e (by rw [List.length_drop]; simp only [List.length_cons, List.length_nil]; omega)]
  have hq1 : quoteN (t ++ e) = quoteN t := by unfold quoteN; rw [p3]
  have hf1 : headFin (t ++ e) = headFin t := by unfold headFin; rw [p3]
  have n3 : 3 + quoteN t ≤ c := by
    unfold quoteN
    split
    · next hp =>
      have c3 : (t.drop 3)[0]? = some 39 := hp_at hp rfl
      rw [List.getElem?_drop] at c3
      have : c ≠ 3 := fun h => by subst h; rw [c3] at hq; cases hq
      omega
    · omega
  have hr1 : headRest (t ++ e) = headRest t ++ e := by
    unfold headRest
    rw [hq1, e3, drop_app _ e _ (by rw [List.length_drop]; omega)]
  have hq2 : (headRest t)[c - 3 - quoteN t]? = some 63 := by
    unfold headRest
    rw [List.getElem?_drop, List.getElem?_drop, show 3 + (quoteN t + (c - 3 - quoteN t)) = c from by omega]
    exact hq
  have hw := wordN_stop _ _ hq2
  have hll : (headRest t).length = t.length - 3 - quoteN t := by unfold headRest; rw [List.length_drop, List.length_drop]
  have hw1 : wordN (headRest (t ++ e)) = wordN (headRest t) := by rw [hr1, wordN_app e _ (by omega)]
  refine ⟨hq1, hf1, hr1, hw1, by omega, ?_, by omega⟩
  unfold headOk
  rw [hw1, hf1, hr1, drop_app _ e _ (by omega)]
  congr 1
  have h2 : (headFin t).length ≤ 2 := by unfold headFin; split <;> simp
  exact hp_app e (by rw [List.length_drop]; omega)
theorem longN_app (t e : List UInt8) (c : Nat) (h3 : Lib.hasPrefix t [60, 60, 60] = true) (hc : Lib.hasPrefix (t.drop c) [63, 62] = true) (hle : longN t ≤ c) : longN (t ++ e) = longN t := by
  obtain ⟨hq, hf, hr, hw, hwl, hok, _⟩ := head_app t e c h3 hc
  obtain ⟨_, hl⟩ := at_of_close hc
  unfold longN at hle ⊢
  rw [hok]
  by_cases hk : headOk t = true
  · rw [if_pos hk] at hle ⊢
    rw [if_pos hk]
    have ha : headAt (t ++ e) = headAt t := by unfold headAt; rw [hok, hq, hw, hf]
    have hn : headName (t ++ e) = headName t := by
      unfold headName
      rw [hok, hw, hr, List.take_append_of_le_length hwl]
    have h1 := headAt_le t hk
    rw [ha, hn, drop_app t e _ h1.1, longGo_app (headName t) e (t.drop (headAt t)) true (by rw [List.length_drop]; omega)]
  · rw [if_neg hk, if_neg hk]
theorem stepN_app (t e : List UInt8) (c : Nat) (ht : t ≠ []) (hc : Lib.hasPrefix (t.drop c) [63, 62] = true) (hle : stepN t ≤ c) : stepN (t ++ e) = stepN t := by
  obtain ⟨_, hl⟩ := at_of_close hc
  have h1 := (stepN_le t ht).1
  cases t with
  | nil => exact absurd rfl ht
  | cons b r =>
    have p2 : ∀ x y : UInt8, Lib.hasPrefix (b :: (r ++ e)) [x, y] = Lib.hasPrefix (b :: r) [x, y] := fun x y => hp_app (t := b :: r) e (by simp only [List.length_cons, List.length_nil] at hl ⊢; omega)
    have p3 : Lib.hasPrefix (b :: (r ++ e)) [60, 60, 60] = Lib.hasPrefix (b :: r) [60, 60, 60] := hp_app (t := b :: r) e (by simp only [List.length_cons, List.length_nil] at hl ⊢; omega)
    rw [List.cons_append]
    rw [stepN] at hle h1
    rw [stepN, stepN, p2, p2, p3]
    by_cases c1 : (b == 39 || b == 34) = true
    · rw [if_pos c1] at hle ⊢
      rw [if_pos c1]
      rw [textN] at hle
      rw [textN, textN, textGo_app b e r.length r (Nat.le_refl _) (by simp only [List.length_cons] at hl; omega)]
    · rw [if_neg c1] at hle h1 ⊢
      rw [if_neg c1]
      by_cases c2 : Lib.hasPrefix (b :: r) [47, 42] = true
      · rw [if_pos c2] at hle ⊢
        rw [if_pos c2]
        unfold commentN at hle ⊢
        rw [← List.cons_append, drop_app _ e 2 (by omega), commentGo_app e _ (by rw [List.length_drop]; omega)]
      · rw [if_neg c2] at hle h1 ⊢
        rw [if_neg c2]
        by_cases c3 : (Lib.hasPrefix (b :: r) [47, 47] || b == 35) = true
        · rw [if_pos c3] at hle ⊢
          rw [if_pos c3, ← List.cons_append, remarkN_app e _ (by omega)]
        · rw [if_neg c3] at hle h1 ⊢
          rw [if_neg c3]
          by_cases c4 : Lib.hasPrefix (b :: r) [60, 60, 60] = true
          · rw [if_pos c4] at hle ⊢
            rw [if_pos c4, ← List.cons_append, longN_app _ e c c4 hc hle]
          · rw [if_neg c4, if_neg c4]
theorem codeN_app (e : List UInt8) : ∀ (n : Nat) (t : List UInt8), t.length ≤ n → Lib.hasPrefix (t.drop (codeN t)) [63, 62] = true → codeN (t ++ e) = codeN t := by
  intro n
  induction n with
  | zero =>
    intro t h hc
    have := List.eq_nil_of_length_eq_zero (Nat.le_zero.1 h)
    subst this
    cases hc
  | succ n ih =>
    intro t h hc
    by_cases ht : t = []
    · subst ht; cases hc
    · obtain ⟨_, hl⟩ := at_of_close hc
      have hp : Lib.hasPrefix (t ++ e) [63, 62] = Lib.hasPrefix t [63, 62] := hp_app e (by simp only [List.length_cons, List.length_nil]; omega)
      have hne : (t ++ e).isEmpty = false := by cases t with | nil => exact absurd rfl ht | cons => rfl
      have hne2 : t.isEmpty = false := by cases t with | nil => exact absurd rfl ht | cons => rfl
      cases h1 : Lib.hasPrefix t [63, 62]
      · have hs := stepN_le t ht
        have hcn : codeN t = stepN t + codeN (t.drop (stepN t)) := by rw [codeN_eq, if_neg (by rw [hne2, h1]; simp)]
        have hsa : stepN (t ++ e) = stepN t := stepN_app t e (codeN t) ht hc (by omega)
        rw [codeN_eq, if_neg (by rw [hne, hp, h1]; simp), hsa, hcn, drop_app t e _ hs.2]
        rw [ih (t.drop (stepN t)) (by rw [List.length_drop]; omega) (by rw [List.drop_drop, ← hcn]; exact hc)]
      · rw [codeN_eq, if_pos (by rw [hp, h1]; simp), codeN_eq, if_pos (by rw [h1]; simp)]
end Go.Proofs.YtbeglmolgloepaaDoor.Cutting
