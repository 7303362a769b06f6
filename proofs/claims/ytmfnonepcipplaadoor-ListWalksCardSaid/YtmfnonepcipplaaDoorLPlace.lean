/-
  Places of keys among items: pure facts.
-/
import Derived.Test.YtmfnonepcipplaaDoorLMade
namespace Go.Proofs.YtmfnonepcipplaaDoor
open Go Go.RowKit Convs Lists

theorem placeI_has : ∀ (l : List (K × Int)) (n : Nat) (k : K), (placeI l n k).isSome = hasI l k
  | [], _, _ => rfl
  | x :: r, n, k => by
    simp only [placeI, hasI, getI]
    by_cases h : x.1 = k
    · simp [h]
    · rw [if_neg h, if_neg h]; exact placeI_has r (n + 1) k
theorem placeI_app : ∀ (l : List (K × Int)) (n : Nat) (k : K) (v : Int) (j : K), hasI l k = false →
    placeI (l ++ [(k, v)]) n j = if j = k then some ((n + l.length : Nat) : Int) else placeI l n j
  | [], n, k, v, j, _ => by
    simp only [List.nil_append, placeI, List.length_nil, Nat.add_zero]
    by_cases h : k = j
    · simp [h]
    · rw [if_neg h, if_neg (Ne.symm h)]
  | x :: r, n, k, v, j, hh => by
    have hx : ¬ x.1 = k := by
      intro h; simp [hasI, getI, h] at hh
    have hr : hasI r k = false := by simpa [hasI, getI, hx] using hh
    have ih := placeI_app r (n + 1) k v j hr
    simp only [List.cons_append, placeI, List.length_cons]
    by_cases h : x.1 = j
    · rw [if_pos h, if_pos h, if_neg (fun e => hx (h.trans e))]
    · rw [if_neg h, if_neg h, ih]
      by_cases h2 : j = k
      · rw [if_pos h2, if_pos h2]; congr 1; omega
      · rw [if_neg h2, if_neg h2]
theorem placeOf_app (l : List (K × Int)) (k : K) (v : Int) (hh : hasI l k = false) : ∀ j, updF (placeOf l) k (some (l.length : Int)) j = placeOf (l ++ [(k, v)]) j := by
  intro j
  unfold placeOf updF
  rw [placeI_app l 0 k v j hh]
  by_cases h : j = k
  · rw [if_pos h, if_pos h]; simp
  · rw [if_neg h, if_neg h]
theorem placeI_at : ∀ (l : List (K × Int)) (n : Nat) (k : K) (i : Int), placeI l n k = some i → ∃ j : Nat, i = ((n + j : Nat) : Int) ∧ j < l.length ∧ (l.map (·.1))[j]? = some k ∧ (∀ v, l[j]? = some (k, v) → getI l k = some v) ∧ ∃ v, l[j]? = some (k, v)
  | [], _, _, _, h => by cases h
  | x :: r, n, k, i, h => by
    simp only [placeI] at h
    by_cases hx : x.1 = k
    · rw [if_pos hx] at h
      cases h
      refine ⟨0, by simp, by simp, by simp [hx], fun v hv => ?_, x.2, by simp [← hx]⟩
      simp only [List.getElem?_cons_zero, Option.some.injEq] at hv
      subst hv
      simp [getI]
    · rw [if_neg hx] at h
      obtain ⟨j, h1, h2, h3, h4, v, h5⟩ := placeI_at r (n + 1) k i h
      refine ⟨j + 1, by rw [h1]; congr 1; omega, by simp; omega, by simpa using h3, fun v hv => ?_, v, by simpa using h5⟩
      simp only [getI]
      rw [if_neg hx]
      exact h4 v (by simpa using hv)
/-- A key that is there: its place, and its item. -/
theorem placeOf_some (l : List (K × Int)) (k : K) (h : hasI l k = true) : ∃ (j : Nat) (v : Int), placeOf l k = some (j : Int) ∧ j < l.length ∧ l[j]? = some (k, v) ∧ getI l k = some v := by
  have hs := placeI_has l 0 k
  rw [h] at hs
  obtain ⟨i, hi⟩ := Option.isSome_iff_exists.1 hs
  obtain ⟨j, h1, h2, _, h4, v, h5⟩ := placeI_at l 0 k i hi
  exact ⟨j, v, by unfold placeOf; rw [hi, h1]; simp, h2, h5, h4 v h5⟩
theorem placeOf_none (l : List (K × Int)) (k : K) (h : hasI l k = false) : placeOf l k = none := by
  have hs := placeI_has l 0 k
  rw [h] at hs
  unfold placeOf
  cases hp : placeI l 0 k with
  | none => rfl
  | some i => rw [hp] at hs; cases hs
theorem placeI_put : ∀ (l : List (K × Int)) (n : Nat) (k : K) (v : Int) (j : K), placeI (putI l k v) n j = placeI l n j
  | [], _, _, _, _ => rfl
  | x :: r, n, k, v, j => by
    simp only [putI]
    by_cases h : x.1 = k
    · rw [if_pos h]; simp only [placeI, h]
    · rw [if_neg h]; simp only [placeI]; rw [placeI_put r (n + 1) k v j]
theorem putI_at : ∀ (l : List (K × Int)) (k : K) (v : Int) (j : Nat) (v0 : Int), l[j]? = some (k, v0) → placeOf l k = some (j : Int) → putI l k v = l.set j (k, v) := by
  have gen : ∀ (l : List (K × Int)) (n : Nat) (k : K) (v : Int) (j : Nat) (v0 : Int), l[j]? = some (k, v0) → placeI l n k = some ((n + j : Nat) : Int) → putI l k v = l.set j (k, v) := by
    intro l
    induction l with
    | nil => intro n k v j v0 h; simp at h
    | cons x r ih =>
      intro n k v j v0 h hp
      simp only [putI]
      simp only [placeI] at hp
      by_cases hx : x.1 = k
      · rw [if_pos hx] at hp ⊢
        have : j = 0 := by
          have := Option.some.inj hp
          omega
        subst this
        rfl
      · rw [if_neg hx] at hp ⊢
        cases j with
        | zero => simp only [List.getElem?_cons_zero, Option.some.injEq] at h; exact absurd (by rw [h]) hx
        | succ j =>
          rw [ih (n + 1) k v j v0 (by simpa using h) (by rw [hp]; congr 2; omega)]
          rfl
  intro l k v j v0 h hp
  exact gen l 0 k v j v0 h (by unfold placeOf at hp; rw [hp]; simp)
end Go.Proofs.YtmfnonepcipplaaDoor
