/-
  The document's list against the plain one: the same items, their numbers as values.
-/
import Derived.Test.YtmfnonepcipplaaDoorRApp
import Derived.Test.YtmfnonepcipplaaDoorRDel
import Derived.Test.YtmfnonepcipplaaDoorRNum
import Derived.Test.YtmfnonepcipplaaDoorLGet
import Derived.Test.YtmfnonepcipplaaDoorLDel
namespace Go.Proofs.YtmfnonepcipplaaDoor
open Go Go.RowKit Convs Lists

def toQ (l : List (K × Int)) : List (K × Q) := l.map fun x => (x.1, numQ x.2)
theorem toQ_length (l : List (K × Int)) : (toQ l).length = l.length := List.length_map ..
theorem place_find : ∀ (l : List (K × Int)) (n : Nat) (k : K), placeI l n k = (findQ (toQ l) k).map fun i => ((n + i : Nat) : Int)
  | [], _, _ => rfl
  | x :: r, n, k => by
    have e : toQ (x :: r) = (x.1, numQ x.2) :: toQ r := rfl
    rw [e, placeI, findQ]
    by_cases h : x.1 = k
    · rw [if_pos h, if_pos h]; rfl
    · rw [if_neg h, if_neg h, place_find r (n + 1) k]
      cases findQ (toQ r) k with
      | none => rfl
      | some i => simp only [Option.map_some, Option.some.injEq]; congr 1; omega
theorem find_none {l : List (K × Int)} {k : K} (h : hasI l k = false) : findQ (toQ l) k = none := by
  have h1 := placeI_has l 0 k
  rw [place_find, h] at h1
  cases hf : findQ (toQ l) k with
  | none => rfl
  | some i => rw [hf] at h1; cases h1
theorem find_some {l : List (K × Int)} {k : K} (h : hasI l k = true) : ∃ (j : Nat) (v : Int), findQ (toQ l) k = some j ∧ placeOf l k = some (j : Int) ∧ j < l.length ∧ l[j]? = some (k, v) ∧ getI l k = some v := by
  obtain ⟨j, v, h1, h2, h3, h4⟩ := placeOf_some l k h
  refine ⟨j, v, ?_, h1, h2, h3, h4⟩
  have h5 := place_find l 0 k
  unfold placeOf at h1
  rw [h1] at h5
  cases hf : findQ (toQ l) k with
  | none => rw [hf] at h5; cases h5
  | some i =>
    rw [hf] at h5
    simp only [Option.map_some, Option.some.injEq] at h5
    congr 1; omega
theorem set_to (l : Ls) (k : K) (v : Int) : setQ (toQ l.items) l.next k (numQ v) = ((toQ (l.set k v).1.items, (l.set k v).1.next), (l.set k v).2) := by
  unfold setQ Ls.set
  cases h : hasI l.items k with
  | false =>
    rw [find_none h]
    simp only [toQ_length, Bool.false_eq_true, if_false]
    unfold maxItems
    by_cases h2 : 2048 ≤ l.items.length
    · rw [if_pos h2, if_pos h2]
    · rw [if_neg h2, if_neg h2]
      simp [toQ]
  | true =>
    obtain ⟨j, v0, h1, h2, h3, h4, h5⟩ := find_some h
    rw [h1]
    simp only [if_true]
    rw [putI_at l.items k v j v0 h4 h2]
    simp [toQ, List.map_set]
theorem app_to (l : Ls) (v : Int) : appQ (toQ l.items) l.next (numQ v) = ((toQ (l.append v).1.items, (l.append v).1.next), (l.append v).2.1, (l.append v).2.2) := by
  unfold appQ Ls.append
  by_cases h : l.next < 0
  · rw [if_pos h, if_pos h]
  · rw [if_neg h, if_neg h, set_to]
theorem del_to (l : Ls) (hn : (l.items.map (·.1)).Nodup) (k : K) : delQ (toQ l.items) k = (toQ (l.del k).1.items, (l.del k).2) ∧ (l.del k).1.next = l.next := by
  unfold delQ Ls.del
  cases h : hasI l.items k with
  | false => rw [find_none h]; exact ⟨rfl, rfl⟩
  | true =>
    obtain ⟨j, v0, h1, h2, h3, h4, h5⟩ := find_some h
    rw [h1]
    simp only [if_true]
    rw [delI_cut _ _ _ _ hn h4]
    unfold cutL
    simp [toQ, List.map_take, List.map_drop]
theorem get_to (l : List (K × Int)) (k : K) : (getQ (toQ l) k).1.n = (getN l k).1 ∧ (getQ (toQ l) k).2 = (getN l k).2 := by
  unfold getQ getN
  cases h : hasI l k with
  | false =>
    rw [find_none h]
    have : getI l k = none := by
      unfold hasI at h
      cases hg : getI l k with
      | none => rfl
      | some z => rw [hg] at h; cases h
    rw [this]
    exact ⟨rfl, rfl⟩
  | true =>
    obtain ⟨j, v0, h1, h2, h3, h4, h5⟩ := find_some h
    rw [h1, h5]
    have e : (toQ l)[j]? = some (k, numQ v0) := by unfold toQ; rw [List.getElem?_map, h4]; rfl
    simp only [e]
    constructor <;> first | rfl | trivial
end Go.Proofs.YtmfnonepcipplaaDoor
