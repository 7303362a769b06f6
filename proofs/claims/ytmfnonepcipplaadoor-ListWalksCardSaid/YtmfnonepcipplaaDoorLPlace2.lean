/-
  Places of keys where one item has been taken away: pure facts.
-/
import Derived.Test.YtmfnonepcipplaaDoorLPlace
namespace Go.Proofs.YtmfnonepcipplaaDoor
open Go Go.RowKit Convs Lists

theorem place_of_at : ∀ (l : List (K × Int)) (n p : Nat) (x : K) (v : Int), (l.map (·.1)).Nodup → l[p]? = some (x, v) → placeI l n x = some ((n + p : Nat) : Int)
  | [], _, _, _, _, _, h => by simp at h
  | y :: r, n, 0, x, v, _, h => by
    simp only [List.getElem?_cons_zero, Option.some.injEq] at h
    subst h
    simp [placeI]
  | y :: r, n, p + 1, x, v, hn, h => by
    simp only [List.map_cons, List.nodup_cons] at hn
    simp only [List.getElem?_cons_succ] at h
    have hx : ¬ y.1 = x := fun e => hn.1 (e ▸ List.mem_map_of_mem (List.mem_of_getElem? h) : y.1 ∈ r.map (·.1))
    simp only [placeI]
    rw [if_neg hx, place_of_at r (n + 1) p x v hn.2 h]
    congr 1; omega
theorem placeOf_at {l : List (K × Int)} {p : Nat} {x : K} {v : Int} (hn : (l.map (·.1)).Nodup) (h : l[p]? = some (x, v)) : placeOf l x = some (p : Int) := by
  unfold placeOf
  rw [place_of_at l 0 p x v hn h]; simp
theorem placeOf_inv {l : List (K × Int)} {x : K} {i : Int} (h : placeOf l x = some i) : ∃ (p : Nat) (v : Int), i = p ∧ p < l.length ∧ l[p]? = some (x, v) := by
  obtain ⟨j, h1, h2, _, _, v, h5⟩ := placeI_at l 0 x i h
  exact ⟨j, v, by simpa using h1, h2, h5⟩

/-- The map while what stands behind a place that was struck is told of anew: the first q of them are. -/
def fAt (l' : List (K × Int)) (j q : Nat) (x : K) : Option Int :=
  match placeOf l' x with
  | some p => if p < ((j + q : Nat) : Int) then some p else some (p + 1)
  | none => none

def cutL (l : List (K × Int)) (j : Nat) : List (K × Int) := l.take j ++ l.drop (j + 1)
theorem cutL_at (l : List (K × Int)) (j p : Nat) (hj : j < l.length) : (cutL l j)[p]? = if p < j then l[p]? else l[p + 1]? := by
  unfold cutL
  by_cases h : p < j
  · rw [if_pos h, List.getElem?_append_left (by rw [List.length_take]; omega), List.getElem?_take, if_pos h]
  · rw [if_neg h, List.getElem?_append_right (by rw [List.length_take]; omega), List.length_take, List.getElem?_drop]
    congr 1; omega
theorem cutL_length (l : List (K × Int)) (j : Nat) (hj : j < l.length) : (cutL l j).length = l.length - 1 := by
  unfold cutL
  rw [List.length_append, List.length_take, List.length_drop]; omega
theorem cutL_nodup {l : List (K × Int)} (j : Nat) (hn : (l.map (·.1)).Nodup) : ((cutL l j).map (·.1)).Nodup := by
  unfold cutL
  have h : (l.take j ++ l.drop (j + 1)).Sublist l := by
    have := List.Sublist.append (List.Sublist.refl (l.take j)) (List.drop_sublist_drop_left l (Nat.le_succ j))
    rwa [List.take_append_drop] at this
  exact hn.sublist (h.map _)
theorem delI_cut : ∀ (l : List (K × Int)) (k : K) (j : Nat) (v : Int), (l.map (·.1)).Nodup → l[j]? = some (k, v) → delI l k = cutL l j
  | [], _, _, _, _, h => by simp at h
  | x :: r, k, 0, v, _, h => by
    simp only [List.getElem?_cons_zero, Option.some.injEq] at h
    subst h
    simp [delI, cutL]
  | x :: r, k, j + 1, v, hn, h => by
    simp only [List.map_cons, List.nodup_cons] at hn
    simp only [List.getElem?_cons_succ] at h
    have hx : ¬ x.1 = k := fun e => hn.1 (e ▸ List.mem_map_of_mem (List.mem_of_getElem? h) : x.1 ∈ r.map (·.1))
    simp only [delI]
    rw [if_neg hx, delI_cut r k j v hn.2 h]
    rfl

theorem fAt_start {l : List (K × Int)} {k : K} {j : Nat} {v : Int} (hn : (l.map (·.1)).Nodup) (hk : l[j]? = some (k, v)) (x : K) : updF (placeOf l) k none x = fAt (cutL l j) j 0 x := by
  have hj : j < l.length := (List.getElem?_eq_some_iff.1 hk).1
  have hn' := cutL_nodup j hn
  have hpk := placeOf_at hn hk
  unfold updF fAt
  by_cases hx : x = k
  · subst hx
    rw [if_pos rfl]
    cases hp : placeOf (cutL l j) x with
    | none => rfl
    | some i =>
      obtain ⟨p, v', rfl, hl, ha⟩ := placeOf_inv hp
      rw [cutL_at l j p hj] at ha
      split at ha
      · have := placeOf_at hn ha
        rw [hpk] at this
        have := Option.some.inj this
        omega
      · have := placeOf_at hn ha
        rw [hpk] at this
        have := Option.some.inj this
        omega
  · rw [if_neg hx]
    cases hp : placeOf (cutL l j) x with
    | some i =>
      obtain ⟨p, v', rfl, hl, ha⟩ := placeOf_inv hp
      rw [cutL_at l j p hj] at ha
      simp only
      split at ha
      · rename_i h
        rw [if_pos (by omega), placeOf_at hn ha]
      · rename_i h
        rw [if_neg (by omega), placeOf_at hn ha]
        simp
    | none =>
      simp only
      cases hq : placeOf l x with
      | none => rfl
      | some i =>
        exfalso
        obtain ⟨p, v', rfl, hl, ha⟩ := placeOf_inv hq
        have hpj : p ≠ j := by
          rintro rfl
          rw [hk] at ha
          exact hx (by cases ha; rfl)
        rcases Nat.lt_or_gt_of_ne hpj with h | h
        · have : (cutL l j)[p]? = some (x, v') := by rw [cutL_at l j p hj, if_pos h]; exact ha
          rw [placeOf_at hn' this] at hp; cases hp
        · have : (cutL l j)[p - 1]? = some (x, v') := by rw [cutL_at l j _ hj, if_neg (by omega), show p - 1 + 1 = p by omega]; exact ha
          rw [placeOf_at hn' this] at hp; cases hp
theorem fAt_step {l' : List (K × Int)} {j q : Nat} {y : K} {v : Int} (hn : (l'.map (·.1)).Nodup) (hy : l'[j + q]? = some (y, v)) (x : K) : updF (fAt l' j q) y (some ((j : Int) + q)) x = fAt l' j (q + 1) x := by
  have hpy := placeOf_at hn hy
  unfold updF fAt
  by_cases hx : x = y
  · subst hx
    rw [if_pos rfl, hpy]
    simp only
    rw [if_pos (by omega), Int.natCast_add]
  · rw [if_neg hx]
    cases hp : placeOf l' x with
    | none => rfl
    | some i =>
      obtain ⟨p, v', rfl, hl, ha⟩ := placeOf_inv hp
      have hpj : p ≠ j + q := by
        rintro rfl
        rw [hy] at ha
        exact hx (by cases ha; rfl)
      simp only
      by_cases h : p < j + q
      · rw [if_pos (by omega), if_pos (by omega)]
      · rw [if_neg (by omega), if_neg (by omega)]
theorem fAt_end {l' : List (K × Int)} {j q : Nat} (hq : l'.length ≤ j + q) (x : K) : fAt l' j q x = placeOf l' x := by
  unfold fAt
  cases hp : placeOf l' x with
  | none => rfl
  | some i =>
    obtain ⟨p, v', rfl, hl, ha⟩ := placeOf_inv hp
    simp only
    rw [if_pos (by omega)]
end Go.Proofs.YtmfnonepcipplaaDoor
