/-
  The plain functions of layer 7: keys in their one form, and an ordered list of items under keys, on lists of bytes. Nothing of the program is named here.
-/
import Derived.Test.YtmfnonepcipplaaDoorScan
namespace Go.Proofs.YtmfnonepcipplaaDoor.Lists
open Convs

/-- A key: is it a text, its number, its text. -/
structure K where
  t : Bool
  n : Int
  s : L
  deriving DecidableEq

def normT (k : K) : K :=
  if k.t then
    match numericT k.s with
    | some n => if digitsT n = k.s then ⟨false, n, []⟩ else ⟨true, 0, k.s⟩
    | none => ⟨true, 0, k.s⟩
  else ⟨false, k.n, []⟩

theorem normT_idem (k : K) : normT (normT k) = normT k := by
  unfold normT
  by_cases h : k.t = true
  · simp only [h, if_true]
    cases hn : numericT k.s with
    | none => simp [hn]
    | some n =>
      simp only
      by_cases hd : digitsT n = k.s
      · simp [hd]
      · simp [hd, hn]
  · simp [h]

/-- An ordered list: its items, and the next number (-1: none). -/
structure Ls where
  items : List (K × Int)
  next : Int

def Ls.keys (l : Ls) : List K := l.items.map (·.1)
def maxItems : Nat := 2048

def getI : List (K × Int) → K → Option Int
  | [], _ => none
  | x :: r, k => if x.1 = k then some x.2 else getI r k
def putI : List (K × Int) → K → Int → List (K × Int)
  | [], _, _ => []
  | x :: r, k, v => if x.1 = k then (k, v) :: r else x :: putI r k v
def delI : List (K × Int) → K → List (K × Int)
  | [], _ => []
  | x :: r, k => if x.1 = k then r else x :: delI r k
def hasI (l : List (K × Int)) (k : K) : Bool := (getI l k).isSome

def nextT (next : Int) (k : K) : Int := if k.t = false ∧ 0 ≤ next ∧ next ≤ k.n then (if k.n < most then k.n + 1 else -1) else next

/-- Under a key in its one form: the list behind, and whether it was full. -/
def Ls.set (l : Ls) (k : K) (v : Int) : Ls × Bool :=
  if hasI l.items k then (⟨putI l.items k v, l.next⟩, false)
  else if maxItems ≤ l.items.length then (l, true)
  else (⟨l.items ++ [(k, v)], nextT l.next k⟩, false)
def Ls.append (l : Ls) (v : Int) : Ls × K × Bool :=
  if l.next < 0 then (l, ⟨false, 0, []⟩, true)
  else
    let k : K := ⟨false, l.next, []⟩
    let r := l.set k v
    (r.1, if r.2 then ⟨false, 0, []⟩ else k, r.2)
def Ls.del (l : Ls) (k : K) : Ls × Bool := if hasI l.items k then (⟨delI l.items k, l.next⟩, true) else (l, false)

theorem hasI_mem (l : List (K × Int)) (k : K) : hasI l k = true ↔ k ∈ l.map (·.1) := by
  unfold hasI
  induction l with
  | nil => simp [getI]
  | cons x r ih =>
    simp only [getI, List.map_cons, List.mem_cons]
    by_cases h : x.1 = k
    · simp [h]
    · rw [if_neg h, ih]
      constructor
      · exact fun h => .inr h
      · rintro (h1 | h1)
        · exact absurd h1.symm h
        · exact h1
theorem putI_keys (l : List (K × Int)) (k : K) (v : Int) : (putI l k v).map (·.1) = l.map (·.1) := by
  induction l with
  | nil => rfl
  | cons x r ih =>
    simp only [putI]
    by_cases h : x.1 = k
    · simp [h]
    · simp [h, ih]
theorem putI_len (l : List (K × Int)) (k : K) (v : Int) : (putI l k v).length = l.length := by
  have := congrArg List.length (putI_keys l k v); simpa using this
theorem delI_sub (l : List (K × Int)) (k : K) : (delI l k).Sublist l := by
  induction l with
  | nil => exact List.Sublist.refl _
  | cons x r ih =>
    simp only [delI]
    by_cases h : x.1 = k
    · rw [if_pos h]; exact List.sublist_cons_self _ _
    · rw [if_neg h]; exact ih.cons_cons x
theorem getI_put_same (l : List (K × Int)) (k : K) (v : Int) (h : hasI l k = true) : getI (putI l k v) k = some v := by
  induction l with
  | nil => simp [hasI, getI] at h
  | cons x r ih =>
    simp only [putI]
    by_cases hx : x.1 = k
    · simp [hx, getI]
    · rw [if_neg hx]
      have hr : hasI r k = true := by simpa [hasI, getI, hx] using h
      simp [getI, hx, ih hr]
theorem getI_put_other (l : List (K × Int)) (k j : K) (v : Int) (h : j ≠ k) : getI (putI l k v) j = getI l j := by
  induction l with
  | nil => rfl
  | cons x r ih =>
    simp only [putI]
    by_cases hx : x.1 = k
    · rw [if_pos hx]; simp [getI, hx, Ne.symm h]
    · rw [if_neg hx]; simp [getI, ih]
theorem getI_append (l m : List (K × Int)) (k : K) : getI (l ++ m) k = match getI l k with | some v => some v | none => getI m k := by
  induction l with
  | nil => rfl
  | cons x r ih =>
    simp only [List.cons_append, getI]
    by_cases hx : x.1 = k
    · simp [hx]
    · simp [hx, ih]
theorem getI_at (l : List (K × Int)) (hn : (l.map (·.1)).Nodup) (i : Nat) (x : K × Int) (h : l[i]? = some x) : getI l x.1 = some x.2 := by
  induction l generalizing i with
  | nil => simp at h
  | cons y r ih =>
    simp only [List.map_cons, List.nodup_cons] at hn
    cases i with
    | zero => simp at h; subst h; simp [getI]
    | succ i =>
      simp only [List.getElem?_cons_succ] at h
      have hm : x.1 ∈ r.map (·.1) := List.mem_map_of_mem (List.mem_of_getElem? h)
      have hne : y.1 ≠ x.1 := fun e => hn.1 (e ▸ hm)
      simp [getI, hne, ih hn.2 i h]

/-- What every list is that was made by these calls. -/
structure Ls.Good (l : Ls) : Prop where
  nodup : l.keys.Nodup
  norm : ∀ k ∈ l.keys, normT k = k
  len : l.items.length ≤ maxItems
  lo : -1 ≤ l.next
  hi : l.next ≤ most
  below : ∀ k ∈ l.keys, k.t = false → l.next = -1 ∨ k.n < l.next

theorem Ls.Good.new : Ls.Good ⟨[], 0⟩ := ⟨List.nodup_nil, fun _ h => by simp [Ls.keys] at h, by simp, by simp, by simp [most], fun _ h => by simp [Ls.keys] at h⟩

theorem Ls.Good.fresh {l : Ls} (h : l.Good) (h0 : 0 ≤ l.next) : hasI l.items ⟨false, l.next, []⟩ = false := by
  cases hh : hasI l.items ⟨false, l.next, []⟩
  · rfl
  · have := h.below _ ((hasI_mem _ _).1 hh) rfl
    simp only at this
    omega

theorem nextT_bounds (next : Int) (k : K) (h0 : -1 ≤ next) (h1 : next ≤ most) : -1 ≤ nextT next k ∧ nextT next k ≤ most := by
  unfold nextT most at *
  repeat' split
  all_goals omega
theorem nextT_above (next : Int) (k : K) (hk : k.t = false) (h0 : -1 ≤ next) : nextT next k = -1 ∨ k.n < nextT next k := by
  unfold nextT most at *
  rw [hk]
  simp only [true_and]
  repeat' split
  all_goals omega
theorem nextT_mono (next : Int) (k : K) (j : Int) (h : next = -1 ∨ j < next) : nextT next k = -1 ∨ j < nextT next k := by
  unfold nextT
  repeat' split
  all_goals omega

theorem Ls.Good.set {l : Ls} (h : l.Good) (k : K) (v : Int) (hk : normT k = k) : (l.set k v).1.Good := by
  unfold Ls.set
  by_cases hh : hasI l.items k = true
  · rw [if_pos hh]
    have e : (⟨putI l.items k v, l.next⟩ : Ls).keys = l.keys := putI_keys _ _ _
    exact ⟨by rw [e]; exact h.nodup, by rw [e]; exact h.norm, by show (putI _ _ _).length ≤ _; rw [putI_len]; exact h.len, h.lo, h.hi, by rw [e]; exact h.below⟩
  · rw [if_neg hh]
    by_cases hf : maxItems ≤ l.items.length
    · rw [if_pos hf]; exact h
    · rw [if_neg hf]
      have e : (⟨l.items ++ [(k, v)], nextT l.next k⟩ : Ls).keys = l.keys ++ [k] := by simp [Ls.keys]
      have hnm : k ∉ l.keys := fun hm => hh ((hasI_mem _ _).2 hm)
      have hb := nextT_bounds l.next k h.lo h.hi
      refine ⟨?_, ?_, ?_, hb.1, hb.2, ?_⟩
      · rw [e, List.nodup_append]
        exact ⟨h.nodup, by simp, fun a ha b hb => by simp at hb; subst hb; exact fun e => hnm (e ▸ ha)⟩
      · rw [e]; intro j hj
        rcases List.mem_append.1 hj with hj | hj
        · exact h.norm j hj
        · simp at hj; subst hj; exact hk
      · show (l.items ++ [(k, v)]).length ≤ _
        rw [List.length_append, List.length_singleton]; omega
      · rw [e]; intro j hj hjt
        rcases List.mem_append.1 hj with hj | hj
        · exact nextT_mono _ _ _ (h.below j hj hjt)
        · simp at hj; subst hj; exact nextT_above _ _ hjt h.lo
theorem normT_num (n : Int) : normT ⟨false, n, []⟩ = ⟨false, n, []⟩ := by simp [normT]
theorem Ls.Good.append {l : Ls} (h : l.Good) (v : Int) : (l.append v).1.Good := by
  unfold Ls.append
  by_cases hn : l.next < 0
  · rw [if_pos hn]; exact h
  · rw [if_neg hn]
    exact h.set _ _ (normT_num _)
theorem Ls.Good.del {l : Ls} (h : l.Good) (k : K) : (l.del k).1.Good := by
  unfold Ls.del
  by_cases hh : hasI l.items k = true
  · rw [if_pos hh]
    have hs : (⟨delI l.items k, l.next⟩ : Ls).keys.Sublist l.keys := (delI_sub l.items k).map _
    exact ⟨h.nodup.sublist hs, fun j hj => h.norm j (hs.subset hj), Nat.le_trans (delI_sub l.items k).length_le h.len, h.lo, h.hi, fun j hj => h.below j (hs.subset hj)⟩
  · rw [if_neg hh]; exact h

/-- The greatest number that ever was, against the next one. -/
def Ls.Most (l : Ls) (m : Int) : Prop := -1 ≤ m ∧ m ≤ most ∧ ((l.next = m + 1 ∧ m < most) ∨ (l.next = -1 ∧ m = most)) ∧ ∀ k ∈ l.keys, k.t = false → k.n ≤ m
theorem Ls.Most.new : Ls.Most ⟨[], 0⟩ (-1) := ⟨by decide, by decide, .inl ⟨rfl, by decide⟩, fun _ h => by simp [Ls.keys] at h⟩
theorem Ls.Most.set {l : Ls} {m : Int} (h : l.Most m) (k : K) (v : Int) (hm : k.n ≤ most) (ho : (l.set k v).2 = false) : (l.set k v).1.Most (if k.t = false then max m k.n else m) := by
  obtain ⟨h0, h1, h2, h3⟩ := h
  unfold Ls.set at ho ⊢
  by_cases hh : hasI l.items k = true
  · rw [if_pos hh]
    have e : (⟨putI l.items k v, l.next⟩ : Ls).keys = l.keys := putI_keys _ _ _
    have hmem := (hasI_mem _ _).1 hh
    have hmax : (if k.t = false then max m k.n else m) = m := by
      split
      · rename_i ht
        have := h3 k hmem ht
        omega
      · rfl
    rw [hmax]
    exact ⟨h0, h1, h2, by rw [e]; exact h3⟩
  · rw [if_neg hh] at ho ⊢
    by_cases hf : maxItems ≤ l.items.length
    · rw [if_pos hf] at ho; cases ho
    · rw [if_neg hf]
      have e : (⟨l.items ++ [(k, v)], nextT l.next k⟩ : Ls).keys = l.keys ++ [k] := by simp [Ls.keys]
      refine ⟨?_, ?_, ?_, ?_⟩
      · split <;> omega
      · split <;> omega
      · show (nextT l.next k = _ ∧ _) ∨ (nextT l.next k = -1 ∧ _)
        unfold nextT
        cases ht : k.t
        · simp only [true_and, if_true]
          unfold most at *
          repeat' split
          all_goals omega
        · simp only [Bool.true_eq_false, false_and, if_false]
          exact h2
      · rw [e]; intro j hj hjt
        rcases List.mem_append.1 hj with hj | hj
        · have := h3 j hj hjt
          split <;> omega
        · simp at hj; subst hj
          rw [if_pos hjt]; omega
theorem Ls.Most.del {l : Ls} {m : Int} (h : l.Most m) (k : K) : (l.del k).1.Most m := by
  obtain ⟨h0, h1, h2, h3⟩ := h
  unfold Ls.del
  split
  · have hs : (⟨delI l.items k, l.next⟩ : Ls).keys.Sublist l.keys := (delI_sub l.items k).map _
    exact ⟨h0, h1, h2, fun j hj => h3 j (hs.subset hj)⟩
  · exact ⟨h0, h1, h2, h3⟩
/-- What Append tells is above all numbers that ever were. -/
theorem Ls.Most.append {l : Ls} {m : Int} (h : l.Most m) (v : Int) (ho : (l.append v).2.2 = false) : (l.append v).1.Most (l.append v).2.1.n ∧ m < (l.append v).2.1.n ∧ (l.append v).2.1 = ⟨false, l.next, []⟩ ∧ 0 ≤ l.next := by
  have h' := h
  obtain ⟨h0, h1, h2, h3⟩ := h
  unfold Ls.append at ho ⊢
  by_cases hn : l.next < 0
  · rw [if_pos hn] at ho; cases ho
  · rw [if_neg hn] at ho ⊢
    simp only at ho ⊢
    rw [ho]
    simp only [Bool.false_eq_true, if_false]
    have hn' : ¬ l.next < (0 : Int) := hn
    have hne : l.next = m + 1 := by
      rcases h2 with h2 | h2
      · exact h2.1
      · exact absurd h2.1 (by intro e; rw [e] at hn'; exact hn' (by decide))
    have hle : l.next ≤ most := by
      rcases h2 with h2 | h2
      · omega
      · omega
    have hs := h'.set ⟨false, l.next, []⟩ v (by simpa using hle) ho
    simp only [if_true] at hs
    rw [show max m l.next = l.next from by omega] at hs
    exact ⟨hs, by show m < l.next; omega, trivial, by omega⟩

/-- The keys from a place on, up to one and behind it: none where one that is still there would be passed over. -/
def skipTo (get : K → Bool) (k : K) : List K → Option (List K)
  | [] => some []
  | a :: r => if a = k then some r else if get a then none else skipTo get k r
/-- Do the keys behind stand in the order of those ahead? -/
def scanK (get : K → Bool) : List K → List K → Bool
  | _, [] => true
  | ah, k :: r => match skipTo get k ah with
    | some ah' => scanK get ah' r
    | none => false
theorem scan_nil (get : K → Bool) : ∀ e : List K, scanK get [] e = true
  | [] => rfl
  | k :: r => by simp [scanK, skipTo, scan_nil get r]
theorem scan_app (get : K → Bool) : ∀ a e : List K, scanK get a (a ++ e) = true
  | [], e => scan_nil get e
  | x :: a, e => by simp [scanK, skipTo, scan_app get a e]
theorem scan_one (get : K → Bool) (k : K) (a : List K) (hk : get k = false) (hm : k ∉ a) : scanK get (k :: a) a = true := by
  cases a with
  | nil => rfl
  | cons y b =>
    have hne : k ≠ y := fun e => hm (e ▸ List.mem_cons_self ..)
    have := scan_app get b []
    rw [List.append_nil] at this
    simp [scanK, skipTo, hne, hk, this]
theorem scan_del (get : K → Bool) (k : K) (hk : get k = false) : ∀ l : List (K × Int), (l.map (·.1)).Nodup → scanK get (l.map (·.1)) ((delI l k).map (·.1)) = true
  | [], _ => rfl
  | x :: r, hn => by
    simp only [List.map_cons, List.nodup_cons] at hn
    simp only [delI]
    by_cases h : x.1 = k
    · rw [if_pos h, List.map_cons, h]
      exact scan_one get k _ hk (h ▸ hn.1)
    · rw [if_neg h]
      simp [scanK, skipTo, scan_del get k hk r hn.2]
theorem scan_put (get : K → Bool) (l : List (K × Int)) (k : K) (v : Int) : scanK get (l.map (·.1)) ((putI l k v).map (·.1)) = true := by
  rw [putI_keys]
  have := scan_app get (l.map (·.1)) []
  rwa [List.append_nil] at this
theorem getI_del (l : List (K × Int)) (k : K) (hn : (l.map (·.1)).Nodup) : getI (delI l k) k = none := by
  induction l with
  | nil => rfl
  | cons x r ih =>
    simp only [List.map_cons, List.nodup_cons] at hn
    simp only [delI]
    by_cases h : x.1 = k
    · rw [if_pos h]
      cases hg : getI r k with
      | none => rfl
      | some v =>
        have : hasI r k = true := by unfold hasI; rw [hg]; rfl
        exact absurd (h ▸ (hasI_mem _ _).1 this) hn.1
    · rw [if_neg h]
      simp [getI, h, ih hn.2]
end Go.Proofs.YtmfnonepcipplaaDoor.Lists
