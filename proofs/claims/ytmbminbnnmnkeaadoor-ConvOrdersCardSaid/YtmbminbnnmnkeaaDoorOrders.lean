/-
  Pure: what Order and Same of package conv answer, as the plain functions of layer 6 have it.
-/
import Derived.Test.YtmbminbnnmnkeaaDoorConvE
namespace Go.Proofs.YtmbminbnnmnkeaaDoor
open Go Go.RowKit Convs

def toV (k n : Int) (s : L) : V := if k = 0 then .null else if k = 1 then .bool (n != 0) else if k = 2 then .int n else if k = 3 then .text s else .other

theorem plain_cases (k : Int) (h : plainN k = true) : k = 0 ∨ k = 1 ∨ k = 2 ∨ k = 3 := by
  simp only [plainN, Bool.or_eq_true, beq_iff_eq] at h
  omega

theorem truNum_plain (k n : Int) (s : L) (len : Nat) (h : plainN k = true) : truNum k n s len = if truthT (toV k n s) then 1 else 0 := by
  rcases plain_cases k h with rfl | rfl | rfl | rfl
  · simp [truNum, truthN, toV, truthT]
  · simp [truNum, truthN, toV, truthT]
  · simp [truNum, truthN, toV, truthT]
  · simp [truNum, truthN, toV, truthT]
theorem numT_bools (a b : Bool) : numT (if a then 1 else 0) (if b then 1 else 0) = truT a b := by cases a <;> cases b <;> rfl

theorem orderN_eq (k n : Int) (s : L) (len : Nat) (k' n' : Int) (s' : L) (len' : Nat) (h : plainN k = true) (h' : plainN k' = true) :
    orderN k n s len k' n' s' len' = (orderT (toV k n s) (toV k' n' s'), 0) := by
  by_cases hb : (byN k k' || byN k' k) = true
  · have h1 : orderN k n s len k' n' s' len' = (truT (truthT (toV k n s)) (truthT (toV k' n' s')), 0) := by
      unfold orderN
      rw [h, h', hb, truNum_plain k n s len h, truNum_plain k' n' s' len' h', numT_bools]
      rfl
    rw [h1]
    rcases plain_cases k h with rfl | rfl | rfl | rfl <;> rcases plain_cases k' h' with rfl | rfl | rfl | rfl <;>
      first | rfl | exact absurd hb (by decide)
  · have h1 : orderN k n s len k' n' s' len' = if (numOfN k n s).2 && (numOfN k' n' s').2 then (numT (numOfN k n s).1 (numOfN k' n' s').1, 0) else (lexT (textN k n s).1 (textN k' n' s').1, 0) := by
      unfold orderN
      rw [h, h']
      simp only [Bool.and_self, if_true]
      rw [if_neg hb]
    rw [h1]
    rcases plain_cases k h with rfl | rfl | rfl | rfl <;> rcases plain_cases k' h' with rfl | rfl | rfl | rfl
    all_goals first
      | exact absurd (by decide) hb
      | rfl
      | (cases h1 : numericT s <;> cases h2 : numericT s' <;> simp [numOfN, numN, toV, orderT, numOf, textOf, textN, mixT, h1, h2])
theorem orderN_not (k n : Int) (s : L) (len : Nat) (k' n' : Int) (s' : L) (len' : Nat) (h : (plainN k && plainN k') = false) : orderN k n s len k' n' s' len' = (0, 15) := by
  unfold orderN; rw [h]; rfl
theorem sameN_eq (k n : Int) (s : L) (k' n' : Int) (s' : L) : sameN k n s k' n' s' = sameT (toV k n s) (toV k' n' s') := by
  unfold sameN toV
  by_cases hk : k = k'
  · subst hk
    by_cases h0 : k = 0
    · simp [h0, sameT]
    by_cases h1 : k = 1
    · subst h1
      show ((n == 0) == (n' == 0)) = ((!(n == 0)) == (!(n' == 0)))
      cases (n == 0) <;> cases (n' == 0) <;> rfl
    by_cases h2 : k = 2
    · simp [h2, sameT]
    by_cases h3 : k = 3
    · simp [h3, sameT]
    simp [h0, h1, h2, h3, sameT]
  · simp only [hk, if_false]
    repeat' split
    all_goals first | rfl | omega
theorem sameN_plain (k n : Int) (s : L) (k' n' : Int) (s' : L) (h : sameN k n s k' n' s' = true) : plainN k = true ∧ plainN k' = true := by
  unfold sameN at h
  by_cases hk : k = k'
  · subst hk
    by_cases h0 : k = 0
    · simp [h0, plainN]
    by_cases h1 : k = 1
    · simp [h1, plainN]
    by_cases h2 : k = 2
    · simp [h2, plainN]
    by_cases h3 : k = 3
    · simp [h3, plainN]
    simp [h0, h1, h2, h3] at h
  · simp [hk] at h
theorem lexT_in : ∀ a b : L, lexT a b = -1 ∨ lexT a b = 0 ∨ lexT a b = 1
  | [], [] => by simp [lexT]
  | [], _ :: _ => by simp [lexT]
  | _ :: _, [] => by simp [lexT]
  | a :: r, b :: t => by
    have := lexT_in r t
    simp only [lexT]
    repeat' split
    all_goals first | (left; rfl) | (right; right; rfl) | exact this
theorem numT_in (a b : Int) : numT a b = -1 ∨ numT a b = 0 ∨ numT a b = 1 := by
  unfold numT; repeat' split
  all_goals simp
theorem orderN_in (k n : Int) (s : L) (len : Nat) (k' n' : Int) (s' : L) (len' : Nat) :
    (orderN k n s len k' n' s' len').1 = -1 ∨ (orderN k n s len k' n' s' len').1 = 0 ∨ (orderN k n s len k' n' s' len').1 = 1 := by
  unfold orderN
  repeat' split
  · exact numT_in _ _
  · exact numT_in _ _
  · exact lexT_in _ _
  · simp

/-- The five ways in which an order, its turn and sameness stand together. -/
theorem turns (k n : Int) (s : L) (len : Nat) (k' n' : Int) (s' : L) (len' : Nat) :
    ∃ o e : Int, ∃ x : Bool, orderN k n s len k' n' s' len' = (o, e) ∧ orderN k' n' s' len' k n s len = (-o, e) ∧ sameN k n s k' n' s' = x ∧ sameN k' n' s' k n s = x ∧
      ((o = 0 ∧ e = 0 ∧ x = true) ∨ (o = 0 ∧ e = 0 ∧ x = false) ∨ (o = 1 ∧ e = 0 ∧ x = false) ∨ (o = -1 ∧ e = 0 ∧ x = false) ∨ (o = 0 ∧ e = 15 ∧ x = false)) := by
  have hs : sameN k' n' s' k n s = sameN k n s k' n' s' := by rw [sameN_eq, sameN_eq]; exact sameT_turn _ _
  by_cases hp : plainN k = true ∧ plainN k' = true
  · have h1 := orderN_eq k n s len k' n' s' len' hp.1 hp.2
    have h2 := orderN_eq k' n' s' len' k n s len hp.2 hp.1
    rw [orderT_turn (toV k n s)] at h2
    have hin := orderN_in k n s len k' n' s' len'
    rw [h1] at hin
    refine ⟨_, _, _, h1, h2, rfl, hs, ?_⟩
    simp only at hin
    cases hx : sameN k n s k' n' s'
    · rcases hin with h | h | h <;> rw [h] <;> simp
    · rw [sameN_eq] at hx
      rw [sameT_order _ _ hx]; simp
  · have hx : sameN k n s k' n' s' = false := by
      cases hx : sameN k n s k' n' s'
      · rfl
      · exact absurd (sameN_plain _ _ _ _ _ _ hx) hp
    have hn : (plainN k && plainN k') = false := by cases a : plainN k <;> cases b : plainN k' <;> simp_all
    have hn' : (plainN k' && plainN k) = false := by rw [Bool.and_comm]; exact hn
    exact ⟨0, 15, false, orderN_not _ _ _ _ _ _ _ _ hn, orderN_not _ _ _ _ _ _ _ _ hn', hx, hs.trans hx, by simp⟩
end Go.Proofs.YtmbminbnnmnkeaaDoor
