/-
  Pure: the document's answer of layer 6, step by step: a number's digits held within 64 bits, a number's digits from the last one on.
-/
import Derived.Test.YtmfnonepcipplaaDoorScan
namespace Go.Proofs.YtmfnonepcipplaaDoor.Convs
open Go

/-- A number's digits, with its sign, held within 64 bits. -/
def sat (m : Bool) (v : Nat) : Int := clamp (if m then -(v : Int) else (v : Int))

theorem sat_zero (m : Bool) : sat m 0 = 0 := by cases m <;> decide
theorem sat_bound (m : Bool) (v : Nat) : least ≤ sat m v ∧ sat m v ≤ most := by
  unfold sat clamp least most; cases m <;> simp <;> (repeat' split) <;> omega
theorem sat_minus (v d : Nat) (hd : d ≤ 9) :
    sat true (v * 10 + d) = if sat true v < Int.tdiv (least + d) 10 then least else sat true v * 10 - d := by
  have hq : Int.tdiv (least + d) 10 = -((9223372036854775808 - d) / 10) := by
    unfold least
    rw [show (-9223372036854775808 : Int) + d = -(9223372036854775808 - d) from by omega, Int.neg_tdiv, Int.tdiv_eq_ediv_of_nonneg (by omega)]
  rw [hq]
  unfold sat clamp least most
  simp only [if_true]
  repeat' split
  all_goals omega
theorem sat_plus (v d : Nat) (hd : d ≤ 9) :
    sat false (v * 10 + d) = if Int.tdiv (most - d) 10 < sat false v then most else sat false v * 10 + d := by
  have hq : Int.tdiv (most - d) 10 = (9223372036854775807 - d) / 10 := by
    unfold most; rw [Int.tdiv_eq_ediv_of_nonneg (by omega)]
  rw [hq]
  unfold sat clamp least most
  simp only [Bool.false_eq_true, if_false]
  repeat' split
  all_goals omega
theorem sat_end (m : Bool) (v : Nat) (ds : L) (h : sat m v = least ∨ sat m v = most) : sat m (valFrom v ds) = sat m v := by
  have hg := valFrom_ge ds v
  unfold sat clamp least most at *
  cases m <;> simp only [Bool.false_eq_true, if_false, if_true] at * <;> (repeat' split at h) <;> (repeat' split) <;> omega
theorem val_snoc (n : Nat) (p : L) (c : UInt8) : valFrom n (p ++ [c]) = valFrom n p * 10 + (c.toNat - 48) := by
  simp [valFrom, List.foldl_append]
theorem val_app (n : Nat) (p q : L) : valFrom n (p ++ q) = valFrom (valFrom n p) q := by
  simp [valFrom, List.foldl_append]

/-- A number's digits, as far as they are not yet written. -/
def digTo (m : Nat) : L := if m = 0 then [] else natDig m
theorem digTo_step (m : Nat) (h : m ≠ 0) (b : L) : digTo m ++ b = digTo (m / 10) ++ ((48 + m % 10).toUInt8 :: b) := by
  unfold digTo
  rw [if_neg h]
  by_cases h10 : m < 10
  · rw [natDig_small m h10, if_pos (by omega), show m % 10 = m from by omega]; rfl
  · rw [natDig_step m h10, if_neg (by omega), List.append_assoc]; rfl
theorem digTo_all (m : Nat) (h : m ≠ 0) : digTo m = natDig m := by unfold digTo; rw [if_neg h]
theorem natAbs_tdiv (m : Int) : (Int.tdiv m 10).natAbs = m.natAbs / 10 := by
  rw [Int.natAbs_tdiv]; rfl
theorem natAbs_tmod (m : Int) : (Int.tmod m 10).natAbs = m.natAbs % 10 := by
  rw [Int.natAbs_tmod]; rfl
theorem natDig_len (k : Nat) : ∀ n : Nat, n < 10 ^ k → 0 < k → (natDig n).length ≤ k := by
  induction k with
  | zero => intro n _ h; omega
  | succ k ih =>
    intro n hn _
    by_cases h : n < 10
    · rw [natDig_small n h]; simp
    · rw [natDig_step n h, List.length_append, List.length_singleton]
      have hk : 0 < k := by
        rcases Nat.eq_zero_or_pos k with rfl | hk
        · simp at hn; omega
        · exact hk
      have := ih (n / 10) (by rw [Nat.pow_succ] at hn; omega) hk
      omega
theorem digitsT_len (n : Int) (h : least ≤ n ∧ n ≤ most) : (digitsT n).length ≤ 20 := by
  have h1 : (natDig n.natAbs).length ≤ 19 := natDig_len 19 n.natAbs (by unfold least most at h; omega) (by omega)
  unfold digitsT; split <;> simp <;> omega
theorem digitsT_ne (n : Int) : digitsT n ≠ [] := by
  unfold digitsT; split
  · simp
  · exact natDig_ne _
end Go.Proofs.YtmfnonepcipplaaDoor.Convs
