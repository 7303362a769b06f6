/-
  A number's digits are read back by Atoi; what a key's text is, said without Atoi.
-/
import Derived.Test.YtmfnonepcipplaaDoorLists
import Derived.Test.YtmfnonepcipplaaDoorClamp
namespace Go.Proofs.YtmfnonepcipplaaDoor.Lists
open Convs

theorem atoi_digits (n : Int) (hn : least ≤ n ∧ n ≤ most) : Lib.atoiAll (digitsT n) = .ok n := by
  obtain ⟨c, r, hc⟩ : ∃ c r, natDig n.natAbs = c :: r := by
    cases h : natDig n.natAbs with
    | nil => exact absurd h (natDig_ne _)
    | cons c r => exact ⟨c, r, rfl⟩
  have hd := natDig_dig n.natAbs
  have hcd : digB c = true := hd c (by rw [hc]; exact List.mem_cons_self ..)
  have hval := val_natDig n.natAbs
  have hp := parse_digits (natDig n.natAbs) 0 hd (by omega)
  have hb : n.natAbs < 18446744073709551616 := by unfold least most at hn; omega
  have hmag : Lib.parseMag (natDig n.natAbs) = .ok n.natAbs := by
    unfold Lib.parseMag
    rw [if_neg (natDig_ne _), hp]
    show (if 18446744073709551616 ≤ val (natDig n.natAbs) then _ else Lib.NumEnd.ok (val (natDig n.natAbs))) = _
    rw [hval, if_neg (by omega)]
  unfold digitsT
  by_cases hneg : n < 0
  · rw [if_pos hneg]
    have e : Lib.atoiAll (45 :: natDig n.natAbs) = if ¬ (45 : UInt8).toNat = 45 ∧ 9223372036854775808 ≤ n.natAbs then .range else if (45 : UInt8).toNat = 45 ∧ 9223372036854775808 < n.natAbs then .range else .ok (if (45 : UInt8).toNat = 45 then -(n.natAbs : Int) else n.natAbs) := by
      simp only [Lib.atoiAll]
      rw [if_pos (Or.inr (by decide)), hmag]
    rw [e]
    have h45 : (45 : UInt8).toNat = 45 := by decide
    unfold least most at hn
    rw [if_neg (by simp), if_neg (by rintro ⟨_, h⟩; omega), if_pos h45]
    congr 1; omega
  · rw [if_neg hneg]
    have h1 := dig_not_sign c hcd
    have n45 : ¬ c.toNat = 45 := by
      intro h; have h2 := h1.1; have h3 : (c == 45) = decide (c.toNat = 45) := toNat_eq c 45 (by omega); rw [h3, h] at h2; simp at h2
    have n43 : ¬ c.toNat = 43 := by
      intro h; have h2 := h1.2; have h3 : (c == 43) = decide (c.toNat = 43) := toNat_eq c 43 (by omega); rw [h3, h] at h2; simp at h2
    rw [hc] at hmag ⊢
    have e : Lib.atoiAll (c :: r) = if ¬ c.toNat = 45 ∧ 9223372036854775808 ≤ n.natAbs then .range else if c.toNat = 45 ∧ 9223372036854775808 < n.natAbs then .range else .ok (if c.toNat = 45 then -(n.natAbs : Int) else n.natAbs) := by
      simp only [Lib.atoiAll]
      rw [if_neg (by rintro (h | h); exact n43 h; exact n45 h), hmag]
    rw [e]
    unfold least most at hn
    rw [if_neg (by rintro ⟨_, h⟩; omega), if_neg (by rintro ⟨h, _⟩; exact n45 h), if_neg n45]
    congr 1; omega

/-- The number whose digits a text is. -/
def keyNum (s : L) : Int × Bool :=
  match numericT s with
  | some n => if digitsT n = s then (n, true) else (0, false)
  | none => (0, false)
theorem numeric_of_digits (n : Int) (hn : least ≤ n ∧ n ≤ most) (s : L) (h : digitsT n = s) : numericT s = some n := by
  have := numericT_digits n hn [] [] (by simp) (by simp)
  simp only [List.nil_append, List.append_nil] at this
  rw [← h]; exact this
theorem begT_clamped (s : L) (n : Int) (r : L) (h : begT s = some (n, r)) : least ≤ n ∧ n ≤ most := by
  unfold begT at h
  simp only at h
  split at h
  · cases h
  · simp only [Option.some.injEq, Prod.mk.injEq] at h
    obtain ⟨rfl, _⟩ := h
    unfold clamp least most
    repeat' split
    all_goals omega
theorem numericT_bounds (s : L) (n : Int) (h : numericT s = some n) : least ≤ n ∧ n ≤ most := by
  unfold numericT at h
  split at h
  · rename_i m hm
    cases h
    exact begT_clamped s _ _ hm
  · cases h
theorem keyNum_yes (n : Int) (hn : least ≤ n ∧ n ≤ most) (s : L) (h : digitsT n = s) : keyNum s = (n, true) := by
  unfold keyNum; rw [numeric_of_digits n hn s h]; simp [h]
theorem keyNum_no (s : L) (h : ∀ n, least ≤ n → n ≤ most → digitsT n ≠ s) : keyNum s = (0, false) := by
  unfold keyNum
  split
  · rename_i n hn
    have hb := numericT_bounds s n hn
    rw [if_neg (h n hb.1 hb.2)]
  · rfl
theorem keyNum_long (s : L) (h : 20 < s.length) : keyNum s = (0, false) :=
  keyNum_no s fun n h0 h1 e => by have := digitsT_len n ⟨h0, h1⟩; rw [e] at this; omega
theorem keyNum_ok (s : L) (v : Int) (h : Lib.atoiAll s = .ok v) (hv : least ≤ v ∧ v ≤ most) : keyNum s = if digitsT v = s then (v, true) else (0, false) := by
  split
  · rename_i e; exact keyNum_yes v hv s e
  · rename_i e
    refine keyNum_no s fun n h0 h1 e2 => e ?_
    have := atoi_digits n ⟨h0, h1⟩
    rw [e2, h] at this
    cases this
    exact e2
theorem keyNum_not (s : L) (h : ∀ v, Lib.atoiAll s ≠ .ok v) : keyNum s = (0, false) :=
  keyNum_no s fun n h0 h1 e => h n (by rw [← e]; exact atoi_digits n ⟨h0, h1⟩)
theorem keyNum_bounds (s : L) : least ≤ (keyNum s).1 ∧ (keyNum s).1 ≤ most := by
  unfold keyNum
  split
  · rename_i n hn
    split
    · exact numericT_bounds s n hn
    · unfold least most; simp
  · unfold least most; simp
theorem normT_keyNum (k : K) : normT k = if k.t then (if (keyNum k.s).2 then ⟨false, (keyNum k.s).1, []⟩ else ⟨true, 0, k.s⟩) else ⟨false, k.n, []⟩ := by
  unfold normT keyNum
  split
  · cases numericT k.s with
    | none => rfl
    | some n => by_cases h : digitsT n = k.s <;> simp [h]
  · rfl
end Go.Proofs.YtmfnonepcipplaaDoor.Lists
