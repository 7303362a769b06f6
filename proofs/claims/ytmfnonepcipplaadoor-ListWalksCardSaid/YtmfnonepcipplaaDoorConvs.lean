/-
  The plain functions of layer 6: what a text is as a number, and how plain values compare, on lists of bytes. Nothing of the program is named here.
-/
namespace Go.Proofs.YtmfnonepcipplaaDoor.Convs

abbrev L := List UInt8

def blankB (b : UInt8) : Bool := b == 32 || (9 ≤ b && b ≤ 13)
def digB (b : UInt8) : Bool := 48 ≤ b && b ≤ 57
def valFrom (n : Nat) (ds : L) : Nat := ds.foldl (fun n d => n * 10 + (d.toNat - 48)) n
def val (ds : L) : Nat := valFrom 0 ds
def most : Int := 9223372036854775807
def least : Int := -9223372036854775808
def clamp (n : Int) : Int := if n < least then least else if most < n then most else n

/-- A sign ahead: is it a minus, and what stands behind it. -/
def signT : L → Bool × L
  | [] => (false, [])
  | c :: r => if c == 45 then (true, r) else if c == 43 then (false, r) else (false, c :: r)

def begT (s : L) : Option (Int × L) :=
  let t := signT (s.dropWhile blankB)
  let ds := t.2.takeWhile digB
  if ds.isEmpty then none
  else some (clamp (if t.1 then -(val ds : Int) else (val ds : Int)), (t.2.dropWhile digB).dropWhile blankB)

def numericT (s : L) : Option Int :=
  match begT s with
  | some (n, []) => some n
  | _ => none

def beginsT (s : L) : Int :=
  match begT s with
  | some (n, _) => n
  | none => 0

def natDig (n : Nat) : L := if n < 10 then [(48 + n).toUInt8] else natDig (n / 10) ++ [(48 + n % 10).toUInt8]

def digitsT (n : Int) : L := if n < 0 then 45 :: natDig n.natAbs else natDig n.natAbs

theorem natDig_small (n : Nat) (h : n < 10) : natDig n = [(48 + n).toUInt8] := by
  rw [natDig]; simp [h]

theorem natDig_step (n : Nat) (h : ¬ n < 10) : natDig n = natDig (n / 10) ++ [(48 + n % 10).toUInt8] := by
  rw [natDig]; simp [h]

theorem digit_nat (k : Nat) (h : k < 10) : digB (48 + k).toUInt8 = true ∧ ((48 + k).toUInt8.toNat - 48) = k := by
  have : (48 + k).toUInt8.toNat = 48 + k := by
    simp [Nat.toUInt8]; omega
  constructor
  · simp only [digB, Bool.and_eq_true, decide_eq_true_eq, UInt8.le_iff_toNat_le, this]
    constructor
    · show 48 ≤ 48 + k; omega
    · show 48 + k ≤ 57; omega
  · omega

theorem natDig_ne (n : Nat) : natDig n ≠ [] := by
  by_cases h : n < 10
  · rw [natDig_small n h]; simp
  · rw [natDig_step n h]; simp

theorem natDig_dig (n : Nat) : ∀ d ∈ natDig n, digB d = true := by
  induction n using Nat.strongRecOn with
  | _ n ih =>
    by_cases h : n < 10
    · rw [natDig_small n h]; intro d hd; rw [List.mem_singleton] at hd; subst hd; exact (digit_nat n h).1
    · rw [natDig_step n h]; intro d hd
      rcases List.mem_append.1 hd with hd | hd
      · exact ih (n / 10) (by omega) d hd
      · rw [List.mem_singleton] at hd; subst hd; exact (digit_nat (n % 10) (by omega)).1

theorem val_natDig (n : Nat) : val (natDig n) = n := by
  induction n using Nat.strongRecOn with
  | _ n ih =>
    by_cases h : n < 10
    · rw [natDig_small n h]; simp only [val, valFrom, List.foldl_cons, List.foldl_nil]
      have := (digit_nat n h).2; omega
    · rw [natDig_step n h]; simp only [val, valFrom, List.foldl_append, List.foldl_cons, List.foldl_nil]
      have h1 := ih (n / 10) (by omega)
      simp only [val, valFrom] at h1
      rw [h1, (digit_nat (n % 10) (by omega)).2]; omega

theorem span_append (p : UInt8 → Bool) (a b : L) (ha : ∀ x ∈ a, p x = true) (hb : ∀ x, b.head? = some x → p x = false) :
    (a ++ b).takeWhile p = a ∧ (a ++ b).dropWhile p = b := by
  induction a with
  | nil =>
    cases b with
    | nil => simp
    | cons x b => have := hb x rfl; constructor <;> simp [this]
  | cons x a ih =>
    have hx := ha x (List.mem_cons_self ..)
    have := ih (fun y hy => ha y (List.mem_cons_of_mem _ hy))
    constructor <;> simp [hx, this]

theorem byte_all (p : UInt8 → Bool) (h : ∀ n : Fin 256, p (UInt8.ofNat n.val) = true) (b : UInt8) : p b = true := by
  have := h ⟨b.toNat, b.toNat_lt⟩
  simpa using this

theorem dig_not_blank (b : UInt8) (h : digB b = true) : blankB b = false := by
  have := byte_all (fun b => (!digB b || !blankB b)) (by decide +kernel) b
  simp_all
theorem blank_not_dig (b : UInt8) (h : blankB b = true) : digB b = false := by
  have := byte_all (fun b => (!blankB b || !digB b)) (by decide +kernel) b
  simp_all
theorem dig_not_sign (b : UInt8) (h : digB b = true) : (b == 45) = false ∧ (b == 43) = false := by
  have := byte_all (fun b => (!digB b || (!(b == 45) && !(b == 43)))) (by decide +kernel) b
  simp_all

theorem clamp_in (n : Int) (hn : least ≤ n ∧ n ≤ most) : clamp n = n := by
  unfold clamp; rw [if_neg (by omega), if_neg (by omega)]

/-- What stands between blanks in front, a number's digits, and what is no digit behind. -/
theorem begT_digits (n : Int) (hn : least ≤ n ∧ n ≤ most) (a b : L) (ha : ∀ x ∈ a, blankB x = true) (hb : ∀ x, b.head? = some x → digB x = false) :
    begT (a ++ (digitsT n ++ b)) = some (n, b.dropWhile blankB) := by
  obtain ⟨c, r, hc⟩ : ∃ c r, natDig n.natAbs = c :: r := by
    cases h : natDig n.natAbs with
    | nil => exact absurd h (natDig_ne _)
    | cons c r => exact ⟨c, r, rfl⟩
  have hd := natDig_dig n.natAbs
  have hcd : digB c = true := hd c (by rw [hc]; exact List.mem_cons_self ..)
  have hval := val_natDig n.natAbs
  have hsp := span_append digB (natDig n.natAbs) b hd hb
  have hne : (natDig n.natAbs).isEmpty = false := by rw [hc]; rfl
  unfold begT digitsT
  by_cases hneg : n < 0
  · simp only [hneg, if_true]
    have h1 := (span_append blankB a (45 :: natDig n.natAbs ++ b) ha (by intro x hx; simp at hx; subst hx; decide)).2
    rw [h1]
    simp only [signT, List.cons_append, beq_self_eq_true, if_true]
    rw [hsp.1, hsp.2, hne, hval]
    simp only [Bool.false_eq_true, if_false]
    have : clamp (-(n.natAbs : Int)) = n := by
      have e : -(n.natAbs : Int) = n := by omega
      rw [e]; exact clamp_in n hn
    rw [this]
  · simp only [hneg, if_false]
    have h1 := (span_append blankB a (natDig n.natAbs ++ b) ha (by intro x hx; rw [hc] at hx; simp at hx; subst hx; exact dig_not_blank _ hcd)).2
    rw [h1]
    have hs : signT (natDig n.natAbs ++ b) = (false, natDig n.natAbs ++ b) := by
      rw [hc]; simp only [List.cons_append, signT, (dig_not_sign c hcd).1, (dig_not_sign c hcd).2, Bool.false_eq_true, if_false]
    rw [hs]
    simp only []
    rw [hsp.1, hsp.2, hne, hval]
    simp only [Bool.false_eq_true, if_false]
    have : clamp (n.natAbs : Int) = n := by
      have e : (n.natAbs : Int) = n := by omega
      rw [e]; exact clamp_in n hn
    rw [this]

theorem dropWhile_all (p : UInt8 → Bool) (a : L) (h : ∀ x ∈ a, p x = true) : a.dropWhile p = [] := by
  induction a with
  | nil => rfl
  | cons x a ih =>
    simp [h x (List.mem_cons_self ..), ih (fun y hy => h y (List.mem_cons_of_mem _ hy))]

theorem numericT_digits (n : Int) (hn : least ≤ n ∧ n ≤ most) (a b : L) (ha : ∀ x ∈ a, blankB x = true) (hb : ∀ x ∈ b, blankB x = true) :
    numericT (a ++ (digitsT n ++ b)) = some n := by
  unfold numericT
  rw [begT_digits n hn a b ha (by intro x hx; cases b with | nil => simp at hx | cons y b => simp at hx; subst hx; exact blank_not_dig _ (hb _ (List.mem_cons_self ..)))]
  rw [dropWhile_all blankB b hb]

theorem beginsT_digits (n : Int) (hn : least ≤ n ∧ n ≤ most) (b : L) (hb : ∀ x, b.head? = some x → digB x = false) :
    beginsT (digitsT n ++ b) = n := by
  have := begT_digits n hn [] b (by simp) hb
  simp only [List.nil_append] at this
  unfold beginsT; rw [this]

/- The order of plain values. -/

def lexT : L → L → Int
  | [], [] => 0
  | [], _ :: _ => -1
  | _ :: _, [] => 1
  | a :: r, b :: s => if a < b then -1 else if b < a then 1 else lexT r s

def numT (a b : Int) : Int := if a < b then -1 else if b < a then 1 else 0

def truT (a b : Bool) : Int := if a == b then 0 else if b then -1 else 1

inductive V where
  | null
  | bool (b : Bool)
  | int (n : Int)
  | text (s : L)
  | other

def truthT : V → Bool
  | .null => false
  | .bool b => b
  | .int n => n != 0
  | .text s => !(s == [] || s == [48])
  | .other => true

def numOf : V → Option Int
  | .int n => some n
  | .text s => numericT s
  | _ => none

def textOf : V → L
  | .null => []
  | .bool b => if b then [49] else []
  | .int n => digitsT n
  | .text s => s
  | .other => []

def mixT : Option Int → Option Int → L → L → Int
  | some m, some n, _, _ => numT m n
  | _, _, s, t => lexT s t

/-- The order of two plain values. -/
def orderT : V → V → Int
  | .other, _ => 0
  | _, .other => 0
  | .bool a, b => truT a (truthT b)
  | a, .bool b => truT (truthT a) b
  | .null, .text s => lexT [] s
  | .text s, .null => lexT s []
  | .null, b => truT false (truthT b)
  | a, .null => truT (truthT a) false
  | .int a, .int b => numT a b
  | a, b => mixT (numOf a) (numOf b) (textOf a) (textOf b)

theorem lexT_turn : ∀ a b : L, lexT b a = -lexT a b
  | [], [] => rfl
  | [], _ :: _ => rfl
  | _ :: _, [] => rfl
  | x :: a, y :: b => by
    simp only [lexT]
    have ih := lexT_turn a b
    by_cases h1 : x < y
    · have h2 : ¬ y < x := by simp only [UInt8.lt_iff_toNat_lt] at *; omega
      simp [h1, h2]
    · by_cases h2 : y < x
      · simp [h1, h2]
      · simp [h1, h2, ih]

theorem lexT_self : ∀ a : L, lexT a a = 0
  | [] => rfl
  | x :: a => by simp [lexT, lexT_self a]

theorem numT_turn (a b : Int) : numT b a = -numT a b := by
  unfold numT; split <;> split <;> (try split) <;> omega

theorem truT_turn (a b : Bool) : truT b a = -truT a b := by
  cases a <;> cases b <;> rfl

theorem mixT_turn (x y : Option Int) (s t : L) : mixT y x t s = -mixT x y s t := by
  cases x <;> cases y <;> simp only [mixT] <;> first | exact lexT_turn _ _ | exact numT_turn _ _

theorem orderT_turn (a b : V) : orderT b a = -orderT a b := by
  cases a <;> cases b <;> simp only [orderT] <;> first
    | rfl
    | exact numT_turn _ _
    | exact truT_turn _ _
    | exact lexT_turn _ _
    | exact mixT_turn _ _ _ _

def sameT : V → V → Bool
  | .null, .null => true
  | .bool a, .bool b => a == b
  | .int a, .int b => a == b
  | .text a, .text b => a == b
  | _, _ => false

theorem sameT_turn (a b : V) : sameT b a = sameT a b := by
  cases a <;> cases b <;> simp only [sameT] <;> exact Bool.beq_comm ..

theorem numT_self (n : Int) : numT n n = 0 := by
  unfold numT; rw [if_neg (by omega), if_neg (by omega)]

theorem mixT_self (x : Option Int) (s : L) : mixT x x s s = 0 := by
  cases x <;> simp only [mixT, numT_self, lexT_self]

theorem sameT_order (a b : V) (h : sameT a b = true) : orderT a b = 0 := by
  cases a <;> cases b <;> simp only [sameT, Bool.false_eq_true] at h <;> simp only [orderT]
  · rfl
  · rename_i x y; cases x <;> cases y <;> first | rfl | cases h
  · rename_i x y; rw [beq_iff_eq] at h; subst h; exact numT_self _
  · rename_i x y; rw [beq_iff_eq] at h; subst h; exact mixT_self _ _

/-- Numbers and texts that say numbers stand in one order. -/
theorem numT_trans (a b c : Int) (h1 : numT a b ≤ 0) (h2 : numT b c ≤ 0) :
    numT a c ≤ 0 ∧ ((numT a b = 0 ∧ numT b c = 0) ↔ numT a c = 0) := by
  unfold numT at *
  by_cases a1 : a < b <;> by_cases a2 : b < a <;> by_cases b1 : b < c <;> by_cases b2 : c < b <;> by_cases c1 : a < c <;> by_cases c2 : c < a <;> simp_all <;> omega

end Go.Proofs.YtmfnonepcipplaaDoor.Convs
