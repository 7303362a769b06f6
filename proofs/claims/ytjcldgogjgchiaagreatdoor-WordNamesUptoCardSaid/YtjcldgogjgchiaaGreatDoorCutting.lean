/-
  The plain functions of layer 1: what the program's functions come to, on lists of bytes. Nothing of the program is named here.
-/
import Derived.Lib.Strings
namespace Go.Proofs.YtjcldgogjgchiaaGreatDoor.Cutting
open Go

def digB (b : UInt8) : Bool := 48 ≤ b && b ≤ 57
def wordB (b : UInt8) : Bool := (97 ≤ b && b ≤ 122) || (65 ≤ b && b ≤ 90) || digB b || b == 95
def blankB (b : UInt8) : Bool := b == 32 || b == 9 || b == 10 || b == 13
def wordN : List UInt8 → Nat
  | [] => 0
  | b :: r => if digB b then 0 else ((b :: r).takeWhile wordB).length

def textGo (q : UInt8) : List UInt8 → Nat
  | [] => 0
  | b :: r => if b == 92 then (match r with | [] => 1 | _ :: r' => 2 + textGo q r') else if b == q then 1 else 1 + textGo q r
def textN : List UInt8 → Nat
  | [] => 0
  | q :: r => 1 + textGo q r

def commentGo : List UInt8 → Nat
  | [] => 0
  | b :: r => if Lib.hasPrefix (b :: r) [42, 47] then 2 else 1 + commentGo r
def commentN (s : List UInt8) : Nat := 2 + commentGo (s.drop 2)

def remarkN : List UInt8 → Nat
  | [] => 0
  | b :: r => if b == 10 || Lib.hasPrefix (b :: r) [63, 62] then 0 else 1 + remarkN r

def quoteN (s : List UInt8) : Nat := if Lib.hasPrefix (s.drop 3) [39] then 1 else 0
def headFin (s : List UInt8) : List UInt8 := if Lib.hasPrefix (s.drop 3) [39] then [39, 10] else [10]
def headRest (s : List UInt8) : List UInt8 := (s.drop 3).drop (quoteN s)
def headOk (s : List UInt8) : Bool := decide (0 < wordN (headRest s)) && Lib.hasPrefix ((headRest s).drop (wordN (headRest s))) (headFin s)
def headName (s : List UInt8) : List UInt8 := if headOk s then (headRest s).take (wordN (headRest s)) else []
def headAt (s : List UInt8) : Nat := if headOk s then 3 + quoteN s + wordN (headRest s) + (headFin s).length else 0

def longGo (name : List UInt8) : Bool → List UInt8 → Nat
  | _, [] => 0
  | st, b :: r => if st && (Lib.hasPrefix (b :: r) name && wordN (b :: r) == name.length) then name.length else 1 + longGo name (b == 10) r
def longN (s : List UInt8) : Nat := if headOk s then headAt s + longGo (headName s) true (s.drop (headAt s)) else 1

def stepN : List UInt8 → Nat
  | [] => 0
  | b :: r =>
    if b == 39 || b == 34 then textN (b :: r)
    else if Lib.hasPrefix (b :: r) [47, 42] then commentN (b :: r)
    else if Lib.hasPrefix (b :: r) [47, 47] || b == 35 then remarkN (b :: r)
    else if Lib.hasPrefix (b :: r) [60, 60, 60] then longN (b :: r)
    else 1
def codeF : Nat → List UInt8 → Nat
  | 0, _ => 0
  | f + 1, r => if r.isEmpty || Lib.hasPrefix r [63, 62] then 0 else stepN r + codeF f (r.drop (stepN r))
def codeN (r : List UInt8) : Nat := codeF r.length r

def lowB (b : UInt8) : UInt8 := if 65 ≤ b && b ≤ 90 then b + 32 else b
def isPhp (r : List UInt8) : Bool := (r.take 5).map lowB == [60, 63, 112, 104, 112]
def phpN (r : List UInt8) : Nat :=
  if isPhp r then (match r.drop 5 with
    | [] => 5
    | b :: t => if Lib.hasPrefix (b :: t) [13, 10] then 7 else if blankB b then 6 else 0) else 0
def closeN (r : List UInt8) : Nat :=
  if Lib.hasPrefix r [63, 62] then (if Lib.hasPrefix (r.drop 2) [10] then 3 else if Lib.hasPrefix (r.drop 2) [13, 10] then 4 else 2) else 0

/-- Where code is opened: the kind, the place of the mark, that of the code's first byte. -/
structure Opening where
  kind : Nat
  mark : Nat
  code : Nat
def openN : List UInt8 → Opening
  | [] => ⟨0, 0, 0⟩
  | b :: r =>
    if Lib.hasPrefix (b :: r) [60, 63, 61] then ⟨3, 0, 3⟩
    else if 0 < phpN (b :: r) then ⟨2, 0, phpN (b :: r)⟩
    else if (openN r).kind = 0 then ⟨0, (openN r).mark + 1, 0⟩ else ⟨(openN r).kind, (openN r).mark + 1, (openN r).code + 1⟩

structure Pc where
  kind : Nat
  text : List UInt8
  at_ : Nat
deriving DecidableEq

def piecesF : Nat → Nat → List UInt8 → List Pc
  | 0, _, _ => []
  | f + 1, a, r =>
    if r.isEmpty then [] else
    (if 0 < (openN r).mark then [⟨1, r.take (openN r).mark, a⟩] else []) ++
    (if (openN r).kind = 0 then [] else
      let e := (openN r).code + codeN (r.drop (openN r).code)
      ⟨(openN r).kind, (r.drop (openN r).code).take (codeN (r.drop (openN r).code)), a + (openN r).code⟩ :: piecesF f (a + (e + closeN (r.drop e))) (r.drop (e + closeN (r.drop e))))
def pieces (s : List UInt8) : List Pc := piecesF s.length 0 s

/- ---- how long each is -/
theorem hasPrefix_length {s p : List UInt8} (h : Lib.hasPrefix s p = true) : p.length ≤ s.length := List.IsPrefix.length_le (List.isPrefixOf_iff_prefix.1 h)

theorem textGo_le (q : UInt8) : ∀ (n : Nat) (r : List UInt8), r.length ≤ n → textGo q r ≤ r.length := by
  intro n
  induction n with
  | zero => intro r h; have := List.eq_nil_of_length_eq_zero (Nat.le_zero.1 h); subst this; exact Nat.le_refl _
  | succ n ih =>
    intro r h
    match r with
    | [] => exact Nat.le_refl _
    | [b] => simp only [textGo]; split <;> (try split) <;> simp
    | b :: c :: r' =>
      have h1 := ih r' (by simp at h; omega)
      have h2 := ih (c :: r') (by simp at h ⊢; omega)
      rw [textGo]
      simp only [List.length_cons] at h2 ⊢
      split
      · omega
      · split
        · omega
        · omega
theorem textN_le (r : List UInt8) (h : r ≠ []) : 1 ≤ textN r ∧ textN r ≤ r.length := by
  cases r with
  | nil => exact absurd rfl h
  | cons q r => have := textGo_le q _ r (Nat.le_refl _); simp only [textN, List.length_cons]; omega
theorem commentGo_le : ∀ r : List UInt8, commentGo r ≤ r.length := by
  intro r
  induction r with
  | nil => exact Nat.le_refl _
  | cons b r ih =>
    rw [commentGo]
    split
    · next h => exact hasPrefix_length h
    · simp only [List.length_cons]; omega
theorem commentN_le (r : List UInt8) (h : Lib.hasPrefix r [47, 42] = true) : 1 ≤ commentN r ∧ commentN r ≤ r.length := by
  have h1 := hasPrefix_length h
  have h2 := commentGo_le (r.drop 2)
  rw [List.length_drop] at h2
  simp only [List.length_cons, List.length_nil] at h1
  unfold commentN
  omega
theorem remarkN_le : ∀ r : List UInt8, remarkN r ≤ r.length := by
  intro r
  induction r with
  | nil => exact Nat.le_refl _
  | cons b r ih =>
    rw [remarkN]
    split
    · omega
    · simp only [List.length_cons]; omega
theorem remarkN_pos (b : UInt8) (r : List UInt8) (h : b ≠ 10) (h2 : b ≠ 63) : 1 ≤ remarkN (b :: r) := by
  rw [remarkN, if_neg]
  · omega
  · simp only [Bool.or_eq_true, beq_iff_eq, not_or]
    refine ⟨h, fun hp => ?_⟩
    have := List.isPrefixOf_iff_prefix.1 hp
    obtain ⟨t, ht⟩ := this
    simp at ht
    exact h2 ht.1.symm
theorem longGo_le (name : List UInt8) : ∀ (r : List UInt8) (st : Bool), longGo name st r ≤ r.length := by
  intro r
  induction r with
  | nil => intro st; exact Nat.le_refl _
  | cons b r ih =>
    intro st
    rw [longGo]
    split
    · next h =>
      simp only [Bool.and_eq_true] at h
      exact hasPrefix_length h.2.1
    · have := ih (b == 10); simp only [List.length_cons]; omega
theorem wordN_le (r : List UInt8) : wordN r ≤ r.length := by
  cases r with
  | nil => exact Nat.le_refl _
  | cons b r =>
    simp only [wordN]
    split
    · omega
    · exact List.IsPrefix.length_le (List.takeWhile_prefix _)
theorem headAt_le (s : List UInt8) (h : headOk s = true) : headAt s ≤ s.length ∧ 0 < (headName s).length ∧ (headName s).length ≤ s.length ∧ 1 ≤ headAt s := by
  have h0 : 0 < wordN (headRest s) ∧ Lib.hasPrefix ((headRest s).drop (wordN (headRest s))) (headFin s) = true := by
    unfold headOk at h; simpa using h
  have h1 : (headFin s).length ≤ ((headRest s).drop (wordN (headRest s))).length := List.IsPrefix.length_le (List.isPrefixOf_iff_prefix.1 h0.2)
  have h2 := wordN_le (headRest s)
  have h3 : (headRest s).length = s.length - 3 - quoteN s := by simp [headRest]; omega
  rw [List.length_drop] at h1
  have h4 : 1 ≤ (headFin s).length := by unfold headFin; split <;> simp
  rw [headAt, if_pos h, headName, if_pos h, List.length_take]
  omega
theorem longN_le (r : List UInt8) (h : r ≠ []) : 1 ≤ longN r ∧ longN r ≤ r.length := by
  have h0 : 1 ≤ r.length := List.length_pos_iff.2 h
  unfold longN
  split
  · next hk =>
    have h1 := headAt_le r hk
    have h2 := longGo_le (headName r) (r.drop (headAt r)) true
    rw [List.length_drop] at h2
    omega
  · omega
theorem stepN_le (r : List UInt8) (h : r ≠ []) : 1 ≤ stepN r ∧ stepN r ≤ r.length := by
  cases r with
  | nil => exact absurd rfl h
  | cons b r =>
    simp only [stepN]
    split
    · exact textN_le _ h
    · split
      · next h2 => exact commentN_le _ h2
      · split
        · next h3 =>
          refine ⟨?_, remarkN_le _⟩
          have hb : b = 47 ∨ b = 35 := by
            simp only [Bool.or_eq_true, beq_iff_eq] at h3
            rcases h3 with h3 | h3
            · obtain ⟨t, ht⟩ := List.isPrefixOf_iff_prefix.1 h3
              simp at ht
              exact .inl ht.1.symm
            · exact .inr h3
          rcases hb with rfl | rfl
          · exact remarkN_pos _ _ (by decide) (by decide)
          · exact remarkN_pos _ _ (by decide) (by decide)
        · split
          · exact longN_le _ h
          · simp only [List.length_cons]; omega
theorem codeF_fuel : ∀ (f g : Nat) (r : List UInt8), r.length ≤ f → r.length ≤ g → codeF f r = codeF g r := by
  intro f
  induction f with
  | zero =>
    intro g r h _
    have := List.eq_nil_of_length_eq_zero (Nat.le_zero.1 h); subst this
    cases g <;> rfl
  | succ f ih =>
    intro g r h hg
    cases g with
    | zero => have := List.eq_nil_of_length_eq_zero (Nat.le_zero.1 hg); subst this; rfl
    | succ g =>
      simp only [codeF]
      split
      · rfl
      · next hc =>
        have hr : r ≠ [] := by rintro rfl; simp at hc
        have hs := stepN_le r hr
        rw [ih g (r.drop (stepN r)) (by rw [List.length_drop]; omega) (by rw [List.length_drop]; omega)]
theorem codeN_eq (r : List UInt8) : codeN r = if r.isEmpty || Lib.hasPrefix r [63, 62] then 0 else stepN r + codeN (r.drop (stepN r)) := by
  unfold codeN
  cases r with
  | nil => rfl
  | cons b r =>
    have hs := stepN_le (b :: r) (by simp)
    rw [List.length_cons, codeF]
    split
    · rfl
    · rw [codeF_fuel r.length _ _ (by rw [List.length_drop, List.length_cons]; omega) (Nat.le_refl _)]
theorem codeN_le (r : List UInt8) : codeN r ≤ r.length := by
  have key : ∀ (n : Nat) (r : List UInt8), r.length ≤ n → codeN r ≤ r.length := by
    intro n
    induction n with
    | zero => intro r h; have := List.eq_nil_of_length_eq_zero (Nat.le_zero.1 h); subst this; exact Nat.le_refl _
    | succ n ih =>
      intro r h
      rw [codeN_eq]
      split
      · omega
      · next hc =>
        have hr : r ≠ [] := by rintro rfl; simp at hc
        have hs := stepN_le r hr
        have h1 := ih (r.drop (stepN r)) (by rw [List.length_drop]; omega)
        rw [List.length_drop] at h1
        omega
  exact key _ r (Nat.le_refl _)
end Go.Proofs.YtjcldgogjgchiaaGreatDoor.Cutting
