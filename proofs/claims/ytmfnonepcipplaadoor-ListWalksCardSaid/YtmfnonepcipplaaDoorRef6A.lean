/-
  The document's answer of layer 6: bytes, and the number with which a text begins.
-/
import Derived.Test.YtmfnonepcipplaaDoorConvB
namespace Go.Proofs.YtmfnonepcipplaaDoor
open Go Go.RowKit Convs

theorem refBlank_any (b : UInt8) (w : World) :
    Calls Tryd.prog 45 #[.int .u8 b.toNat] w fun e w' => e = .returned (.bool (blankB b)) ∧ w = w' := by
  go_enter Tryd.func45, Tryd.ntmps45
  go_wp2_with fail
  all_goals go_ret
  all_goals exact ⟨ret_bool (by
    have e32 : (b == 32) = ((b.toNat : Int) == 32) := beqU b 32
    have l9 : (decide ((9 : UInt8) ≤ b)) = decide ((9 : Int) ≤ (b.toNat : Int)) := leU 9 b
    have l13 : (decide (b ≤ (13 : UInt8))) = decide ((b.toNat : Int) ≤ 13) := leU b 13
    rw [Bool.eq_iff_iff]; simp only [blankB, e32, l9, l13, Bool.or_eq_true, Bool.and_eq_true, decide_eq_true_eq, beq_iff_eq]; simp [*]; try omega), rfl⟩
theorem refDigit_any (b : UInt8) (w : World) :
    Calls Tryd.prog 46 #[.int .u8 b.toNat] w fun e w' => e = .returned (.bool (digB b)) ∧ w = w' := by
  go_enter Tryd.func46, Tryd.ntmps46
  go_wp2_with fail
  all_goals go_ret
  all_goals exact ⟨ret_bool (by rw [Bool.eq_iff_iff]; simp only [digB, leU, Bool.and_eq_true, decide_eq_true_eq]; simp [*]; try omega), rfl⟩

/-- Digits gone over: from D to E, with the number so far. -/
def Dg (D E : L) (m : Bool) (n : Int) : Prop := ∃ p : L, D.takeWhile digB = p ++ E.takeWhile digB ∧ D.dropWhile digB = E.dropWhile digB ∧ n = sat m (val p)
theorem Dg.zero (D : L) (m : Bool) : Dg D D m 0 := ⟨[], rfl, rfl, (sat_zero m).symm⟩
theorem Dg.bound {D E : L} {m : Bool} {n : Int} (h : Dg D E m n) : least ≤ n ∧ n ≤ most := by
  obtain ⟨p, _, _, rfl⟩ := h; exact sat_bound m _
theorem Dg.sign {D E : L} {m : Bool} {n : Int} (h : Dg D E m n) : if m then n ≤ 0 else 0 ≤ n := by
  obtain ⟨p, _, _, rfl⟩ := h
  unfold sat clamp least most
  cases m <;> simp only [Bool.false_eq_true, if_false, if_true] <;> (repeat' split) <;> omega
theorem Dg.stepM {D E : L} {c : UInt8} {n d : Int} (h : Dg D (c :: E) true n) (hc : digB c = true) (hd : d = (c.toNat : Int) - 48) :
    Dg D E true (if n < Int.tdiv (least + d) 10 then least else n * 10 - d) := by
  obtain ⟨p, h1, h2, rfl⟩ := h
  have hb := (digB_iff c).1 hc
  refine ⟨p ++ [c], ?_, ?_, ?_⟩
  · rw [h1]; simp [hc]
  · rw [h2]; simp [hc]
  · have hv : val (p ++ [c]) = val p * 10 + (c.toNat - 48) := val_snoc 0 p c
    rw [hv, sat_minus _ _ (by omega), show d = ((c.toNat - 48 : Nat) : Int) from by omega]
theorem Dg.stepP {D E : L} {c : UInt8} {n d : Int} (h : Dg D (c :: E) false n) (hc : digB c = true) (hd : d = (c.toNat : Int) - 48) :
    Dg D E false (if Int.tdiv (most - d) 10 < n then most else n * 10 + d) := by
  obtain ⟨p, h1, h2, rfl⟩ := h
  have hb := (digB_iff c).1 hc
  refine ⟨p ++ [c], ?_, ?_, ?_⟩
  · rw [h1]; simp [hc]
  · rw [h2]; simp [hc]
  · have hv : val (p ++ [c]) = val p * 10 + (c.toNat - 48) := val_snoc 0 p c
    rw [hv, sat_plus _ _ (by omega), show d = ((c.toNat - 48 : Nat) : Int) from by omega]
theorem Dg.skip {D E : L} {c : UInt8} {m : Bool} {n : Int} (h : Dg D (c :: E) m n) (hc : digB c = true) (hn : n = least ∨ n = most) : Dg D E m n := by
  obtain ⟨p, h1, h2, rfl⟩ := h
  refine ⟨p ++ [c], ?_, ?_, ?_⟩
  · rw [h1]; simp [hc]
  · rw [h2]; simp [hc]
  · have hv : val (p ++ [c]) = valFrom (val p) [c] := val_app 0 p [c]
    rw [hv, sat_end m (val p) [c] hn]
theorem Dg.done {D E : L} {m : Bool} {n : Int} (h : Dg D E m n) (hE : E.takeWhile digB = []) : D.dropWhile digB = E ∧ n = sat m (val (D.takeWhile digB)) := by
  obtain ⟨p, h1, h2, rfl⟩ := h
  rw [hE, List.append_nil] at h1
  have hd : E.dropWhile digB = E := by
    have := List.takeWhile_append_dropWhile (p := digB) (l := E)
    rw [hE, List.nil_append] at this
    exact this
  exact ⟨by rw [h2, hd], by rw [h1]⟩

/-- The number, where the walk ends, and whether there is one. -/
def begE (s : L) : Int × Nat × Bool := match begT s with | some (n, r) => (n, s.length - r.length, true) | none => (0, 0, false)

theorem begE_none (s r : L) (i : L) (h1 : s.dropWhile blankB = r) (h2 : (signT r).2 = i) (h3 : i.takeWhile digB = []) : begE s = (0, 0, false) := by
  have : begT s = none := by
    unfold begT; simp only [h1, h2, h3]; rfl
  unfold begE; rw [this]
theorem begE_some (s r i e f : L) (m : Bool) (n : Int) (h1 : s.dropWhile blankB = r) (h2 : signT r = (m, i)) (h3 : i.takeWhile digB ≠ []) (h4 : i.dropWhile digB = e) (h5 : e.dropWhile blankB = f) (h6 : n = sat m (val (i.takeWhile digB))) :
    begE s = (n, s.length - f.length, true) := by
  have : begT s = some (n, f) := by
    unfold begT
    simp only [h1, h2, h4, h5]
    rw [if_neg (by simpa using h3), h6]
    rfl
  unfold begE; rw [this]
end Go.Proofs.YtmfnonepcipplaaDoor
