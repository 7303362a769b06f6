/-
  The document's answer of layer 6: Numeric and Begins.
-/
import Derived.Test.YtmfnonepcipplaaDoorRef6B
namespace Go.Proofs.YtmfnonepcipplaaDoor
open Go Go.RowKit Convs

theorem begT_rest (s : L) (n : Int) (r : L) (h : begT s = some (n, r)) : r.length < s.length := by
  have hb := begT_scan s
  simp only at hb
  generalize scan ⟨0, 0, 0, 0⟩ s = c at hb
  by_cases h0 : c.b = 0
  · rw [if_pos h0] at hb; rw [hb] at h; cases h
  · rw [if_neg h0] at hb
    obtain ⟨h1, h2, h3, h4, h5⟩ := hb
    rw [h4] at h
    simp only [Option.some.injEq, Prod.mk.injEq] at h
    rw [← h.2, List.length_drop]
    omega
theorem numericT_begE (s : L) : numericT s = if (begE s).2.2 = false ∨ (begE s).2.1 < s.length then none else some (begE s).1 := by
  unfold numericT begE
  cases h : begT s with
  | none => simp
  | some p =>
    obtain ⟨n, r⟩ := p
    have hl := begT_rest s n r h
    cases r with
    | nil => simp
    | cons x r => simp only [List.length_cons] at hl ⊢; rw [if_pos (by right; omega)]
theorem beginsT_begE (s : L) : beginsT s = (begE s).1 := by
  unfold beginsT begE
  cases begT s with
  | none => rfl
  | some p => rfl
theorem begE_le (s : L) : (begE s).2.1 ≤ s.length := by
  unfold begE; split
  · exact Nat.sub_le _ _
  · exact Nat.zero_le _

theorem refNumeric_any (s : ByteArray) (w : World) (hs : s.size ≤ 281474976710656) :
    Calls Tryd.prog 36 #[.string s] w fun e w' => e = .returned (.tuple #[.int .i64 (numN s.data.toList).1, .bool (numN s.data.toList).2]) ∧ w = w' := by
  have hB := begin_any s w hs
  have hN := numericT_begE s.data.toList
  rw [← Lib.size_eq] at hN
  have hle := begE_le s.data.toList
  rw [← Lib.size_eq] at hle
  by_cases hc : (begE s.data.toList).2.2 = false ∨ (begE s.data.toList).2.1 < s.size
  · rw [if_pos hc] at hN
    have HE : Hid (numN s.data.toList = (0, false)) := by show _ = _; unfold numN; rw [hN]; rfl
    generalize numN s.data.toList = q at HE ⊢
    generalize begE s.data.toList = b at hB hc
    obtain ⟨n, m, ok⟩ := b
    have HB := hide hB
    clear hB hN hle
    cases ok
    · go_enter Tryd.func36, Tryd.ntmps36
      go_wp2_with (go_at_call 41; refine (unhide HB).mono ?_; rintro e w2 ⟨rfl, rfl⟩)
      all_goals go_ret2
      all_goals exact ⟨by rw [HE.out]; rfl, rfl⟩
    · have hc' : (m : Int) < (s.size : Int) := by
        rcases hc with hc | hc
        · cases hc
        · simp only at hc; omega
      clear hc
      go_enter Tryd.func36, Tryd.ntmps36
      go_wp2_with (go_at_call 41; refine (unhide HB).mono ?_; rintro e w2 ⟨rfl, rfl⟩)
      all_goals go_ret2
      all_goals exact ⟨by rw [HE.out]; rfl, rfl⟩
  · rw [if_neg hc] at hN
    have HE : Hid (numN s.data.toList = ((begE s.data.toList).1, true)) := by show _ = _; unfold numN; rw [hN]; rfl
    generalize numN s.data.toList = q at HE ⊢
    generalize begE s.data.toList = b at hB hc HE hle
    obtain ⟨n, m, ok⟩ := b
    have hok : ok = true := by simp only at hc; cases ok <;> simp_all
    subst hok
    have hm : m = s.size := by simp only at hc hle; omega
    subst hm
    have HB := hide hB
    clear hB hN hle hc
    go_enter Tryd.func36, Tryd.ntmps36
    go_wp2_with (go_at_call 41; refine (unhide HB).mono ?_; rintro e w2 ⟨rfl, rfl⟩)
    all_goals go_ret2
    all_goals exact ⟨by rw [HE.out]; rfl, rfl⟩
end Go.Proofs.YtmfnonepcipplaaDoor
