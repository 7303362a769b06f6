/-
  ConvBack: for every number and every text around, the law's function returns true, and nothing below its own memory turns.
-/
import Derived.Test.YtmbminbnnmnkeaaDoorConvF
import Derived.Laws.Concat
namespace Go.Proofs.YtmbminbnnmnkeaaDoor
open Go Go.RowKit Convs

theorem numN_dig (n : Int) (h0 : -9223372036854775808 ≤ n) (h1 : n ≤ 9223372036854775807) : numN (digitsT n) = (n, true) := by
  have := numericT_digits n ⟨h0, h1⟩ [] [] (by simp) (by simp)
  simp only [List.nil_append, List.append_nil] at this
  simp [numN, this]
theorem numN_around (n : Int) (a : L) (h0 : -9223372036854775808 ≤ n) (h1 : n ≤ 9223372036854775807) (ha : ∀ x ∈ a, blankB x = true) : numN ((a ++ digitsT n) ++ a) = (n, true) := by
  have := numericT_digits n ⟨h0, h1⟩ a a ha ha
  rw [← List.append_assoc] at this
  unfold numN; rw [this]; rfl
theorem begins_x (n : Int) (h0 : -9223372036854775808 ≤ n) (h1 : n ≤ 9223372036854775807) : beginsT (digitsT n ++ [120]) = n :=
  beginsT_digits n ⟨h0, h1⟩ [120] (by intro x hx; simp at hx; subst hx; decide)

/-- The bytes of a text up to a place are blanks. -/
def blanksTo (s : L) (k : Nat) : Prop := ∀ x ∈ s.take k, blankB x = true
theorem blanksTo.step {s : ByteArray} {k : Nat} (h : blanksTo s.data.toList k) (hk : k < s.size) (hb : blankB s[k] = true) : blanksTo s.data.toList (k + 1) := by
  intro x hx
  rw [List.take_add_one] at hx
  rcases List.mem_append.1 hx with hx | hx
  · exact h x hx
  · have hg : s.data.toList[k]? = some s[k] := by
      rw [List.getElem?_eq_getElem (by rw [← Lib.size_eq]; exact hk)]; rfl
    rw [hg] at hx
    simp at hx
    rw [hx]; exact hb
theorem blanksTo.all {s : ByteArray} {k : Nat} (h : blanksTo s.data.toList k) (hk : s.size ≤ k) : ∀ x ∈ s.data.toList, blankB x = true := by
  unfold blanksTo at h
  rwa [List.take_of_length_le (by rw [← Lib.size_eq]; exact hk)] at h
theorem blank_of (b : UInt8) (h : (b.toNat : Int) = 32 ∨ (b.toNat : Int) = 9 ∨ (b.toNat : Int) = 10) : blankB b = true := by
  rcases h with h | h | h
  · have : b = 32 := UInt8.toNat_inj.1 (by show b.toNat = 32; omega)
    subst this; decide
  · have : b = 9 := UInt8.toNat_inj.1 (by show b.toNat = 9; omega)
    subst this; decide
  · have : b = 10 := UInt8.toNat_inj.1 (by show b.toNat = 10; omega)
    subst this; decide

set_option maxHeartbeats 8000000 in
set_option maxRecDepth 1000000 in
theorem ConvBack_any (n : Int) (s : ByteArray) (w : World) (hM : Met w) (h0 : -9223372036854775808 ≤ n) (h1 : n ≤ 9223372036854775807) (hs : s.size ≤ 140737488351232) :
    Calls Tryd.prog 7 #[.int .i64 n, .string s] w fun e w' => e = .returned (.bool true) ∧ Below w.heap.size w w' := by
  obtain ⟨t, ht⟩ : ∃ t : ByteArray, (⟨(digitsT n).toArray⟩ : ByteArray) = t := ⟨_, rfl⟩
  obtain ⟨tx, htx⟩ : ∃ x : ByteArray, t ++ (⟨#[120]⟩ : ByteArray) = x := ⟨_, rfl⟩
  obtain ⟨t1, ht1⟩ : ∃ x : ByteArray, s ++ t = x := ⟨_, rfl⟩
  obtain ⟨t2, ht2⟩ : ∃ x : ByteArray, t1 ++ s = x := ⟨_, rfl⟩
  have lt : t.data.toList = digitsT n := by rw [← ht]
  have lx : tx.data.toList = digitsT n ++ [120] := by rw [← htx, ByteArray.data_append, Array.toList_append, lt]
  have l2 : t2.data.toList = (s.data.toList ++ digitsT n) ++ s.data.toList := by
    rw [← ht2, ByteArray.data_append, Array.toList_append, ← ht1, ByteArray.data_append, Array.toList_append, lt]
  have st : t.size ≤ 20 := by rw [Lib.size_eq, lt]; exact digitsT_len n ⟨h0, h1⟩
  have sx : tx.size ≤ 281474976710656 := by
    rw [Lib.size_eq, lx, List.length_append]; have := digitsT_len n ⟨h0, h1⟩; simp only [List.length_singleton]; omega
  have s1 : t1.size = s.size + t.size := by rw [← ht1, ByteArray.size_append']
  have s2 : t2.size = s.size + t.size + s.size := by rw [← ht2, ByteArray.size_append', s1]
  have addx : ∀ W, (Op.stringOp .add t ⟨#[120]⟩).run Tryd.prog W = .ok (.string tx) W := fun W => by
    have h := run_string_add_sum (P := Tryd.prog) (w := W) t ⟨#[120]⟩ (by show t.size + 1 ≤ _; omega)
    rw [htx] at h
    exact h
  have add1 : ∀ W, (Op.stringOp .add s t).run Tryd.prog W = .ok (.string t1) W := fun W => by
    have h := run_string_add_sum (P := Tryd.prog) (w := W) s t (by omega)
    rw [ht1] at h
    exact h
  have add2 : ∀ W, (Op.stringOp .add t1 s).run Tryd.prog W = .ok (.string t2) W := fun W => by
    have h := run_string_add_sum (P := Tryd.prog) (w := W) t1 s (by omega)
    rw [ht2] at h
    exact h
  have hD := Digits_any n w hM h0 h1
  rw [ht] at hD
  have hN : ∀ u, Below w.heap.size w u → _ := fun u hu => from_ hu (Numeric_any t u (hM.below hu) (by omega))
  rw [lt, numN_dig n h0 h1] at hN
  have hB : ∀ u, Below w.heap.size w u → _ := fun u hu => from_ hu (Begins_any tx u (hM.below hu) sx)
  rw [lx, begins_x n h0 h1] at hB
  have HA := hide (fun u (hu : Below w.heap.size w u) => from_ hu (alive_any u (hM.below hu)))
  have HN2 : Hid ((∀ x ∈ s.data.toList, blankB x = true) → ∀ u, Below w.heap.size w u → Calls Tryd.prog 18 #[.string t2] u fun e w' => e = .returned (.tuple #[.int .i64 n, .bool true]) ∧ Below w.heap.size w w') := by
    intro hb u hu
    have := from_ hu (Numeric_any t2 u (hM.below hu) (by omega))
    rw [l2, numN_around n _ h0 h1 hb] at this
    exact this
  have HD := hide hD
  have HN := hide hN
  have HB := hide hB
  have H0 : Hid (blanksTo s.data.toList 0) := by intro x hx; simp at hx
  clear hD hN hB hM ht htx ht1 ht2 lt lx l2 st sx s1 s2 h0 h1
  go_enter Tryd.func7, Tryd.ntmps7
  go_wp2_with (first
    | (go_at_call 26; with_reducible refine (unhide HD).mono ?_; rintro e w1 ⟨rfl, hb1⟩)
    | (go_at_call 18; with_reducible refine ((unhide HN) _ (by assumption)).mono ?_; rintro e w2 ⟨rfl, hb2⟩)
    | (go_at_call 20; with_reducible refine ((unhide HB) _ (by assumption)).mono ?_; rintro e w3 ⟨rfl, hb3⟩)
    | (go_at_call 17; with_reducible refine ((unhide HA) _ (by assumption)).mono ?_; rintro e w4 ⟨rfl, hb4⟩))
  clear hb1 hb2 hb3
  go_loop [8] (fun i => ∃ k : Nat, k ≤ s.size ∧ i = .int .i64 k ∧ Hid (blanksTo s.data.toList k)) (fun i => s.size - (intOf i).toNat)
  case atStart => exact ⟨0, by omega, rfl, H0⟩
  case round =>
    obtain ⟨k, hk, rfl, hrel⟩ := hrel
    by_cases hlt : k < s.size
    · by_cases c1 : (s[k].toNat : Int) = 32
      · have HS : Hid (blanksTo s.data.toList (k + 1)) := (unhide hrel).step hlt (blank_of _ (.inl c1))
        go_wp2_with fail
        go_round
        case rel => exact ⟨k + 1, by omega, by go_num, HS⟩
        case measure => simp [intOf]; omega
      by_cases c2 : (s[k].toNat : Int) = 9
      · have HS : Hid (blanksTo s.data.toList (k + 1)) := (unhide hrel).step hlt (blank_of _ (.inr (.inl c2)))
        go_wp2_with fail
        go_round
        case rel => exact ⟨k + 1, by omega, by go_num, HS⟩
        case measure => simp [intOf]; omega
      by_cases c3 : (s[k].toNat : Int) = 10
      · have HS : Hid (blanksTo s.data.toList (k + 1)) := (unhide hrel).step hlt (blank_of _ (.inr (.inr c3)))
        go_wp2_with fail
        go_round
        case rel => exact ⟨k + 1, by omega, by go_num, HS⟩
        case measure => simp [intOf]; omega
      have e1 : ((s[k].toNat : Int) != 32) = true := bne_iff_ne.2 c1
      have e2 : ((s[k].toNat : Int) != 9) = true := bne_iff_ne.2 c2
      have e3 : ((s[k].toNat : Int) != 10) = true := bne_iff_ne.2 c3
      go_wp2_with fail
      go_ret
      exact ⟨rfl, hb4⟩
    · have HN3 := hide ((unhide HN2) ((unhide hrel).all (by omega)))
      go_wp2_with (go_at_call 18; with_reducible refine ((unhide HN3) _ hb4).mono ?_; rintro e w5 ⟨rfl, hb5⟩)
      go_ret
      exact ⟨rfl, hb5⟩
end Go.Proofs.YtmbminbnnmnkeaaDoor
