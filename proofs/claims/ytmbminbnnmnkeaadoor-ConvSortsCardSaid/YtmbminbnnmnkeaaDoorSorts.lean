/-
  ConvSorts: for every three numbers the law's function returns true, and nothing below its own memory turns.
-/
import Derived.Test.YtmbminbnnmnkeaaDoorConvF
import Derived.Test.YtmbminbnnmnkeaaDoorOrders
import Derived.Laws.Concat
namespace Go.Proofs.YtmbminbnnmnkeaaDoor
open Go Go.RowKit Convs

theorem numericT_dig (b : Int) (h0 : -9223372036854775808 ≤ b) (h1 : b ≤ 9223372036854775807) : numericT (digitsT b) = some b := by
  have := numericT_digits b ⟨h0, h1⟩ [] [] (by simp) (by simp)
  simpa using this
theorem numericT_sp (b : Int) (h0 : -9223372036854775808 ≤ b) (h1 : b ≤ 9223372036854775807) : numericT (32 :: digitsT b) = some b := by
  have := numericT_digits b ⟨h0, h1⟩ [32] [] (by intro x hx; simp at hx; subst hx; decide) (by simp)
  simpa using this
theorem order_it (a b : Int) (t : L) (h : numericT t = some b) : orderN 2 a [] 0 3 0 t 0 = (numT a b, 0) := by
  rw [orderN_eq _ _ _ _ _ _ _ _ rfl rfl]
  simp [toV, orderT, numOf, mixT, h]
theorem order_tt (a b : Int) (s t : L) (hs : numericT s = some a) (h : numericT t = some b) : orderN 3 0 s 0 3 0 t 0 = (numT a b, 0) := by
  rw [orderN_eq _ _ _ _ _ _ _ _ rfl rfl]
  simp [toV, orderT, numOf, mixT, h, hs]
/-- The ways in which three numbers stand. -/
theorem sorts (a b c : Int) : ∃ m n k : Int, numT a b = m ∧ numT b c = n ∧ numT a c = k ∧
    ((m = 1) ∨ ((m = 0 ∨ m = -1) ∧ n = 1) ∨ (m = 0 ∧ n = 0 ∧ k = 0) ∨ (m = 0 ∧ n = -1 ∧ k = -1) ∨ (m = -1 ∧ n = 0 ∧ k = -1) ∨ (m = -1 ∧ n = -1 ∧ k = -1)) := by
  refine ⟨_, _, _, rfl, rfl, rfl, ?_⟩
  have h := numT_trans a b c
  have i1 := numT_in a b
  have i2 := numT_in b c
  have i3 := numT_in a c
  generalize numT a b = m at *
  generalize numT b c = n at *
  generalize numT a c = k at *
  rcases i1 with rfl | rfl | rfl
  · have h := h (by omega)
    rcases i2 with rfl | rfl | rfl
    · have h := h (by omega); omega
    · have h := h (by omega); omega
    · omega
  · have h := h (by omega)
    rcases i2 with rfl | rfl | rfl
    · have h := h (by omega); omega
    · have h := h (by omega); omega
    · omega
  · omega

set_option maxHeartbeats 8000000 in
set_option maxRecDepth 1000000 in
theorem ConvSorts_any (a b c : Int) (w : World) (hM : Met w) (ha0 : -9223372036854775808 ≤ a) (ha1 : a ≤ 9223372036854775807) (hb0 : -9223372036854775808 ≤ b) (hb1 : b ≤ 9223372036854775807) (hc0 : -9223372036854775808 ≤ c) (hc1 : c ≤ 9223372036854775807) :
    Calls Tryd.prog 8 #[.int .i64 a, .int .i64 b, .int .i64 c] w fun e w' => e = .returned (.bool true) ∧ Below w.heap.size w w' := by
  obtain ⟨tb, htb⟩ : ∃ t : ByteArray, (⟨(digitsT b).toArray⟩ : ByteArray) = t := ⟨_, rfl⟩
  obtain ⟨tc, htc⟩ : ∃ t : ByteArray, (⟨(digitsT c).toArray⟩ : ByteArray) = t := ⟨_, rfl⟩
  obtain ⟨tz, htz⟩ : ∃ t : ByteArray, (⟨#[32]⟩ : ByteArray) ++ tc = t := ⟨_, rfl⟩
  have lb : tb.data.toList = digitsT b := by rw [← htb]
  have lc : tc.data.toList = digitsT c := by rw [← htc]
  have lz : tz.data.toList = 32 :: digitsT c := by rw [← htz, ByteArray.data_append, Array.toList_append, lc]; rfl
  have sb : tb.size ≤ 281474976710656 := by
    rw [Lib.size_eq, lb]; have := digitsT_len b ⟨hb0, hb1⟩; omega
  have sc : tc.size ≤ 20 := by
    rw [Lib.size_eq, lc]; exact digitsT_len c ⟨hc0, hc1⟩
  have sz : tz.size ≤ 281474976710656 := by
    rw [Lib.size_eq, lz, List.length_cons]; have := digitsT_len c ⟨hc0, hc1⟩; omega
  have addz : ∀ W, (Op.stringOp .add ⟨#[32]⟩ tc).run Tryd.prog W = .ok (.string tz) W := fun W => by
    have h := run_string_add_sum (P := Tryd.prog) (w := W) ⟨#[32]⟩ tc (by show 1 + tc.size ≤ _; omega)
    rw [htz] at h
    exact h
  have hD1 : ∀ u, Met u → _ := fun u hu => Digits_any b u hu hb0 hb1
  have hD2 : ∀ u, Met u → _ := fun u hu => Digits_any c u hu hc0 hc1
  rw [htb] at hD1
  rw [htc] at hD2
  have ho1 := order_it a b _ (numericT_dig b hb0 hb1)
  have ho2 := order_tt b c _ _ (numericT_dig b hb0 hb1) (numericT_sp c hc0 hc1)
  have ho3 := order_it a c _ (numericT_sp c hc0 hc1)
  rw [← lb] at ho1 ho2
  rw [← lz] at ho2 ho3
  have hO1 : ∀ u, Met u → _ := fun u hu => Order_any 2 a ⟨#[]⟩ none 0 0 3 0 tb none 0 0 u hu ha0 ha1 (by decide) (by decide) (by decide) sb
  have hO2 : ∀ u, Met u → _ := fun u hu => Order_any 3 0 tb none 0 0 3 0 tz none 0 0 u hu (by decide) (by decide) sb (by decide) (by decide) sz
  have hO3 : ∀ u, Met u → _ := fun u hu => Order_any 2 a ⟨#[]⟩ none 0 0 3 0 tz none 0 0 u hu ha0 ha1 (by decide) (by decide) (by decide) sz
  rw [show orderN 2 a (ByteArray.mk #[]).data.toList 0 3 0 tb.data.toList 0 = _ from ho1] at hO1
  rw [ho2] at hO2
  rw [show orderN 2 a (ByteArray.mk #[]).data.toList 0 3 0 tz.data.toList 0 = _ from ho3] at hO3
  obtain ⟨m, n, k, h1, h2, h3, hc⟩ := sorts a b c
  rw [h1] at hO1
  rw [h2] at hO2
  rw [h3] at hO3
  have HD1 := hide hD1
  have HD2 := hide hD2
  have HP1 := hide hO1
  have HP2 := hide hO2
  have HP3 := hide hO3
  have HM := hide hM
  have hX0 := Box.new w 2 a ⟨#[]⟩ none 0 0
  have hB0 : Below w.heap.size w (w.alloc (.cells #[.int .i64 2, .int .i64 a, .string ⟨#[]⟩, .slice none 0 0] 24)) := below_box w _
  have hP0 : w.heap.size < (w.alloc (.cells #[.int .i64 2, .int .i64 a, .string ⟨#[]⟩, .slice none 0 0] 24)).heap.size := by simp
  clear ha0 ha1 hb0 hb1 hc0 hc1 htb htc htz lb lc lz sb sc sz ho1 ho2 ho3 h1 h2 h3 hD1 hD2 hO1 hO2 hO3 hM
  obtain ⟨W0, hW0⟩ : ∃ W0, w.alloc (.cells #[.int .i64 2, .int .i64 a, .string ⟨#[]⟩, .slice none 0 0] 24) = W0 := ⟨_, rfl⟩
  rw [hW0] at hX0 hB0 hP0
  have HW0 := Lib.hid hW0
  clear hW0
  go_enter Tryd.func8, Tryd.ntmps8
  go_upto_region 2 with fail
  rw [HW0.out]
  go_upto_region 3 with (go_at_call 26; refine ((unhide HD1) _ ((unhide HM).below hB0)).mono ?_; rintro e w1 ⟨rfl, hb1⟩)
  have hB1 : Below W0.heap.size W0 (w1.alloc (.cells #[.int .i64 3, .int .i64 0, .string tb, .slice none 0 0] 24)) := hb1.alloc hb1.size _
  have hY1 := Box.new w1 3 0 tb none 0 0
  have hQ1 : w1.heap.size < (w1.alloc (.cells #[.int .i64 3, .int .i64 0, .string tb, .slice none 0 0] 24)).heap.size := by simp
  obtain ⟨W1, hW1⟩ : ∃ W1, w1.alloc (.cells #[.int .i64 3, .int .i64 0, .string tb, .slice none 0 0] 24) = W1 := ⟨_, rfl⟩
  rw [hW1] at hB1 hY1 hQ1 ⊢
  have hX1 := hX0.below hB1 hP0
  have hP1 := Nat.lt_of_lt_of_le hP0 hB1.size
  have hC1 := hB0.trans (hB1.mono hB0.size)
  clear hW1 hX0 hB0 hP0 hb1 hB1
  generalize w1.heap.size = Q at hY1 hQ1 ⊢
  go_upto_region 4 with (go_at_call 26; refine ((unhide HD2) _ ((unhide HM).below hC1)).mono ?_; rintro e w2 ⟨rfl, hb2⟩)
  have hB2 : Below W1.heap.size W1 (w2.alloc (.cells #[.int .i64 3, .int .i64 0, .string tz, .slice none 0 0] 24)) := hb2.alloc hb2.size _
  have hZ2 := Box.new w2 3 0 tz none 0 0
  have hR2 : w2.heap.size < (w2.alloc (.cells #[.int .i64 3, .int .i64 0, .string tz, .slice none 0 0] 24)).heap.size := by simp
  obtain ⟨W2, hW2⟩ : ∃ W2, w2.alloc (.cells #[.int .i64 3, .int .i64 0, .string tz, .slice none 0 0] 24) = W2 := ⟨_, rfl⟩
  rw [hW2] at hB2 hZ2 hR2 ⊢
  have hX2 := hX1.below hB2 hP1
  have hY2 := hY1.below hB2 hQ1
  have hP2 := Nat.lt_of_lt_of_le hP1 hB2.size
  have hQ2 := Nat.lt_of_lt_of_le hQ1 hB2.size
  have hC2 := hC1.trans (hB2.mono hC1.size)
  clear hW2 hX1 hY1 hP1 hQ1 hb2 hB2 hC1
  generalize w2.heap.size = R at hZ2 hR2 ⊢
  have hM2 := (unhide HM).below hC2
  have HO1 := hide (fun u (hu : Below W2.heap.size W2 u) => from_ hu ((unhide HP1) u (hM2.below hu)))
  have HO2 := hide (fun u (hu : Below W2.heap.size W2 u) => from_ hu ((unhide HP2) u (hM2.below hu)))
  have HO3 := hide (fun u (hu : Below W2.heap.size W2 u) => from_ hu ((unhide HP3) u (hM2.below hu)))
  have HA := hide (fun u (hu : Below W2.heap.size W2 u) => from_ hu (alive_any u (hM2.below hu)))
  have HX := hide (fun u (hu : Below W2.heap.size W2 u) => And.intro (hX2.below hu hP2) (And.intro (hY2.below hu hQ2) (hZ2.below hu hR2)))
  have hOB := hC2.size
  obtain ⟨x0, x1, x2, x3⟩ := hX2
  obtain ⟨y0, y1, y2, y3⟩ := hY2
  obtain ⟨z0, z1, z2, z3⟩ := hZ2
  clear HP1 HP2 HP3 HM hM2 hP2 hQ2 hR2 HD1 HD2 addz
  rcases hc with rfl | ⟨rfl | rfl, rfl⟩ | ⟨rfl, rfl, rfl⟩ | ⟨rfl, rfl, rfl⟩ | ⟨rfl, rfl, rfl⟩ | ⟨rfl, rfl, rfl⟩
  all_goals
    go_wp2_with (first | (go_at_call 22; with_reducible refine ((unhide HO1) _ (by first | exact Below.refl _ _ | assumption)).mono ?_; rintro e w4 ⟨rfl, hb4⟩; obtain ⟨⟨x0, x1, x2, x3⟩, ⟨y0, y1, y2, y3⟩, z0, z1, z2, z3⟩ := (unhide HX) _ hb4) | (go_at_call 22; with_reducible refine ((unhide HO2) _ (by first | exact Below.refl _ _ | assumption)).mono ?_; rintro e w4 ⟨rfl, hb4⟩; obtain ⟨⟨x0, x1, x2, x3⟩, ⟨y0, y1, y2, y3⟩, z0, z1, z2, z3⟩ := (unhide HX) _ hb4) | (go_at_call 22; with_reducible refine ((unhide HO3) _ (by first | exact Below.refl _ _ | assumption)).mono ?_; rintro e w4 ⟨rfl, hb4⟩; obtain ⟨⟨x0, x1, x2, x3⟩, ⟨y0, y1, y2, y3⟩, z0, z1, z2, z3⟩ := (unhide HX) _ hb4) | (go_at_call 17; with_reducible refine ((unhide HA) _ (by assumption)).mono ?_; rintro e w5 ⟨rfl, hb5⟩))
    go_ret
    exact ⟨rfl, hC2.trans (Below.mono (by assumption) hOB)⟩
end Go.Proofs.YtmbminbnnmnkeaaDoor
