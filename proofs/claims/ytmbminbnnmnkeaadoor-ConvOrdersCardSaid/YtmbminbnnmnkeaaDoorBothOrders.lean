/-
  ConvOrders: for every two values the law's function returns true, and nothing below its own memory turns.
-/
import Derived.Test.YtmbminbnnmnkeaaDoorConvF
import Derived.Test.YtmbminbnnmnkeaaDoorRef6F
namespace Go.Proofs.YtmbminbnnmnkeaaDoor
open Go Go.RowKit Convs

set_option maxHeartbeats 8000000 in
set_option maxRecDepth 1000000 in
theorem ConvOrders_any (k n : Int) (s : ByteArray) (a : Option Addr) (len cap : Nat) (k' n' : Int) (s' : ByteArray) (a' : Option Addr) (len' cap' : Nat) (w : World) (hM : Met w)
    (hn0 : -9223372036854775808 ≤ n) (hn1 : n ≤ 9223372036854775807) (hs : s.size ≤ 281474976710656) (hn0' : -9223372036854775808 ≤ n') (hn1' : n' ≤ 9223372036854775807) (hs' : s'.size ≤ 281474976710656) :
    Calls Tryd.prog 5 #[.agg #[.int .i64 k, .int .i64 n, .string s, .slice a len cap], .agg #[.int .i64 k', .int .i64 n', .string s', .slice a' len' cap']] w
      fun e w' => e = .returned (.bool true) ∧ Below w.heap.size w w' := by
  have hBX := Boxes.new w k n s a len cap k' n' s' a' len' cap'
  have hb0 : Below w.heap.size w ((w.alloc (.cells #[.int .i64 k, .int .i64 n, .string s, .slice a len cap] 24)).alloc (.cells #[.int .i64 k', .int .i64 n', .string s', .slice a' len' cap'] 24)) := (below_box w _).alloc (by simp) _
  obtain ⟨W0, hW0⟩ : ∃ W0, (w.alloc (.cells #[.int .i64 k, .int .i64 n, .string s, .slice a len cap] 24)).alloc (.cells #[.int .i64 k', .int .i64 n', .string s', .slice a' len' cap'] 24) = W0 := ⟨_, rfl⟩
  rw [hW0] at hBX hb0
  have HW0 := Lib.hid hW0
  have hM0 := hM.below hb0
  have hO1 : ∀ u, Below W0.heap.size W0 u → _ := fun u hu => from_ hu (Order_any k n s a len cap k' n' s' a' len' cap' u (hM0.below hu) hn0 hn1 hs hn0' hn1' hs')
  have hO2 : ∀ u, Below W0.heap.size W0 u → _ := fun u hu => from_ hu (refOrder_any k n s a len cap k' n' s' a' len' cap' u hn0 hn1 hs hn0' hn1' hs')
  have hS1 : ∀ u, Below W0.heap.size W0 u → _ := fun u hu => from_ hu (Same_any k n s a len cap k' n' s' a' len' cap' u)
  have hS2 : ∀ u, Below W0.heap.size W0 u → _ := fun u hu => from_ hu (refSame_any k n s a len cap k' n' s' a' len' cap' u)
  have HA : Hid (∀ u, Below W0.heap.size W0 u → Calls Tryd.prog 17 #[] u fun e w' => e = .returned (.bool true) ∧ Below W0.heap.size W0 w') := fun u hu => from_ hu (alive_any u (hM0.below hu))
  have HX := hide hBX
  have hOB := hb0.size
  obtain ⟨⟨ca0, ca1, ca2, ca3⟩, cb0, cb1, cb2, cb3⟩ := hBX.at_ (Below.refl _ _)
  generalize orderN k n s.data.toList len k' n' s'.data.toList len' = oo at hO1 hO2
  generalize sameN k n s.data.toList k' n' s'.data.toList = x at hS1 hS2
  obtain ⟨o, er⟩ := oo
  have HO1 := hide hO1
  have HO2 := hide hO2
  have HS1 := hide hS1
  have HS2 := hide hS2
  clear hM hM0 hW0 hn0 hn1 hs hn0' hn1' hs' hBX hO1 hO2 hS1 hS2
  go_enter Tryd.func5, Tryd.ntmps5
  go_upto_region 1 with fail
  rw [HW0.out]
  go_wp2_with (first | (go_at_call 22; with_reducible refine ((unhide HO1) _ (by first | exact Below.refl _ _ | assumption | exact Below.drew (by assumption))).mono ?_; rintro e w2 ⟨rfl, hb2⟩; obtain ⟨⟨ca0, ca1, ca2, ca3⟩, cb0, cb1, cb2, cb3⟩ := (unhide HX).at_ hb2) | (go_at_call 23; with_reducible refine ((unhide HO2) _ (by first | exact Below.refl _ _ | assumption | exact Below.drew (by assumption))).mono ?_; rintro e w2 ⟨rfl, hb2⟩; obtain ⟨⟨ca0, ca1, ca2, ca3⟩, cb0, cb1, cb2, cb3⟩ := (unhide HX).at_ hb2))
  go_region_held3 (fun w' => Below W0.heap.size W0 w' ∧ w'.cell? ⟨w.heap.size, 0, none⟩ = some (.int .i64 k) ∧ w'.cell? ⟨w.heap.size, 1, none⟩ = some (.int .i64 n) ∧ w'.cell? ⟨w.heap.size, 2, none⟩ = some (.string s) ∧ w'.cell? ⟨w.heap.size, 3, none⟩ = some (.slice a len cap) ∧ w'.cell? ⟨w.heap.size + 1, 0, none⟩ = some (.int .i64 k') ∧ w'.cell? ⟨w.heap.size + 1, 1, none⟩ = some (.int .i64 n') ∧ w'.cell? ⟨w.heap.size + 1, 2, none⟩ = some (.string s') ∧ w'.cell? ⟨w.heap.size + 1, 3, none⟩ = some (.slice a' len' cap'))
    (first | (exact ⟨by first | assumption | exact Below.drew (by assumption), by assumption, by assumption, by assumption, by assumption, by assumption, by assumption, by assumption, by assumption⟩) | (refine ⟨by first | assumption | exact Below.drew (by assumption), ?_⟩; go_keep))
    (first
      | (go_at_call 24; with_reducible refine ((unhide HS1) _ (by first | exact Below.refl _ _ | assumption | exact Below.drew (by assumption))).mono ?_; rintro e ws ⟨rfl, hbs⟩; obtain ⟨⟨ca0, ca1, ca2, ca3⟩, cb0, cb1, cb2, cb3⟩ := (unhide HX).at_ hbs)
      | (go_at_call 25; with_reducible refine ((unhide HS2) _ (by first | exact Below.refl _ _ | assumption | exact Below.drew (by assumption))).mono ?_; rintro e wt ⟨rfl, hbt⟩; obtain ⟨⟨ca0, ca1, ca2, ca3⟩, cb0, cb1, cb2, cb3⟩ := (unhide HX).at_ hbt)
      | (go_at_call 17; with_reducible refine ((unhide HA) _ (by first | exact Below.refl _ _ | assumption | exact Below.drew (by assumption))).mono ?_; rintro e wv ⟨rfl, hbv⟩; obtain ⟨⟨ca0, ca1, ca2, ca3⟩, cb0, cb1, cb2, cb3⟩ := (unhide HX).at_ hbv))
  all_goals go_wp2_with fail
  all_goals go_ret
  all_goals exact ⟨rfl, hb0.trans (Below.mono (by assumption) hOB)⟩
end Go.Proofs.YtmbminbnnmnkeaaDoor
