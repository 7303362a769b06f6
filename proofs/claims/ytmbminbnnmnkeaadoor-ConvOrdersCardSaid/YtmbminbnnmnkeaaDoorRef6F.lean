/-
  The document's answer of layer 6: how two values stand, and whether they are the same.
-/
import Derived.Test.YtmbminbnnmnkeaaDoorConvE
import Derived.Test.YtmbminbnnmnkeaaDoorOrders
import Derived.Test.YtmbminbnnmnkeaaDoorRef6E
namespace Go.Proofs.YtmbminbnnmnkeaaDoor
open Go Go.RowKit Convs

theorem orderN_truths (k n : Int) (s : L) (len : Nat) (k' n' : Int) (s' : L) (len' : Nat) (h : plainN k = true) (h' : plainN k' = true) (hb : (byN k k' || byN k' k) = true) :
    orderN k n s len k' n' s' len' = (truT (truthN k n s len) (truthN k' n' s' len'), 0) := by
  unfold orderN truNum
  rw [h, h', hb, numT_bools]
  rfl
theorem orderN_mix (k n : Int) (s : L) (len : Nat) (k' n' : Int) (s' : L) (len' : Nat) (h : plainN k = true) (h' : plainN k' = true) (hb : (byN k k' || byN k' k) = false) :
    orderN k n s len k' n' s' len' = if (numOfN k n s).2 && (numOfN k' n' s').2 then (numT (numOfN k n s).1 (numOfN k' n' s').1, 0) else (lexT (textN k n s).1 (textN k' n' s').1, 0) := by
  unfold orderN
  rw [h, h', hb]
  rfl

set_option maxHeartbeats 8000000 in
set_option maxRecDepth 1000000 in
theorem refOrder_any (k n : Int) (s : ByteArray) (a : Option Addr) (len cap : Nat) (k' n' : Int) (s' : ByteArray) (a' : Option Addr) (len' cap' : Nat) (w : World)
    (hn0 : -9223372036854775808 ≤ n) (hn1 : n ≤ 9223372036854775807) (hs : s.size ≤ 281474976710656) (hn0' : -9223372036854775808 ≤ n') (hn1' : n' ≤ 9223372036854775807) (hs' : s'.size ≤ 281474976710656) :
    Calls Tryd.prog 23 #[.agg #[.int .i64 k, .int .i64 n, .string s, .slice a len cap], .agg #[.int .i64 k', .int .i64 n', .string s', .slice a' len' cap']] w
      fun e w' => e = .returned (.tuple #[.int .i64 (orderN k n s.data.toList len k' n' s'.data.toList len').1, .int .i64 (orderN k n s.data.toList len k' n' s'.data.toList len').2]) ∧ Below w.heap.size w w' := by
  have hBX := Boxes.new w k n s a len cap k' n' s' a' len' cap'
  have hb0 : Below w.heap.size w ((w.alloc (.cells #[.int .i64 k, .int .i64 n, .string s, .slice a len cap] 24)).alloc (.cells #[.int .i64 k', .int .i64 n', .string s', .slice a' len' cap'] 24)) := (below_box w _).alloc (by simp) _
  obtain ⟨W0, hW0⟩ : ∃ W0, (w.alloc (.cells #[.int .i64 k, .int .i64 n, .string s, .slice a len cap] 24)).alloc (.cells #[.int .i64 k', .int .i64 n', .string s', .slice a' len' cap'] 24) = W0 := ⟨_, rfl⟩
  rw [hW0] at hBX hb0
  have HW0 := Lib.hid hW0
  have hP1 : ∀ u, Below W0.heap.size W0 u → _ := fun u hu => from_ hu (refPlain_any k n s a len cap u)
  have hP2 : ∀ u, Below W0.heap.size W0 u → _ := fun u hu => from_ hu (refPlain_any k' n' s' a' len' cap' u)
  have hT1 : ∀ u, Below W0.heap.size W0 u → _ := fun u hu => from_ hu (refTruth_any k n s a len cap u)
  have hT2 : ∀ u, Below W0.heap.size W0 u → _ := fun u hu => from_ hu (refTruth_any k' n' s' a' len' cap' u)
  have hN1 : ∀ u : World, _ := fun u => refNumeric_any s u hs
  have hN2 : ∀ u : World, _ := fun u => refNumeric_any s' u hs'
  have hX1 : ∀ u, Below W0.heap.size W0 u → _ := fun u hu => from_ hu (refText_any k n s a len cap u hn0 hn1)
  have hX2 : ∀ u, Below W0.heap.size W0 u → _ := fun u hu => from_ hu (refText_any k' n' s' a' len' cap' u hn0' hn1')
  have HX := hide hBX
  have hOB := hb0.size
  obtain ⟨⟨ca0, ca1, ca2, ca3⟩, cb0, cb1, cb2, cb3⟩ := hBX.at_ (Below.refl _ _)
  clear hW0 hn0 hn1 hs hn0' hn1' hs' hBX
  cases hp : plainN k
  · have HE := hide (orderN_not k n s.data.toList len k' n' s'.data.toList len' (by rw [hp]; rfl))
    rw [hp] at hP1
    have HP1 := hide hP1
    clear hP1 hP2 hT1 hT2 hN1 hN2 hX1 hX2 hp
    generalize orderN k n s.data.toList len k' n' s'.data.toList len' = oo at HE ⊢
    go_enter Tryd.func23, Tryd.ntmps23
    go_upto_region 1 with fail
    rw [HW0.out]
    go_wp2_with (first | (go_at_call 36; with_reducible refine ((unhide HP1) _ (by first | exact Below.refl _ _ | assumption | exact Below.drew (by assumption))).mono ?_; rintro e w2 ⟨rfl, hb2⟩; obtain ⟨⟨ca0, ca1, ca2, ca3⟩, cb0, cb1, cb2, cb3⟩ := (unhide HX).at_ hb2))
    go_ret2
    exact ⟨by rw [HE.out]; rfl, hb0.trans (hb2.mono hOB)⟩
  cases hp' : plainN k'
  · have HE := hide (orderN_not k n s.data.toList len k' n' s'.data.toList len' (by rw [hp']; simp))
    rw [hp] at hP1
    rw [hp'] at hP2
    have HP1 := hide hP1
    have HP2 := hide hP2
    clear hP1 hP2 hT1 hT2 hN1 hN2 hX1 hX2 hp hp'
    generalize orderN k n s.data.toList len k' n' s'.data.toList len' = oo at HE ⊢
    go_enter Tryd.func23, Tryd.ntmps23
    go_upto_region 1 with fail
    rw [HW0.out]
    go_wp2_with (first | (go_at_call 36; with_reducible refine ((unhide HP1) _ (by first | exact Below.refl _ _ | assumption | exact Below.drew (by assumption))).mono ?_; rintro e w2 ⟨rfl, hb2⟩; obtain ⟨⟨ca0, ca1, ca2, ca3⟩, cb0, cb1, cb2, cb3⟩ := (unhide HX).at_ hb2) | (go_at_call 36; with_reducible refine ((unhide HP2) _ (by first | exact Below.refl _ _ | assumption | exact Below.drew (by assumption))).mono ?_; rintro e w2 ⟨rfl, hb2⟩; obtain ⟨⟨ca0, ca1, ca2, ca3⟩, cb0, cb1, cb2, cb3⟩ := (unhide HX).at_ hb2))
    go_ret2
    exact ⟨by rw [HE.out]; rfl, hb0.trans (hb2.mono hOB)⟩
  rw [hp] at hP1
  rw [hp'] at hP2
  have HP1 := hide hP1
  have HP2 := hide hP2
  clear hP1 hP2
  rcases plain_cases k hp with rfl | rfl | rfl | rfl
  · rcases plain_cases k' hp' with rfl | rfl | rfl | rfl
    · clear hp hp'
      have HE := hide (orderN_truths 0 n s.data.toList len 0 n' s'.data.toList len' rfl rfl rfl)
      generalize truthN 0 n s.data.toList len = t1 at hT1 HE
      generalize truthN 0 n' s'.data.toList len' = t2 at hT2 HE
      have HT1 := hide hT1
      have HT2 := hide hT2
      clear hT1 hT2 hN1 hN2 hX1 hX2
      generalize orderN 0 n s.data.toList len 0 n' s'.data.toList len' = oo at HE ⊢
      go_enter Tryd.func23, Tryd.ntmps23
      go_upto_region 1 with fail
      rw [HW0.out]
      go_wp2_with (first | (go_at_call 36; with_reducible refine ((unhide HP1) _ (by first | exact Below.refl _ _ | assumption | exact Below.drew (by assumption))).mono ?_; rintro e w2 ⟨rfl, hb2⟩; obtain ⟨⟨ca0, ca1, ca2, ca3⟩, cb0, cb1, cb2, cb3⟩ := (unhide HX).at_ hb2) | (go_at_call 36; with_reducible refine ((unhide HP2) _ (by first | exact Below.refl _ _ | assumption | exact Below.drew (by assumption))).mono ?_; rintro e w2 ⟨rfl, hb2⟩; obtain ⟨⟨ca0, ca1, ca2, ca3⟩, cb0, cb1, cb2, cb3⟩ := (unhide HX).at_ hb2))
      go_region_held3 (fun w' => Below W0.heap.size W0 w' ∧ w'.cell? ⟨w.heap.size, 0, none⟩ = some (.int .i64 0) ∧ w'.cell? ⟨w.heap.size, 1, none⟩ = some (.int .i64 n) ∧ w'.cell? ⟨w.heap.size, 2, none⟩ = some (.string s) ∧ w'.cell? ⟨w.heap.size, 3, none⟩ = some (.slice a len cap) ∧ w'.cell? ⟨w.heap.size + 1, 0, none⟩ = some (.int .i64 0) ∧ w'.cell? ⟨w.heap.size + 1, 1, none⟩ = some (.int .i64 n') ∧ w'.cell? ⟨w.heap.size + 1, 2, none⟩ = some (.string s') ∧ w'.cell? ⟨w.heap.size + 1, 3, none⟩ = some (.slice a' len' cap'))
        ((first | (exact ⟨by first | assumption | exact Below.drew (by assumption), by assumption, by assumption, by assumption, by assumption, by assumption, by assumption, by assumption, by assumption⟩) | (refine ⟨by first | assumption | exact Below.drew (by assumption), ?_⟩; go_keep)))
        (first
          | (go_at_call 12; with_reducible refine ((unhide HT1) _ (by first | exact Below.refl _ _ | assumption | exact Below.drew (by assumption))).mono ?_; rintro e wa ⟨rfl, hba⟩; obtain ⟨⟨ca0, ca1, ca2, ca3⟩, cb0, cb1, cb2, cb3⟩ := (unhide HX).at_ hba)
          | (go_at_call 12; with_reducible refine ((unhide HT2) _ (by first | exact Below.refl _ _ | assumption | exact Below.drew (by assumption))).mono ?_; rintro e wb ⟨rfl, hbb⟩; obtain ⟨⟨ca0, ca1, ca2, ca3⟩, cb0, cb1, cb2, cb3⟩ := (unhide HX).at_ hbb)
          | (go_at_call 37; refine (refTruths_any _ _ _).mono ?_; rintro e w3 ⟨rfl, rfl⟩))
      all_goals go_wp2_with fail
      all_goals go_ret2
      all_goals exact ⟨by rw [HE.out]; rfl, hb0.trans (Below.mono (by assumption) hOB)⟩
    · clear hp hp'
      have HE := hide (orderN_truths 0 n s.data.toList len 1 n' s'.data.toList len' rfl rfl rfl)
      generalize truthN 0 n s.data.toList len = t1 at hT1 HE
      generalize truthN 1 n' s'.data.toList len' = t2 at hT2 HE
      have HT1 := hide hT1
      have HT2 := hide hT2
      clear hT1 hT2 hN1 hN2 hX1 hX2
      generalize orderN 0 n s.data.toList len 1 n' s'.data.toList len' = oo at HE ⊢
      go_enter Tryd.func23, Tryd.ntmps23
      go_upto_region 1 with fail
      rw [HW0.out]
      go_wp2_with (first | (go_at_call 36; with_reducible refine ((unhide HP1) _ (by first | exact Below.refl _ _ | assumption | exact Below.drew (by assumption))).mono ?_; rintro e w2 ⟨rfl, hb2⟩; obtain ⟨⟨ca0, ca1, ca2, ca3⟩, cb0, cb1, cb2, cb3⟩ := (unhide HX).at_ hb2) | (go_at_call 36; with_reducible refine ((unhide HP2) _ (by first | exact Below.refl _ _ | assumption | exact Below.drew (by assumption))).mono ?_; rintro e w2 ⟨rfl, hb2⟩; obtain ⟨⟨ca0, ca1, ca2, ca3⟩, cb0, cb1, cb2, cb3⟩ := (unhide HX).at_ hb2))
      go_region_held3 (fun w' => Below W0.heap.size W0 w' ∧ w'.cell? ⟨w.heap.size, 0, none⟩ = some (.int .i64 0) ∧ w'.cell? ⟨w.heap.size, 1, none⟩ = some (.int .i64 n) ∧ w'.cell? ⟨w.heap.size, 2, none⟩ = some (.string s) ∧ w'.cell? ⟨w.heap.size, 3, none⟩ = some (.slice a len cap) ∧ w'.cell? ⟨w.heap.size + 1, 0, none⟩ = some (.int .i64 1) ∧ w'.cell? ⟨w.heap.size + 1, 1, none⟩ = some (.int .i64 n') ∧ w'.cell? ⟨w.heap.size + 1, 2, none⟩ = some (.string s') ∧ w'.cell? ⟨w.heap.size + 1, 3, none⟩ = some (.slice a' len' cap'))
        ((first | (exact ⟨by first | assumption | exact Below.drew (by assumption), by assumption, by assumption, by assumption, by assumption, by assumption, by assumption, by assumption, by assumption⟩) | (refine ⟨by first | assumption | exact Below.drew (by assumption), ?_⟩; go_keep)))
        (first
          | (go_at_call 12; with_reducible refine ((unhide HT1) _ (by first | exact Below.refl _ _ | assumption | exact Below.drew (by assumption))).mono ?_; rintro e wa ⟨rfl, hba⟩; obtain ⟨⟨ca0, ca1, ca2, ca3⟩, cb0, cb1, cb2, cb3⟩ := (unhide HX).at_ hba)
          | (go_at_call 12; with_reducible refine ((unhide HT2) _ (by first | exact Below.refl _ _ | assumption | exact Below.drew (by assumption))).mono ?_; rintro e wb ⟨rfl, hbb⟩; obtain ⟨⟨ca0, ca1, ca2, ca3⟩, cb0, cb1, cb2, cb3⟩ := (unhide HX).at_ hbb)
          | (go_at_call 37; refine (refTruths_any _ _ _).mono ?_; rintro e w3 ⟨rfl, rfl⟩))
      all_goals go_wp2_with fail
      all_goals go_ret2
      all_goals exact ⟨by rw [HE.out]; rfl, hb0.trans (Below.mono (by assumption) hOB)⟩
    · clear hp hp'
      have HE := hide (orderN_truths 0 n s.data.toList len 2 n' s'.data.toList len' rfl rfl rfl)
      generalize truthN 0 n s.data.toList len = t1 at hT1 HE
      generalize truthN 2 n' s'.data.toList len' = t2 at hT2 HE
      have HT1 := hide hT1
      have HT2 := hide hT2
      clear hT1 hT2 hN1 hN2 hX1 hX2
      generalize orderN 0 n s.data.toList len 2 n' s'.data.toList len' = oo at HE ⊢
      go_enter Tryd.func23, Tryd.ntmps23
      go_upto_region 1 with fail
      rw [HW0.out]
      go_wp2_with (first | (go_at_call 36; with_reducible refine ((unhide HP1) _ (by first | exact Below.refl _ _ | assumption | exact Below.drew (by assumption))).mono ?_; rintro e w2 ⟨rfl, hb2⟩; obtain ⟨⟨ca0, ca1, ca2, ca3⟩, cb0, cb1, cb2, cb3⟩ := (unhide HX).at_ hb2) | (go_at_call 36; with_reducible refine ((unhide HP2) _ (by first | exact Below.refl _ _ | assumption | exact Below.drew (by assumption))).mono ?_; rintro e w2 ⟨rfl, hb2⟩; obtain ⟨⟨ca0, ca1, ca2, ca3⟩, cb0, cb1, cb2, cb3⟩ := (unhide HX).at_ hb2))
      go_region_held3 (fun w' => Below W0.heap.size W0 w' ∧ w'.cell? ⟨w.heap.size, 0, none⟩ = some (.int .i64 0) ∧ w'.cell? ⟨w.heap.size, 1, none⟩ = some (.int .i64 n) ∧ w'.cell? ⟨w.heap.size, 2, none⟩ = some (.string s) ∧ w'.cell? ⟨w.heap.size, 3, none⟩ = some (.slice a len cap) ∧ w'.cell? ⟨w.heap.size + 1, 0, none⟩ = some (.int .i64 2) ∧ w'.cell? ⟨w.heap.size + 1, 1, none⟩ = some (.int .i64 n') ∧ w'.cell? ⟨w.heap.size + 1, 2, none⟩ = some (.string s') ∧ w'.cell? ⟨w.heap.size + 1, 3, none⟩ = some (.slice a' len' cap'))
        ((first | (exact ⟨by first | assumption | exact Below.drew (by assumption), by assumption, by assumption, by assumption, by assumption, by assumption, by assumption, by assumption, by assumption⟩) | (refine ⟨by first | assumption | exact Below.drew (by assumption), ?_⟩; go_keep)))
        (first
          | (go_at_call 12; with_reducible refine ((unhide HT1) _ (by first | exact Below.refl _ _ | assumption | exact Below.drew (by assumption))).mono ?_; rintro e wa ⟨rfl, hba⟩; obtain ⟨⟨ca0, ca1, ca2, ca3⟩, cb0, cb1, cb2, cb3⟩ := (unhide HX).at_ hba)
          | (go_at_call 12; with_reducible refine ((unhide HT2) _ (by first | exact Below.refl _ _ | assumption | exact Below.drew (by assumption))).mono ?_; rintro e wb ⟨rfl, hbb⟩; obtain ⟨⟨ca0, ca1, ca2, ca3⟩, cb0, cb1, cb2, cb3⟩ := (unhide HX).at_ hbb)
          | (go_at_call 37; refine (refTruths_any _ _ _).mono ?_; rintro e w3 ⟨rfl, rfl⟩))
      all_goals go_wp2_with fail
      all_goals go_ret2
      all_goals exact ⟨by rw [HE.out]; rfl, hb0.trans (Below.mono (by assumption) hOB)⟩
    · clear hp hp'
      have HE : Hid (orderN 0 n s.data.toList len 3 n' s'.data.toList len' = (lexT [] s'.data.toList, 0)) := by show _ = _; rw [orderN_mix 0 n s.data.toList len 3 n' s'.data.toList len' rfl rfl rfl]; simp [numOfN, textN]
      clear hT1 hT2 hN1 hN2 hX1 hX2
      generalize orderN 0 n s.data.toList len 3 n' s'.data.toList len' = oo at HE ⊢
      go_enter Tryd.func23, Tryd.ntmps23
      go_upto_region 1 with fail
      rw [HW0.out]
      go_wp2_with (first | (go_at_call 36; with_reducible refine ((unhide HP1) _ (by first | exact Below.refl _ _ | assumption | exact Below.drew (by assumption))).mono ?_; rintro e w2 ⟨rfl, hb2⟩; obtain ⟨⟨ca0, ca1, ca2, ca3⟩, cb0, cb1, cb2, cb3⟩ := (unhide HX).at_ hb2) | (go_at_call 36; with_reducible refine ((unhide HP2) _ (by first | exact Below.refl _ _ | assumption | exact Below.drew (by assumption))).mono ?_; rintro e w2 ⟨rfl, hb2⟩; obtain ⟨⟨ca0, ca1, ca2, ca3⟩, cb0, cb1, cb2, cb3⟩ := (unhide HX).at_ hb2) | (go_at_call 38; refine (refTexts_any _ _ _).mono ?_; rintro e w3 ⟨rfl, rfl⟩))
      go_ret2
      exact ⟨by rw [HE.out]; rfl, hb0.trans (Below.mono (by assumption) hOB)⟩
  · rcases plain_cases k' hp' with rfl | rfl | rfl | rfl
    · clear hp hp'
      have HE := hide (orderN_truths 1 n s.data.toList len 0 n' s'.data.toList len' rfl rfl rfl)
      generalize truthN 1 n s.data.toList len = t1 at hT1 HE
      generalize truthN 0 n' s'.data.toList len' = t2 at hT2 HE
      have HT1 := hide hT1
      have HT2 := hide hT2
      clear hT1 hT2 hN1 hN2 hX1 hX2
      generalize orderN 1 n s.data.toList len 0 n' s'.data.toList len' = oo at HE ⊢
      go_enter Tryd.func23, Tryd.ntmps23
      go_upto_region 1 with fail
      rw [HW0.out]
      go_wp2_with (first | (go_at_call 36; with_reducible refine ((unhide HP1) _ (by first | exact Below.refl _ _ | assumption | exact Below.drew (by assumption))).mono ?_; rintro e w2 ⟨rfl, hb2⟩; obtain ⟨⟨ca0, ca1, ca2, ca3⟩, cb0, cb1, cb2, cb3⟩ := (unhide HX).at_ hb2) | (go_at_call 36; with_reducible refine ((unhide HP2) _ (by first | exact Below.refl _ _ | assumption | exact Below.drew (by assumption))).mono ?_; rintro e w2 ⟨rfl, hb2⟩; obtain ⟨⟨ca0, ca1, ca2, ca3⟩, cb0, cb1, cb2, cb3⟩ := (unhide HX).at_ hb2))
      go_region_held3 (fun w' => Below W0.heap.size W0 w' ∧ w'.cell? ⟨w.heap.size, 0, none⟩ = some (.int .i64 1) ∧ w'.cell? ⟨w.heap.size, 1, none⟩ = some (.int .i64 n) ∧ w'.cell? ⟨w.heap.size, 2, none⟩ = some (.string s) ∧ w'.cell? ⟨w.heap.size, 3, none⟩ = some (.slice a len cap) ∧ w'.cell? ⟨w.heap.size + 1, 0, none⟩ = some (.int .i64 0) ∧ w'.cell? ⟨w.heap.size + 1, 1, none⟩ = some (.int .i64 n') ∧ w'.cell? ⟨w.heap.size + 1, 2, none⟩ = some (.string s') ∧ w'.cell? ⟨w.heap.size + 1, 3, none⟩ = some (.slice a' len' cap'))
        ((first | (exact ⟨by first | assumption | exact Below.drew (by assumption), by assumption, by assumption, by assumption, by assumption, by assumption, by assumption, by assumption, by assumption⟩) | (refine ⟨by first | assumption | exact Below.drew (by assumption), ?_⟩; go_keep)))
        (first
          | (go_at_call 12; with_reducible refine ((unhide HT1) _ (by first | exact Below.refl _ _ | assumption | exact Below.drew (by assumption))).mono ?_; rintro e wa ⟨rfl, hba⟩; obtain ⟨⟨ca0, ca1, ca2, ca3⟩, cb0, cb1, cb2, cb3⟩ := (unhide HX).at_ hba)
          | (go_at_call 12; with_reducible refine ((unhide HT2) _ (by first | exact Below.refl _ _ | assumption | exact Below.drew (by assumption))).mono ?_; rintro e wb ⟨rfl, hbb⟩; obtain ⟨⟨ca0, ca1, ca2, ca3⟩, cb0, cb1, cb2, cb3⟩ := (unhide HX).at_ hbb)
          | (go_at_call 37; refine (refTruths_any _ _ _).mono ?_; rintro e w3 ⟨rfl, rfl⟩))
      all_goals go_wp2_with fail
      all_goals go_ret2
      all_goals exact ⟨by rw [HE.out]; rfl, hb0.trans (Below.mono (by assumption) hOB)⟩
    · clear hp hp'
      have HE := hide (orderN_truths 1 n s.data.toList len 1 n' s'.data.toList len' rfl rfl rfl)
      generalize truthN 1 n s.data.toList len = t1 at hT1 HE
      generalize truthN 1 n' s'.data.toList len' = t2 at hT2 HE
      have HT1 := hide hT1
      have HT2 := hide hT2
      clear hT1 hT2 hN1 hN2 hX1 hX2
      generalize orderN 1 n s.data.toList len 1 n' s'.data.toList len' = oo at HE ⊢
      go_enter Tryd.func23, Tryd.ntmps23
      go_upto_region 1 with fail
      rw [HW0.out]
      go_wp2_with (first | (go_at_call 36; with_reducible refine ((unhide HP1) _ (by first | exact Below.refl _ _ | assumption | exact Below.drew (by assumption))).mono ?_; rintro e w2 ⟨rfl, hb2⟩; obtain ⟨⟨ca0, ca1, ca2, ca3⟩, cb0, cb1, cb2, cb3⟩ := (unhide HX).at_ hb2) | (go_at_call 36; with_reducible refine ((unhide HP2) _ (by first | exact Below.refl _ _ | assumption | exact Below.drew (by assumption))).mono ?_; rintro e w2 ⟨rfl, hb2⟩; obtain ⟨⟨ca0, ca1, ca2, ca3⟩, cb0, cb1, cb2, cb3⟩ := (unhide HX).at_ hb2))
      go_region_held3 (fun w' => Below W0.heap.size W0 w' ∧ w'.cell? ⟨w.heap.size, 0, none⟩ = some (.int .i64 1) ∧ w'.cell? ⟨w.heap.size, 1, none⟩ = some (.int .i64 n) ∧ w'.cell? ⟨w.heap.size, 2, none⟩ = some (.string s) ∧ w'.cell? ⟨w.heap.size, 3, none⟩ = some (.slice a len cap) ∧ w'.cell? ⟨w.heap.size + 1, 0, none⟩ = some (.int .i64 1) ∧ w'.cell? ⟨w.heap.size + 1, 1, none⟩ = some (.int .i64 n') ∧ w'.cell? ⟨w.heap.size + 1, 2, none⟩ = some (.string s') ∧ w'.cell? ⟨w.heap.size + 1, 3, none⟩ = some (.slice a' len' cap'))
        ((first | (exact ⟨by first | assumption | exact Below.drew (by assumption), by assumption, by assumption, by assumption, by assumption, by assumption, by assumption, by assumption, by assumption⟩) | (refine ⟨by first | assumption | exact Below.drew (by assumption), ?_⟩; go_keep)))
        (first
          | (go_at_call 12; with_reducible refine ((unhide HT1) _ (by first | exact Below.refl _ _ | assumption | exact Below.drew (by assumption))).mono ?_; rintro e wa ⟨rfl, hba⟩; obtain ⟨⟨ca0, ca1, ca2, ca3⟩, cb0, cb1, cb2, cb3⟩ := (unhide HX).at_ hba)
          | (go_at_call 12; with_reducible refine ((unhide HT2) _ (by first | exact Below.refl _ _ | assumption | exact Below.drew (by assumption))).mono ?_; rintro e wb ⟨rfl, hbb⟩; obtain ⟨⟨ca0, ca1, ca2, ca3⟩, cb0, cb1, cb2, cb3⟩ := (unhide HX).at_ hbb)
          | (go_at_call 37; refine (refTruths_any _ _ _).mono ?_; rintro e w3 ⟨rfl, rfl⟩))
      all_goals go_wp2_with fail
      all_goals go_ret2
      all_goals exact ⟨by rw [HE.out]; rfl, hb0.trans (Below.mono (by assumption) hOB)⟩
    · clear hp hp'
      have HE := hide (orderN_truths 1 n s.data.toList len 2 n' s'.data.toList len' rfl rfl rfl)
      generalize truthN 1 n s.data.toList len = t1 at hT1 HE
      generalize truthN 2 n' s'.data.toList len' = t2 at hT2 HE
      have HT1 := hide hT1
      have HT2 := hide hT2
      clear hT1 hT2 hN1 hN2 hX1 hX2
      generalize orderN 1 n s.data.toList len 2 n' s'.data.toList len' = oo at HE ⊢
      go_enter Tryd.func23, Tryd.ntmps23
      go_upto_region 1 with fail
      rw [HW0.out]
      go_wp2_with (first | (go_at_call 36; with_reducible refine ((unhide HP1) _ (by first | exact Below.refl _ _ | assumption | exact Below.drew (by assumption))).mono ?_; rintro e w2 ⟨rfl, hb2⟩; obtain ⟨⟨ca0, ca1, ca2, ca3⟩, cb0, cb1, cb2, cb3⟩ := (unhide HX).at_ hb2) | (go_at_call 36; with_reducible refine ((unhide HP2) _ (by first | exact Below.refl _ _ | assumption | exact Below.drew (by assumption))).mono ?_; rintro e w2 ⟨rfl, hb2⟩; obtain ⟨⟨ca0, ca1, ca2, ca3⟩, cb0, cb1, cb2, cb3⟩ := (unhide HX).at_ hb2))
      go_region_held3 (fun w' => Below W0.heap.size W0 w' ∧ w'.cell? ⟨w.heap.size, 0, none⟩ = some (.int .i64 1) ∧ w'.cell? ⟨w.heap.size, 1, none⟩ = some (.int .i64 n) ∧ w'.cell? ⟨w.heap.size, 2, none⟩ = some (.string s) ∧ w'.cell? ⟨w.heap.size, 3, none⟩ = some (.slice a len cap) ∧ w'.cell? ⟨w.heap.size + 1, 0, none⟩ = some (.int .i64 2) ∧ w'.cell? ⟨w.heap.size + 1, 1, none⟩ = some (.int .i64 n') ∧ w'.cell? ⟨w.heap.size + 1, 2, none⟩ = some (.string s') ∧ w'.cell? ⟨w.heap.size + 1, 3, none⟩ = some (.slice a' len' cap'))
        ((first | (exact ⟨by first | assumption | exact Below.drew (by assumption), by assumption, by assumption, by assumption, by assumption, by assumption, by assumption, by assumption, by assumption⟩) | (refine ⟨by first | assumption | exact Below.drew (by assumption), ?_⟩; go_keep)))
        (first
          | (go_at_call 12; with_reducible refine ((unhide HT1) _ (by first | exact Below.refl _ _ | assumption | exact Below.drew (by assumption))).mono ?_; rintro e wa ⟨rfl, hba⟩; obtain ⟨⟨ca0, ca1, ca2, ca3⟩, cb0, cb1, cb2, cb3⟩ := (unhide HX).at_ hba)
          | (go_at_call 12; with_reducible refine ((unhide HT2) _ (by first | exact Below.refl _ _ | assumption | exact Below.drew (by assumption))).mono ?_; rintro e wb ⟨rfl, hbb⟩; obtain ⟨⟨ca0, ca1, ca2, ca3⟩, cb0, cb1, cb2, cb3⟩ := (unhide HX).at_ hbb)
          | (go_at_call 37; refine (refTruths_any _ _ _).mono ?_; rintro e w3 ⟨rfl, rfl⟩))
      all_goals go_wp2_with fail
      all_goals go_ret2
      all_goals exact ⟨by rw [HE.out]; rfl, hb0.trans (Below.mono (by assumption) hOB)⟩
    · clear hp hp'
      have HE := hide (orderN_truths 1 n s.data.toList len 3 n' s'.data.toList len' rfl rfl rfl)
      generalize truthN 1 n s.data.toList len = t1 at hT1 HE
      generalize truthN 3 n' s'.data.toList len' = t2 at hT2 HE
      have HT1 := hide hT1
      have HT2 := hide hT2
      clear hT1 hT2 hN1 hN2 hX1 hX2
      generalize orderN 1 n s.data.toList len 3 n' s'.data.toList len' = oo at HE ⊢
      go_enter Tryd.func23, Tryd.ntmps23
      go_upto_region 1 with fail
      rw [HW0.out]
      go_wp2_with (first | (go_at_call 36; with_reducible refine ((unhide HP1) _ (by first | exact Below.refl _ _ | assumption | exact Below.drew (by assumption))).mono ?_; rintro e w2 ⟨rfl, hb2⟩; obtain ⟨⟨ca0, ca1, ca2, ca3⟩, cb0, cb1, cb2, cb3⟩ := (unhide HX).at_ hb2) | (go_at_call 36; with_reducible refine ((unhide HP2) _ (by first | exact Below.refl _ _ | assumption | exact Below.drew (by assumption))).mono ?_; rintro e w2 ⟨rfl, hb2⟩; obtain ⟨⟨ca0, ca1, ca2, ca3⟩, cb0, cb1, cb2, cb3⟩ := (unhide HX).at_ hb2))
      go_region_held3 (fun w' => Below W0.heap.size W0 w' ∧ w'.cell? ⟨w.heap.size, 0, none⟩ = some (.int .i64 1) ∧ w'.cell? ⟨w.heap.size, 1, none⟩ = some (.int .i64 n) ∧ w'.cell? ⟨w.heap.size, 2, none⟩ = some (.string s) ∧ w'.cell? ⟨w.heap.size, 3, none⟩ = some (.slice a len cap) ∧ w'.cell? ⟨w.heap.size + 1, 0, none⟩ = some (.int .i64 3) ∧ w'.cell? ⟨w.heap.size + 1, 1, none⟩ = some (.int .i64 n') ∧ w'.cell? ⟨w.heap.size + 1, 2, none⟩ = some (.string s') ∧ w'.cell? ⟨w.heap.size + 1, 3, none⟩ = some (.slice a' len' cap'))
        ((first | (exact ⟨by first | assumption | exact Below.drew (by assumption), by assumption, by assumption, by assumption, by assumption, by assumption, by assumption, by assumption, by assumption⟩) | (refine ⟨by first | assumption | exact Below.drew (by assumption), ?_⟩; go_keep)))
        (first
          | (go_at_call 12; with_reducible refine ((unhide HT1) _ (by first | exact Below.refl _ _ | assumption | exact Below.drew (by assumption))).mono ?_; rintro e wa ⟨rfl, hba⟩; obtain ⟨⟨ca0, ca1, ca2, ca3⟩, cb0, cb1, cb2, cb3⟩ := (unhide HX).at_ hba)
          | (go_at_call 12; with_reducible refine ((unhide HT2) _ (by first | exact Below.refl _ _ | assumption | exact Below.drew (by assumption))).mono ?_; rintro e wb ⟨rfl, hbb⟩; obtain ⟨⟨ca0, ca1, ca2, ca3⟩, cb0, cb1, cb2, cb3⟩ := (unhide HX).at_ hbb)
          | (go_at_call 37; refine (refTruths_any _ _ _).mono ?_; rintro e w3 ⟨rfl, rfl⟩))
      all_goals go_wp2_with fail
      all_goals go_ret2
      all_goals exact ⟨by rw [HE.out]; rfl, hb0.trans (Below.mono (by assumption) hOB)⟩
  · rcases plain_cases k' hp' with rfl | rfl | rfl | rfl
    · clear hp hp'
      have HE := hide (orderN_truths 2 n s.data.toList len 0 n' s'.data.toList len' rfl rfl rfl)
      generalize truthN 2 n s.data.toList len = t1 at hT1 HE
      generalize truthN 0 n' s'.data.toList len' = t2 at hT2 HE
      have HT1 := hide hT1
      have HT2 := hide hT2
      clear hT1 hT2 hN1 hN2 hX1 hX2
      generalize orderN 2 n s.data.toList len 0 n' s'.data.toList len' = oo at HE ⊢
      go_enter Tryd.func23, Tryd.ntmps23
      go_upto_region 1 with fail
      rw [HW0.out]
      go_wp2_with (first | (go_at_call 36; with_reducible refine ((unhide HP1) _ (by first | exact Below.refl _ _ | assumption | exact Below.drew (by assumption))).mono ?_; rintro e w2 ⟨rfl, hb2⟩; obtain ⟨⟨ca0, ca1, ca2, ca3⟩, cb0, cb1, cb2, cb3⟩ := (unhide HX).at_ hb2) | (go_at_call 36; with_reducible refine ((unhide HP2) _ (by first | exact Below.refl _ _ | assumption | exact Below.drew (by assumption))).mono ?_; rintro e w2 ⟨rfl, hb2⟩; obtain ⟨⟨ca0, ca1, ca2, ca3⟩, cb0, cb1, cb2, cb3⟩ := (unhide HX).at_ hb2))
      go_region_held3 (fun w' => Below W0.heap.size W0 w' ∧ w'.cell? ⟨w.heap.size, 0, none⟩ = some (.int .i64 2) ∧ w'.cell? ⟨w.heap.size, 1, none⟩ = some (.int .i64 n) ∧ w'.cell? ⟨w.heap.size, 2, none⟩ = some (.string s) ∧ w'.cell? ⟨w.heap.size, 3, none⟩ = some (.slice a len cap) ∧ w'.cell? ⟨w.heap.size + 1, 0, none⟩ = some (.int .i64 0) ∧ w'.cell? ⟨w.heap.size + 1, 1, none⟩ = some (.int .i64 n') ∧ w'.cell? ⟨w.heap.size + 1, 2, none⟩ = some (.string s') ∧ w'.cell? ⟨w.heap.size + 1, 3, none⟩ = some (.slice a' len' cap'))
        ((first | (exact ⟨by first | assumption | exact Below.drew (by assumption), by assumption, by assumption, by assumption, by assumption, by assumption, by assumption, by assumption, by assumption⟩) | (refine ⟨by first | assumption | exact Below.drew (by assumption), ?_⟩; go_keep)))
        (first
          | (go_at_call 12; with_reducible refine ((unhide HT1) _ (by first | exact Below.refl _ _ | assumption | exact Below.drew (by assumption))).mono ?_; rintro e wa ⟨rfl, hba⟩; obtain ⟨⟨ca0, ca1, ca2, ca3⟩, cb0, cb1, cb2, cb3⟩ := (unhide HX).at_ hba)
          | (go_at_call 12; with_reducible refine ((unhide HT2) _ (by first | exact Below.refl _ _ | assumption | exact Below.drew (by assumption))).mono ?_; rintro e wb ⟨rfl, hbb⟩; obtain ⟨⟨ca0, ca1, ca2, ca3⟩, cb0, cb1, cb2, cb3⟩ := (unhide HX).at_ hbb)
          | (go_at_call 37; refine (refTruths_any _ _ _).mono ?_; rintro e w3 ⟨rfl, rfl⟩))
      all_goals go_wp2_with fail
      all_goals go_ret2
      all_goals exact ⟨by rw [HE.out]; rfl, hb0.trans (Below.mono (by assumption) hOB)⟩
    · clear hp hp'
      have HE := hide (orderN_truths 2 n s.data.toList len 1 n' s'.data.toList len' rfl rfl rfl)
      generalize truthN 2 n s.data.toList len = t1 at hT1 HE
      generalize truthN 1 n' s'.data.toList len' = t2 at hT2 HE
      have HT1 := hide hT1
      have HT2 := hide hT2
      clear hT1 hT2 hN1 hN2 hX1 hX2
      generalize orderN 2 n s.data.toList len 1 n' s'.data.toList len' = oo at HE ⊢
      go_enter Tryd.func23, Tryd.ntmps23
      go_upto_region 1 with fail
      rw [HW0.out]
      go_wp2_with (first | (go_at_call 36; with_reducible refine ((unhide HP1) _ (by first | exact Below.refl _ _ | assumption | exact Below.drew (by assumption))).mono ?_; rintro e w2 ⟨rfl, hb2⟩; obtain ⟨⟨ca0, ca1, ca2, ca3⟩, cb0, cb1, cb2, cb3⟩ := (unhide HX).at_ hb2) | (go_at_call 36; with_reducible refine ((unhide HP2) _ (by first | exact Below.refl _ _ | assumption | exact Below.drew (by assumption))).mono ?_; rintro e w2 ⟨rfl, hb2⟩; obtain ⟨⟨ca0, ca1, ca2, ca3⟩, cb0, cb1, cb2, cb3⟩ := (unhide HX).at_ hb2))
      go_region_held3 (fun w' => Below W0.heap.size W0 w' ∧ w'.cell? ⟨w.heap.size, 0, none⟩ = some (.int .i64 2) ∧ w'.cell? ⟨w.heap.size, 1, none⟩ = some (.int .i64 n) ∧ w'.cell? ⟨w.heap.size, 2, none⟩ = some (.string s) ∧ w'.cell? ⟨w.heap.size, 3, none⟩ = some (.slice a len cap) ∧ w'.cell? ⟨w.heap.size + 1, 0, none⟩ = some (.int .i64 1) ∧ w'.cell? ⟨w.heap.size + 1, 1, none⟩ = some (.int .i64 n') ∧ w'.cell? ⟨w.heap.size + 1, 2, none⟩ = some (.string s') ∧ w'.cell? ⟨w.heap.size + 1, 3, none⟩ = some (.slice a' len' cap'))
        ((first | (exact ⟨by first | assumption | exact Below.drew (by assumption), by assumption, by assumption, by assumption, by assumption, by assumption, by assumption, by assumption, by assumption⟩) | (refine ⟨by first | assumption | exact Below.drew (by assumption), ?_⟩; go_keep)))
        (first
          | (go_at_call 12; with_reducible refine ((unhide HT1) _ (by first | exact Below.refl _ _ | assumption | exact Below.drew (by assumption))).mono ?_; rintro e wa ⟨rfl, hba⟩; obtain ⟨⟨ca0, ca1, ca2, ca3⟩, cb0, cb1, cb2, cb3⟩ := (unhide HX).at_ hba)
          | (go_at_call 12; with_reducible refine ((unhide HT2) _ (by first | exact Below.refl _ _ | assumption | exact Below.drew (by assumption))).mono ?_; rintro e wb ⟨rfl, hbb⟩; obtain ⟨⟨ca0, ca1, ca2, ca3⟩, cb0, cb1, cb2, cb3⟩ := (unhide HX).at_ hbb)
          | (go_at_call 37; refine (refTruths_any _ _ _).mono ?_; rintro e w3 ⟨rfl, rfl⟩))
      all_goals go_wp2_with fail
      all_goals go_ret2
      all_goals exact ⟨by rw [HE.out]; rfl, hb0.trans (Below.mono (by assumption) hOB)⟩
    · clear hp hp'
      have HE : Hid (orderN 2 n s.data.toList len 2 n' s'.data.toList len' = (numT n n', 0)) := by show _ = _; rw [orderN_mix 2 n s.data.toList len 2 n' s'.data.toList len' rfl rfl rfl]; simp [numOfN]
      clear hT1 hT2 hN1 hN2 hX1 hX2
      generalize orderN 2 n s.data.toList len 2 n' s'.data.toList len' = oo at HE ⊢
      go_enter Tryd.func23, Tryd.ntmps23
      go_upto_region 1 with fail
      rw [HW0.out]
      go_wp2_with (first | (go_at_call 36; with_reducible refine ((unhide HP1) _ (by first | exact Below.refl _ _ | assumption | exact Below.drew (by assumption))).mono ?_; rintro e w2 ⟨rfl, hb2⟩; obtain ⟨⟨ca0, ca1, ca2, ca3⟩, cb0, cb1, cb2, cb3⟩ := (unhide HX).at_ hb2) | (go_at_call 36; with_reducible refine ((unhide HP2) _ (by first | exact Below.refl _ _ | assumption | exact Below.drew (by assumption))).mono ?_; rintro e w2 ⟨rfl, hb2⟩; obtain ⟨⟨ca0, ca1, ca2, ca3⟩, cb0, cb1, cb2, cb3⟩ := (unhide HX).at_ hb2) | (go_at_call 39; refine (refNumbers_any _ _ _).mono ?_; rintro e w3 ⟨rfl, rfl⟩))
      go_ret2
      exact ⟨by rw [HE.out]; rfl, hb0.trans (Below.mono (by assumption) hOB)⟩
    · clear hp hp'
      have hE := orderN_mix 2 n s.data.toList len 3 n' s'.data.toList len' rfl rfl rfl
      rw [show numOfN 2 n s.data.toList = (n, true) from rfl] at hE
      rw [show numOfN 3 n' s'.data.toList = numN s'.data.toList from rfl] at hE
      generalize numN s'.data.toList = q2 at hN2 hE
      obtain ⟨m2, x2⟩ := q2
      have HN1 := hide hN1
      have HN2 := hide hN2
      have HX1 := hide hX1
      have HX2 := hide hX2
      clear hT1 hT2 hN1 hN2 hX1 hX2
      cases x2
      all_goals
        have HE := hide hE
        clear hE
        generalize orderN 2 n s.data.toList len 3 n' s'.data.toList len' = oo at HE ⊢
        go_enter Tryd.func23, Tryd.ntmps23
        go_upto_region 1 with fail
        rw [HW0.out]
        go_wp2_with (first | (go_at_call 36; with_reducible refine ((unhide HP1) _ (by first | exact Below.refl _ _ | assumption | exact Below.drew (by assumption))).mono ?_; rintro e w2 ⟨rfl, hb2⟩; obtain ⟨⟨ca0, ca1, ca2, ca3⟩, cb0, cb1, cb2, cb3⟩ := (unhide HX).at_ hb2) | (go_at_call 36; with_reducible refine ((unhide HP2) _ (by first | exact Below.refl _ _ | assumption | exact Below.drew (by assumption))).mono ?_; rintro e w2 ⟨rfl, hb2⟩; obtain ⟨⟨ca0, ca1, ca2, ca3⟩, cb0, cb1, cb2, cb3⟩ := (unhide HX).at_ hb2) | (go_at_call 10; with_reducible refine ((unhide HX1) _ (by first | exact Below.refl _ _ | assumption | exact Below.drew (by assumption))).mono ?_; rintro e w2 ⟨rfl, hb2⟩; obtain ⟨⟨ca0, ca1, ca2, ca3⟩, cb0, cb1, cb2, cb3⟩ := (unhide HX).at_ hb2) | (go_at_call 10; with_reducible refine ((unhide HX2) _ (by first | exact Below.refl _ _ | assumption | exact Below.drew (by assumption))).mono ?_; rintro e w2 ⟨rfl, hb2⟩; obtain ⟨⟨ca0, ca1, ca2, ca3⟩, cb0, cb1, cb2, cb3⟩ := (unhide HX).at_ hb2) | (go_at_call 19; with_reducible refine ((unhide HN2) _).mono ?_; rintro e w2 ⟨rfl, rfl⟩) | (go_at_call 38; refine (refTexts_any _ _ _).mono ?_; rintro e w3 ⟨rfl, rfl⟩) | (go_at_call 39; refine (refNumbers_any _ _ _).mono ?_; rintro e w3 ⟨rfl, rfl⟩))
        go_ret2
        exact ⟨by rw [HE.out]; rfl, hb0.trans (Below.mono (by assumption) hOB)⟩
  · rcases plain_cases k' hp' with rfl | rfl | rfl | rfl
    · clear hp hp'
      have HE : Hid (orderN 3 n s.data.toList len 0 n' s'.data.toList len' = (lexT s.data.toList [], 0)) := by show _ = _; rw [orderN_mix 3 n s.data.toList len 0 n' s'.data.toList len' rfl rfl rfl]; simp [numOfN, textN]
      clear hT1 hT2 hN1 hN2 hX1 hX2
      generalize orderN 3 n s.data.toList len 0 n' s'.data.toList len' = oo at HE ⊢
      go_enter Tryd.func23, Tryd.ntmps23
      go_upto_region 1 with fail
      rw [HW0.out]
      go_wp2_with (first | (go_at_call 36; with_reducible refine ((unhide HP1) _ (by first | exact Below.refl _ _ | assumption | exact Below.drew (by assumption))).mono ?_; rintro e w2 ⟨rfl, hb2⟩; obtain ⟨⟨ca0, ca1, ca2, ca3⟩, cb0, cb1, cb2, cb3⟩ := (unhide HX).at_ hb2) | (go_at_call 36; with_reducible refine ((unhide HP2) _ (by first | exact Below.refl _ _ | assumption | exact Below.drew (by assumption))).mono ?_; rintro e w2 ⟨rfl, hb2⟩; obtain ⟨⟨ca0, ca1, ca2, ca3⟩, cb0, cb1, cb2, cb3⟩ := (unhide HX).at_ hb2) | (go_at_call 38; refine (refTexts_any _ _ _).mono ?_; rintro e w3 ⟨rfl, rfl⟩))
      go_ret2
      exact ⟨by rw [HE.out]; rfl, hb0.trans (Below.mono (by assumption) hOB)⟩
    · clear hp hp'
      have HE := hide (orderN_truths 3 n s.data.toList len 1 n' s'.data.toList len' rfl rfl rfl)
      generalize truthN 3 n s.data.toList len = t1 at hT1 HE
      generalize truthN 1 n' s'.data.toList len' = t2 at hT2 HE
      have HT1 := hide hT1
      have HT2 := hide hT2
      clear hT1 hT2 hN1 hN2 hX1 hX2
      generalize orderN 3 n s.data.toList len 1 n' s'.data.toList len' = oo at HE ⊢
      go_enter Tryd.func23, Tryd.ntmps23
      go_upto_region 1 with fail
      rw [HW0.out]
      go_wp2_with (first | (go_at_call 36; with_reducible refine ((unhide HP1) _ (by first | exact Below.refl _ _ | assumption | exact Below.drew (by assumption))).mono ?_; rintro e w2 ⟨rfl, hb2⟩; obtain ⟨⟨ca0, ca1, ca2, ca3⟩, cb0, cb1, cb2, cb3⟩ := (unhide HX).at_ hb2) | (go_at_call 36; with_reducible refine ((unhide HP2) _ (by first | exact Below.refl _ _ | assumption | exact Below.drew (by assumption))).mono ?_; rintro e w2 ⟨rfl, hb2⟩; obtain ⟨⟨ca0, ca1, ca2, ca3⟩, cb0, cb1, cb2, cb3⟩ := (unhide HX).at_ hb2))
      go_region_held3 (fun w' => Below W0.heap.size W0 w' ∧ w'.cell? ⟨w.heap.size, 0, none⟩ = some (.int .i64 3) ∧ w'.cell? ⟨w.heap.size, 1, none⟩ = some (.int .i64 n) ∧ w'.cell? ⟨w.heap.size, 2, none⟩ = some (.string s) ∧ w'.cell? ⟨w.heap.size, 3, none⟩ = some (.slice a len cap) ∧ w'.cell? ⟨w.heap.size + 1, 0, none⟩ = some (.int .i64 1) ∧ w'.cell? ⟨w.heap.size + 1, 1, none⟩ = some (.int .i64 n') ∧ w'.cell? ⟨w.heap.size + 1, 2, none⟩ = some (.string s') ∧ w'.cell? ⟨w.heap.size + 1, 3, none⟩ = some (.slice a' len' cap'))
        ((first | (exact ⟨by first | assumption | exact Below.drew (by assumption), by assumption, by assumption, by assumption, by assumption, by assumption, by assumption, by assumption, by assumption⟩) | (refine ⟨by first | assumption | exact Below.drew (by assumption), ?_⟩; go_keep)))
        (first
          | (go_at_call 12; with_reducible refine ((unhide HT1) _ (by first | exact Below.refl _ _ | assumption | exact Below.drew (by assumption))).mono ?_; rintro e wa ⟨rfl, hba⟩; obtain ⟨⟨ca0, ca1, ca2, ca3⟩, cb0, cb1, cb2, cb3⟩ := (unhide HX).at_ hba)
          | (go_at_call 12; with_reducible refine ((unhide HT2) _ (by first | exact Below.refl _ _ | assumption | exact Below.drew (by assumption))).mono ?_; rintro e wb ⟨rfl, hbb⟩; obtain ⟨⟨ca0, ca1, ca2, ca3⟩, cb0, cb1, cb2, cb3⟩ := (unhide HX).at_ hbb)
          | (go_at_call 37; refine (refTruths_any _ _ _).mono ?_; rintro e w3 ⟨rfl, rfl⟩))
      all_goals go_wp2_with fail
      all_goals go_ret2
      all_goals exact ⟨by rw [HE.out]; rfl, hb0.trans (Below.mono (by assumption) hOB)⟩
    · clear hp hp'
      have hE := orderN_mix 3 n s.data.toList len 2 n' s'.data.toList len' rfl rfl rfl
      rw [show numOfN 3 n s.data.toList = numN s.data.toList from rfl] at hE
      generalize numN s.data.toList = q1 at hN1 hE
      obtain ⟨m1, x1⟩ := q1
      rw [show numOfN 2 n' s'.data.toList = (n', true) from rfl] at hE
      have HN1 := hide hN1
      have HN2 := hide hN2
      have HX1 := hide hX1
      have HX2 := hide hX2
      clear hT1 hT2 hN1 hN2 hX1 hX2
      cases x1
      all_goals
        have HE := hide hE
        clear hE
        generalize orderN 3 n s.data.toList len 2 n' s'.data.toList len' = oo at HE ⊢
        go_enter Tryd.func23, Tryd.ntmps23
        go_upto_region 1 with fail
        rw [HW0.out]
        go_wp2_with (first | (go_at_call 36; with_reducible refine ((unhide HP1) _ (by first | exact Below.refl _ _ | assumption | exact Below.drew (by assumption))).mono ?_; rintro e w2 ⟨rfl, hb2⟩; obtain ⟨⟨ca0, ca1, ca2, ca3⟩, cb0, cb1, cb2, cb3⟩ := (unhide HX).at_ hb2) | (go_at_call 36; with_reducible refine ((unhide HP2) _ (by first | exact Below.refl _ _ | assumption | exact Below.drew (by assumption))).mono ?_; rintro e w2 ⟨rfl, hb2⟩; obtain ⟨⟨ca0, ca1, ca2, ca3⟩, cb0, cb1, cb2, cb3⟩ := (unhide HX).at_ hb2) | (go_at_call 10; with_reducible refine ((unhide HX1) _ (by first | exact Below.refl _ _ | assumption | exact Below.drew (by assumption))).mono ?_; rintro e w2 ⟨rfl, hb2⟩; obtain ⟨⟨ca0, ca1, ca2, ca3⟩, cb0, cb1, cb2, cb3⟩ := (unhide HX).at_ hb2) | (go_at_call 10; with_reducible refine ((unhide HX2) _ (by first | exact Below.refl _ _ | assumption | exact Below.drew (by assumption))).mono ?_; rintro e w2 ⟨rfl, hb2⟩; obtain ⟨⟨ca0, ca1, ca2, ca3⟩, cb0, cb1, cb2, cb3⟩ := (unhide HX).at_ hb2) | (go_at_call 19; with_reducible refine ((unhide HN1) _).mono ?_; rintro e w2 ⟨rfl, rfl⟩) | (go_at_call 38; refine (refTexts_any _ _ _).mono ?_; rintro e w3 ⟨rfl, rfl⟩) | (go_at_call 39; refine (refNumbers_any _ _ _).mono ?_; rintro e w3 ⟨rfl, rfl⟩))
        go_ret2
        exact ⟨by rw [HE.out]; rfl, hb0.trans (Below.mono (by assumption) hOB)⟩
    · clear hp hp'
      have hE := orderN_mix 3 n s.data.toList len 3 n' s'.data.toList len' rfl rfl rfl
      rw [show numOfN 3 n s.data.toList = numN s.data.toList from rfl] at hE
      generalize numN s.data.toList = q1 at hN1 hE
      obtain ⟨m1, x1⟩ := q1
      rw [show numOfN 3 n' s'.data.toList = numN s'.data.toList from rfl] at hE
      generalize numN s'.data.toList = q2 at hN2 hE
      obtain ⟨m2, x2⟩ := q2
      have HN1 := hide hN1
      have HN2 := hide hN2
      have HX1 := hide hX1
      have HX2 := hide hX2
      clear hT1 hT2 hN1 hN2 hX1 hX2
      cases x1 <;> cases x2
      all_goals
        have HE := hide hE
        clear hE
        generalize orderN 3 n s.data.toList len 3 n' s'.data.toList len' = oo at HE ⊢
        go_enter Tryd.func23, Tryd.ntmps23
        go_upto_region 1 with fail
        rw [HW0.out]
        go_wp2_with (first | (go_at_call 36; with_reducible refine ((unhide HP1) _ (by first | exact Below.refl _ _ | assumption | exact Below.drew (by assumption))).mono ?_; rintro e w2 ⟨rfl, hb2⟩; obtain ⟨⟨ca0, ca1, ca2, ca3⟩, cb0, cb1, cb2, cb3⟩ := (unhide HX).at_ hb2) | (go_at_call 36; with_reducible refine ((unhide HP2) _ (by first | exact Below.refl _ _ | assumption | exact Below.drew (by assumption))).mono ?_; rintro e w2 ⟨rfl, hb2⟩; obtain ⟨⟨ca0, ca1, ca2, ca3⟩, cb0, cb1, cb2, cb3⟩ := (unhide HX).at_ hb2) | (go_at_call 10; with_reducible refine ((unhide HX1) _ (by first | exact Below.refl _ _ | assumption | exact Below.drew (by assumption))).mono ?_; rintro e w2 ⟨rfl, hb2⟩; obtain ⟨⟨ca0, ca1, ca2, ca3⟩, cb0, cb1, cb2, cb3⟩ := (unhide HX).at_ hb2) | (go_at_call 10; with_reducible refine ((unhide HX2) _ (by first | exact Below.refl _ _ | assumption | exact Below.drew (by assumption))).mono ?_; rintro e w2 ⟨rfl, hb2⟩; obtain ⟨⟨ca0, ca1, ca2, ca3⟩, cb0, cb1, cb2, cb3⟩ := (unhide HX).at_ hb2) | (go_at_call 19; with_reducible refine ((unhide HN1) _).mono ?_; rintro e w2 ⟨rfl, rfl⟩) | (go_at_call 19; with_reducible refine ((unhide HN2) _).mono ?_; rintro e w2 ⟨rfl, rfl⟩) | (go_at_call 38; refine (refTexts_any _ _ _).mono ?_; rintro e w3 ⟨rfl, rfl⟩) | (go_at_call 39; refine (refNumbers_any _ _ _).mono ?_; rintro e w3 ⟨rfl, rfl⟩))
        go_ret2
        exact ⟨by rw [HE.out]; rfl, hb0.trans (Below.mono (by assumption) hOB)⟩

set_option maxHeartbeats 8000000 in
set_option maxRecDepth 1000000 in
theorem refSame_any (k n : Int) (s : ByteArray) (a : Option Addr) (len cap : Nat) (k' n' : Int) (s' : ByteArray) (a' : Option Addr) (len' cap' : Nat) (w : World) :
    Calls Tryd.prog 25 #[.agg #[.int .i64 k, .int .i64 n, .string s, .slice a len cap], .agg #[.int .i64 k', .int .i64 n', .string s', .slice a' len' cap']] w
      fun e w' => e = .returned (.bool (sameN k n s.data.toList k' n' s'.data.toList)) ∧ Below w.heap.size w w' := by
  have hBX := Boxes.new w k n s a len cap k' n' s' a' len' cap'
  have hb0 : Below w.heap.size w ((w.alloc (.cells #[.int .i64 k, .int .i64 n, .string s, .slice a len cap] 24)).alloc (.cells #[.int .i64 k', .int .i64 n', .string s', .slice a' len' cap'] 24)) := (below_box w _).alloc (by simp) _
  obtain ⟨W0, hW0⟩ : ∃ W0, (w.alloc (.cells #[.int .i64 k, .int .i64 n, .string s, .slice a len cap] 24)).alloc (.cells #[.int .i64 k', .int .i64 n', .string s', .slice a' len' cap'] 24) = W0 := ⟨_, rfl⟩
  rw [hW0] at hBX hb0
  have HW0 := Lib.hid hW0
  have hP1 : ∀ u, Below W0.heap.size W0 u → _ := fun u hu => from_ hu (refPlain_any k n s a len cap u)
  have HX := hide hBX
  have hOB := hb0.size
  obtain ⟨⟨ca0, ca1, ca2, ca3⟩, cb0, cb1, cb2, cb3⟩ := hBX.at_ (Below.refl _ _)
  clear hW0 hBX
  cases hp : plainN k
  · have HE : Hid (sameN k n s.data.toList k' n' s'.data.toList = false) := by
      show _ = _
      cases h : sameN k n s.data.toList k' n' s'.data.toList
      · rfl
      · have := (sameN_plain _ _ _ _ _ _ h).1; rw [hp] at this; cases this
    rw [hp] at hP1
    have HP1 := hide hP1
    clear hP1 hp
    generalize sameN k n s.data.toList k' n' s'.data.toList = oo at HE ⊢
    go_enter Tryd.func25, Tryd.ntmps25
    go_upto_region 1 with fail
    rw [HW0.out]
    go_wp2_with (first | (go_at_call 36; with_reducible refine ((unhide HP1) _ (by first | exact Below.refl _ _ | assumption | exact Below.drew (by assumption))).mono ?_; rintro e w2 ⟨rfl, hb2⟩; obtain ⟨⟨ca0, ca1, ca2, ca3⟩, cb0, cb1, cb2, cb3⟩ := (unhide HX).at_ hb2))
    go_ret
    exact ⟨by rw [HE.out]; rfl, hb0.trans (hb2.mono hOB)⟩
  rw [hp] at hP1
  have HP1 := hide hP1
  clear hP1
  by_cases hk : k = k'
  · subst hk
    rcases plain_cases k hp with rfl | rfl | rfl | rfl
    all_goals
      clear hp
      go_enter Tryd.func25, Tryd.ntmps25
      go_upto_region 1 with fail
      rw [HW0.out]
      go_wp2_with (first | (go_at_call 36; with_reducible refine ((unhide HP1) _ (by first | exact Below.refl _ _ | assumption | exact Below.drew (by assumption))).mono ?_; rintro e w2 ⟨rfl, hb2⟩; obtain ⟨⟨ca0, ca1, ca2, ca3⟩, cb0, cb1, cb2, cb3⟩ := (unhide HX).at_ hb2))
      all_goals go_ret
      all_goals exact ⟨ret_bool (by simp_all [sameN, Lib.toList_data]), hb0.trans (hb2.mono hOB)⟩
  · have HE : Hid (sameN k n s.data.toList k' n' s'.data.toList = false) := by show _ = _; unfold sameN; rw [if_neg hk]
    clear hp
    generalize sameN k n s.data.toList k' n' s'.data.toList = oo at HE ⊢
    go_enter Tryd.func25, Tryd.ntmps25
    go_upto_region 1 with fail
    rw [HW0.out]
    go_wp2_with (first | (go_at_call 36; with_reducible refine ((unhide HP1) _ (by first | exact Below.refl _ _ | assumption | exact Below.drew (by assumption))).mono ?_; rintro e w2 ⟨rfl, hb2⟩; obtain ⟨⟨ca0, ca1, ca2, ca3⟩, cb0, cb1, cb2, cb3⟩ := (unhide HX).at_ hb2))
    go_ret
    exact ⟨by rw [HE.out]; rfl, hb0.trans (hb2.mono hOB)⟩
end Go.Proofs.YtmbminbnnmnkeaaDoor
