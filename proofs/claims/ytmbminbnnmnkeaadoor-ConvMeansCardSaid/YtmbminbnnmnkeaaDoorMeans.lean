/-
  ConvMeans: for every value the law's function returns true, and nothing below its own memory turns.
-/
import Derived.Test.YtmbminbnnmnkeaaDoorConvF
import Derived.Test.YtmbminbnnmnkeaaDoorRef6E
namespace Go.Proofs.YtmbminbnnmnkeaaDoor
open Go Go.RowKit Convs

set_option maxHeartbeats 8000000 in
set_option maxRecDepth 1000000 in
theorem ConvMeans_any (k n : Int) (s : ByteArray) (a : Option Addr) (len cap : Nat) (w : World) (hM : Met w)
    (hn0 : -9223372036854775808 ≤ n) (hn1 : n ≤ 9223372036854775807) (hs : s.size ≤ 281474976710656) :
    Calls Tryd.prog 3 #[.agg #[.int .i64 k, .int .i64 n, .string s, .slice a len cap]] w fun e w' => e = .returned (.bool true) ∧ Below w.heap.size w w' := by
  have hBX := Box.new w k n s a len cap
  have hb0 : Below w.heap.size w (w.alloc (.cells #[.int .i64 k, .int .i64 n, .string s, .slice a len cap] 24)) := below_box w _
  have hlt : w.heap.size < (w.alloc (.cells #[.int .i64 k, .int .i64 n, .string s, .slice a len cap] 24)).heap.size := by simp
  obtain ⟨W0, hW0⟩ : ∃ W0, w.alloc (.cells #[.int .i64 k, .int .i64 n, .string s, .slice a len cap] 24) = W0 := ⟨_, rfl⟩
  rw [hW0] at hBX hb0 hlt
  have HW0 := Lib.hid hW0
  have hM0 := hM.below hb0
  have hX1 : ∀ u, Below W0.heap.size W0 u → _ := fun u hu => from_ hu (Text_any k n s a len cap u (hM0.below hu) hn0 hn1)
  have hX2 : ∀ u, Below W0.heap.size W0 u → _ := fun u hu => from_ hu (refText_any k n s a len cap u hn0 hn1)
  have hT1 : ∀ u, Below W0.heap.size W0 u → _ := fun u hu => from_ hu (Truth_any k n s a len cap u)
  have hT2 : ∀ u, Below W0.heap.size W0 u → _ := fun u hu => from_ hu (refTruth_any k n s a len cap u)
  have hN1 : ∀ u, Below W0.heap.size W0 u → _ := fun u hu => from_ hu (Number_any k n s a len cap u (hM0.below hu) hs)
  have hN2 : ∀ u, Below W0.heap.size W0 u → _ := fun u hu => from_ hu (refNumber_any k n s a len cap u hs)
  have hK1 : ∀ u, Below W0.heap.size W0 u → _ := fun u hu => from_ hu (Kind_any k n s a len cap u)
  have hK2 : ∀ u, Below W0.heap.size W0 u → _ := fun u hu => from_ hu (refKind_any k n s a len cap u)
  have HA := hide (fun u (hu : Below W0.heap.size W0 u) => from_ hu (alive_any u (hM0.below hu)))
  generalize truthN k n s.data.toList len = tt at hT1 hT2
  generalize numberN k n s.data.toList len = nn at hN1 hN2
  generalize (⟨(kindN k).toArray⟩ : ByteArray) = kk at hK1 hK2
  generalize (⟨(textN k n s.data.toList).1.toArray⟩ : ByteArray) = xx at hX1 hX2
  generalize (textN k n s.data.toList).2 = ee at hX1 hX2
  have HX1 := hide hX1
  have HX2 := hide hX2
  have HT1 := hide hT1
  have HT2 := hide hT2
  have HN1 := hide hN1
  have HN2 := hide hN2
  have HK1 := hide hK1
  have HK2 := hide hK2
  have HX := hide (fun (u : World) (hu : Below W0.heap.size W0 u) => hBX.below hu hlt)
  have hOB := hb0.size
  obtain ⟨ca0, ca1, ca2, ca3⟩ := hBX
  clear hM hM0 hW0 hn0 hn1 hs hlt hX1 hX2 hT1 hT2 hN1 hN2 hK1 hK2
  go_enter Tryd.func3, Tryd.ntmps3
  go_upto_region 1 with fail
  rw [HW0.out]
  go_wp2_with (first | (go_at_call 9; with_reducible refine ((unhide HX1) _ (by first | exact Below.refl _ _ | assumption | exact Below.drew (by assumption))).mono ?_; rintro e w1 ⟨rfl, hb1⟩; obtain ⟨ca0, ca1, ca2, ca3⟩ := (unhide HX) _ hb1) | (go_at_call 10; with_reducible refine ((unhide HX2) _ (by first | exact Below.refl _ _ | assumption | exact Below.drew (by assumption))).mono ?_; rintro e w2 ⟨rfl, hb2⟩; obtain ⟨ca0, ca1, ca2, ca3⟩ := (unhide HX) _ hb2))
  go_region_held3 (fun w' => Below W0.heap.size W0 w' ∧ w'.cell? ⟨w.heap.size, 0, none⟩ = some (.int .i64 k) ∧ w'.cell? ⟨w.heap.size, 1, none⟩ = some (.int .i64 n) ∧ w'.cell? ⟨w.heap.size, 2, none⟩ = some (.string s) ∧ w'.cell? ⟨w.heap.size, 3, none⟩ = some (.slice a len cap))
    ((first | (exact ⟨by first | assumption | exact Below.drew (by assumption), by assumption, by assumption, by assumption, by assumption⟩) | (refine ⟨by first | assumption | exact Below.drew (by assumption), ?_⟩; go_keep)))
    (first
      | (go_at_call 11; with_reducible refine ((unhide HT1) _ (by first | exact Below.refl _ _ | assumption | exact Below.drew (by assumption))).mono ?_; rintro e wa ⟨rfl, hba⟩; obtain ⟨ca0, ca1, ca2, ca3⟩ := (unhide HX) _ hba)
      | (go_at_call 12; with_reducible refine ((unhide HT2) _ (by first | exact Below.refl _ _ | assumption | exact Below.drew (by assumption))).mono ?_; rintro e wb ⟨rfl, hbb⟩; obtain ⟨ca0, ca1, ca2, ca3⟩ := (unhide HX) _ hbb)
      | (go_at_call 13; with_reducible refine ((unhide HN1) _ (by first | exact Below.refl _ _ | assumption | exact Below.drew (by assumption))).mono ?_; rintro e wc ⟨rfl, hbc⟩; obtain ⟨ca0, ca1, ca2, ca3⟩ := (unhide HX) _ hbc)
      | (go_at_call 14; with_reducible refine ((unhide HN2) _ (by first | exact Below.refl _ _ | assumption | exact Below.drew (by assumption))).mono ?_; rintro e wd ⟨rfl, hbd⟩; obtain ⟨ca0, ca1, ca2, ca3⟩ := (unhide HX) _ hbd)
      | (go_at_call 15; with_reducible refine ((unhide HK1) _ (by first | exact Below.refl _ _ | assumption | exact Below.drew (by assumption))).mono ?_; rintro e wf ⟨rfl, hbf⟩; obtain ⟨ca0, ca1, ca2, ca3⟩ := (unhide HX) _ hbf)
      | (go_at_call 16; with_reducible refine ((unhide HK2) _ (by first | exact Below.refl _ _ | assumption | exact Below.drew (by assumption))).mono ?_; rintro e wg ⟨rfl, hbg⟩; obtain ⟨ca0, ca1, ca2, ca3⟩ := (unhide HX) _ hbg)
      | (go_at_call 17; with_reducible refine ((unhide HA) _ (by first | exact Below.refl _ _ | assumption | exact Below.drew (by assumption))).mono ?_; rintro e wv ⟨rfl, hbv⟩; obtain ⟨ca0, ca1, ca2, ca3⟩ := (unhide HX) _ hbv))
  all_goals go_wp2_with fail
  all_goals go_ret
  all_goals exact ⟨rfl, hb0.trans (Below.mono (by assumption) hOB)⟩
end Go.Proofs.YtmbminbnnmnkeaaDoor
