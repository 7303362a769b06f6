/-
  The contract of the document's Find.
-/
import Derived.Test.YtmfnonepcipplaaDoorRItems
import Derived.Test.YtmfnonepcipplaaDoorRNorm
namespace Go.Proofs.YtmfnonepcipplaaDoor
open Go Go.RowKit Convs Lists

set_option maxRecDepth 100000 in
set_option maxHeartbeats 2000000 in
theorem RFind_any (w : World) (A : Option Addr) (cap : Nat) (xs : List (K × Q)) (h : RowAt w A xs) (hk : ∀ x ∈ xs, Kok x.1) (t : Bool) (n : Int) (s : ByteArray) (hk0 : Kok ⟨t, n, s.data.toList⟩) (hlen : xs.length ≤ maxLen) :
    Calls Tryd.prog 30 #[.slice A xs.length cap, .agg #[.bool t, .int .i64 n, .string s]] w fun e w' => e = .returned (.int .i64 (findN xs ⟨t, n, s.data.toList⟩)) ∧ Below w.heap.size w w' := by
  have hb0 := below_box w (.cells #[.bool t, .int .i64 n, .string s] 30)
  have hkb := Blk.new w #[.bool t, .int .i64 n, .string s] 30
  obtain ⟨W0, hW0⟩ : ∃ W0, w.alloc (.cells #[.bool t, .int .i64 n, .string s] 30) = W0 := ⟨_, rfl⟩
  rw [hW0] at hb0 hkb
  have HB0 := hide hb0
  have HKB := hide hkb
  have HW0 := hide hW0
  have HK := hide hk
  have HK0 := hide hk0
  have HR := hide (h.below hb0)
  clear hb0 hkb hW0 h hk hk0
  unfold maxLen at hlen
  go_enter Tryd.func30, Tryd.ntmps30
  go_upto_region 1 with fail
  rw [HW0.out]
  go_upto_region 2 with fail
  go_loopw [5] (fun v wr => ∃ i : Nat, i ≤ xs.length ∧ v = .int .i64 i ∧ Hid (Below W0.heap.size W0 wr) ∧ Hid (∀ (j : Nat) (y : K × Q), j < i → xs[j]? = some y → y.1 ≠ ⟨t, n, s.data.toList⟩)) (fun v _ => xs.length - (intOf v).toNat)
  case atStart => exact ⟨0, Nat.zero_le _, rfl, hide (Below.refl _ _), hide (fun j y hj => absurd hj (by omega))⟩
  case round =>
    obtain ⟨i, hi, rfl, HB, HN⟩ := hrel
    by_cases hlt : i < xs.length
    · obtain ⟨⟨⟨ty, ny, sy⟩, qy⟩, hy⟩ : ∃ y, xs[i]? = some y := ⟨_, List.getElem?_eq_getElem hlt⟩
      obtain ⟨s', hs'⟩ : ∃ s' : ByteArray, (⟨sy.toArray⟩ : ByteArray) = s' := ⟨_, rfl⟩
      have hsy : sy = s'.data.toList := by rw [← hs']
      subst hsy
      obtain ⟨g, o, hA, e0, e1, e2, -⟩ := (HR.out.below HB.out).cells hy
      simp only at e0 e1 e2
      subst hA
      have hko : Kok ⟨ty, ny, s'.data.toList⟩ := HK.out _ (List.mem_of_getElem? hy)
      have heq := fun W => key_equal W ⟨ty, ny, s'.data.toList⟩ ⟨t, n, s.data.toList⟩ hko HK0.out
      rw [kv_of, kv_of] at heq
      obtain ⟨b0, b1, b2, -⟩ := (HKB.out.below HB.out HKB.out.lt).three
      have HY := hide hy
      have l0 : (0 : Int) ≤ (i : Int) := by omega
      have l1 : (i : Int) < (xs.length : Int) := by omega
      have l2 : ((i : Int) < (xs.length : Int)) = True := by simpa using hlt
      by_cases hak : (⟨ty, ny, s'.data.toList⟩ : Lists.K) = ⟨t, n, s.data.toList⟩
      · have HAK := hide hak
        simp only [hak, decide_true] at heq
        clear hy hak hko
        go_wp2_with fail
        go_quiet (fail)
        go_wp2_with fail
        go_ret
        refine ⟨ret_int ?_, HB0.out.trans ((below_drewN HB.out _).mono HB0.out.size)⟩
        unfold findN
        rw [findQ_some xs _ i _ HY.out HAK.out HN.out]
      · have HAK := hide hak
        simp only [hak, decide_false] at heq
        clear hy hak hko
        go_wp2_with fail
        go_quiet (fail)
        go_wp2_with fail
        go_roundw
        case rel =>
          refine ⟨i + 1, by omega, by go_num, hide (below_drewN HB.out _), hide (fun j y hj hy2 => ?_)⟩
          by_cases hji : j < i
          · exact HN.out j y hji hy2
          · have : j = i := by omega
            subst this
            have h1 := HY.out
            rw [hy2] at h1
            cases h1
            exact HAK.out
        case measure => simp [intOf]; omega
    · have he : i = xs.length := by omega
      subst he
      go_wp2_with fail
      go_ret
      refine ⟨ret_int ?_, HB0.out.trans (HB.out.mono HB0.out.size)⟩
      unfold findN
      rw [findQ_none xs _ (fun j y hy => HN.out j y ((List.getElem?_eq_some_iff.1 hy).1) hy)]
end Go.Proofs.YtmfnonepcipplaaDoor
