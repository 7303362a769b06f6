/-
  The contract of the document's Del.
-/
import Derived.Test.YtmfnonepcipplaaDoorRSet
namespace Go.Proofs.YtmfnonepcipplaaDoor
open Go Go.RowKit Convs Lists

def delQ (xs : List (K × Q)) (k : K) : List (K × Q) × Bool := match findQ xs k with
  | some i => (xs.take i ++ xs.drop (i + 1), true)
  | none => (xs, false)

theorem RdQ.takes {w : World} {g o cap : Nat} {xs : List (K × Q)} (h : RdQ w (some ⟨g, o, none⟩) cap xs) (i c : Nat) : RdQ w (some ⟨g, o, none⟩) c (xs.take i) := by
  refine ⟨fun j u hu => h.row j u ?_, fun e => by cases e⟩
  rw [← encQ_take] at hu
  rw [List.getElem?_take] at hu
  split at hu
  · exact hu
  · cases hu
theorem RdQ.drops {w : World} {g cap : Nat} {xs : List (K × Q)} (h : RdQ w (some ⟨g, 0, none⟩) cap xs) (i c : Nat) : RdQ w (some ⟨g, i * 7, none⟩) c (xs.drop i) := by
  refine ⟨fun j u hu => ?_, fun e => by cases e⟩
  rw [← encQ_drop, List.getElem?_drop] at hu
  obtain ⟨g', o', hA, hc⟩ := h.row _ u hu
  cases hA
  exact ⟨g, i * 7, rfl, by rw [Nat.zero_add] at hc; exact hc⟩

set_option maxRecDepth 100000 in
set_option maxHeartbeats 4000000 in
theorem RDel_any {B : Nat} {w : World} {rb : Nat} {A : Option Addr} {cap : Nat} {xs : List (K × Q)} {nx : Int} (h : RLst B w rb A cap xs nx) (t0 : Bool) (n0 : Int) (s0 : ByteArray)
    (hk0 : Kok ⟨t0, n0, s0.data.toList⟩) (hs0 : s0.size ≤ 281474976710656) :
    Calls Tryd.prog 21 #[.pointer (some ⟨rb, 0, none⟩), .agg #[.bool t0, .int .i64 n0, .string s0]] w
      (RPost B w rb (delQ xs (normT ⟨t0, n0, s0.data.toList⟩)).1 nx (.bool (delQ xs (normT ⟨t0, n0, s0.data.toList⟩)).2)) := by
  obtain ⟨t, n, s, hnk, hkv⟩ := norm_cells ⟨t0, n0, s0.data.toList⟩
  have hk : Kok ⟨t, n, s.data.toList⟩ := by rw [← hnk]; exact normT_ok hk0
  have hN := fun W => RNorm_any t0 n0 s0 W hs0
  rw [hkv] at hN
  rw [hnk]
  have kk := Blk.new w #[.bool t0, .int .i64 n0, .string s0] 30
  have hb0 := below_box w (.cells #[.bool t0, .int .i64 n0, .string s0] 30)
  obtain ⟨W0, hW0⟩ : ∃ W0, w.alloc (.cells #[.bool t0, .int .i64 n0, .string s0] 30) = W0 := ⟨_, rfl⟩
  rw [hW0] at kk hb0
  have hl0 := h.below hb0
  have HW0 := hide hW0
  have HB0 := hide hb0
  have HL0 := hide hl0
  have hS : ∀ u, Below W0.heap.size W0 u → (Below W0.heap.size W0 u ∧ u.cell? ⟨rb, 0, none⟩ = some (.slice A xs.length cap) ∧ u.cell? ⟨w.heap.size, 0, none⟩ = some (.bool t0) ∧ u.cell? ⟨w.heap.size, 1, none⟩ = some (.int .i64 n0) ∧ u.cell? ⟨w.heap.size, 2, none⟩ = some (.string s0)) := by
    intro u hu
    have kb := (kk.below hu kk.lt).three
    exact ⟨hu, (hl0.below hu).two.1, kb.1, kb.2.1, kb.2.2.1⟩
  have HS := hide hS
  have HN : Hid (∀ u, Below W0.heap.size W0 u → _) := hide (fun u hu => from_ hu (hN u))
  have HFI : Hid (∀ u, Below W0.heap.size W0 u → _) := hide (fun u hu => from_ hu (RFind_any u A cap xs (RowAt.of_own (hl0.below hu).row) hl0.keys t n s hk (by have := hl0.few; unfold maxLen; omega)))
  have hfew := hl0.few
  clear hW0 hb0 hN hl0 kk hk hk0 h hS
  go_enter Tryd.func21, Tryd.ntmps21
  go_upto_region 1 with fail
  rw [HW0.out]
  go_region_held3 (fun u => Below W0.heap.size W0 u ∧ u.cell? ⟨rb, 0, none⟩ = some (.slice A xs.length cap) ∧ u.cell? ⟨w.heap.size, 0, none⟩ = some (.bool t0) ∧ u.cell? ⟨w.heap.size, 1, none⟩ = some (.int .i64 n0) ∧ u.cell? ⟨w.heap.size, 2, none⟩ = some (.string s0))
    (first | exact HS.out _ (by assumption) | exact HS.out _ (Below.refl _ _).drew)
    (first | (go_at_call 29; refine (HN.out _ (by first | assumption | exact (Below.refl _ _).drew)).mono ?_; rintro e w3 ⟨rfl, hb3⟩) | (go_at_call 30; refine (HFI.out _ (by first | assumption | exact (Below.refl _ _).drew)).mono ?_; rintro e w4 ⟨rfl, hb4⟩))
  go_split_ands
  have hl4 := HL0.out.below hb4
  obtain ⟨r0, r1, rf0, rf1⟩ := hl4.two
  have HL4 := hide hl4
  have HB4 := hide (HB0.out.trans (hb4.mono HB0.out.size))
  clear hl4 hb4 hb3 HS HN HFI
  cases hf : findQ xs ⟨t, n, s.data.toList⟩ with
  | none =>
    have hfn : findN xs ⟨t, n, s.data.toList⟩ = -1 := by unfold findN; rw [hf]
    have hg : delQ xs ⟨t, n, s.data.toList⟩ = (xs, false) := by unfold delQ; rw [hf]
    rw [hfn]
    have HG := hide hg
    clear hf hfn hg
    go_wp2_with fail
    go_ret
    rw [HG.out]
    exact ⟨rfl, A, cap, HL4.out, Turned.of_below HB4.out⟩
  | some i =>
    have hfn : findN xs ⟨t, n, s.data.toList⟩ = (i : Int) := by unfold findN; rw [hf]
    obtain ⟨q0, hat⟩ := findQ_at _ _ _ hf
    have hg : delQ xs ⟨t, n, s.data.toList⟩ = (xs.take i ++ xs.drop (i + 1), true) := by unfold delQ; rw [hf]
    have hil := (List.getElem?_eq_some_iff.1 hat).1
    rw [hfn]
    have HG := hide hg
    have HRT := hide (RT.of HL4.out.blk)
    have HRBL := hide HL4.out.blk.lt
    have HBS := hide (show B ≤ w4.heap.size by have := HL4.out.hrb; have := HL4.out.blk.lt; omega)
    obtain ⟨g, hA, hcn⟩ : ∃ g, A = some ⟨g, 0, none⟩ ∧ xs.length ≤ cap := by
      rcases HL4.out.row.2 with ⟨h', h0⟩ | ⟨g, c, cur, h', hb, hh, hnc, _⟩
      · omega
      · cases h'
        exact ⟨g, rfl, hnc⟩
    subst hA
    have i0 : (0 : Int) ≤ (i : Int) := by omega
    have i1 : (i : Int) < (xs.length : Int) := by omega
    have i2 : decide ((i : Int) < 0) = false := by simp
    have i3 : (i : Int) ≤ (cap : Int) := by omega
    have i4 : (i : Int) + 1 ≤ (xs.length : Int) := by omega
    have i5 : (i : Int) + 1 ≤ 9223372036854775807 := by omega
    have i6 : (0 : Int) ≤ (i : Int) + 1 := by omega
    have i7 : (xs.length : Int) ≤ (cap : Int) := by omega
    have HRD := hide (RdQ.of_own HL4.out.row)
    have HRDT : Hid (∀ u, RT w4 rb nx u → RdQ u (some ⟨g, 0, none⟩) cap xs) := fun u hu => HRD.out.turned hu.1 (fun a ha e => by
      have h1 : (Value.slice (some ⟨g, 0, none⟩) xs.length cap).ownBlock = some rb := by rw [ha]; exact congrArg some e
      obtain ⟨_, _, cs, hcs⟩ := row_lt HL4.out.row h1
      exact absurd (hcs.inj HL4.out.blk) (by decide))
    have iw : IntKind.i64.wrap ((i : Int) + 1) = (i : Int) + 1 := by rw [IntKind.wrap_i64]; omega
    have HRI : Hid (∀ u, RT w4 rb nx u → ∀ c, RdQ u (if cap = i + 1 then some ⟨g, 0, none⟩ else some ⟨g, (i + 1) * 7, none⟩) c (xs.drop (i + 1))) := by
      intro u hu c
      by_cases hc : cap = i + 1
      · rw [if_pos hc, List.drop_of_length_le (by omega)]
        exact ⟨RowAt.nil _ _, fun e => by cases e⟩
      · rw [if_neg hc]
        exact (HRDT.out u hu).drops _ _
    have HKS : Hid (∀ x ∈ xs.take i ++ xs.drop (i + 1), Kok x.1) := fun x hx => by
      rcases List.mem_append.1 hx with h | h
      · exact HL4.out.keys x (List.mem_of_mem_take h)
      · exact HL4.out.keys x (List.mem_of_mem_drop h)
    have hls : (xs.take i ++ xs.drop (i + 1)).length = xs.length - 1 := by rw [List.length_append, List.length_take, List.length_drop]; omega
    have HLS := hide hls
    clear hf hfn hat hg hls
    go_upto_region 4 with fail
    have htl : (xs.take i).length = i := by rw [List.length_take]; omega
    have hdl : (xs.drop (i + 1)).length = xs.length - (i + 1) := by rw [List.length_drop]
    have HTL := hide htl
    have HDL := hide hdl
    clear htl hdl
    go_region_law (first
        | (refine step_appQ rfl (.const (.slice none 0 0)) (.tmp 21) rfl (.slice none 0 0) (some ⟨g, 0, none⟩) cap [] (xs.take i) B i rfl (by simp [Act.eval, Act.put, HTL.out]) (by simp [HTL.out]) (by omega) (by first | exact HBS.out | (simp; have := HBS.out; omega)) (World.ownsRow_nil _ _ _ _) (by first | exact (HRDT.out _ HRT.out.drew).takes _ _) ?_; intro A5 cap5 w5 hown5 hgrow5 hat5; replace hown5 : w5.ownsRow B 45 7 (.slice A5 i cap5) (xs.take i).length (encQ (xs.take i)) := (by rw [HTL.out]; simpa using hown5); have R5 : RT w4 rb nx w5 := (RT.below HRT.out.drew (below_grown hgrow5)); have r0 := (HL4.out.drew.below (below_grown hgrow5)).two.1)
        | (refine step_appQ rfl (.tmp 22) (.tmp 29) rfl (.slice A5 i cap5) (if cap = i + 1 then some ⟨g, 0, none⟩ else some ⟨g, (i + 1) * 7, none⟩) (cap - (i + 1)) (xs.take i) (xs.drop (i + 1)) B (xs.length - 1) (by simp [Act.eval, Act.put]) (by simp [Act.eval, Act.put, HDL.out]) (by rw [HTL.out, HDL.out]; omega) (by omega) (by have h1 := HBS.out; have h2 := hgrow5.size; simp at h2 ⊢; omega) hown5 (HRI.out _ R5 _) ?_; intro A6 cap6 w6 hown6 hgrow6 hat6; have hrr : ∀ k, (Value.slice A5 i cap5).ownBlock = some k → w4.heap.size ≤ k ∧ k ≠ rb := (by intro k hk; have hl := HRBL.out; rcases (hat5 rfl).1 with h | h <;> rw [h] at hk <;> simp [Value.ownBlock] at hk; subst hk; constructor <;> omega); have R6 : RT w4 rb nx w6 := RT.grown R5 hgrow6 hrr; obtain ⟨vv, hvv⟩ := R6.2; have st0 : w6.cell? ⟨rb, 0, none⟩ = some vv := hvv.cell 0; have st1 : w6.frozen? ⟨rb, 0, none⟩ = false := hvv.free 0)
        )
    all_goals
      clear iw i0 i1 i2 i3 i4 i5 i6 i7 hat5 hat6 hrr r0 r1 rf0 rf1 st0 st1
      have OW6 := hide hown6
      clear hown6 hown5 hgrow5 hgrow6
      go_wp2_with fail
    all_goals
      go_ret
      rw [HG.out]
      exact ⟨rfl, A6, cap6, R6.lstN HLS.out OW6.out HL4.out.hrb HKS.out (by rw [HLS.out]; omega) HL4.out.nlo HL4.out.nhi, (Turned.of_below HB4.out).trans (R6.put _).1⟩
end Go.Proofs.YtmfnonepcipplaaDoor
