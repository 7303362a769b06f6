/-
  The walk of the law CutCuts.
-/
import Derived.Test.YtbeglmolgloepaaDoorRefF
import Derived.Test.YtbeglmolgloepaaDoorAlive
namespace Go.Proofs.YtbeglmolgloepaaDoor
open Go Go.RowKit Cutting

/-- A slice value reads as a list of pieces. -/
structure RdPcs (w : World) (v : Value) (l : List Pc) : Prop where
  form : ∃ A cap, v = .slice A l.length cap ∧ l.length ≤ cap ∧ (0 < l.length → ∃ g, A = some ⟨g, 0, none⟩ ∧ g < w.heap.size) ∧ (A = none ∧ cap = 0 ∨ ∃ g, A = some ⟨g, 0, none⟩)
  cells : ∀ g cap, v = .slice (some ⟨g, 0, none⟩) l.length cap → ∀ i (hi : i < l.length), w.cell? ⟨g, i * 3, none⟩ = some (.int .i64 l[i].kind) ∧ w.cell? ⟨g, i * 3 + 1, none⟩ = some (.string ⟨l[i].text.toArray⟩) ∧ w.cell? ⟨g, i * 3 + 2, none⟩ = some (.int .i64 l[i].at_)
theorem St.rd {B : Nat} {w wr : World} {v : Value} {l : List Pc} (h : St B w wr v l) : RdPcs wr v l := by
  refine ⟨?_, fun g cap hv i hi => h.cells hv i hi⟩
  rcases h.own.2 with ⟨rfl, h0⟩ | ⟨g, cap, cur, rfl, hb, hh, hn, hc, hcs, ht⟩
  · refine ⟨none, 0, by rw [h0], by omega, fun h => by omega, .inl ⟨rfl, rfl⟩⟩
  · exact ⟨_, cap, rfl, hn, fun _ => ⟨g, rfl, (h.own.lt g rfl).2⟩, .inr ⟨g, rfl⟩⟩
theorem RdPcs.below {w w' : World} {v : Value} {l : List Pc} (h : RdPcs w v l) (hb : Below w.heap.size w w') : RdPcs w' v l := by
  obtain ⟨A, cap, hv, hc, hA, hN⟩ := h.form
  refine ⟨⟨A, cap, hv, hc, fun hl => ?_, hN⟩, fun g cap' hv' i hi => ?_⟩
  · obtain ⟨g, rfl, hg⟩ := hA hl
    exact ⟨g, rfl, Nat.lt_of_lt_of_le hg hb.size⟩
  · obtain ⟨g', hg', hlt⟩ := hA (by omega)
    have e : A = some ⟨g, 0, none⟩ := by
      rw [hv] at hv'
      injection hv'
    rw [e] at hg'
    injection hg' with hg'
    injection hg' with hg' _ _
    subst hg'
    have hcs := h.cells g cap' hv' i hi
    rw [hb.cell (p := ⟨g, i * 3, none⟩) hlt, hb.cell (p := ⟨g, i * 3 + 1, none⟩) hlt, hb.cell (p := ⟨g, i * 3 + 2, none⟩) hlt]
    exact hcs

set_option maxHeartbeats 2000000 in
theorem Same_any (v1 v2 : Value) (l : List Pc) (w : World) (hl : l.length ≤ 65537) (h1 : RdPcs w v1 l) (h2 : RdPcs w v2 l) :
    Calls Tryd.prog 10 #[v1, v2] w fun e w' => e = .returned (.bool true) ∧ Below w.heap.size w w' := by
  obtain ⟨A1, c1, hv1, hc1, hA1, _⟩ := h1.form
  obtain ⟨A2, c2, hv2, hc2, hA2, _⟩ := h2.form
  have HC1 := Lib.hid h1.cells
  have HC2 := Lib.hid h2.cells
  have HA1 := Lib.hid hA1
  have HA2 := Lib.hid hA2
  subst hv1
  subst hv2
  clear h1 h2 hA1 hA2
  go_enter Tryd.func10, Tryd.ntmps10
  go_wp2_with fail
  go_loopw [5] (fun z W => ∃ k : Nat, z = .int .i64 k ∧ k ≤ l.length ∧ Below w.heap.size w W) (fun z _ => l.length - (intOf z).toNat)
  case atStart => exact ⟨0, rfl, Nat.zero_le _, Below.refl _ _⟩
  case round =>
    obtain ⟨k, rfl, hk, hbr⟩ := hrel
    by_cases hlt : k < l.length
    · obtain ⟨g1, rfl, hg1⟩ := HA1.out (by omega)
      obtain ⟨g2, rfl, hg2⟩ := HA2.out (by omega)
      obtain ⟨a0, a1, a2⟩ := HC1.out g1 c1 rfl k hlt
      obtain ⟨b0, b1, b2⟩ := HC2.out g2 c2 rfl k hlt
      obtain ⟨K, hK⟩ : ∃ K, K = l[k].kind := ⟨_, rfl⟩
      obtain ⟨X, hX⟩ : ∃ X, X = l[k].at_ := ⟨_, rfl⟩
      obtain ⟨T, hT⟩ : ∃ T : ByteArray, T = ⟨l[k].text.toArray⟩ := ⟨_, rfl⟩
      rw [← hbr.cell (p := ⟨g1, k * 3, none⟩) hg1, ← hK] at a0
      rw [← hbr.cell (p := ⟨g1, k * 3 + 1, none⟩) hg1, ← hT] at a1
      rw [← hbr.cell (p := ⟨g1, k * 3 + 2, none⟩) hg1, ← hX] at a2
      rw [← hbr.cell (p := ⟨g2, k * 3, none⟩) hg2, ← hK] at b0
      rw [← hbr.cell (p := ⟨g2, k * 3 + 1, none⟩) hg2, ← hT] at b1
      rw [← hbr.cell (p := ⟨g2, k * 3 + 2, none⟩) hg2, ← hX] at b2
      have hk0 : (0 : Int) ≤ (k : Int) := Int.natCast_nonneg _
      have hk1 : (k : Int) < (l.length : Int) := by omega
      clear hK hX hT HA1 HA2
      go_wp2_with fail
      go_quiet (fail)
      go_wp2_with fail
      go_roundw
      case rel => exact ⟨k + 1, by go_num, by omega, below_drewN hbr _⟩
      case measure => simp [intOf]; omega
    · go_wp2_with fail
      go_ret
      exact ⟨rfl, hbr⟩

theorem rd_nil (w : World) : RdPcs w (.slice none 0 0) [] := ⟨⟨none, 0, rfl, Nat.le_refl _, fun h => absurd h (Nat.lt_irrefl 0), .inl ⟨rfl, rfl⟩⟩, fun _ _ h => by cases h⟩

set_option maxHeartbeats 2000000 in
theorem CutCuts_any (s : ByteArray) (w : World) (hm : HasMax w) (hF : FoldTab w) :
    Calls Tryd.prog 3 #[.string s] w fun e w' => e = .returned (.bool true) ∧ Below w.heap.size w w' := by
  by_cases hbig : 65536 < s.size
  · go_enter Tryd.func3, Tryd.ntmps3
    go_wp2_with fail
    refine (Cut_long s _ hbig).mono ?_
    rintro e w' ⟨rfl, rfl⟩
    go_wp2_with fail
    refine (RCut_long s _ hbig).mono ?_
    rintro e w' ⟨rfl, rfl⟩
    go_wp2_with fail
    refine (Same_any _ _ [] _ (by show 0 ≤ 65537; omega) (rd_nil _) (rd_nil _)).mono ?_
    rintro e w1 ⟨rfl, hb1⟩
    have hm1 := hm.below hb1 hm.lt
    have hF1 := hF.below hb1 hF.lt
    go_wp2_with fail
    refine (alive_any _ hm1 hF1).mono ?_
    rintro e w2 ⟨rfl, hb2⟩
    have hb3 := hb1.trans (hb2.mono hb1.size)
    go_wp2_with fail
    go_ret
    exact ⟨rfl, hb3⟩
  · obtain ⟨l, hl⟩ : ∃ l, l = pieces s.data.toList := ⟨_, rfl⟩
    have hll : l.length ≤ s.size := by
      have h1 := piecesN_length _ 0 s.data.toList (Nat.le_refl _)
      rw [← pieces_eq, ← hl, ← Lib.size_eq] at h1
      exact h1
    have HL := Lib.hid hl
    clear hl
    go_enter Tryd.func3, Tryd.ntmps3
    go_wp2_with fail
    refine (Cut_any s _ (by omega) hm hF).mono ?_
    rintro e w1 ⟨v1, rfl, hst1⟩
    rw [← HL.out] at hst1
    have hb1 := hst1.below
    have hr1 := hst1.rd
    clear hst1
    go_wp2_with fail
    refine (RCut_any s _ (by omega)).mono ?_
    rintro e w2 ⟨v2, rfl, hst2⟩
    rw [← HL.out] at hst2
    have hb2 := hst2.below
    have hr2 := hst2.rd
    have hr1' := hr1.below hb2
    have hb12 := hb1.trans (hb2.mono hb1.size)
    clear hst2 hr1
    go_wp2_with fail
    refine (Same_any _ _ l _ (by omega) hr1' hr2).mono ?_
    rintro e w3 ⟨rfl, hb3⟩
    have hb123 := hb12.trans (hb3.mono hb12.size)
    have hm1 := hm.below hb123 hm.lt
    have hF1 := hF.below hb123 hF.lt
    clear hr1' hr2
    go_wp2_with fail
    refine (alive_any _ hm1 hF1).mono ?_
    rintro e w4 ⟨rfl, hb4⟩
    have hb5 := hb123.trans (hb4.mono hb123.size)
    go_wp2_with fail
    go_ret
    exact ⟨rfl, hb5⟩
end Go.Proofs.YtbeglmolgloepaaDoor
