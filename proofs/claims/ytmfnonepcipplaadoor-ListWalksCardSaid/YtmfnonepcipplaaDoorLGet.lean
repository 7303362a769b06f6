/-
  Contracts of package list's Get and At.
-/
import Derived.Test.YtmfnonepcipplaaDoorLSet
namespace Go.Proofs.YtmfnonepcipplaaDoor
open Go Go.RowKit Convs Lists

/-- What Get answers. -/
def getN (l : List (K × Int)) (k : K) : Int × Bool := ((getI l k).getD 0, hasI l k)

set_option maxRecDepth 100000 in
set_option maxHeartbeats 2000000 in
theorem Get_any {B : Nat} {w : World} {lb mb : Nat} {iv : Value} {lent : Bool} {l : Ls} (h : Lst B w lb mb iv lent l) (hM : Met w) (t0 : Bool) (n0 : Int) (s0 : ByteArray)
    (hk0 : Kok ⟨t0, n0, s0.data.toList⟩) (hs0 : s0.size ≤ 281474976710656) :
    Calls Tryd.prog 14 #[.pointer (some ⟨lb, 0, none⟩), .agg #[.bool t0, .int .i64 n0, .string s0]] w fun e w' =>
      e = .returned (.tuple #[.int .i64 (getN l.items (normT ⟨t0, n0, s0.data.toList⟩)).1, .bool (getN l.items (normT ⟨t0, n0, s0.data.toList⟩)).2]) ∧ Below w.heap.size w w' := by
  obtain ⟨t, n, s, hnk, hkv⟩ := norm_cells ⟨t0, n0, s0.data.toList⟩
  have hk : Kok ⟨t, n, s.data.toList⟩ := by rw [← hnk]; exact normT_ok hk0
  have hN := fun W => fun (hM : Met W) => Norm_any t0 n0 s0 W hM hs0
  rw [hkv] at hN
  rw [hnk]
  have h0 := h.alloc (.cells #[.bool t0, .int .i64 n0, .string s0] 30)
  have hb0 := below_box w (.cells #[.bool t0, .int .i64 n0, .string s0] 30)
  have hkb := Blk.new w #[.bool t0, .int .i64 n0, .string s0] 30
  obtain ⟨W0, hW0⟩ : ∃ W0, w.alloc (.cells #[.bool t0, .int .i64 n0, .string s0] 30) = W0 := ⟨_, rfl⟩
  rw [hW0] at h0 hb0 hkb
  obtain ⟨c0, c1, c2, c3, c4, f0, f1, f2, f3, f4⟩ := h0.cells
  have HM := hide (isMade_any W0 lb c0)
  have hM0 := hM.below hb0
  have HN : Hid (∀ u, Below W0.heap.size W0 u → _) := hide (fun u hu => from_ hu (hN u (hM0.below hu)))
  have HW0 := hide hW0
  have HB := hide hb0
  have HL := hide h0
  cases hh : hasI l.items ⟨t, n, s.data.toList⟩
  · have hg : getN l.items ⟨t, n, s.data.toList⟩ = (0, false) := by
      unfold getN; rw [hh]
      unfold hasI at hh
      cases hx : getI l.items ⟨t, n, s.data.toList⟩ with
      | none => rfl
      | some x => rw [hx] at hh; cases hh
    have HG := hide hg
    have HS : Hid (∀ u, Below W0.heap.size W0 u → (Below W0.heap.size W0 u ∧ u.cell? ⟨lb, 2, none⟩ = some (.map (some mb)) ∧ u.cell? ⟨w.heap.size, 0, none⟩ = some (.bool t0) ∧ u.cell? ⟨w.heap.size, 1, none⟩ = some (.int .i64 n0) ∧ u.cell? ⟨w.heap.size, 2, none⟩ = some (.string s0) ∧
        (Instr.lookup 47 (.map (some mb)) (.agg #[.bool t, .int .i64 n, .string s]) true).run Tryd.prog u = .ok (.tuple #[.int .i64 0, .bool false]) u)) := by
      intro u hu
      have kb := (hkb.below hu hkb.lt).three
      have hl := h0.below hu
      exact ⟨hu, hl.cells.2.2.1, kb.1, kb.2.1, kb.2.2.1, by have := look_none hl hk hh u rfl; rw [kv_of] at this; exact this⟩
    clear hN hW0 h0 hb0 hkb h hM hM0 hnk hkv hk0 hk hh hg
    go_enter Tryd.func14, Tryd.ntmps14
    go_upto_region 1 with fail
    rw [HW0.out]
    go_wp2_with (go_at_call 24; with_reducible refine (unhide HM).mono ?_; rintro e w1 ⟨rfl, rfl⟩)
    go_region_held3 (fun u => Below W0.heap.size W0 u ∧ u.cell? ⟨lb, 2, none⟩ = some (.map (some mb)) ∧ u.cell? ⟨w.heap.size, 0, none⟩ = some (.bool t0) ∧ u.cell? ⟨w.heap.size, 1, none⟩ = some (.int .i64 n0) ∧ u.cell? ⟨w.heap.size, 2, none⟩ = some (.string s0) ∧
        (Instr.lookup 47 (.map (some mb)) (.agg #[.bool t, .int .i64 n, .string s]) true).run Tryd.prog u = .ok (.tuple #[.int .i64 0, .bool false]) u)
      (first | exact HS.out _ (by assumption) | exact HS.out _ (Below.refl _ _).drew)
      (first | (go_at_call 26; refine (HN.out _ (by first | assumption | exact (Below.refl _ _).drew)).mono ?_; rintro e w2 ⟨rfl, hb2⟩))
    all_goals
      go_split_ands
      go_wp2_with fail
      go_ret2
      exact ⟨by rw [HG.out]; rfl, HB.out.trans (hb2.mono HB.out.size)⟩
  · obtain ⟨j, v0, hpl, hj, hat, hgt⟩ := placeOf_some l.items _ hh
    have hg : getN l.items ⟨t, n, s.data.toList⟩ = (v0, true) := by unfold getN; rw [hh, hgt]; rfl
    have HG := hide hg
    have j0 : (0 : Int) ≤ (j : Int) := by omega
    have j1 : (j : Int) < (l.items.length : Int) := by omega
    obtain ⟨A, cap, hiv, hc1, hc2, hA⟩ := h0.form
    obtain ⟨g, hg', _, _⟩ := hA (by omega)
    subst hg' hiv
    have HS : Hid (∀ u, Below W0.heap.size W0 u → (Below W0.heap.size W0 u ∧ u.cell? ⟨lb, 2, none⟩ = some (.map (some mb)) ∧ u.cell? ⟨w.heap.size, 0, none⟩ = some (.bool t0) ∧ u.cell? ⟨w.heap.size, 1, none⟩ = some (.int .i64 n0) ∧ u.cell? ⟨w.heap.size, 2, none⟩ = some (.string s0) ∧
        (Instr.lookup 47 (.map (some mb)) (.agg #[.bool t, .int .i64 n, .string s]) true).run Tryd.prog u = .ok (.tuple #[.int .i64 j, .bool true]) u)) := by
      intro u hu
      have kb := (hkb.below hu hkb.lt).three
      have hl := h0.below hu
      exact ⟨hu, hl.cells.2.2.1, kb.1, kb.2.1, kb.2.2.1, by have := look_some hl hk hpl u rfl; rw [kv_of] at this; exact this⟩
    have HC : Hid (∀ u, Below W0.heap.size W0 u → u.cell? ⟨lb, 1, none⟩ = some (.slice (some ⟨g, 0, none⟩) l.items.length cap) ∧ u.cell? ⟨g, j * 4 + 3, none⟩ = some (.int .i64 v0)) := by
      intro u hu
      have hl := h0.below hu
      refine ⟨hl.cells.2.1, ?_⟩
      rw [hl.row.cellAt _ (by omega)]
      exact (encItems_at _ _ _ hat).2.2.2
    clear hN hW0 h0 hb0 hkb h hM hM0 hnk hkv hk0 hk hh hg hpl hat hgt hA
    go_enter Tryd.func14, Tryd.ntmps14
    go_upto_region 1 with fail
    rw [HW0.out]
    go_wp2_with (go_at_call 24; with_reducible refine (unhide HM).mono ?_; rintro e w1 ⟨rfl, rfl⟩)
    go_region_held3 (fun u => Below W0.heap.size W0 u ∧ u.cell? ⟨lb, 2, none⟩ = some (.map (some mb)) ∧ u.cell? ⟨w.heap.size, 0, none⟩ = some (.bool t0) ∧ u.cell? ⟨w.heap.size, 1, none⟩ = some (.int .i64 n0) ∧ u.cell? ⟨w.heap.size, 2, none⟩ = some (.string s0) ∧
        (Instr.lookup 47 (.map (some mb)) (.agg #[.bool t, .int .i64 n, .string s]) true).run Tryd.prog u = .ok (.tuple #[.int .i64 j, .bool true]) u)
      (first | exact HS.out _ (by assumption) | exact HS.out _ (Below.refl _ _).drew)
      (first | (go_at_call 26; refine (HN.out _ (by first | assumption | exact (Below.refl _ _).drew)).mono ?_; rintro e w2 ⟨rfl, hb2⟩))
    all_goals
      go_split_ands
      obtain ⟨e1, e2⟩ := HC.out w2 hb2
      go_wp2_with fail
      go_ret2
      exact ⟨by rw [HG.out]; rfl, HB.out.trans (hb2.mono HB.out.size)⟩

set_option maxRecDepth 100000 in
set_option maxHeartbeats 2000000 in
theorem At_in {B : Nat} {w : World} {lb mb : Nat} {iv : Value} {lent : Bool} {l : Ls} (h : Lst B w lb mb iv lent l) (j : Nat) (k : K) (v : Int) (hat : l.items[j]? = some (k, v)) :
    Calls Tryd.prog 23 #[.pointer (some ⟨lb, 0, none⟩), .int .i64 j] w fun e w' => e = .returned (.tuple #[kv k, .int .i64 v, .bool true]) ∧ Below w.heap.size w w' := by
  have hj : j < l.items.length := (List.getElem?_eq_some_iff.1 hat).1
  have h0 := h.alloc (.cells #[.bool false, .int .i64 0, .string ⟨#[]⟩] 30)
  have hb0 := below_box w (.cells #[.bool false, .int .i64 0, .string ⟨#[]⟩] 30)
  have hkb := Blk.new w #[.bool false, .int .i64 0, .string ⟨#[]⟩] 30
  obtain ⟨W0, hW0⟩ : ∃ W0, w.alloc (.cells #[.bool false, .int .i64 0, .string ⟨#[]⟩] 30) = W0 := ⟨_, rfl⟩
  rw [hW0] at h0 hb0 hkb
  have HW0 := hide hW0
  obtain ⟨A, cap, hiv, hc1, hc2, hA⟩ := h0.form
  obtain ⟨g, hg', _, hgl⟩ := hA (by omega)
  subst hg' hiv
  have HLE := hide (Len_any h0)
  obtain ⟨c0, c1, c2, c3, c4, f0, f1, f2, f3, f4⟩ := h0.cells
  obtain ⟨b0, b1, b2, q0, q1, q2⟩ := hkb.three
  obtain ⟨t, n, s⟩ := k
  obtain ⟨e0, e1, e2, e3⟩ := encItems_at _ _ _ hat
  have r0 : W0.cell? ⟨g, j * 4, none⟩ = some (.bool t) := by rw [h0.row.cellAt _ (by omega)]; exact e0
  have r1 : W0.cell? ⟨g, j * 4 + 1, none⟩ = some (.int .i64 n) := by rw [h0.row.cellAt _ (by omega)]; exact e1
  have r2 : W0.cell? ⟨g, j * 4 + 2, none⟩ = some (.string ⟨s.toArray⟩) := by rw [h0.row.cellAt _ (by omega)]; exact e2
  have r3 : W0.cell? ⟨g, j * 4 + 3, none⟩ = some (.int .i64 v) := by rw [h0.row.cellAt _ (by omega)]; exact e3
  have hkg : w.heap.size ≠ g := by
    rintro rfl
    obtain ⟨_, _, cs, hcs⟩ := ownsRow_lt h0.row rfl
    exact absurd (hkb.inj hcs) (by decide)
  have hkl : w.heap.size ≠ lb := fun e => absurd (e ▸ hkb : Blk W0 lb _ _) (fun h => absurd (h.inj h0.blk) (by decide))
  have hkg' := Ne.symm hkg
  have hkl' := Ne.symm hkl
  obtain ⟨s', hs'⟩ : ∃ s' : ByteArray, (⟨s.toArray⟩ : ByteArray) = s' := ⟨_, rfl⟩
  have hkv : kv ⟨t, n, s⟩ = .agg #[.bool t, .int .i64 n, .string s'] := by rw [← hs']; rfl
  rw [hs'] at r2
  rw [hkv]
  have j0 : (0 : Int) ≤ (j : Int) := by omega
  have j1 : (j : Int) < (l.items.length : Int) := by omega
  have j2 : ¬ (l.items.length : Int) ≤ (j : Int) := by omega
  have j3 : decide ((l.items.length : Int) ≤ (j : Int)) = false := by simpa using j2
  have j4 : decide ((j : Int) < 0) = false := by simp
  have HB := hide hb0
  have HK := hide hkb
  clear hW0 h0 hb0 hkb h hat hj hA e0 e1 e2 e3 hs' hkv j2
  go_enter Tryd.func23, Tryd.ntmps23
  go_upto_region 1 with fail
  rw [HW0.out]
  go_wp2_with (go_at_call 15; with_reducible refine (unhide HLE).mono ?_; rintro e w1 ⟨rfl, rfl⟩)
  go_region_held3 (fun u => u.cell? ⟨lb, 1, none⟩ = some (.slice (some ⟨g, 0, none⟩) l.items.length cap) ∧ u.cell? ⟨g, j * 4, none⟩ = some (.bool t) ∧ u.cell? ⟨g, j * 4 + 1, none⟩ = some (.int .i64 n) ∧ u.cell? ⟨g, j * 4 + 2, none⟩ = some (.string s') ∧ u.cell? ⟨g, j * 4 + 3, none⟩ = some (.int .i64 v))
    (first | exact ⟨by assumption, by assumption, by assumption, by assumption, by assumption⟩ | go_keep)
    (first | fail)
  go_wp2_with fail
  exact bodyPost_ret (v := .tuple #[.agg #[.bool t, .int .i64 n, .string s'], .int .i64 v, .bool true]) (by simp [results, Tryd.results23, go_sem, b0, b1, b2]) rfl ⟨rfl, (below_three HB.out (Nat.le_refl _) _ _ _).drew⟩

set_option maxRecDepth 100000 in
theorem At_out {B : Nat} {w : World} {lb mb : Nat} {iv : Value} {lent : Bool} {l : Ls} (h : Lst B w lb mb iv lent l) (i : Int) (hi : i < 0 ∨ (l.items.length : Int) ≤ i) :
    Calls Tryd.prog 23 #[.pointer (some ⟨lb, 0, none⟩), .int .i64 i] w fun e w' => e = .returned (.tuple #[.agg #[.bool false, .int .i64 0, .string ⟨#[]⟩], .int .i64 0, .bool false]) ∧ Below w.heap.size w w' := by
  have h0 := h.alloc (.cells #[.bool false, .int .i64 0, .string ⟨#[]⟩] 30)
  have hb0 := below_box w (.cells #[.bool false, .int .i64 0, .string ⟨#[]⟩] 30)
  have hkb := Blk.new w #[.bool false, .int .i64 0, .string ⟨#[]⟩] 30
  obtain ⟨W0, hW0⟩ : ∃ W0, w.alloc (.cells #[.bool false, .int .i64 0, .string ⟨#[]⟩] 30) = W0 := ⟨_, rfl⟩
  rw [hW0] at h0 hb0 hkb
  have HW0 := hide hW0
  have HLE := hide (Len_any h0)
  obtain ⟨b0, b1, b2, q0, q1, q2⟩ := hkb.three
  have HB := hide hb0
  clear hW0 h0 hb0 hkb h
  by_cases hn : i < 0
  · go_enter Tryd.func23, Tryd.ntmps23
    go_upto_region 1 with fail
    rw [HW0.out]
    go_wp2_with (go_at_call 15; with_reducible refine (unhide HLE).mono ?_; rintro e w1 ⟨rfl, rfl⟩)
    exact bodyPost_ret (v := .tuple #[.agg #[.bool false, .int .i64 0, .string ⟨#[]⟩], .int .i64 0, .bool false]) (by simp [results, Tryd.results23, go_sem, b0, b1, b2]) rfl ⟨rfl, below_three HB.out (Nat.le_refl _) _ _ _⟩
  · have h2 : (l.items.length : Int) ≤ i := by omega
    have j4 : decide (i < 0) = false := by simpa using hn
    clear hi
    go_enter Tryd.func23, Tryd.ntmps23
    go_upto_region 1 with fail
    rw [HW0.out]
    go_wp2_with (go_at_call 15; with_reducible refine (unhide HLE).mono ?_; rintro e w1 ⟨rfl, rfl⟩)
    exact bodyPost_ret (v := .tuple #[.agg #[.bool false, .int .i64 0, .string ⟨#[]⟩], .int .i64 0, .bool false]) (by simp [results, Tryd.results23, go_sem, b0, b1, b2]) rfl ⟨rfl, below_three HB.out (Nat.le_refl _) _ _ _⟩
end Go.Proofs.YtmfnonepcipplaaDoor
