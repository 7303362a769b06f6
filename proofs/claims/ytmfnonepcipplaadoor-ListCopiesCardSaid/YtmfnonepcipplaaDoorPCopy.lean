/-
  The contract of package list's Copy; several lists beside one another.
-/
import Derived.Test.YtmfnonepcipplaaDoorPStandsA
import Derived.Test.YtmfnonepcipplaaDoorLAlive
namespace Go.Proofs.YtmfnonepcipplaaDoor
open Go Go.RowKit Convs Lists

theorem Lst.lendOf {B : Nat} {W : World} {lb mb : Nat} {iv : Value} {lent : Bool} {l : Ls} (h : Lst B W lb mb iv lent l) : Lst B (lend lb W) lb mb iv true l := by
  have hrow : ∀ k, iv.ownBlock = some k → k ≠ lb := by
    rintro k hk rfl
    obtain ⟨_, _, cs, hcs⟩ := ownsRow_lt h.row hk
    exact absurd (hcs.inj h.blk) (by decide)
  exact ⟨h.blk.set 4 (.bool true), ownsRow_same h.row (fun k hk => Below.heap_setCell _ _ _ _ (hrow k hk)), h.map.same (Below.heap_setCell _ _ _ _ (Ne.symm h.lb_ne_mb)), h.good, h.keys, h.hlb, h.hmb⟩

set_option maxRecDepth 100000 in
set_option maxHeartbeats 2000000 in
theorem Copy_any {B : Nat} {w : World} {lb mb : Nat} {iv : Value} {lent : Bool} {l : Ls} (h : Lst B w lb mb iv lent l) :
    Calls Tryd.prog 10 #[.pointer (some ⟨lb, 0, none⟩)] w fun e w' => ∃ cb, e = .returned (.pointer (some ⟨cb, 0, none⟩)) ∧ w.heap.size ≤ cb ∧ Lst B w' lb mb iv true l ∧ Lst B w' cb mb iv true l ∧ Turned (fun k => k = lb) w w' := by
  obtain ⟨c0, c1, c2, c3, c4, f0, f1, f2, f3, f4⟩ := h.cells
  have HM := hide (isMade_any w lb c0)
  have hl1 := h.lendOf
  have ht1 : Turned (fun k => k = lb) w (lend lb w) := Turned.setCell (S := fun k => k = lb) w ⟨lb, 4, none⟩ (.bool true) rfl
  obtain ⟨A, cap, hiv, hc1, hc2, _⟩ := h.form
  have hBw : B ≤ w.heap.size := by have := h.hlb; have := h.blk.lt; omega
  subst hiv
  obtain ⟨d0, d1, d2, d3, d4, -⟩ := hl1.cells
  obtain ⟨W1, hW1⟩ : ∃ W1, w.setCell ⟨lb, 4, none⟩ (.bool true) = W1 := ⟨_, rfl⟩
  have e1 : lend lb w = W1 := hW1
  have hz1 : W1.heap.size = w.heap.size := by rw [← hW1]; simp [World.setCell]
  rw [e1] at hl1 ht1 d0 d1 d2 d3 d4
  have HW1 := hide hW1
  have HL1 := hide hl1
  have HT1 := hide ht1
  have HBW := hide hBw
  have HZ1 := hide hz1
  have HS : Hid (∀ u, Below W1.heap.size W1 u → (u.cell? ⟨lb, 1, none⟩ = some (.slice A l.items.length cap) ∧ u.cell? ⟨lb, 2, none⟩ = some (.map (some mb)) ∧ u.cell? ⟨lb, 3, none⟩ = some (.int .i64 l.next))) := fun u hu => by
    obtain ⟨x0, x1, x2, x3, x4, -⟩ := (hl1.below hu).cells
    exact ⟨x1, x2, x3⟩
  clear hW1 e1 hl1 ht1 h hBw hz1
  go_enter Tryd.func10, Tryd.ntmps10
  go_upto_region 4 with (go_at_call 24; with_reducible refine (unhide HM).mono ?_; rintro e w1 ⟨rfl, rfl⟩)
  rw [HW1.out]
  go_region_held3 (fun u => u.cell? ⟨lb, 1, none⟩ = some (.slice A l.items.length cap) ∧ u.cell? ⟨lb, 2, none⟩ = some (.map (some mb)) ∧ u.cell? ⟨lb, 3, none⟩ = some (.int .i64 l.next))
    (first | exact HS.out _ (Below.refl _ _).drew | exact HS.out _ ((Below.refl _ _).drew.alloc (Nat.le_refl _) _) | exact HS.out _ ((Below.refl _ _).alloc (Nat.le_refl _) _).drew)
    (fail)
  go_split_ands
  have hb2 : Below W1.heap.size W1 (W1.alloc (.cells #[.pointer none, .slice A l.items.length cap, .map (some mb), .int .i64 l.next, .bool true] 50)).drew := (below_box W1 _).drew
  have k2 : Blk (W1.alloc (.cells #[.pointer none, .slice A l.items.length cap, .map (some mb), .int .i64 l.next, .bool true] 50)).drew W1.heap.size #[.pointer none, .slice A l.items.length cap, .map (some mb), .int .i64 l.next, .bool true] 50 := Blk.new W1 _ _
  obtain ⟨cb, hcb⟩ : ∃ cb, W1.heap.size = cb := ⟨_, rfl⟩
  obtain ⟨W2, hW2⟩ : ∃ W2, (W1.alloc (.cells #[.pointer none, .slice A l.items.length cap, .map (some mb), .int .i64 l.next, .bool true] 50)).drew = W2 := ⟨_, rfl⟩
  rw [hcb, hW2] at k2
  rw [hW2] at hb2
  rw [hcb, hW2]
  have hl2 := HL1.out.below hb2
  have z0 : W2.cell? ⟨cb, 0, none⟩ = some (.pointer none) := k2.cell 0
  have z1 : W2.frozen? ⟨cb, 0, none⟩ = false := k2.free 0
  have hcw : w.heap.size ≤ cb := by rw [← hcb, HZ1.out]; exact Nat.le_refl _
  have hfar : ∀ k, Lst.own lb mb (.slice A l.items.length cap) false k → k ≠ cb := fun k hk e => by
    have := HL1.out.fp_lt hk
    omega
  have hl3 : Lst B (W2.setCell ⟨cb, 0, none⟩ (.pointer (some ⟨cb, 0, none⟩))) lb mb (.slice A l.items.length cap) true l := hl2.same fun k hk => Below.heap_setCell _ _ _ _ (hfar k hk)
  have hc3 : Lst B (W2.setCell ⟨cb, 0, none⟩ (.pointer (some ⟨cb, 0, none⟩))) cb mb (.slice A l.items.length cap) true l :=
    ⟨k2.set 0 _, hl3.row, hl3.map, hl3.good, hl3.keys, Nat.le_trans HBW.out hcw, hl3.hmb⟩
  have ht3 : Turned (fun k => k = lb) w (W2.setCell ⟨cb, 0, none⟩ (.pointer (some ⟨cb, 0, none⟩))) :=
    (HT1.out.trans (.of_below hb2)).then (Turned.setCell (S := fun k => k = cb) W2 ⟨cb, 0, none⟩ _ rfl) (fun k hk hl => by
      have hk' : k = cb := hk
      omega)
  have HR := hide (show w.heap.size ≤ cb ∧ Lst B (W2.setCell ⟨cb, 0, none⟩ (.pointer (some ⟨cb, 0, none⟩))) lb mb (.slice A l.items.length cap) true l ∧ Lst B (W2.setCell ⟨cb, 0, none⟩ (.pointer (some ⟨cb, 0, none⟩))) cb mb (.slice A l.items.length cap) true l ∧ Turned (fun k => k = lb) w (W2.setCell ⟨cb, 0, none⟩ (.pointer (some ⟨cb, 0, none⟩))) from ⟨hcw, hl3, hc3, ht3⟩)
  clear hb2 k2 hcb hW2 hl2 hcw hfar hl3 hc3 ht3
  go_wp2_with fail
  go_ret
  exact ⟨cb, rfl, HR.out⟩
end Go.Proofs.YtmfnonepcipplaaDoor
