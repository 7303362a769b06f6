/-
  What All gives of a list that was made: its items, in their order.
-/
import Derived.Test.YtmfnonepcipplaaDoorLRange
import Derived.Test.YtmfnonepcipplaaDoorLDel
import Derived.Shelf.Abstract
import Derived.Shelf.RegionOpen
import Derived.OwnWalkIn
import Derived.TacticsInMore
import Derived.LoopNIn
import Derived.LoopIn
namespace Go.Proofs.YtmfnonepcipplaaDoor
open Go Go.RowKit Convs Lists
attribute [local go_sem] Oper.semAt_some

/-- What a round must leave as it lay: the row of items. -/
def RowStays (iv : Value) (W W' : World) : Prop := W.heap.size ≤ W'.heap.size ∧ ∀ g, iv.ownBlock = some g → W'.heap[g]? = W.heap[g]?
def encsI (x : K × Int) : Array Value := #[kv x.1, .int .i64 x.2]
def lend (lb : Nat) (W : World) : World := W.setCell ⟨lb, 4, none⟩ (.bool true)

set_option maxRecDepth 100000 in
set_option maxHeartbeats 2000000 in
theorem allGives (n : Nat) {B : Nat} {W0 : World} {lb mb Bn : Nat} {iv : Value} {lent : Bool} {l : Ls} (h : Lst B W0 lb mb iv lent l) (hc : W0.cell? ⟨Bn, 0, none⟩ = some (.pointer (some ⟨lb, 0, none⟩))) (hBn : Bn ≠ lb) :
    Gives Fence.wide n Tryd.prog 25 #[.pointer (some ⟨Bn, 0, none⟩)] encsI (RowStays iv) l.items (lend lb) W0 := by
  intro r J Jx W hW hJ hJx hY h0
  have hL := h.below hW
  have hc' : W.cell? ⟨Bn, 0, none⟩ = some (.pointer (some ⟨lb, 0, none⟩)) := (hW.cell (p := ⟨Bn, 0, none⟩) (World.block_lt_of_cell? W0 _ hc)).trans hc
  have k2 := hL.blk.set 4 (.bool true)
  have hc2 : (W.setCell ⟨lb, 4, none⟩ (.bool true)).cell? ⟨Bn, 0, none⟩ = some (.pointer (some ⟨lb, 0, none⟩)) := by
    rw [World.cell?_setCell_other _ _ _ _ (by intro e; exact hBn (congrArg Addr.block e).symm)]; exact hc'
  have hr2 : (W.setCell ⟨lb, 4, none⟩ (.bool true)).ownsRow B 69 4 iv l.items.length (encItems l.items) := ownsRow_same hL.row (fun k hk => Below.heap_setCell _ _ _ _ (by
    rintro rfl
    obtain ⟨_, _, cs, hcs⟩ := ownsRow_lt hL.row hk
    exact absurd (hcs.inj hL.blk) (by decide)))
  obtain ⟨c0, c1, c2, c3, c4, f0, f1, f2, f3, f4⟩ := hL.cells
  have HM := hide (isMade_any W lb c0)
  obtain ⟨A, cap, hiv, hc1, hc2', hA⟩ := hL.form
  have HA := hide hA
  have HR2 := hide hr2
  have HJ := hide hJ
  have HY := hide hY
  have H0 := hide h0
  have hlen := h.good.len
  unfold maxItems at hlen
  subst hiv
  obtain ⟨d0, d1, d2, d3, d4, g0, g1, g2, g3, g4⟩ := k2.five
  obtain ⟨Wl, hWl⟩ : ∃ Wl, W.setCell ⟨lb, 4, none⟩ (.bool true) = Wl := ⟨_, rfl⟩
  have H0' : Hid (J [] Wl) := by show J [] Wl; rw [← hWl]; exact H0.out
  rw [hWl] at HR2 hc2 d0 d1 d2 d3 d4 g0 g1 g2 g3 g4
  have HWL := hide hWl
  clear hA hr2 hJ hJx hY h0 H0 k2 hL hc hW hWl
  refine callsIn_of_wp Tryd.func25 rfl trivial ?_ rfl
  simp only [Tryd.ntmps25, List.size_toArray, List.length_cons, List.length_nil, Nat.reduceAdd, Nat.reduceSub, Array.replicate_succ, Array.replicate_zero, List.push_toArray, List.append_toArray, List.nil_append, List.cons_append]
  gi_wp2_with (refine ⟨trivial, (fun h => nomatch h), ?_⟩; refine (callsIn_wide.2 (unhide HM)).mono ?_; rintro e w1 ⟨rfl, rfl⟩)
  rw [HWL.out]
  gi_loopw [16] (fun v wr => ∃ q : Nat, q ≤ l.items.length ∧ v = .int .i64 q ∧ Hid (J (l.items.take q) wr) ∧ Hid (W.heap.size ≤ wr.heap.size) ∧ Hid (wr.ownsRow B 69 4 (.slice A l.items.length cap) l.items.length (encItems l.items))) (fun v _ => l.items.length - (intOf v).toNat)
  case atStart => exact ⟨0, Nat.zero_le _, rfl, H0', hide (by rw [← HWL.out]; simp [World.setCell]), HR2⟩
  case round =>
    obtain ⟨q, hq, rfl, HJ1, HS, HR⟩ := hrel
    by_cases hlt : q < l.items.length
    · obtain ⟨⟨⟨ty, ny, sy⟩, vy⟩, hy⟩ : ∃ y, l.items[q]? = some y := ⟨_, List.getElem?_eq_getElem hlt⟩
      obtain ⟨e0, e1, e2, e3⟩ := encItems_at _ _ _ hy
      obtain ⟨s', hs'⟩ : ∃ s' : ByteArray, (⟨sy.toArray⟩ : ByteArray) = s' := ⟨_, rfl⟩
      have hsy : sy = s'.data.toList := by rw [← hs']
      subst hsy
      obtain ⟨g, hg, _, _⟩ := HA.out (by omega)
      subst hg
      have r0 : wr.cell? ⟨g, q * 4, none⟩ = some (.bool ty) := by rw [HR.out.cellAt _ (by omega)]; exact e0
      have r1 : wr.cell? ⟨g, q * 4 + 1, none⟩ = some (.int .i64 ny) := by rw [HR.out.cellAt _ (by omega)]; exact e1
      have r2 : wr.cell? ⟨g, q * 4 + 2, none⟩ = some (.string s') := by rw [HR.out.cellAt _ (by omega)]; exact e2
      have r3 : wr.cell? ⟨g, q * 4 + 3, none⟩ = some (.int .i64 vy) := by rw [HR.out.cellAt _ (by omega)]; exact e3
      have ht : l.items.take (q + 1) = l.items.take q ++ [(⟨ty, ny, s'.data.toList⟩, vy)] := by rw [List.take_add_one, hy]; rfl
      have hj3 : J (l.items.take q) (wr.alloc (.cells #[.bool ty, .int .i64 ny, .string s', .int .i64 vy] 69)) := HJ.out _ _ _ none HJ1.out (World.grownBy_alloc wr _ none) (fun r e => by cases e)
      obtain ⟨fn, tmps, assign, body, hy1, hR⟩ := HY.out (l.items.take q) (⟨ty, ny, s'.data.toList⟩, vy) _ hj3 (by rw [← ht]; exact List.take_prefix _ _)
      unfold encsI at hy1
      rw [kv_of] at hy1
      have hl1 : (q : Int) < (l.items.length : Int) := by omega
      have HT := hide ht
      clear hy e0 e1 e2 e3 hs' ht hj3
      gi_wp2
      refine ⟨(fun h => nomatch h), ?_⟩
      refine hR.mono ?_
      rintro e W3 (⟨rfl, hj, hk⟩ | ⟨rfl, hjx⟩)
      · have HJ3 : Hid (J (l.items.take (q + 1)) W3) := by show J _ _; rw [HT.out]; exact hj
        have hgs : wr.heap.size ≤ W3.heap.size := by have := hk.1; simp at this; omega
        have HR3 : Hid (W3.ownsRow B 69 4 (.slice (some ⟨g, 0, none⟩) l.items.length cap) l.items.length (encItems l.items)) :=
          ownsRow_same HR.out (fun k hk' => by
            have hlt' := (ownsRow_lt HR.out hk').1
            exact (hk.2 k hk').trans (Below.heap_alloc _ _ _ hlt'))
        have HS3 : Hid (W.heap.size ≤ W3.heap.size) := Nat.le_trans HS.out hgs
        clear hj hk hgs
        gi_wp2
        go_roundw
        case rel => exact ⟨q + 1, by omega, by go_num, HJ3, HS3, HR3⟩
        case measure => simp [intOf]; omega
      · have HX := hide hjx
        clear hjx
        gi_wp2
        refine bodyPost_ret (results_none rfl _ _ _) rfl ?_
        exact ⟨⟨_, rfl⟩, .inr ⟨_, by rw [← HT.out]; exact List.take_prefix _ _, HX.out⟩⟩
    · have hqe : q = l.items.length := by omega
      subst hqe
      gi_wp2
      go_end0
      refine ⟨⟨_, rfl⟩, .inl ?_⟩
      have := HJ1.out
      rwa [List.take_length] at this
end Go.Proofs.YtmfnonepcipplaaDoor
