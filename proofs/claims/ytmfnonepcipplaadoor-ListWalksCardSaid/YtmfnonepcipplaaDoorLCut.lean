/-
  The contract of slices.Delete at this package's items, where one item is taken away.
-/
import Derived.Test.YtmfnonepcipplaaDoorLAppend
import Derived.Deep.RegionLaw
import Derived.Lib.SliceRun
import Derived.Laws.IdiomCopy
namespace Go.Proofs.YtmfnonepcipplaaDoor
open Go Go.RowKit Convs Lists

/-- Cells laid over others from a place on. -/
def layA : Array Value → Nat → List Value → Array Value
  | cs, _, [] => cs
  | cs, o, v :: r => layA (cs.setIfInBounds o v) (o + 1) r
theorem layA_size : ∀ (vs : List Value) (cs : Array Value) (o : Nat), (layA cs o vs).size = cs.size
  | [], _, _ => rfl
  | v :: r, cs, o => by rw [layA, layA_size r]; simp
theorem layA_list : ∀ (vs : List Value) (cs : Array Value) (o : Nat), o + vs.length ≤ cs.size → (layA cs o vs).toList = cs.toList.take o ++ vs ++ cs.toList.drop (o + vs.length)
  | [], cs, o, _ => by simp [layA]
  | v :: r, cs, o, h => by
    simp only [List.length_cons] at h
    rw [layA, layA_list r _ _ (by simp; omega)]
    have hlt : o < cs.toList.length := by rw [Array.length_toList]; omega
    simp only [Array.toList_setIfInBounds, List.length_cons]
    have e1 : (cs.toList.set o v).take (o + 1) = cs.toList.take o ++ [v] := by
      rw [List.take_add_one, List.take_set_of_le (Nat.le_refl _), List.getElem?_set_self hlt]
      rfl
    have e2 : (cs.toList.set o v).drop (o + 1 + r.length) = cs.toList.drop (o + (r.length + 1)) := by
      rw [List.drop_set_of_lt (by omega)]
      congr 1; omega
    rw [e1, e2]
    simp
theorem Blk.cells_set {b : Nat} {T : TypeId} : ∀ (vs : List Value) (o : Nat) {w : World} {cs : Array Value}, Blk w b cs T → Blk (w.setCells b o vs) b (layA cs o vs) T
  | [], _, _, _, h => h
  | v :: r, o, w, cs, h => Blk.cells_set r (o + 1) (h.set o v)
theorem turned_cells (b : Nat) : ∀ (vs : List Value) (o : Nat) (w : World), Turned (fun k => k = b) w (w.setCells b o vs)
  | [], _, w => .refl _ w
  | v :: r, o, w => (Turned.setCell (S := fun k => k = b) w ⟨b, o, none⟩ v rfl).trans (turned_cells b r (o + 1) _)

theorem encItems_take : ∀ (l : List (K × Int)) (i : Nat), (encItems l).take (i * 4) = encItems (l.take i)
  | [], i => by simp [encItems]
  | x :: r, 0 => by simp [encItems]
  | x :: r, i + 1 => by
    have ih := encItems_take r i
    have e : encItems (x :: r) = itemV x ++ encItems r := by simp [encItems]
    have e2 : encItems ((x :: r).take (i + 1)) = itemV x ++ encItems (r.take i) := by simp [encItems]
    rw [e, e2, List.take_append, List.take_of_length_le (show (itemV x).length ≤ (i + 1) * 4 by show 4 ≤ _; omega), ← ih]
    congr 2
    show (i + 1) * 4 - 4 = _; omega
theorem encItems_drop : ∀ (l : List (K × Int)) (i : Nat), (encItems l).drop (i * 4) = encItems (l.drop i)
  | [], i => by simp [encItems]
  | x :: r, 0 => by simp [encItems]
  | x :: r, i + 1 => by
    have ih := encItems_drop r i
    have e : encItems (x :: r) = itemV x ++ encItems r := by simp [encItems]
    rw [e, List.drop_succ_cons, ← ih, List.drop_append, List.drop_of_length_le (show (itemV x).length ≤ (i + 1) * 4 by show 4 ≤ _; omega), List.nil_append]
    congr 1
    show (i + 1) * 4 - 4 = _; omega

theorem zeroItem (w : World) : (zeroValue 69).run Tryd.prog w = .ok (.agg #[.bool false, .int .i64 0, .string ⟨#[]⟩, .int .i64 0]) w := by kernel_rfl
def zeros4 : List Value := [.bool false, .int .i64 0, .string ⟨#[]⟩, .int .i64 0]
theorem run_clear_one (w : World) (ty : TypeId) (b o c : Nat) (hc : ∀ j, j < 4 → (w.cell? ⟨b, o + j, none⟩).isSome = true) (hf : ∀ j, j < 4 → w.frozen? ⟨b, o + j, none⟩ = false) :
    (Builtin.clear_ #[48] ty #[.slice (some ⟨b, o, none⟩) 1 c]).run Tryd.prog w = .ok (.tuple #[]) (w.setCells b o zeros4) := by
  have hzc : (Builtin.zeroCells (Value.agg #[.bool false, .int .i64 0, .string ⟨#[]⟩, .int .i64 0]).cells 1).toList = zeros4 := by kernel_rfl
  have hst := run_storeCells_cells (P := Tryd.prog) b o zeros4 0 w (by simpa [zeros4] using hc) (by simpa [zeros4] using hf) (by
    intro v hv
    simp only [zeros4, List.mem_cons, List.not_mem_nil, or_false] at hv
    rcases hv with rfl | rfl | rfl | rfl <;> rfl)
  simp only [Nat.add_zero] at hst
  simp [Builtin.clear_, run_underlying Tryd.underlying48, zeroItem, hzc, hst]

set_option maxRecDepth 100000 in
set_option maxHeartbeats 4000000 in
theorem SDelete_any (w : World) (B : Nat) (g cap i : Nat) (l : List (K × Int)) (hl : l.length ≤ 2048) (h : w.ownsRow B 69 4 (.slice (some ⟨g, 0, none⟩) l.length cap) l.length (encItems l)) (hi : i < l.length) :
    Calls Tryd.prog 31 #[.slice (some ⟨g, 0, none⟩) l.length cap, .int .i64 i, .int .i64 (i + 1)] w fun e w' =>
      e = .returned (.slice (some ⟨g, 0, none⟩) (l.length - 1) cap) ∧ w'.ownsRow B 69 4 (.slice (some ⟨g, 0, none⟩) (l.length - 1) cap) (l.length - 1) (encItems (l.take i ++ l.drop (i + 1))) ∧ Turned (fun k => k = g) w w' := by
  obtain ⟨i0, hi0, hz0, hz1, hz2⟩ := info_parts itemInfo
  obtain ⟨cur, hb, hblk, hnc, hcm, hcs, ht⟩ : ∃ cur, B ≤ g ∧ Blk w g cur 69 ∧ l.length ≤ cap ∧ cap ≤ maxLen ∧ cur.size = cap * 4 ∧ cur.toList.take (l.length * 4) = encItems l := by
    rcases h.2 with ⟨h', _⟩ | ⟨g', cap', cur, h', hb, hg, hnc, hcm, hcs, ht⟩
    · cases h'
    · simp only [Value.slice.injEq, Option.some.injEq, Addr.mk.injEq, and_true, true_and] at h'
      obtain ⟨rfl, rfl⟩ := h'
      exact ⟨cur, hb, hg, hnc, hcm, hcs, ht⟩
  obtain ⟨n, hn⟩ : ∃ n, l.length = n := ⟨_, rfl⟩
  obtain ⟨news, hnews⟩ : ∃ news, news = encItems (l.drop (i + 1)) := ⟨_, rfl⟩
  have hlen : news.length = (n - (i + 1)) * 4 := by rw [hnews, encItems_length, List.length_drop, hn]
  have hcellw : ∀ j, j < cap * 4 → (w.cell? ⟨g, j, none⟩).isSome = true := fun j hj => by
    rw [hblk.cell j, Array.getElem?_eq_getElem (by rw [hcs]; exact hj)]; rfl
  have hnewc : ∀ t u, news[t]? = some u → w.cell? ⟨g, (i + 1) * 4 + t, none⟩ = some u := by
    intro t u hu
    have htl : t < (n - (i + 1)) * 4 := by rw [← hlen]; exact (List.getElem?_eq_some_iff.1 hu).1
    rw [h.cellAt _ (by rw [hn]; omega), ← hu, hnews, ← encItems_drop, List.getElem?_drop]
  obtain ⟨A, hA, hsrc⟩ : ∃ A : Addr, (if cap = i + 1 then some (⟨g, 0, none⟩ : Addr) else some ⟨g, (i + 1) * 4, none⟩) = some A ∧ Hid (∀ t u, news[t]? = some u → w.drew.cell? (A.add t) = some u) := by
    by_cases hc : cap = i + 1
    · refine ⟨⟨g, 0, none⟩, by simp [hc], fun t u hu => ?_⟩
      have h0 : news.length = 0 := by rw [hlen]; omega
      rw [List.length_eq_zero_iff.1 h0] at hu
      simp at hu
    · refine ⟨⟨g, (i + 1) * 4, none⟩, by simp [hc], fun t u hu => ?_⟩
      rw [Addr.add_lit]
      exact hnewc t u hu
  have s1 : Hid (news.length = (n - (i + 1)) * 4) := hlen
  have s2 : Hid (∀ u ∈ news, u.oneCell' = true) := by rw [hnews]; exact oneCells _
  have s3 : Hid (∀ t, t < news.length → (w.drew.cell? ⟨g, 0 + i * 4 + t, none⟩).isSome = true ∧ w.drew.frozen? ⟨g, 0 + i * 4 + t, none⟩ = false) := by
    intro t ht
    rw [hlen] at ht
    exact ⟨hcellw _ (by omega), hblk.free _⟩
  obtain ⟨W1, hW1⟩ : ∃ W1, W1 = w.drew.setCells g (0 + i * 4) news := ⟨_, rfl⟩
  have hblk1 : Blk W1 g (layA cur (0 + i * 4) news) 69 := by rw [hW1]; exact hblk.drew.cells_set news _
  have hcl : ∀ ty, (Builtin.clear_ #[48] ty #[.slice (some ⟨g, (i + (n - (i + 1))) * 4, none⟩) (n - (i + (n - (i + 1)))) (cap - (i + (n - (i + 1))))]).run Tryd.prog W1 = .ok (.tuple #[]) (W1.setCells g ((i + (n - (i + 1))) * 4) zeros4) := by
    intro ty
    rw [show n - (i + (n - (i + 1))) = 1 by omega]
    refine run_clear_one W1 ty g _ _ (fun j hj => ?_) (fun j _ => hblk1.free _)
    rw [hblk1.cell, Array.getElem?_eq_getElem (by rw [layA_size, hcs]; omega)]
    rfl
  have X := hide hW1
  have hp0 : (0 : Int) ≤ (i : Int) + 1 := by omega
  have hp1 : (i : Int) + 1 ≤ (n : Int) := by omega
  have hp2 : ((i : Int) + 1).toNat = i + 1 := by omega
  have hp3 : ((i : Int) == (i : Int) + 1) = false := by rw [beq_eq_false_iff_ne]; omega
  have hic : i ≤ cap := by omega
  have hjc : i + 1 ≤ cap := by omega
  have hin : (i : Int) ≤ (n : Int) := by omega
  have hnc' : (n : Int) ≤ (cap : Int) := by omega
  have hcm' : cap ≤ 9223372036854775807 := by unfold maxLen at hcm; omega
  rw [hn]
  have HBLK := hide hblk
  have HT := hide ht
  have HN := hide hn
  have HNEW := hide hnews
  have HI := hide hi
  have HCS := hide hcs
  have HCM := hide hcm
  have HNC := hide hnc
  clear hW1 hblk1 hcellw hnewc h hblk ht hnews hlen hn hi hcs hnc hcm hl
  go_enter Tryd.func31, Tryd.ntmps31
  go_wp2_with fail
  go_region_law (refine step_append_room rfl (.tmp 22) (.tmp 25) 48 rfl 69 i0 4 Tryd.underlying48 hi0 hz1 g 0 i cap (by simp [Act.eval, Act.put]) A (n - (i + 1)) (cap - (i + 1)) news (by simp [Act.eval, Act.put]) s1.out hsrc.out s2.out (by omega) s3.out ?_; rw [← X.out])
  all_goals (go_wp2_with fail)
  all_goals go_ret
  have hi := HI.out
  have hn := HN.out
  have hcs := HCS.out
  have hnc := HNC.out
  have hm : i + (n - (i + 1)) = n - 1 := by omega
  have hlen := s1.out
  have k1 : Blk W1 g (layA cur (0 + i * 4) news) 69 := by rw [X.out]; exact HBLK.out.drew.cells_set news _
  have k2 := k1.cells_set zeros4 ((i + (n - (i + 1))) * 4)
  have tk : (layA (layA cur (0 + i * 4) news) ((i + (n - (i + 1))) * 4) zeros4).toList.take ((n - 1) * 4) = encItems (l.take i ++ l.drop (i + 1)) := by
    rw [layA_list zeros4 _ _ (by rw [layA_size, hcs]; show _ + 4 ≤ _; omega), layA_list news _ _ (by rw [hcs, hlen]; omega), hm, Nat.zero_add, List.append_assoc, List.take_append_of_le_length, List.take_take, Nat.min_self]
    · rw [List.take_append_of_le_length, List.take_of_length_le]
      · rw [encItems_app, HNEW.out, ← encItems_take, ← HT.out, List.take_take, Nat.min_eq_left (by omega)]
      · rw [List.length_append, hlen, List.length_take, Array.length_toList, hcs]; omega
      · rw [List.length_append, hlen, List.length_take, Array.length_toList, hcs]; omega
    · rw [List.length_take, List.length_append, List.length_append, hlen, List.length_take, List.length_drop, Array.length_toList, hcs]; omega
  refine ⟨by rw [← hm]; rfl, ⟨?_, .inr ⟨g, cap, _, rfl, hb, k2, by omega, HCM.out, ?_, tk⟩⟩, ?_⟩
  · rw [encItems_length, List.length_append, List.length_take, List.length_drop]; omega
  · rw [layA_size, layA_size]; exact hcs
  · have t1 : Turned (fun k => k = g) w W1 := by
      rw [X.out]
      exact (Turned.drew _ w).trans (turned_cells g news _ _)
    exact t1.trans (turned_cells g zeros4 _ W1)
end Go.Proofs.YtmfnonepcipplaaDoor
