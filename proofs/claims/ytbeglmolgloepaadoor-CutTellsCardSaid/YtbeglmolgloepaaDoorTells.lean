/-
  The walk of the law CutTells.
-/
import Derived.Test.YtbeglmolgloepaaDoorEnded
import Derived.Test.YtbeglmolgloepaaDoorCuts
import Derived.Test.YtbeglmolgloepaaDoorWithin
import Derived.Deep.RegionHeld3
namespace Go.Proofs.YtbeglmolgloepaaDoor
open Go Go.RowKit Cutting

def firstPcs (s : ByteArray) : List Pc := if 65536 < s.size then [] else (pieces s.data.toList).take 20
theorem firstPcs_le (s : ByteArray) : (firstPcs s).length ≤ 20 := by unfold firstPcs; split <;> simp; omega

theorem first_any (s : ByteArray) (w : World) (hs : s.size ≤ 140737488351232) :
    Calls Tryd.prog 12 #[.string s] w fun e w' => ∃ v, e = .returned v ∧ RdPcs w' v (firstPcs s) ∧ Below w.heap.size w w' := by
  by_cases hbig : 65536 < s.size
  · have hf : Hid (firstPcs s = []) := if_pos hbig
    go_enter Tryd.func12, Tryd.ntmps12
    go_wp2_with fail
    refine (RCut_long s _ hbig).mono ?_
    rintro e w' ⟨rfl, rfl⟩
    go_wp2_with fail
    go_ret
    exact ⟨_, rfl, by rw [hf.out]; exact rd_nil _, Below.refl _ _⟩
  · have hf : Hid (firstPcs s = (pieces s.data.toList).take 20) := if_neg hbig
    obtain ⟨l, hl⟩ : ∃ l, l = pieces s.data.toList := ⟨_, rfl⟩
    have hll : l.length ≤ s.size := by
      have h1 := piecesN_length _ 0 s.data.toList (Nat.le_refl _)
      rw [← pieces_eq, ← hl, ← Lib.size_eq] at h1
      exact h1
    have HL := Lib.hid hl
    clear hl
    go_enter Tryd.func12, Tryd.ntmps12
    go_wp2_with fail
    refine (RCut_any s _ (by omega)).mono ?_
    rintro e w1 ⟨v, rfl, hst⟩
    rw [← HL.out] at hst
    have hb := hst.below
    have hr := hst.rd
    obtain ⟨A, cap, hv, hc, hA, hN⟩ := hr.form
    have HNN := Lib.hid hN
    clear hN
    subst hv
    have HR := Lib.hid hr
    have HA := Lib.hid hA
    clear hst hr hA
    obtain ⟨m, hm⟩ : ∃ m : Nat, min (l.length : Int) 20 = m := ⟨min l.length 20, by omega⟩
    have hmc : m ≤ cap := by omega
    have hml : m = (l.take 20).length := by rw [List.length_take]; omega
    have HML := Lib.hid hml
    have HM := Lib.hid hm
    have hmc' : (m : Int) ≤ (cap : Int) := by omega
    clear hml hm
    go_wp2_with fail
    go_ret
    refine ⟨_, rfl, ?_, hb⟩
    rw [HM.out, Int.toNat_natCast, hf.out, ← HL.out]
    have hml := HML.out
    have htl : (l.take 20).length ≤ l.length := by rw [List.length_take]; omega
    refine ⟨⟨A, cap, by rw [← hml]; rfl, by omega, fun h => HA.out (by omega), HNN.out⟩, fun g cap' hv' i hi => ?_⟩
    have hil : i < l.length := by omega
    have hv2 : Value.slice A m cap = Value.slice (some ⟨g, 0, none⟩) (l.take 20).length cap' := hv'
    have hcs := HR.out.cells g cap (by injection hv2 with h1 _ _; rw [h1]) i hil
    rw [List.getElem_take]
    exact hcs

theorem step_append_run {P : Program} {ops : Array Oper} {o : Oper} {a : Act} {w : World} {K : Act → World → Prop} {Q : Exit → Act → World → Prop} {E : Prop}
    (hg : o.guard = none) (s x : Operand) (t : TypeId) (hop : o.op = Op.call { callee := Callee.builtin Builtin.append, args := #[s, x], argTypes := #[t, t] })
    (v1 v2 v' : Value) (w' : World) (hs : a.eval s = v1) (hx : a.eval x = v2) (hrun : (Builtin.append_ #[t, t] o.type #[v1, v2]).run P w = .ok v' w') (hK : K (a.put o.dst v') w') :
    if Region.wanted o (yielded ops a.tmps) = true then Oper.wp P o a w K Q else E := by
  have hw : Region.wanted o (yielded ops a.tmps) = true := by simp [Region.wanted, hg]
  rw [if_pos hw]
  unfold Oper.wp
  simp [execOp, hop, resolve, invoke, builtin, hs, hx, hrun, Result.andThen]
  exact hK

/-- The list that the law goes over: what was handed in, then the first pieces. -/
def rowOf (k : Int) (T : ByteArray) (x : Int) (fl : List Pc) : List Value := [.int .i64 k, .string T, .int .i64 x] ++ encPcs fl
theorem encPcs_cell {w : World} {g : Nat} {l : List Pc} (h : ∀ i (hi : i < l.length), w.cell? ⟨g, i * 3, none⟩ = some (.int .i64 l[i].kind) ∧ w.cell? ⟨g, i * 3 + 1, none⟩ = some (.string ⟨l[i].text.toArray⟩) ∧ w.cell? ⟨g, i * 3 + 2, none⟩ = some (.int .i64 l[i].at_)) :
    ∀ j u, (encPcs l)[j]? = some u → w.cell? ((⟨g, 0, none⟩ : Addr).add j) = some u := by
  intro j u hj
  have hlt : j < l.length * 3 := by
    rw [← encPcs_length]
    exact (List.getElem?_eq_some_iff.1 hj).1
  rw [cell_add, Nat.zero_add]
  have hi : j / 3 < l.length := by omega
  have he := encPcs_at l (j / 3) hi
  have hc := h (j / 3) hi
  have hj3 : j = j / 3 * 3 ∨ j = j / 3 * 3 + 1 ∨ j = j / 3 * 3 + 2 := by omega
  rcases hj3 with e | e | e
  · rw [e] at hj ⊢
    rw [he.1] at hj
    rw [hc.1, ← hj]
  · rw [e] at hj ⊢
    rw [he.2.1] at hj
    rw [hc.2.1, ← hj]
  · rw [e] at hj ⊢
    rw [he.2.2] at hj
    rw [hc.2.2, ← hj]
theorem app_run (W : World) (B : Nat) (ty : TypeId) (rv v : Value) (k : Int) (T : ByteArray) (x : Int) (fl : List Pc) (hfl : fl.length ≤ 20) (hB : B ≤ W.heap.size)
    (hown : W.ownsRow B 32 3 rv 1 [.int .i64 k, .string T, .int .i64 x]) (hrd : RdPcs W v fl) :
    ∃ v' w', (Builtin.append_ #[22, 22] ty #[rv, v]).run Tryd.prog W = .ok v' w' ∧ w'.ownsRow B 32 3 v' (1 + fl.length) (rowOf k T x fl) ∧ W.grownBy w' rv.ownBlock := by
  obtain ⟨i0, hi, hz0, hz1, hz2⟩ := info_parts pieceInfo
  obtain ⟨A, cap, hv, hc, hA, hN⟩ := hrd.form
  rcases hN with ⟨rfl, rfl⟩ | ⟨g, rfl⟩
  · have h0 : fl.length = 0 := by omega
    have hnil : fl = [] := List.eq_nil_of_length_eq_zero h0
    subst hnil
    subst hv
    exact ⟨rv, W, run_append_owned_none (w := W) (P := Tryd.prog) B 22 ty 32 i0 3 Tryd.underlying22 hi rv 1 _ hown, hown, World.grownBy.refl W _⟩
  · subst hv
    obtain ⟨v', w', h1, h2, h3, _⟩ := run_append_own (P := Tryd.prog) W B 22 ty 32 i0 _ 3 32 Tryd.underlying22 hi hz0 hz1 hz2 rfl (by decide) rv 1 _ hown ⟨g, 0, none⟩ fl.length cap (encPcs fl) (encPcs_length fl)
      (encPcs_cell (hrd.cells g cap rfl)) (by
        intro u hu
        simp only [encPcs, List.mem_flatMap] at hu
        obtain ⟨p, _, hp⟩ := hu
        simp only [encPc, List.mem_cons, List.not_mem_nil, or_false] at hp
        rcases hp with rfl | rfl | rfl <;> rfl) (by unfold maxLen; omega) (by omega) hB
    exact ⟨v', w', h1, h2, h3⟩

theorem step_app {ops : Array Oper} {o : Oper} {a : Act} {W : World} {K : Act → World → Prop} {Q : Exit → Act → World → Prop} {E : Prop}
    (hg : o.guard = none) (s x : Operand) (hop : o.op = Op.call { callee := Callee.builtin Builtin.append, args := #[s, x], argTypes := #[22, 22] })
    (rv v : Value) (hs : a.eval s = rv) (hx : a.eval x = v) (B : Nat) (k : Int) (T : ByteArray) (y : Int) (fl : List Pc) (hfl : fl.length ≤ 20) (hB : B ≤ W.heap.size)
    (hown : W.ownsRow B 32 3 rv 1 [.int .i64 k, .string T, .int .i64 y]) (hrd : RdPcs W v fl)
    (N : Nat) (hN : N = 1 + fl.length)
    (h : ∀ g cap W', W'.ownsRow B 32 3 (.slice (some ⟨g, 0, none⟩) N cap) N (rowOf k T y fl) → W.grownBy W' rv.ownBlock → K (a.put o.dst (.slice (some ⟨g, 0, none⟩) N cap)) W') :
    if Region.wanted o (yielded ops a.tmps) = true then Oper.wp Tryd.prog o a W K Q else E := by
  obtain ⟨v', W', h1, h2, h3⟩ := app_run W B o.type rv v k T y fl hfl hB hown hrd
  rw [← hN] at h2
  obtain ⟨g, cap, rfl, _, _⟩ := h2.form (by omega)
  exact step_append_run hg s x 22 hop rv v _ W' hs hx h1 (h g cap W' h2 h3)

theorem within_len (s : List UInt8) : ∀ (l : List Pc) (a : Nat) (h : Bool), Within s a h l → ∀ p ∈ l, p.text.length ≤ s.length := by
  intro l
  induction l with
  | nil => intro a h _ p hp; cases hp
  | cons q l ih =>
    intro a h hw p hp
    obtain ⟨_, h2, _, _, h5⟩ := hw
    rcases List.mem_cons.1 hp with rfl | hp
    · omega
    · exact ih _ _ h5 p hp
theorem firstPcs_len (s : ByteArray) : ∀ p ∈ firstPcs s, p.text.length ≤ s.size := by
  intro p hp
  unfold firstPcs at hp
  split at hp
  · cases hp
  · have := within_len _ _ _ _ (within_all s.data.toList) p (List.mem_of_mem_take hp)
    rw [Lib.size_eq]
    exact this
/-- What stands at place j of the row. -/
theorem row_at {W : World} {B g N cap : Nat} {k x : Int} {s T : ByteArray} (hown : W.ownsRow B 32 3 (.slice (some ⟨g, 0, none⟩) N cap) N (rowOf k T x (firstPcs s)))
    (hs : s.size ≤ 140737488351232) (hT : T.size ≤ 140737488351232) (hN : N = 1 + (firstPcs s).length) (j : Nat) (hj : j < N) :
    ∃ (kj xj : Int) (Tj : ByteArray), Tj.size ≤ 140737488351232 ∧ W.cell? ⟨g, j * 3, none⟩ = some (.int .i64 kj) ∧ W.cell? ⟨g, j * 3 + 1, none⟩ = some (.string Tj) ∧ W.cell? ⟨g, j * 3 + 2, none⟩ = some (.int .i64 xj) := by
  cases j with
  | zero =>
    refine ⟨k, x, T, hT, ?_, ?_, ?_⟩ <;> (rw [hown.cellAt _ (by omega)]; rfl)
  | succ i =>
    have hi : i < (firstPcs s).length := by omega
    have he := encPcs_at (firstPcs s) i hi
    refine ⟨(firstPcs s)[i].kind, (firstPcs s)[i].at_, ⟨(firstPcs s)[i].text.toArray⟩, ?_, ?_, ?_, ?_⟩
    · have := firstPcs_len s _ (List.getElem_mem hi)
      rw [Lib.size_eq]
      show (firstPcs s)[i].text.toArray.toList.length ≤ _
      rw [List.toList_toArray]
      omega
    · rw [hown.cellAt _ (by omega), rowOf, List.getElem?_append_right (by simp; omega), show (i + 1) * 3 - _ = i * 3 from by simp; omega]
      exact he.1
    · rw [hown.cellAt _ (by omega), rowOf, List.getElem?_append_right (by simp; omega), show (i + 1) * 3 + 1 - _ = i * 3 + 1 from by simp; omega]
      exact he.2.1
    · rw [hown.cellAt _ (by omega), rowOf, List.getElem?_append_right (by simp; omega), show (i + 1) * 3 + 2 - _ = i * 3 + 2 from by simp; omega]
      exact he.2.2
theorem row_new (W : World) (B : Nat) (k : Int) (T : ByteArray) (x : Int) (hB : B ≤ W.heap.size) :
    (W.alloc (.cells #[.int .i64 k, .string T, .int .i64 x] 32)).ownsRow B 32 3 (.slice (some ⟨W.heap.size, 0, none⟩) 1 1) 1 [.int .i64 k, .string T, .int .i64 x] :=
  World.ownsRow_lit W #[.int .i64 k, .string T, .int .i64 x] 1 hB (by unfold maxLen; omega) rfl

set_option maxHeartbeats 4000000 in
theorem CutTells_any (s T : ByteArray) (k x y : Int) (w : World) (hs : s.size ≤ 140737488351232) (hT : T.size ≤ 140737488351232) (hy0 : -9223372036854775808 ≤ y) (hy1 : y ≤ 9223372036854775807) (hm : HasMax w) (hF : FoldTab w) :
    Calls Tryd.prog 4 #[.string s, .agg #[.int .i64 k, .string T, .int .i64 x], .int .i64 y] w fun e w' => e = .returned (.bool true) ∧ Below w.heap.size w w' := by
  obtain ⟨i0, hi, hz0, hz1, hz2⟩ := info_parts pieceInfo
  go_enter Tryd.func4, Tryd.ntmps4
  go_wp2_with fail
  have hb0 : Below w.heap.size w (w.alloc (.cells #[.int .i64 k, .string T, .int .i64 x] 32)) := (Below.refl _ _).alloc (Nat.le_refl _) _
  have hc0 : (w.alloc (.cells #[.int .i64 k, .string T, .int .i64 x] 32)).cell? ⟨w.heap.size, 0, none⟩ = some (.int .i64 k) := cell_of_row _ _ 0 _ _ _ (heap_alloc_new w _)
  have hc1 : (w.alloc (.cells #[.int .i64 k, .string T, .int .i64 x] 32)).cell? ⟨w.heap.size, 1, none⟩ = some (.string T) := cell_of_row _ _ 1 _ _ _ (heap_alloc_new w _)
  have hc2 : (w.alloc (.cells #[.int .i64 k, .string T, .int .i64 x] 32)).cell? ⟨w.heap.size, 2, none⟩ = some (.int .i64 x) := cell_of_row _ _ 2 _ _ _ (heap_alloc_new w _)
  obtain ⟨N, hN⟩ : ∃ N, N = 1 + (firstPcs s).length := ⟨_, rfl⟩
  have hNle : N ≤ 21 := by have := firstPcs_le s; omega
  have HN := Lib.hid hN
  clear hN
  have hoi : ((w.alloc (.cells #[.int .i64 k, .string T, .int .i64 x] 32)).alloc (.cells #[.int .i64 k, .string T, .int .i64 x] 32)).drew.ownsRow (w.heap.size + 1) 32 3 (.slice (some ⟨w.heap.size + 1, 0, none⟩) 1 1) 1 [.int .i64 k, .string T, .int .i64 x] := by
    have h := (row_new (w.alloc (.cells #[.int .i64 k, .string T, .int .i64 x] 32)) (w.heap.size + 1) k T x (by simp)).drew
    rw [show (w.alloc (.cells #[.int .i64 k, .string T, .int .i64 x] 32)).heap.size = w.heap.size + 1 from by simp] at h
    exact h
  go_region_held3 (fun w' => w'.cell? ⟨w.heap.size, 0, none⟩ = some (.int .i64 k) ∧ w'.cell? ⟨w.heap.size, 1, none⟩ = some (.string T) ∧ w'.cell? ⟨w.heap.size, 2, none⟩ = some (.int .i64 x))
    (first
      | go_keep
      | (go_split_ands
         refine ⟨?_, ?_, ?_⟩ <;> (rw [hbl.cell (by simp <;> omega)]; assumption))
      | (go_split_ands
         refine ⟨?_, ?_, ?_⟩ <;> (exact hgrow.cell (by assumption) (by simp [Value.ownBlock] <;> omega))))
    (first
      | (go_at_call 12; refine (first_any _ _ hs).mono ?_; rintro e W1 ⟨v, rfl, hrd, hbl⟩; have hsz1 := hbl.size; simp at hsz1)
      | (refine step_app (by rfl) _ _ (by rfl) (.slice (some ⟨W1.heap.size, 0, none⟩) 1 1) _ (by rfl) (by rfl) (w.heap.size + 1) k T x (firstPcs s) (firstPcs_le s) (by simp; omega) (row_new W1 _ k T x (by omega)) (hrd.below ((Below.refl _ _).alloc (Nat.le_refl _) _)) N HN.out ?_; intro g cap W2 hown hgrow)
      | (refine step_app (by rfl) _ _ (by rfl) (.slice (some ⟨w.heap.size + 1, 0, none⟩) 1 1) _ (by rfl) (by rfl) (w.heap.size + 1) k T x (firstPcs s) (firstPcs_le s) (by omega) (ownsRow_below hoi hbl) hrd N HN.out ?_; intro g cap W2 hown hgrow))
  all_goals
    have hbW : Below w.heap.size w W2 := by
      first
        | exact (((hb0.alloc (by simp) _).drew).trans (hbl.mono (by simp; omega))).grown hgrow (by omega) (by intro i hi; simp [Value.ownBlock] at hi; omega)
        | exact ((hb0.drew.trans (hbl.mono (by simp))).alloc (by omega) _).grown hgrow (by simp; omega) (by intro i hi; simp [Value.ownBlock] at hi; omega)
    have HO := Lib.hid hown
    have HB := Lib.hid hbW
    have HS := Lib.hid hbW.size
    clear hown hgrow hbl hrd hc0 hc1 hc2 hb0 hoi hbW
    go_split_ands
    go_wp2_with fail
    go_loopw [15] (fun z wr => ∃ j : Nat, z = .int .i64 j ∧ j ≤ N ∧ Hid (Below W2.heap.size W2 wr)) (fun z _ => N - (intOf z).toNat)
    case atStart => exact ⟨0, rfl, Nat.zero_le _, Below.refl _ _⟩
    case round =>
      obtain ⟨j, rfl, hjN, hbr⟩ := hrel
      by_cases hlt : j < N
      · obtain ⟨kj, xj, Tj, hTj, c0, c1, c2⟩ := row_at (ownsRow_below HO.out hbr.out) hs hT HN.out j hlt
        have hb2 : Below wr.heap.size wr (wr.alloc (.cells #[.int .i64 kj, .string Tj, .int .i64 xj] 32)) := (Below.refl _ _).alloc (Nat.le_refl _) _
        go_wp2_with fail
        have n0 : (wr.alloc (.cells #[.int .i64 kj, .string Tj, .int .i64 xj] 32)).cell? ⟨wr.heap.size, 0, none⟩ = some (.int .i64 kj) := cell_of_row _ _ 0 _ _ _ (heap_alloc_new wr _)
        have n1 : (wr.alloc (.cells #[.int .i64 kj, .string Tj, .int .i64 xj] 32)).cell? ⟨wr.heap.size, 1, none⟩ = some (.string Tj) := cell_of_row _ _ 1 _ _ _ (heap_alloc_new wr _)
        have n2 : (wr.alloc (.cells #[.int .i64 kj, .string Tj, .int .i64 xj] 32)).cell? ⟨wr.heap.size, 2, none⟩ = some (.int .i64 xj) := cell_of_row _ _ 2 _ _ _ (heap_alloc_new wr _)
        clear c0 c1 c2
        obtain ⟨eb, heb⟩ : ∃ eb, eb = endedB s.data.toList Tj.data.toList xj := ⟨_, rfl⟩
        have HE := Lib.hid heb
        clear heb
        go_region_held3 (fun w' => w'.cell? ⟨wr.heap.size, 0, none⟩ = some (.int .i64 kj) ∧ w'.cell? ⟨wr.heap.size, 1, none⟩ = some (.string Tj) ∧ w'.cell? ⟨wr.heap.size, 2, none⟩ = some (.int .i64 xj))
          (first
            | exact ⟨by assumption, by assumption, by assumption⟩
            | (go_split_ands
               refine ⟨?_, ?_, ?_⟩ <;> (rw [hbf.cell hzf]; assumption))
            | (go_split_ands
               refine ⟨?_, ?_, ?_⟩ <;> (rw [hbe.cell (by simp)]; assumption))
            | go_keep)
          (first
            | (go_at_call 13; refine (Ended_any s Tj kj xj _ hs hTj).mono ?_; rw [← HE.out]; rintro e V1 ⟨rfl, hbe⟩; have hzf := hbe.size; simp at hzf; replace hzf := Nat.lt_of_succ_le hzf)
            | (go_at_call 14; refine (REnded_any s Tj kj xj _ hs hTj).mono ?_; rw [← HE.out]; rintro e V2 ⟨rfl, hbf⟩))
        go_split_ands
        have hbz : Below wr.heap.size wr V2 := ((hb2.drew).trans (hbe.mono (by simp))).trans (hbf.mono (by have := hbe.size; simp at this; omega))
        have HZ := Lib.hid (hbr.out.trans (hbz.mono hbr.out.size))
        clear hbz hbe hbf hb2 n0 n1 n2 HE
        go_wp2_with fail
        go_roundw
        case rel => exact ⟨j + 1, by go_num, by omega, HZ⟩
        case measure => simp [intOf]; omega
      · go_wp2_with fail
        refine (Line_any s y _ (by omega) hy0 hy1).mono ?_
        rintro e w3 ⟨rfl, rfl⟩
        go_wp2_with fail
        refine (RLine_any s y _ hs).mono ?_
        rintro e w4 ⟨rfl, rfl⟩
        have hbw := HB.out.trans (hbr.out.mono HS.out)
        go_wp2_with fail
        refine (alive_any _ (hm.below hbw hm.lt) (hF.below hbw hF.lt)).mono ?_
        rintro e w5 ⟨rfl, hb5⟩
        have hb6 := hbw.trans (hb5.mono hbw.size)
        go_wp2_with fail
        go_ret
        exact ⟨rfl, hb6⟩
end Go.Proofs.YtbeglmolgloepaaDoor
