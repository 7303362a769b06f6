/-
  ListCopies: for every script, the law's function returns true, and nothing below its own memory turns.
-/
import Derived.Test.YtmfnonepcipplaaDoorPMany
namespace Go.Proofs.YtmfnonepcipplaaDoor
open Go Go.RowKit Convs Lists

theorem ptrInfo : (Tryd.prog.info? 23).map (fun i => (i.zero, i.size, i.bytes)) = some (some (.pointer none), 1, 8) := by kernel_rfl
theorem refInfo : (Tryd.prog.info? 27).map (fun i => (i.zero, i.size, i.bytes)) = some (some (.agg #[.slice none 0 0, .int .i64 0]), 2, 32) := by kernel_rfl

theorem DPost.turned {B : Nat} {w w' : World} {lb mb : Nat} {iv : Value} {lent : Bool} {rb : Nat} {p : Pos} {l' : Ls} (h : DPost B w lb mb iv lent rb p l' w') : Turned (fun k => k = rb ∨ Lst.own lb mb iv lent k) w w' := by
  obtain ⟨_, _, _, _, _, _, h2, _⟩ := h
  exact h2
theorem DPost.ofDrew {B : Nat} {w w' : World} {lb mb : Nat} {iv : Value} {lent : Bool} {rb : Nat} {p : Pos} {l' : Ls} (h : DPost B w.drew lb mb iv lent rb p l' w') : DPost B w lb mb iv lent rb p l' w' := by
  obtain ⟨a1, a2, a3, a4, a5, a6, a7, a8, a9⟩ := h
  exact ⟨a1, a2, a3, a4, a5, a6, (Turned.drew _ _).trans a7, a8, a9⟩

set_option maxRecDepth 100000 in
set_option maxHeartbeats 4000000 in
theorem ListCopies_any (v0 : Value) (A : Option Addr) (cnt cap : Nat) (hv : v0 = .slice A cnt cap) (w : World) (hM : Met w) (hcn : cnt ≤ maxLen)
    (hA : ∀ j, j < cnt → ∃ (ab ao : Nat) (kd nn : Int) (t : Bool) (n : Int) (s : ByteArray), A = some ⟨ab, ao, none⟩ ∧ w.cell? ⟨ab, ao + j * 5, none⟩ = some (.int .i64 kd) ∧ w.cell? ⟨ab, ao + j * 5 + 1, none⟩ = some (.int .i64 nn) ∧ w.cell? ⟨ab, ao + j * 5 + 2, none⟩ = some (.bool t) ∧
      w.cell? ⟨ab, ao + j * 5 + 3, none⟩ = some (.int .i64 n) ∧ w.cell? ⟨ab, ao + j * 5 + 4, none⟩ = some (.string s) ∧ Kok ⟨t, n, s.data.toList⟩ ∧ s.size ≤ 281474976710656 ∧ -9223372036854775808 ≤ kd ∧ kd ≤ 9223372036854775807) :
    Calls Tryd.prog 4 #[v0] w fun e w' => e = .returned (.bool true) ∧ Below w.heap.size w w' := by
  subst hv
  have HMW := hide hM
  have HA := hide hA
  clear hM hA
  have HNEW := hide (New_any w)
  go_enter Tryd.func4, Tryd.ntmps4
  go_upto_region 2 with (first | (go_at_call 6; refine (unhide HNEW).mono ?_; rintro e w1 ⟨rfl, hl1, hb1⟩))
  go_upto_region 3 with fail
  have hr2 : RLst w.heap.size (w1.alloc (.cells #[.slice none 0 0, .int .i64 0] 27)) w1.heap.size ⟨[], []⟩ none 0 (toQ []) 0 :=
    ⟨Blk.new w1 _ _, World.ownsRow_nil _ _ _ _, hb1.size, fun x hx => by simp [toQ] at hx, by simp [toQ], by decide, by decide⟩
  have hl2 := hl1.alloc (.cells #[.slice none 0 0, .int .i64 0] 27)
  have hp2 : Many w (w1.alloc (.cells #[.slice none 0 0, .int .i64 0] 27)) w1.heap.size ⟨w.heap.size + 1, w.heap.size, .slice none 0 0, false, ⟨[], 0⟩⟩ none 0 [] (.slice none 0 0) (.slice none 0 0) :=
    Many.start (hb1.alloc hb1.size _) ⟨hl2, hr2⟩ (fun k hk => by simp [Ls.keys] at hk)
  obtain ⟨m0, hm0⟩ : ∃ m0 : Rc, (⟨w.heap.size + 1, w.heap.size, .slice none 0 0, false, ⟨[], 0⟩⟩ : Rc) = m0 := ⟨_, rfl⟩
  obtain ⟨lb, hlb⟩ : ∃ lb, w.heap.size + 1 = lb := ⟨_, rfl⟩
  obtain ⟨rb, hrb⟩ : ∃ rb, w1.heap.size = rb := ⟨_, rfl⟩
  obtain ⟨W2, hW2⟩ : ∃ W2, w1.alloc (.cells #[.slice none 0 0, .int .i64 0] 27) = W2 := ⟨_, rfl⟩
  have hml : m0.lb = lb := by rw [← hm0, ← hlb]
  rw [hm0, hrb, hW2] at hp2
  rw [hlb, hrb, hW2]
  have hal := hide (alive_any W2 (HMW.out.below hp2.below))
  have hq := fun W b => eqlNil W b
  have HP2 := hide hp2
  have HML := hide hml
  clear hl1 hb1 hr2 hl2 hp2 hlb hrb hW2 HNEW hm0 hml
  go_upto_region 5 with (first | (go_at_call 7; refine (unhide hal).mono ?_; rintro e W3 ⟨rfl, hb3⟩))
  have HP3 := hide (HP2.out.later hb3)
  clear hb3 hal HP2
  go_upto_region 8 with fail
  go_loopw [3, 5, 6, 22] (fun v3 v5 v6 v22 wr => ∃ (j : Nat) (m : Rc) (A' : Option Addr) (cap' : Nat) (os : List (Rc × Option Addr × Nat)) (oA wA : Option Addr) (oc wc : Nat), j ≤ cnt ∧ v22 = .int .i64 j ∧ v3 = .pointer (some ⟨m.lb, 0, none⟩) ∧ v5 = .slice oA os.length oc ∧ v6 = .slice wA os.length wc ∧ os.length ≤ 8 ∧
    Hid (Many w wr rb m A' cap' os (.slice oA os.length oc) (.slice wA os.length wc))) (fun _ _ _ v22 _ => cnt - (intOf v22).toNat)
  case atStart => exact ⟨0, m0, _, _, [], none, none, 0, 0, Nat.zero_le _, rfl, by rw [HML.out], rfl, rfl, by decide, HP3⟩
  case round =>
    obtain ⟨j, m, A', cap', os, oA, wA, oc, wc, hj, rfl, rfl, rfl, rfl, ho8, HP⟩ := hrel
    by_cases hlt : j < cnt
    · have hjb : (j : Int) + 1 ≤ 9223372036854775807 := by unfold maxLen at hcn; omega
      obtain ⟨ab, ao, kd, nn, t, n, s, rfl, p0, p1, p2, p3, p4, hko, hsz, hkd0, hkd1⟩ := HA.out j hlt
      have q0 : wr.cell? ⟨ab, ao + j * 5, none⟩ = some (.int .i64 kd) := (HP.out.below.cell (p := ⟨ab, ao + j * 5, none⟩) (World.block_lt_of_cell? w _ p0)).trans p0
      have q1 : wr.cell? ⟨ab, ao + j * 5 + 1, none⟩ = some (.int .i64 nn) := (HP.out.below.cell (p := ⟨ab, ao + j * 5 + 1, none⟩) (World.block_lt_of_cell? w _ p1)).trans p1
      have q2 : wr.cell? ⟨ab, ao + j * 5 + 2, none⟩ = some (.bool t) := (HP.out.below.cell (p := ⟨ab, ao + j * 5 + 2, none⟩) (World.block_lt_of_cell? w _ p2)).trans p2
      have q3 : wr.cell? ⟨ab, ao + j * 5 + 3, none⟩ = some (.int .i64 n) := (HP.out.below.cell (p := ⟨ab, ao + j * 5 + 3, none⟩) (World.block_lt_of_cell? w _ p3)).trans p3
      have q4 : wr.cell? ⟨ab, ao + j * 5 + 4, none⟩ = some (.string s) := (HP.out.below.cell (p := ⟨ab, ao + j * 5 + 4, none⟩) (World.block_lt_of_cell? w _ p4)).trans p4
      have KO := hide hko
      have SZ := hide hsz
      clear p0 p1 p2 p3 p4 hko hsz
      go_upto_region 10 with fail
      have hp6 := HP.out.later (below_box wr (.cells #[.int .i64 kd, .int .i64 nn, .bool t, .int .i64 n, .string s] 32))
      have k6 := Blk.new wr #[.int .i64 kd, .int .i64 nn, .bool t, .int .i64 n, .string s] 32
      obtain ⟨b6, hb6⟩ : ∃ b6, wr.heap.size = b6 := ⟨_, rfl⟩
      have hb6w : w.heap.size ≤ b6 := by rw [← hb6]; exact HP.out.main.size
      obtain ⟨W6, hW6⟩ : ∃ W6, wr.alloc (.cells #[.int .i64 kd, .int .i64 nn, .bool t, .int .i64 n, .string s] 32) = W6 := ⟨_, rfl⟩
      rw [hb6] at k6 ⊢
      rw [hW6] at k6 hp6 ⊢
      obtain ⟨d0, d1, d2, d3, d4, -⟩ := k6.five
      have HP6 := hide hp6
      have K6 := hide k6
      clear k6 hp6 hb6 hW6 q0 q1 q2 q3 q4 HP
      have HJB := hide hjb
      have HKD := hide (And.intro hkd0 hkd1)
      have HO8 := hide ho8
      have HB6 := hide hb6w
      have HLT := hide hlt
      clear hjb hkd0 hkd1 ho8 hb6w hlt
      have hc3 : ∃ b3, ((wrap64 (kd.tmod 5 + 5)).tmod 5 == 3) = b3 := ⟨_, rfl⟩
      obtain ⟨b3, hc3⟩ := hc3
      by_cases hl8 : os.length < 8
      · have hl8' : decide ((os.length : Int) < 8) = true := by simp; omega
        cases b3
        · clear hl8
          go_upto_region 18 with fail
          have HPT := HP6
          have KT := K6
          have HO8T := HO8
          clear HP6 K6 hc3 hl8'
          obtain ⟨d0, d1, d2, d3, d4, -⟩ := KT.out.five
          go_upto_region 20 with (first | (go_at_call 8; refine (does_any HPT.out.main (fun u hu => HMW.out.below (HPT.out.below.trans hu)) kd nn t n s KO.out SZ.out HKD.out.1 HKD.out.2 HPT.out.small).mono ?_; rintro e W10 ⟨rfl, l10, hd10, hs10⟩))
          have k10 : Blk W10 b6 #[.int .i64 kd, .int .i64 nn, .bool t, .int .i64 n, .string s] 32 := by
            obtain ⟨_, _, _, _, _, _, h2, _⟩ := hd10
            refine h2.blk KT.out ?_
            rintro (e | e)
            · subst e
              exact absurd (KT.out.inj HPT.out.main.ref.blk) (by decide)
            · exact HPT.out.main.lst.apart KT.out (by decide) (by decide) (own_false e)
          obtain ⟨m10, A10, cap10, hml, hp10⟩ := HPT.out.does hd10 hs10
          rw [← hml]
          have HP10 := hide hp10
          have K10 := hide k10
          clear hml hp10 k10 hd10 hs10 HPT KT d0 d1 d2 d3 d4
          by_cases h0 : os.length = 0
          · rw [h0]
            have HLEN := hide h0
            clear h0
            have hjb := HJB.out
            go_wp2_with fail
            go_roundw
            case rel => exact ⟨j + 1, m10, A10, cap10, os, oA, wA, oc, wc, by have := HLT.out; omega, by go_num, rfl, by rw [HLEN.out], by rw [HLEN.out], HO8T.out, HP10⟩
            case measure => have := HLT.out; simp [intOf]; omega
          · have h0' : ((0 : Int) < (os.length : Int)) := by omega
            have hne0 : ((os.length : Int) == 0) = false := by rw [beq_eq_false_iff_ne]; omega
            have hne1 : ((os.length : Int) = 0) = False := propext ⟨fun h => by omega, False.elim⟩
            obtain ⟨i9, hi9, hi9l⟩ : ∃ i9 : Nat, ((j : Int).tmod (os.length : Int)) = (i9 : Int) ∧ i9 < os.length := ⟨j % os.length, by rw [Int.ofNat_tmod], Nat.mod_lt _ (by omega)⟩
            obtain ⟨x, hx⟩ : ∃ x, os[i9]? = some x := ⟨_, List.getElem?_eq_getElem hi9l⟩
            obtain ⟨wb, wcap, p, hwv, hpo, hbx, hnc, hcm, hwb, hrc⟩ := HP10.out.at hx
            simp only [Value.slice.injEq, true_and] at hwv
            obtain ⟨hwA, hwc⟩ := hwv
            obtain ⟨og9, hog⟩ : ∃ g, (oA : Option Addr) = some ⟨g, 0, none⟩ := by
              rcases HP10.out.others.2 with ⟨_, e0⟩ | ⟨g, c, cur, e, _⟩
              · exact absurd e0 h0
              · simp only [Value.slice.injEq] at e
                exact ⟨g, e.1⟩
            rw [hog, hwA] at HP10 ⊢
            clear hog hwA
            have hov : W10.cell? ⟨og9, i9, none⟩ = some (.pointer (some ⟨x.1.lb, 0, none⟩)) := by
              rw [HP10.out.others.cellAt _ (by omega), List.getElem?_map, hx]
              rfl
            have ogne : og9 ≠ wb := row_not HP10.out.others hbx.ref.blk (by decide) og9 rfl
            have ogown : ¬ Lst.own x.1.lb x.1.mb x.1.iv x.1.lent og9 := fun e => by
              obtain ⟨_, _, cs, hcs⟩ := row_lt HP10.out.others (k := og9) rfl
              exact hbx.lst.apart hcs (by decide) (by decide) (own_false e)
            have b6ne : b6 ≠ wb := fun e => by
              subst e
              exact absurd (K10.out.inj hbx.ref.blk) (by decide)
            have b6own : ¬ Lst.own x.1.lb x.1.mb x.1.iv x.1.lent b6 := fun e => hbx.lst.apart K10.out (by decide) (by decide) (own_false e)
            have HS : Hid (∀ u, Turned (fun k => k = wb ∨ Lst.own x.1.lb x.1.mb x.1.iv x.1.lent k) W10 u → (u.cell? ⟨og9, i9, none⟩ = some (.pointer (some ⟨x.1.lb, 0, none⟩)) ∧ u.cell? ⟨b6, 0, none⟩ = some (.int .i64 kd) ∧ u.cell? ⟨b6, 1, none⟩ = some (.int .i64 nn) ∧ u.cell? ⟨b6, 2, none⟩ = some (.bool t) ∧ u.cell? ⟨b6, 3, none⟩ = some (.int .i64 n) ∧ u.cell? ⟨b6, 4, none⟩ = some (.string s))) := fun u hu => by
              obtain ⟨f0, f1, f2, f3, f4, -⟩ := (hu.blk K10.out (fun e => e.elim b6ne b6own)).five
              refine ⟨?_, f0, f1, f2, f3, f4⟩
              rw [World.cell?_of_block (w := W10) (w' := u) (a := ⟨og9, i9, none⟩) (hu.block og9 (World.block_lt_of_cell? _ _ hov) (fun e => e.elim ogne ogown))]
              exact hov
            obtain ⟨kd2, hk2⟩ : ∃ k, wrap64 (kd + 1) = k := ⟨_, rfl⟩
            have hk2' : IntKind.i64.wrap (kd + 1) = kd2 := by rw [← hk2, IntKind.wrap_i64]; unfold wrap64; omega
            have hk2b : -9223372036854775808 ≤ kd2 ∧ kd2 ≤ 9223372036854775807 := by rw [← hk2]; unfold wrap64; omega
            have hdo := does_any (hbx.below (w' := W10.drew) ((Below.refl _ _).drew)) (fun u hu => HMW.out.below (HP10.out.below.drew.trans hu)) kd2 nn t n s KO.out SZ.out hk2b.1 hk2b.2 (HP10.out.smalls i9 x hx)
            rw [hpo] at hdo
            have HDO := hide hdo
            have HBX := hide hbx
            have HX := hide hx
            have HWC := hide hwc
            have HRC := hide (And.intro hnc (And.intro hcm (And.intro hwb hrc)))
            obtain ⟨nl, hnl⟩ : ∃ nl, os.length = nl := ⟨_, rfl⟩
            rw [hnl] at hi9 h0' hne0 hne1 ⊢
            have l0 : (0 : Int) ≤ (i9 : Int) := by omega
            have l1 : (i9 : Int) < (nl : Int) := by omega
            have HNL := hide hnl
            have hnp : 0 < nl := by omega
            have hnz : (nl = 0) = False := propext ⟨fun h => by omega, False.elim⟩
            clear hdo hbx hx hwc hnc hcm hwb hrc hpo hov ogne ogown b6ne b6own hi9l h0 hnl hk2b
            go_upto_region 22 with fail
            go_region_held3 (fun u => u.cell? ⟨og9, i9, none⟩ = some (.pointer (some ⟨x.1.lb, 0, none⟩)) ∧ u.cell? ⟨b6, 0, none⟩ = some (.int .i64 kd) ∧ u.cell? ⟨b6, 1, none⟩ = some (.int .i64 nn) ∧ u.cell? ⟨b6, 2, none⟩ = some (.bool t) ∧ u.cell? ⟨b6, 3, none⟩ = some (.int .i64 n) ∧ u.cell? ⟨b6, 4, none⟩ = some (.string s))
              (first | exact HS.out _ (.drew _ _) | exact HS.out _ T11)
              (first | (go_at_call 8; with_reducible refine (unhide HDO).mono ?_; rintro e W11 ⟨rfl, l11, hd11, hs11⟩; have T11 : Turned (fun k => k = wb ∨ Lst.own x.1.lb x.1.mb x.1.iv x.1.lent k) W10 W11 := (Turned.drew _ _).trans hd11.turned))
            go_split_ands
            have hd12 : DPost w.heap.size W10 x.1.lb x.1.mb x.1.iv x.1.lent wb p l11 W11 := hd11.ofDrew
            obtain ⟨x', hx', hp11⟩ := HP10.out.doesAt HX.out (by rw [HWC.out]) HBX.out HRC.out.1 HRC.out.2.1 HRC.out.2.2.1 HRC.out.2.2.2 hd12 hs11
            have HP11 : Hid (Many w W11 rb m10 A10 cap10 (os.set i9 x') (.slice (some ⟨og9, 0, none⟩) (os.set i9 x').length oc) (.slice (some ⟨wb, 0, none⟩) (os.set i9 x').length wc)) := by
              show Many _ _ _ _ _ _ _ _ _
              rw [List.length_set]
              exact hp11
            clear hd11 hd12 hs11 T11 hp11 HDO HS HBX HX HRC
            have hjb := HJB.out
            go_wp2_with fail
            go_roundw
            case rel => exact ⟨j + 1, m10, A10, cap10, os.set i9 x', some ⟨og9, 0, none⟩, some ⟨wb, 0, none⟩, oc, wc, by have := HLT.out; omega, by go_num, rfl, by rw [List.length_set, HNL.out], by rw [List.length_set, HNL.out], by rw [List.length_set]; exact HO8T.out, HP11⟩
            case measure => have := HLT.out; simp [intOf]; omega
        · have HL8 := hide hl8
          clear hl8
          go_upto_region 12 with (first | (go_at_call 10; refine (Copy_any HP6.out.main.lst).mono ?_; rintro e W7 ⟨cb, rfl, hcb, hl7, hc7, ht7⟩))
          obtain ⟨hm1, hmc, hap⟩ := HP6.out.copied hcb hl7 hc7 ht7
          have hne : cb ≠ m.lb := fun e => by
            have := HP6.out.main.lst.blk.lt
            omega
          have hcmp : (binOp .eql 23 (.pointer (some ⟨cb, 0, none⟩)) (.pointer (some ⟨m.lb, 0, none⟩))).run Tryd.prog W7 = .ok (.bool false) W7 := by
            obtain ⟨i, hi, hs⟩ := Option.map_eq_some_iff.1 (show (Tryd.prog.info? 50).map (fun i => i.size) = some 5 by kernel_rfl)
            exact run_eql_ptr_other W7 Tryd.underlying23 hi (by have hs' : i.size = 5 := hs; omega) (fun e => hne (congrArg Addr.block e)) hc7.blk hl7.blk
          have k7 : Blk W7 b6 #[.int .i64 kd, .int .i64 nn, .bool t, .int .i64 n, .string s] 32 := ht7.blk K6.out (K6.out.apart HP6.out.main.lst.blk (by decide))
          obtain ⟨d0, d1, d2, d3, d4, -⟩ := k7.five
          have HM1 := hide hm1
          have HMC := hide hmc
          have HAP := hide hap
          have K7 := hide k7
          clear hcb hl7 hc7 ht7 hm1 hmc hap k7 hne
          have hand : ∃ bb, (bits BinOp.and IntKind.i64 nn 1 == 1) = bb := ⟨_, rfl⟩
          obtain ⟨bb, hand⟩ := hand
          go_upto_region 14 with fail
          clear hcmp
          cases bb
          ·
            go_upto_region 16 with fail
            obtain ⟨M, hM⟩ : ∃ M : Rc, (⟨m.lb, m.mb, m.iv, true, m.l⟩ : Rc) = M := ⟨_, rfl⟩
            obtain ⟨E, hE⟩ : ∃ E : Rc, (⟨cb, m.mb, m.iv, true, m.l⟩ : Rc) = E := ⟨_, rfl⟩
            have e1 : m.lb = M.lb := by rw [← hM]
            have e2 : cb = E.lb := by rw [← hE]
            have e3 : E.l = m.l := by rw [← hE]
            have hMl : M.l = m.l := by rw [← hM]
            have HPM : Hid (Many w W7 rb M A' cap' os (.slice oA os.length oc) (.slice wA os.length wc)) := by show Many w W7 rb M A' cap' os _ _; rw [← hM]; exact HM1.out
            have HPE : Hid (Many w W7 rb E A' cap' os (.slice oA os.length oc) (.slice wA os.length wc)) := by show Many w W7 rb E A' cap' os _ _; rw [← hE]; exact HMC.out
            have HAPE : Hid (Apart M E) := by show Apart M E; rw [← hM, ← hE]; exact HAP.out
            rw [e1, e2]
            clear hM hE e1 e2 hand HM1 HMC HAP
            obtain ⟨i0, hi, hz0, hz1, hz2⟩ := q_info_parts ptrInfo
            obtain ⟨i1, hj, hy0, hy1, hy2⟩ := q_info_parts refInfo
            have B1 : Hid (os.length + 1 ≤ maxLen) := by show _ ≤ _; have := HO8.out; unfold maxLen; omega
            have B2 : Hid ((os.length + 1) * 8 ≤ 140737488355328) := by show _ ≤ _; have := HO8.out; omega
            have B2' : Hid ((os.length + 1) * 32 ≤ 140737488355328) := by show _ ≤ _; have := HO8.out; omega
            have B3 : Hid (w.heap.size ≤ (W7.alloc (.cells #[.pointer (some ⟨E.lb, 0, none⟩)] 23)).heap.size) := by show _ ≤ _; have := HPM.out.main.size; simp; omega
            go_upto_region 17 with (first | (at_builtin; refine wpList_append_own_at _ rfl _ _ 37 rfl w.heap.size 23 i0 _ 1 8 Tryd.underlying37 hi hz0 hz1 hz2 rfl (by decide) _ _ _ rfl (HPM.out.others.alloc _) ⟨W7.heap.size, 0, none⟩ 1 1 [.pointer (some ⟨E.lb, 0, none⟩)] rfl rfl (World.news_of_block (cs := #[.pointer (some ⟨E.lb, 0, none⟩)]) (t := 23) (fr := (0, 0)) (heap_alloc_new W7 _)) (by intro u hu; simp only [List.mem_singleton] at hu; subst hu; rfl) B1.out B2.out B3.out ?_; intro v1 W8 ho1 hg1 _ hat1))
            obtain ⟨og, ogc, rfl⟩ := ownsRow_succ ho1
            have t1 : Turned (fun k => (Value.slice oA os.length oc).ownBlock = some k) W7 W8 := (Turned.alloc _ W7 _).trans (.grown hg1 (fun k hk => hk))
            have nrb : (Value.slice oA os.length oc).ownBlock ≠ some rb := fun e => row_not HPM.out.others HPM.out.main.ref.blk (by decide) rb e rfl
            have nb6 : (Value.slice oA os.length oc).ownBlock ≠ some b6 := fun e => row_not HPM.out.others K7.out (by decide) b6 e rfl
            have rb8 := t1.blk HPM.out.main.ref.blk nrb
            have k8 := t1.blk K7.out nb6
            have hlenM : (toQ M.l.items).length = E.l.items.length := by
              rw [toQ_length, e3, hMl]
            have hnextM : M.l.next = E.l.next := by rw [e3, hMl]
            rw [hlenM, hnextM] at rb8
            have r0 : W8.cell? ⟨rb, 0, none⟩ = some (.slice A' E.l.items.length cap') := rb8.cell 0
            have r1 : W8.cell? ⟨rb, 1, none⟩ = some (.int .i64 E.l.next) := rb8.cell 1
            have were8 : W8.ownsRow w.heap.size 27 2 (.slice wA os.length wc) os.length (encR os) := row_same HPM.out.were (fun k hk => t1.block k (row_lt HPM.out.were hk).1 (fun e => by
              obtain ⟨_, _, cs, hcs⟩ := row_lt HPM.out.were hk
              exact row_not HPM.out.others hcs (by decide) k e rfl))
            have hz8 : W7.heap.size ≤ W8.heap.size := t1.size
            have B4 : Hid (w.heap.size ≤ (W8.alloc (.cells #[.slice A' E.l.items.length cap', .int .i64 E.l.next] 27)).heap.size) := by show _ ≤ _; have := HPM.out.main.size; simp; omega
            have HW8 := hide were8
            have T1 := hide t1
            have HG1 := hide hg1
            have HO1 := hide ho1
            have HZ8 := hide hz8
            have K8 := hide k8
            clear t1 hg1 ho1 hz8 were8 k8 rb8 nrb nb6 hlenM hnextM hat1 d0 d1 d2 d3 d4 e3 hMl
            go_upto_region 18 with (first | (at_builtin; refine wpList_append_own_at _ rfl _ _ 38 rfl w.heap.size 27 i1 _ 2 32 Tryd.underlying38 hj hy0 hy1 hy2 rfl (by decide) _ _ _ rfl (HW8.out.alloc _) ⟨W8.heap.size, 0, none⟩ 1 1 [.slice A' E.l.items.length cap', .int .i64 E.l.next] rfl rfl (World.news_of_block (cs := #[.slice A' E.l.items.length cap', .int .i64 E.l.next]) (t := 27) (fr := (0, 0)) (heap_alloc_new W8 _)) (by intro u hu; simp only [List.mem_cons, List.not_mem_nil, or_false] at hu; rcases hu with rfl | rfl <;> rfl) B1.out B2'.out B4.out ?_; intro v2 W9 ho2 hg2 _ hat2))
            obtain ⟨wg, wgc, rfl⟩ := ownsRow_succ ho2
            have t2 : Turned (fun k => (Value.slice wA os.length wc).ownBlock = some k) W8 W9 := (Turned.alloc _ W8 _).trans (.grown hg2 (fun k hk => hk))
            have k9 := t2.blk K8.out (fun e => row_not HW8.out K8.out (by decide) b6 e rfl)
            have hpp := HPM.out.push HPE.out HAPE.out HG1.out HO1.out hg2 ho2 (hat2.imp id (fun h => ⟨_, h, by have := HZ8.out; simp; omega⟩))
            have hln : os.length + 1 = (os ++ [(E, A', cap')]).length := by simp
            have ho8' : (os ++ [(E, A', cap')]).length ≤ 8 := by rw [← hln]; have := HL8.out; omega
            obtain ⟨os2, hos⟩ : ∃ o, os ++ [(E, A', cap')] = o := ⟨_, rfl⟩
            rw [hos] at hpp hln ho8'
            rw [hln] at hpp
            rw [hln]
            have HPT := hide hpp
            have KT := hide k9
            have HO8T := hide ho8'
            clear hos hln hpp k9 ho8' t2 hg2 ho2 hat2 T1 HG1 HO1 HZ8 K8 HW8 HPM HPE HAPE K7 HP6 K6 B1 B2 B2' B3 B4 hi hz0 hz1 hz2 hj hy0 hy1 hy2 r0 r1 hc3 hl8' HO8 HL8
            obtain ⟨d0, d1, d2, d3, d4, -⟩ := KT.out.five
            go_upto_region 20 with (first | (go_at_call 8; refine (does_any HPT.out.main (fun u hu => HMW.out.below (HPT.out.below.trans hu)) kd nn t n s KO.out SZ.out HKD.out.1 HKD.out.2 HPT.out.small).mono ?_; rintro e W10 ⟨rfl, l10, hd10, hs10⟩))
            have k10 : Blk W10 b6 #[.int .i64 kd, .int .i64 nn, .bool t, .int .i64 n, .string s] 32 := by
              obtain ⟨_, _, _, _, _, _, h2, _⟩ := hd10
              refine h2.blk KT.out ?_
              rintro (e | e)
              · subst e
                exact absurd (KT.out.inj HPT.out.main.ref.blk) (by decide)
              · exact HPT.out.main.lst.apart KT.out (by decide) (by decide) (own_false e)
            obtain ⟨m10, A10, cap10, hml, hp10⟩ := HPT.out.does hd10 hs10
            rw [← hml]
            have HP10 := hide hp10
            have K10 := hide k10
            clear hml hp10 k10 hd10 hs10 HPT KT d0 d1 d2 d3 d4
            by_cases h0 : os2.length = 0
            · rw [h0]
              have HLEN := hide h0
              clear h0
              have hjb := HJB.out
              go_wp2_with fail
              go_roundw
              case rel => exact ⟨j + 1, m10, A10, cap10, os2, (some ⟨og, 0, none⟩), (some ⟨wg, 0, none⟩), ogc, wgc, by have := HLT.out; omega, by go_num, rfl, by rw [HLEN.out], by rw [HLEN.out], HO8T.out, HP10⟩
              case measure => have := HLT.out; simp [intOf]; omega
            · have h0' : ((0 : Int) < (os2.length : Int)) := by omega
              have hne0 : ((os2.length : Int) == 0) = false := by rw [beq_eq_false_iff_ne]; omega
              have hne1 : ((os2.length : Int) = 0) = False := propext ⟨fun h => by omega, False.elim⟩
              obtain ⟨i9, hi9, hi9l⟩ : ∃ i9 : Nat, ((j : Int).tmod (os2.length : Int)) = (i9 : Int) ∧ i9 < os2.length := ⟨j % os2.length, by rw [Int.ofNat_tmod], Nat.mod_lt _ (by omega)⟩
              obtain ⟨x, hx⟩ : ∃ x, os2[i9]? = some x := ⟨_, List.getElem?_eq_getElem hi9l⟩
              obtain ⟨wb, wcap, p, hwv, hpo, hbx, hnc, hcm, hwb, hrc⟩ := HP10.out.at hx
              simp only [Value.slice.injEq, true_and] at hwv
              obtain ⟨hwA, hwc⟩ := hwv
              obtain ⟨og9, hog⟩ : ∃ g, ((some ⟨og, 0, none⟩) : Option Addr) = some ⟨g, 0, none⟩ := by
                rcases HP10.out.others.2 with ⟨_, e0⟩ | ⟨g, c, cur, e, _⟩
                · exact absurd e0 h0
                · simp only [Value.slice.injEq] at e
                  exact ⟨g, e.1⟩
              rw [hog, hwA] at HP10 ⊢
              clear hog hwA
              have hov : W10.cell? ⟨og9, i9, none⟩ = some (.pointer (some ⟨x.1.lb, 0, none⟩)) := by
                rw [HP10.out.others.cellAt _ (by omega), List.getElem?_map, hx]
                rfl
              have ogne : og9 ≠ wb := row_not HP10.out.others hbx.ref.blk (by decide) og9 rfl
              have ogown : ¬ Lst.own x.1.lb x.1.mb x.1.iv x.1.lent og9 := fun e => by
                obtain ⟨_, _, cs, hcs⟩ := row_lt HP10.out.others (k := og9) rfl
                exact hbx.lst.apart hcs (by decide) (by decide) (own_false e)
              have b6ne : b6 ≠ wb := fun e => by
                subst e
                exact absurd (K10.out.inj hbx.ref.blk) (by decide)
              have b6own : ¬ Lst.own x.1.lb x.1.mb x.1.iv x.1.lent b6 := fun e => hbx.lst.apart K10.out (by decide) (by decide) (own_false e)
              have HS : Hid (∀ u, Turned (fun k => k = wb ∨ Lst.own x.1.lb x.1.mb x.1.iv x.1.lent k) W10 u → (u.cell? ⟨og9, i9, none⟩ = some (.pointer (some ⟨x.1.lb, 0, none⟩)) ∧ u.cell? ⟨b6, 0, none⟩ = some (.int .i64 kd) ∧ u.cell? ⟨b6, 1, none⟩ = some (.int .i64 nn) ∧ u.cell? ⟨b6, 2, none⟩ = some (.bool t) ∧ u.cell? ⟨b6, 3, none⟩ = some (.int .i64 n) ∧ u.cell? ⟨b6, 4, none⟩ = some (.string s))) := fun u hu => by
                obtain ⟨f0, f1, f2, f3, f4, -⟩ := (hu.blk K10.out (fun e => e.elim b6ne b6own)).five
                refine ⟨?_, f0, f1, f2, f3, f4⟩
                rw [World.cell?_of_block (w := W10) (w' := u) (a := ⟨og9, i9, none⟩) (hu.block og9 (World.block_lt_of_cell? _ _ hov) (fun e => e.elim ogne ogown))]
                exact hov
              obtain ⟨kd2, hk2⟩ : ∃ k, wrap64 (kd + 1) = k := ⟨_, rfl⟩
              have hk2' : IntKind.i64.wrap (kd + 1) = kd2 := by rw [← hk2, IntKind.wrap_i64]; unfold wrap64; omega
              have hk2b : -9223372036854775808 ≤ kd2 ∧ kd2 ≤ 9223372036854775807 := by rw [← hk2]; unfold wrap64; omega
              have hdo := does_any (hbx.below (w' := W10.drew) ((Below.refl _ _).drew)) (fun u hu => HMW.out.below (HP10.out.below.drew.trans hu)) kd2 nn t n s KO.out SZ.out hk2b.1 hk2b.2 (HP10.out.smalls i9 x hx)
              rw [hpo] at hdo
              have HDO := hide hdo
              have HBX := hide hbx
              have HX := hide hx
              have HWC := hide hwc
              have HRC := hide (And.intro hnc (And.intro hcm (And.intro hwb hrc)))
              obtain ⟨nl, hnl⟩ : ∃ nl, os2.length = nl := ⟨_, rfl⟩
              rw [hnl] at hi9 h0' hne0 hne1 ⊢
              have l0 : (0 : Int) ≤ (i9 : Int) := by omega
              have l1 : (i9 : Int) < (nl : Int) := by omega
              have HNL := hide hnl
              have hnp : 0 < nl := by omega
              have hnz : (nl = 0) = False := propext ⟨fun h => by omega, False.elim⟩
              clear hdo hbx hx hwc hnc hcm hwb hrc hpo hov ogne ogown b6ne b6own hi9l h0 hnl hk2b
              go_upto_region 22 with fail
              go_region_held3 (fun u => u.cell? ⟨og9, i9, none⟩ = some (.pointer (some ⟨x.1.lb, 0, none⟩)) ∧ u.cell? ⟨b6, 0, none⟩ = some (.int .i64 kd) ∧ u.cell? ⟨b6, 1, none⟩ = some (.int .i64 nn) ∧ u.cell? ⟨b6, 2, none⟩ = some (.bool t) ∧ u.cell? ⟨b6, 3, none⟩ = some (.int .i64 n) ∧ u.cell? ⟨b6, 4, none⟩ = some (.string s))
                (first | exact HS.out _ (.drew _ _) | exact HS.out _ T11)
                (first | (go_at_call 8; with_reducible refine (unhide HDO).mono ?_; rintro e W11 ⟨rfl, l11, hd11, hs11⟩; have T11 : Turned (fun k => k = wb ∨ Lst.own x.1.lb x.1.mb x.1.iv x.1.lent k) W10 W11 := (Turned.drew _ _).trans hd11.turned))
              go_split_ands
              have hd12 : DPost w.heap.size W10 x.1.lb x.1.mb x.1.iv x.1.lent wb p l11 W11 := hd11.ofDrew
              obtain ⟨x', hx', hp11⟩ := HP10.out.doesAt HX.out (by rw [HWC.out]) HBX.out HRC.out.1 HRC.out.2.1 HRC.out.2.2.1 HRC.out.2.2.2 hd12 hs11
              have HP11 : Hid (Many w W11 rb m10 A10 cap10 (os2.set i9 x') (.slice (some ⟨og9, 0, none⟩) (os2.set i9 x').length ogc) (.slice (some ⟨wb, 0, none⟩) (os2.set i9 x').length wgc)) := by
                show Many _ _ _ _ _ _ _ _ _
                rw [List.length_set]
                exact hp11
              clear hd11 hd12 hs11 T11 hp11 HDO HS HBX HX HRC
              have hjb := HJB.out
              go_wp2_with fail
              go_roundw
              case rel => exact ⟨j + 1, m10, A10, cap10, os2.set i9 x', some ⟨og9, 0, none⟩, some ⟨wb, 0, none⟩, ogc, wgc, by have := HLT.out; omega, by go_num, rfl, by rw [List.length_set, HNL.out], by rw [List.length_set, HNL.out], by rw [List.length_set]; exact HO8T.out, HP11⟩
              case measure => have := HLT.out; simp [intOf]; omega
          ·
            go_upto_region 16 with fail
            obtain ⟨M, hM⟩ : ∃ M : Rc, (⟨cb, m.mb, m.iv, true, m.l⟩ : Rc) = M := ⟨_, rfl⟩
            obtain ⟨E, hE⟩ : ∃ E : Rc, (⟨m.lb, m.mb, m.iv, true, m.l⟩ : Rc) = E := ⟨_, rfl⟩
            have e1 : cb = M.lb := by rw [← hM]
            have e2 : m.lb = E.lb := by rw [← hE]
            have e3 : E.l = m.l := by rw [← hE]
            have hMl : M.l = m.l := by rw [← hM]
            have HPM : Hid (Many w W7 rb M A' cap' os (.slice oA os.length oc) (.slice wA os.length wc)) := by show Many w W7 rb M A' cap' os _ _; rw [← hM]; exact HMC.out
            have HPE : Hid (Many w W7 rb E A' cap' os (.slice oA os.length oc) (.slice wA os.length wc)) := by show Many w W7 rb E A' cap' os _ _; rw [← hE]; exact HM1.out
            have HAPE : Hid (Apart M E) := by show Apart M E; rw [← hM, ← hE]; exact HAP.out.symm
            rw [e1, e2]
            clear hM hE e1 e2 hand HM1 HMC HAP
            obtain ⟨i0, hi, hz0, hz1, hz2⟩ := q_info_parts ptrInfo
            obtain ⟨i1, hj, hy0, hy1, hy2⟩ := q_info_parts refInfo
            have B1 : Hid (os.length + 1 ≤ maxLen) := by show _ ≤ _; have := HO8.out; unfold maxLen; omega
            have B2 : Hid ((os.length + 1) * 8 ≤ 140737488355328) := by show _ ≤ _; have := HO8.out; omega
            have B2' : Hid ((os.length + 1) * 32 ≤ 140737488355328) := by show _ ≤ _; have := HO8.out; omega
            have B3 : Hid (w.heap.size ≤ (W7.alloc (.cells #[.pointer (some ⟨E.lb, 0, none⟩)] 23)).heap.size) := by show _ ≤ _; have := HPM.out.main.size; simp; omega
            go_upto_region 17 with (first | (at_builtin; refine wpList_append_own_at _ rfl _ _ 37 rfl w.heap.size 23 i0 _ 1 8 Tryd.underlying37 hi hz0 hz1 hz2 rfl (by decide) _ _ _ rfl (HPM.out.others.alloc _) ⟨W7.heap.size, 0, none⟩ 1 1 [.pointer (some ⟨E.lb, 0, none⟩)] rfl rfl (World.news_of_block (cs := #[.pointer (some ⟨E.lb, 0, none⟩)]) (t := 23) (fr := (0, 0)) (heap_alloc_new W7 _)) (by intro u hu; simp only [List.mem_singleton] at hu; subst hu; rfl) B1.out B2.out B3.out ?_; intro v1 W8 ho1 hg1 _ hat1))
            obtain ⟨og, ogc, rfl⟩ := ownsRow_succ ho1
            have t1 : Turned (fun k => (Value.slice oA os.length oc).ownBlock = some k) W7 W8 := (Turned.alloc _ W7 _).trans (.grown hg1 (fun k hk => hk))
            have nrb : (Value.slice oA os.length oc).ownBlock ≠ some rb := fun e => row_not HPM.out.others HPM.out.main.ref.blk (by decide) rb e rfl
            have nb6 : (Value.slice oA os.length oc).ownBlock ≠ some b6 := fun e => row_not HPM.out.others K7.out (by decide) b6 e rfl
            have rb8 := t1.blk HPM.out.main.ref.blk nrb
            have k8 := t1.blk K7.out nb6
            have hlenM : (toQ M.l.items).length = E.l.items.length := by
              rw [toQ_length, e3, hMl]
            have hnextM : M.l.next = E.l.next := by rw [e3, hMl]
            rw [hlenM, hnextM] at rb8
            have r0 : W8.cell? ⟨rb, 0, none⟩ = some (.slice A' E.l.items.length cap') := rb8.cell 0
            have r1 : W8.cell? ⟨rb, 1, none⟩ = some (.int .i64 E.l.next) := rb8.cell 1
            have were8 : W8.ownsRow w.heap.size 27 2 (.slice wA os.length wc) os.length (encR os) := row_same HPM.out.were (fun k hk => t1.block k (row_lt HPM.out.were hk).1 (fun e => by
              obtain ⟨_, _, cs, hcs⟩ := row_lt HPM.out.were hk
              exact row_not HPM.out.others hcs (by decide) k e rfl))
            have hz8 : W7.heap.size ≤ W8.heap.size := t1.size
            have B4 : Hid (w.heap.size ≤ (W8.alloc (.cells #[.slice A' E.l.items.length cap', .int .i64 E.l.next] 27)).heap.size) := by show _ ≤ _; have := HPM.out.main.size; simp; omega
            have HW8 := hide were8
            have T1 := hide t1
            have HG1 := hide hg1
            have HO1 := hide ho1
            have HZ8 := hide hz8
            have K8 := hide k8
            clear t1 hg1 ho1 hz8 were8 k8 rb8 nrb nb6 hlenM hnextM hat1 d0 d1 d2 d3 d4 e3 hMl
            go_upto_region 18 with (first | (at_builtin; refine wpList_append_own_at _ rfl _ _ 38 rfl w.heap.size 27 i1 _ 2 32 Tryd.underlying38 hj hy0 hy1 hy2 rfl (by decide) _ _ _ rfl (HW8.out.alloc _) ⟨W8.heap.size, 0, none⟩ 1 1 [.slice A' E.l.items.length cap', .int .i64 E.l.next] rfl rfl (World.news_of_block (cs := #[.slice A' E.l.items.length cap', .int .i64 E.l.next]) (t := 27) (fr := (0, 0)) (heap_alloc_new W8 _)) (by intro u hu; simp only [List.mem_cons, List.not_mem_nil, or_false] at hu; rcases hu with rfl | rfl <;> rfl) B1.out B2'.out B4.out ?_; intro v2 W9 ho2 hg2 _ hat2))
            obtain ⟨wg, wgc, rfl⟩ := ownsRow_succ ho2
            have t2 : Turned (fun k => (Value.slice wA os.length wc).ownBlock = some k) W8 W9 := (Turned.alloc _ W8 _).trans (.grown hg2 (fun k hk => hk))
            have k9 := t2.blk K8.out (fun e => row_not HW8.out K8.out (by decide) b6 e rfl)
            have hpp := HPM.out.push HPE.out HAPE.out HG1.out HO1.out hg2 ho2 (hat2.imp id (fun h => ⟨_, h, by have := HZ8.out; simp; omega⟩))
            have hln : os.length + 1 = (os ++ [(E, A', cap')]).length := by simp
            have ho8' : (os ++ [(E, A', cap')]).length ≤ 8 := by rw [← hln]; have := HL8.out; omega
            obtain ⟨os2, hos⟩ : ∃ o, os ++ [(E, A', cap')] = o := ⟨_, rfl⟩
            rw [hos] at hpp hln ho8'
            rw [hln] at hpp
            rw [hln]
            have HPT := hide hpp
            have KT := hide k9
            have HO8T := hide ho8'
            clear hos hln hpp k9 ho8' t2 hg2 ho2 hat2 T1 HG1 HO1 HZ8 K8 HW8 HPM HPE HAPE K7 HP6 K6 B1 B2 B2' B3 B4 hi hz0 hz1 hz2 hj hy0 hy1 hy2 r0 r1 hc3 hl8' HO8 HL8
            obtain ⟨d0, d1, d2, d3, d4, -⟩ := KT.out.five
            go_upto_region 20 with (first | (go_at_call 8; refine (does_any HPT.out.main (fun u hu => HMW.out.below (HPT.out.below.trans hu)) kd nn t n s KO.out SZ.out HKD.out.1 HKD.out.2 HPT.out.small).mono ?_; rintro e W10 ⟨rfl, l10, hd10, hs10⟩))
            have k10 : Blk W10 b6 #[.int .i64 kd, .int .i64 nn, .bool t, .int .i64 n, .string s] 32 := by
              obtain ⟨_, _, _, _, _, _, h2, _⟩ := hd10
              refine h2.blk KT.out ?_
              rintro (e | e)
              · subst e
                exact absurd (KT.out.inj HPT.out.main.ref.blk) (by decide)
              · exact HPT.out.main.lst.apart KT.out (by decide) (by decide) (own_false e)
            obtain ⟨m10, A10, cap10, hml, hp10⟩ := HPT.out.does hd10 hs10
            rw [← hml]
            have HP10 := hide hp10
            have K10 := hide k10
            clear hml hp10 k10 hd10 hs10 HPT KT d0 d1 d2 d3 d4
            by_cases h0 : os2.length = 0
            · rw [h0]
              have HLEN := hide h0
              clear h0
              have hjb := HJB.out
              go_wp2_with fail
              go_roundw
              case rel => exact ⟨j + 1, m10, A10, cap10, os2, (some ⟨og, 0, none⟩), (some ⟨wg, 0, none⟩), ogc, wgc, by have := HLT.out; omega, by go_num, rfl, by rw [HLEN.out], by rw [HLEN.out], HO8T.out, HP10⟩
              case measure => have := HLT.out; simp [intOf]; omega
            · have h0' : ((0 : Int) < (os2.length : Int)) := by omega
              have hne0 : ((os2.length : Int) == 0) = false := by rw [beq_eq_false_iff_ne]; omega
              have hne1 : ((os2.length : Int) = 0) = False := propext ⟨fun h => by omega, False.elim⟩
              obtain ⟨i9, hi9, hi9l⟩ : ∃ i9 : Nat, ((j : Int).tmod (os2.length : Int)) = (i9 : Int) ∧ i9 < os2.length := ⟨j % os2.length, by rw [Int.ofNat_tmod], Nat.mod_lt _ (by omega)⟩
              obtain ⟨x, hx⟩ : ∃ x, os2[i9]? = some x := ⟨_, List.getElem?_eq_getElem hi9l⟩
              obtain ⟨wb, wcap, p, hwv, hpo, hbx, hnc, hcm, hwb, hrc⟩ := HP10.out.at hx
              simp only [Value.slice.injEq, true_and] at hwv
              obtain ⟨hwA, hwc⟩ := hwv
              obtain ⟨og9, hog⟩ : ∃ g, ((some ⟨og, 0, none⟩) : Option Addr) = some ⟨g, 0, none⟩ := by
                rcases HP10.out.others.2 with ⟨_, e0⟩ | ⟨g, c, cur, e, _⟩
                · exact absurd e0 h0
                · simp only [Value.slice.injEq] at e
                  exact ⟨g, e.1⟩
              rw [hog, hwA] at HP10 ⊢
              clear hog hwA
              have hov : W10.cell? ⟨og9, i9, none⟩ = some (.pointer (some ⟨x.1.lb, 0, none⟩)) := by
                rw [HP10.out.others.cellAt _ (by omega), List.getElem?_map, hx]
                rfl
              have ogne : og9 ≠ wb := row_not HP10.out.others hbx.ref.blk (by decide) og9 rfl
              have ogown : ¬ Lst.own x.1.lb x.1.mb x.1.iv x.1.lent og9 := fun e => by
                obtain ⟨_, _, cs, hcs⟩ := row_lt HP10.out.others (k := og9) rfl
                exact hbx.lst.apart hcs (by decide) (by decide) (own_false e)
              have b6ne : b6 ≠ wb := fun e => by
                subst e
                exact absurd (K10.out.inj hbx.ref.blk) (by decide)
              have b6own : ¬ Lst.own x.1.lb x.1.mb x.1.iv x.1.lent b6 := fun e => hbx.lst.apart K10.out (by decide) (by decide) (own_false e)
              have HS : Hid (∀ u, Turned (fun k => k = wb ∨ Lst.own x.1.lb x.1.mb x.1.iv x.1.lent k) W10 u → (u.cell? ⟨og9, i9, none⟩ = some (.pointer (some ⟨x.1.lb, 0, none⟩)) ∧ u.cell? ⟨b6, 0, none⟩ = some (.int .i64 kd) ∧ u.cell? ⟨b6, 1, none⟩ = some (.int .i64 nn) ∧ u.cell? ⟨b6, 2, none⟩ = some (.bool t) ∧ u.cell? ⟨b6, 3, none⟩ = some (.int .i64 n) ∧ u.cell? ⟨b6, 4, none⟩ = some (.string s))) := fun u hu => by
                obtain ⟨f0, f1, f2, f3, f4, -⟩ := (hu.blk K10.out (fun e => e.elim b6ne b6own)).five
                refine ⟨?_, f0, f1, f2, f3, f4⟩
                rw [World.cell?_of_block (w := W10) (w' := u) (a := ⟨og9, i9, none⟩) (hu.block og9 (World.block_lt_of_cell? _ _ hov) (fun e => e.elim ogne ogown))]
                exact hov
              obtain ⟨kd2, hk2⟩ : ∃ k, wrap64 (kd + 1) = k := ⟨_, rfl⟩
              have hk2' : IntKind.i64.wrap (kd + 1) = kd2 := by rw [← hk2, IntKind.wrap_i64]; unfold wrap64; omega
              have hk2b : -9223372036854775808 ≤ kd2 ∧ kd2 ≤ 9223372036854775807 := by rw [← hk2]; unfold wrap64; omega
              have hdo := does_any (hbx.below (w' := W10.drew) ((Below.refl _ _).drew)) (fun u hu => HMW.out.below (HP10.out.below.drew.trans hu)) kd2 nn t n s KO.out SZ.out hk2b.1 hk2b.2 (HP10.out.smalls i9 x hx)
              rw [hpo] at hdo
              have HDO := hide hdo
              have HBX := hide hbx
              have HX := hide hx
              have HWC := hide hwc
              have HRC := hide (And.intro hnc (And.intro hcm (And.intro hwb hrc)))
              obtain ⟨nl, hnl⟩ : ∃ nl, os2.length = nl := ⟨_, rfl⟩
              rw [hnl] at hi9 h0' hne0 hne1 ⊢
              have l0 : (0 : Int) ≤ (i9 : Int) := by omega
              have l1 : (i9 : Int) < (nl : Int) := by omega
              have HNL := hide hnl
              have hnp : 0 < nl := by omega
              have hnz : (nl = 0) = False := propext ⟨fun h => by omega, False.elim⟩
              clear hdo hbx hx hwc hnc hcm hwb hrc hpo hov ogne ogown b6ne b6own hi9l h0 hnl hk2b
              go_upto_region 22 with fail
              go_region_held3 (fun u => u.cell? ⟨og9, i9, none⟩ = some (.pointer (some ⟨x.1.lb, 0, none⟩)) ∧ u.cell? ⟨b6, 0, none⟩ = some (.int .i64 kd) ∧ u.cell? ⟨b6, 1, none⟩ = some (.int .i64 nn) ∧ u.cell? ⟨b6, 2, none⟩ = some (.bool t) ∧ u.cell? ⟨b6, 3, none⟩ = some (.int .i64 n) ∧ u.cell? ⟨b6, 4, none⟩ = some (.string s))
                (first | exact HS.out _ (.drew _ _) | exact HS.out _ T11)
                (first | (go_at_call 8; with_reducible refine (unhide HDO).mono ?_; rintro e W11 ⟨rfl, l11, hd11, hs11⟩; have T11 : Turned (fun k => k = wb ∨ Lst.own x.1.lb x.1.mb x.1.iv x.1.lent k) W10 W11 := (Turned.drew _ _).trans hd11.turned))
              go_split_ands
              have hd12 : DPost w.heap.size W10 x.1.lb x.1.mb x.1.iv x.1.lent wb p l11 W11 := hd11.ofDrew
              obtain ⟨x', hx', hp11⟩ := HP10.out.doesAt HX.out (by rw [HWC.out]) HBX.out HRC.out.1 HRC.out.2.1 HRC.out.2.2.1 HRC.out.2.2.2 hd12 hs11
              have HP11 : Hid (Many w W11 rb m10 A10 cap10 (os2.set i9 x') (.slice (some ⟨og9, 0, none⟩) (os2.set i9 x').length ogc) (.slice (some ⟨wb, 0, none⟩) (os2.set i9 x').length wgc)) := by
                show Many _ _ _ _ _ _ _ _ _
                rw [List.length_set]
                exact hp11
              clear hd11 hd12 hs11 T11 hp11 HDO HS HBX HX HRC
              have hjb := HJB.out
              go_wp2_with fail
              go_roundw
              case rel => exact ⟨j + 1, m10, A10, cap10, os2.set i9 x', some ⟨og9, 0, none⟩, some ⟨wb, 0, none⟩, ogc, wgc, by have := HLT.out; omega, by go_num, rfl, by rw [List.length_set, HNL.out], by rw [List.length_set, HNL.out], by rw [List.length_set]; exact HO8T.out, HP11⟩
              case measure => have := HLT.out; simp [intOf]; omega
      · have hl8' : decide ((os.length : Int) < 8) = false := by simp; omega
        clear hl8
        cases b3
        ·
          go_upto_region 18 with fail
          have HPT := HP6
          have KT := K6
          have HO8T := HO8
          clear HP6 K6 hc3 hl8'
          obtain ⟨d0, d1, d2, d3, d4, -⟩ := KT.out.five
          go_upto_region 20 with (first | (go_at_call 8; refine (does_any HPT.out.main (fun u hu => HMW.out.below (HPT.out.below.trans hu)) kd nn t n s KO.out SZ.out HKD.out.1 HKD.out.2 HPT.out.small).mono ?_; rintro e W10 ⟨rfl, l10, hd10, hs10⟩))
          have k10 : Blk W10 b6 #[.int .i64 kd, .int .i64 nn, .bool t, .int .i64 n, .string s] 32 := by
            obtain ⟨_, _, _, _, _, _, h2, _⟩ := hd10
            refine h2.blk KT.out ?_
            rintro (e | e)
            · subst e
              exact absurd (KT.out.inj HPT.out.main.ref.blk) (by decide)
            · exact HPT.out.main.lst.apart KT.out (by decide) (by decide) (own_false e)
          obtain ⟨m10, A10, cap10, hml, hp10⟩ := HPT.out.does hd10 hs10
          rw [← hml]
          have HP10 := hide hp10
          have K10 := hide k10
          clear hml hp10 k10 hd10 hs10 HPT KT d0 d1 d2 d3 d4
          by_cases h0 : os.length = 0
          · rw [h0]
            have HLEN := hide h0
            clear h0
            have hjb := HJB.out
            go_wp2_with fail
            go_roundw
            case rel => exact ⟨j + 1, m10, A10, cap10, os, oA, wA, oc, wc, by have := HLT.out; omega, by go_num, rfl, by rw [HLEN.out], by rw [HLEN.out], HO8T.out, HP10⟩
            case measure => have := HLT.out; simp [intOf]; omega
          · have h0' : ((0 : Int) < (os.length : Int)) := by omega
            have hne0 : ((os.length : Int) == 0) = false := by rw [beq_eq_false_iff_ne]; omega
            have hne1 : ((os.length : Int) = 0) = False := propext ⟨fun h => by omega, False.elim⟩
            obtain ⟨i9, hi9, hi9l⟩ : ∃ i9 : Nat, ((j : Int).tmod (os.length : Int)) = (i9 : Int) ∧ i9 < os.length := ⟨j % os.length, by rw [Int.ofNat_tmod], Nat.mod_lt _ (by omega)⟩
            obtain ⟨x, hx⟩ : ∃ x, os[i9]? = some x := ⟨_, List.getElem?_eq_getElem hi9l⟩
            obtain ⟨wb, wcap, p, hwv, hpo, hbx, hnc, hcm, hwb, hrc⟩ := HP10.out.at hx
            simp only [Value.slice.injEq, true_and] at hwv
            obtain ⟨hwA, hwc⟩ := hwv
            obtain ⟨og9, hog⟩ : ∃ g, (oA : Option Addr) = some ⟨g, 0, none⟩ := by
              rcases HP10.out.others.2 with ⟨_, e0⟩ | ⟨g, c, cur, e, _⟩
              · exact absurd e0 h0
              · simp only [Value.slice.injEq] at e
                exact ⟨g, e.1⟩
            rw [hog, hwA] at HP10 ⊢
            clear hog hwA
            have hov : W10.cell? ⟨og9, i9, none⟩ = some (.pointer (some ⟨x.1.lb, 0, none⟩)) := by
              rw [HP10.out.others.cellAt _ (by omega), List.getElem?_map, hx]
              rfl
            have ogne : og9 ≠ wb := row_not HP10.out.others hbx.ref.blk (by decide) og9 rfl
            have ogown : ¬ Lst.own x.1.lb x.1.mb x.1.iv x.1.lent og9 := fun e => by
              obtain ⟨_, _, cs, hcs⟩ := row_lt HP10.out.others (k := og9) rfl
              exact hbx.lst.apart hcs (by decide) (by decide) (own_false e)
            have b6ne : b6 ≠ wb := fun e => by
              subst e
              exact absurd (K10.out.inj hbx.ref.blk) (by decide)
            have b6own : ¬ Lst.own x.1.lb x.1.mb x.1.iv x.1.lent b6 := fun e => hbx.lst.apart K10.out (by decide) (by decide) (own_false e)
            have HS : Hid (∀ u, Turned (fun k => k = wb ∨ Lst.own x.1.lb x.1.mb x.1.iv x.1.lent k) W10 u → (u.cell? ⟨og9, i9, none⟩ = some (.pointer (some ⟨x.1.lb, 0, none⟩)) ∧ u.cell? ⟨b6, 0, none⟩ = some (.int .i64 kd) ∧ u.cell? ⟨b6, 1, none⟩ = some (.int .i64 nn) ∧ u.cell? ⟨b6, 2, none⟩ = some (.bool t) ∧ u.cell? ⟨b6, 3, none⟩ = some (.int .i64 n) ∧ u.cell? ⟨b6, 4, none⟩ = some (.string s))) := fun u hu => by
              obtain ⟨f0, f1, f2, f3, f4, -⟩ := (hu.blk K10.out (fun e => e.elim b6ne b6own)).five
              refine ⟨?_, f0, f1, f2, f3, f4⟩
              rw [World.cell?_of_block (w := W10) (w' := u) (a := ⟨og9, i9, none⟩) (hu.block og9 (World.block_lt_of_cell? _ _ hov) (fun e => e.elim ogne ogown))]
              exact hov
            obtain ⟨kd2, hk2⟩ : ∃ k, wrap64 (kd + 1) = k := ⟨_, rfl⟩
            have hk2' : IntKind.i64.wrap (kd + 1) = kd2 := by rw [← hk2, IntKind.wrap_i64]; unfold wrap64; omega
            have hk2b : -9223372036854775808 ≤ kd2 ∧ kd2 ≤ 9223372036854775807 := by rw [← hk2]; unfold wrap64; omega
            have hdo := does_any (hbx.below (w' := W10.drew) ((Below.refl _ _).drew)) (fun u hu => HMW.out.below (HP10.out.below.drew.trans hu)) kd2 nn t n s KO.out SZ.out hk2b.1 hk2b.2 (HP10.out.smalls i9 x hx)
            rw [hpo] at hdo
            have HDO := hide hdo
            have HBX := hide hbx
            have HX := hide hx
            have HWC := hide hwc
            have HRC := hide (And.intro hnc (And.intro hcm (And.intro hwb hrc)))
            obtain ⟨nl, hnl⟩ : ∃ nl, os.length = nl := ⟨_, rfl⟩
            rw [hnl] at hi9 h0' hne0 hne1 ⊢
            have l0 : (0 : Int) ≤ (i9 : Int) := by omega
            have l1 : (i9 : Int) < (nl : Int) := by omega
            have HNL := hide hnl
            have hnp : 0 < nl := by omega
            have hnz : (nl = 0) = False := propext ⟨fun h => by omega, False.elim⟩
            clear hdo hbx hx hwc hnc hcm hwb hrc hpo hov ogne ogown b6ne b6own hi9l h0 hnl hk2b
            go_upto_region 22 with fail
            go_region_held3 (fun u => u.cell? ⟨og9, i9, none⟩ = some (.pointer (some ⟨x.1.lb, 0, none⟩)) ∧ u.cell? ⟨b6, 0, none⟩ = some (.int .i64 kd) ∧ u.cell? ⟨b6, 1, none⟩ = some (.int .i64 nn) ∧ u.cell? ⟨b6, 2, none⟩ = some (.bool t) ∧ u.cell? ⟨b6, 3, none⟩ = some (.int .i64 n) ∧ u.cell? ⟨b6, 4, none⟩ = some (.string s))
              (first | exact HS.out _ (.drew _ _) | exact HS.out _ T11)
              (first | (go_at_call 8; with_reducible refine (unhide HDO).mono ?_; rintro e W11 ⟨rfl, l11, hd11, hs11⟩; have T11 : Turned (fun k => k = wb ∨ Lst.own x.1.lb x.1.mb x.1.iv x.1.lent k) W10 W11 := (Turned.drew _ _).trans hd11.turned))
            go_split_ands
            have hd12 : DPost w.heap.size W10 x.1.lb x.1.mb x.1.iv x.1.lent wb p l11 W11 := hd11.ofDrew
            obtain ⟨x', hx', hp11⟩ := HP10.out.doesAt HX.out (by rw [HWC.out]) HBX.out HRC.out.1 HRC.out.2.1 HRC.out.2.2.1 HRC.out.2.2.2 hd12 hs11
            have HP11 : Hid (Many w W11 rb m10 A10 cap10 (os.set i9 x') (.slice (some ⟨og9, 0, none⟩) (os.set i9 x').length oc) (.slice (some ⟨wb, 0, none⟩) (os.set i9 x').length wc)) := by
              show Many _ _ _ _ _ _ _ _ _
              rw [List.length_set]
              exact hp11
            clear hd11 hd12 hs11 T11 hp11 HDO HS HBX HX HRC
            have hjb := HJB.out
            go_wp2_with fail
            go_roundw
            case rel => exact ⟨j + 1, m10, A10, cap10, os.set i9 x', some ⟨og9, 0, none⟩, some ⟨wb, 0, none⟩, oc, wc, by have := HLT.out; omega, by go_num, rfl, by rw [List.length_set, HNL.out], by rw [List.length_set, HNL.out], by rw [List.length_set]; exact HO8T.out, HP11⟩
            case measure => have := HLT.out; simp [intOf]; omega
        ·
          go_upto_region 18 with fail
          have HPT := HP6
          have KT := K6
          have HO8T := HO8
          clear HP6 K6 hc3 hl8'
          obtain ⟨d0, d1, d2, d3, d4, -⟩ := KT.out.five
          go_upto_region 20 with (first | (go_at_call 8; refine (does_any HPT.out.main (fun u hu => HMW.out.below (HPT.out.below.trans hu)) kd nn t n s KO.out SZ.out HKD.out.1 HKD.out.2 HPT.out.small).mono ?_; rintro e W10 ⟨rfl, l10, hd10, hs10⟩))
          have k10 : Blk W10 b6 #[.int .i64 kd, .int .i64 nn, .bool t, .int .i64 n, .string s] 32 := by
            obtain ⟨_, _, _, _, _, _, h2, _⟩ := hd10
            refine h2.blk KT.out ?_
            rintro (e | e)
            · subst e
              exact absurd (KT.out.inj HPT.out.main.ref.blk) (by decide)
            · exact HPT.out.main.lst.apart KT.out (by decide) (by decide) (own_false e)
          obtain ⟨m10, A10, cap10, hml, hp10⟩ := HPT.out.does hd10 hs10
          rw [← hml]
          have HP10 := hide hp10
          have K10 := hide k10
          clear hml hp10 k10 hd10 hs10 HPT KT d0 d1 d2 d3 d4
          by_cases h0 : os.length = 0
          · rw [h0]
            have HLEN := hide h0
            clear h0
            have hjb := HJB.out
            go_wp2_with fail
            go_roundw
            case rel => exact ⟨j + 1, m10, A10, cap10, os, oA, wA, oc, wc, by have := HLT.out; omega, by go_num, rfl, by rw [HLEN.out], by rw [HLEN.out], HO8T.out, HP10⟩
            case measure => have := HLT.out; simp [intOf]; omega
          · have h0' : ((0 : Int) < (os.length : Int)) := by omega
            have hne0 : ((os.length : Int) == 0) = false := by rw [beq_eq_false_iff_ne]; omega
            have hne1 : ((os.length : Int) = 0) = False := propext ⟨fun h => by omega, False.elim⟩
            obtain ⟨i9, hi9, hi9l⟩ : ∃ i9 : Nat, ((j : Int).tmod (os.length : Int)) = (i9 : Int) ∧ i9 < os.length := ⟨j % os.length, by rw [Int.ofNat_tmod], Nat.mod_lt _ (by omega)⟩
            obtain ⟨x, hx⟩ : ∃ x, os[i9]? = some x := ⟨_, List.getElem?_eq_getElem hi9l⟩
            obtain ⟨wb, wcap, p, hwv, hpo, hbx, hnc, hcm, hwb, hrc⟩ := HP10.out.at hx
            simp only [Value.slice.injEq, true_and] at hwv
            obtain ⟨hwA, hwc⟩ := hwv
            obtain ⟨og9, hog⟩ : ∃ g, (oA : Option Addr) = some ⟨g, 0, none⟩ := by
              rcases HP10.out.others.2 with ⟨_, e0⟩ | ⟨g, c, cur, e, _⟩
              · exact absurd e0 h0
              · simp only [Value.slice.injEq] at e
                exact ⟨g, e.1⟩
            rw [hog, hwA] at HP10 ⊢
            clear hog hwA
            have hov : W10.cell? ⟨og9, i9, none⟩ = some (.pointer (some ⟨x.1.lb, 0, none⟩)) := by
              rw [HP10.out.others.cellAt _ (by omega), List.getElem?_map, hx]
              rfl
            have ogne : og9 ≠ wb := row_not HP10.out.others hbx.ref.blk (by decide) og9 rfl
            have ogown : ¬ Lst.own x.1.lb x.1.mb x.1.iv x.1.lent og9 := fun e => by
              obtain ⟨_, _, cs, hcs⟩ := row_lt HP10.out.others (k := og9) rfl
              exact hbx.lst.apart hcs (by decide) (by decide) (own_false e)
            have b6ne : b6 ≠ wb := fun e => by
              subst e
              exact absurd (K10.out.inj hbx.ref.blk) (by decide)
            have b6own : ¬ Lst.own x.1.lb x.1.mb x.1.iv x.1.lent b6 := fun e => hbx.lst.apart K10.out (by decide) (by decide) (own_false e)
            have HS : Hid (∀ u, Turned (fun k => k = wb ∨ Lst.own x.1.lb x.1.mb x.1.iv x.1.lent k) W10 u → (u.cell? ⟨og9, i9, none⟩ = some (.pointer (some ⟨x.1.lb, 0, none⟩)) ∧ u.cell? ⟨b6, 0, none⟩ = some (.int .i64 kd) ∧ u.cell? ⟨b6, 1, none⟩ = some (.int .i64 nn) ∧ u.cell? ⟨b6, 2, none⟩ = some (.bool t) ∧ u.cell? ⟨b6, 3, none⟩ = some (.int .i64 n) ∧ u.cell? ⟨b6, 4, none⟩ = some (.string s))) := fun u hu => by
              obtain ⟨f0, f1, f2, f3, f4, -⟩ := (hu.blk K10.out (fun e => e.elim b6ne b6own)).five
              refine ⟨?_, f0, f1, f2, f3, f4⟩
              rw [World.cell?_of_block (w := W10) (w' := u) (a := ⟨og9, i9, none⟩) (hu.block og9 (World.block_lt_of_cell? _ _ hov) (fun e => e.elim ogne ogown))]
              exact hov
            obtain ⟨kd2, hk2⟩ : ∃ k, wrap64 (kd + 1) = k := ⟨_, rfl⟩
            have hk2' : IntKind.i64.wrap (kd + 1) = kd2 := by rw [← hk2, IntKind.wrap_i64]; unfold wrap64; omega
            have hk2b : -9223372036854775808 ≤ kd2 ∧ kd2 ≤ 9223372036854775807 := by rw [← hk2]; unfold wrap64; omega
            have hdo := does_any (hbx.below (w' := W10.drew) ((Below.refl _ _).drew)) (fun u hu => HMW.out.below (HP10.out.below.drew.trans hu)) kd2 nn t n s KO.out SZ.out hk2b.1 hk2b.2 (HP10.out.smalls i9 x hx)
            rw [hpo] at hdo
            have HDO := hide hdo
            have HBX := hide hbx
            have HX := hide hx
            have HWC := hide hwc
            have HRC := hide (And.intro hnc (And.intro hcm (And.intro hwb hrc)))
            obtain ⟨nl, hnl⟩ : ∃ nl, os.length = nl := ⟨_, rfl⟩
            rw [hnl] at hi9 h0' hne0 hne1 ⊢
            have l0 : (0 : Int) ≤ (i9 : Int) := by omega
            have l1 : (i9 : Int) < (nl : Int) := by omega
            have HNL := hide hnl
            have hnp : 0 < nl := by omega
            have hnz : (nl = 0) = False := propext ⟨fun h => by omega, False.elim⟩
            clear hdo hbx hx hwc hnc hcm hwb hrc hpo hov ogne ogown b6ne b6own hi9l h0 hnl hk2b
            go_upto_region 22 with fail
            go_region_held3 (fun u => u.cell? ⟨og9, i9, none⟩ = some (.pointer (some ⟨x.1.lb, 0, none⟩)) ∧ u.cell? ⟨b6, 0, none⟩ = some (.int .i64 kd) ∧ u.cell? ⟨b6, 1, none⟩ = some (.int .i64 nn) ∧ u.cell? ⟨b6, 2, none⟩ = some (.bool t) ∧ u.cell? ⟨b6, 3, none⟩ = some (.int .i64 n) ∧ u.cell? ⟨b6, 4, none⟩ = some (.string s))
              (first | exact HS.out _ (.drew _ _) | exact HS.out _ T11)
              (first | (go_at_call 8; with_reducible refine (unhide HDO).mono ?_; rintro e W11 ⟨rfl, l11, hd11, hs11⟩; have T11 : Turned (fun k => k = wb ∨ Lst.own x.1.lb x.1.mb x.1.iv x.1.lent k) W10 W11 := (Turned.drew _ _).trans hd11.turned))
            go_split_ands
            have hd12 : DPost w.heap.size W10 x.1.lb x.1.mb x.1.iv x.1.lent wb p l11 W11 := hd11.ofDrew
            obtain ⟨x', hx', hp11⟩ := HP10.out.doesAt HX.out (by rw [HWC.out]) HBX.out HRC.out.1 HRC.out.2.1 HRC.out.2.2.1 HRC.out.2.2.2 hd12 hs11
            have HP11 : Hid (Many w W11 rb m10 A10 cap10 (os.set i9 x') (.slice (some ⟨og9, 0, none⟩) (os.set i9 x').length oc) (.slice (some ⟨wb, 0, none⟩) (os.set i9 x').length wc)) := by
              show Many _ _ _ _ _ _ _ _ _
              rw [List.length_set]
              exact hp11
            clear hd11 hd12 hs11 T11 hp11 HDO HS HBX HX HRC
            have hjb := HJB.out
            go_wp2_with fail
            go_roundw
            case rel => exact ⟨j + 1, m10, A10, cap10, os.set i9 x', some ⟨og9, 0, none⟩, some ⟨wb, 0, none⟩, oc, wc, by have := HLT.out; omega, by go_num, rfl, by rw [List.length_set, HNL.out], by rw [List.length_set, HNL.out], by rw [List.length_set]; exact HO8T.out, HP11⟩
            case measure => have := HLT.out; simp [intOf]; omega
    · have hje : j = cnt := by omega
      subst hje
      clear hlt
      obtain ⟨nl, hnl⟩ : ∃ nl, os.length = nl := ⟨_, rfl⟩
      rw [hnl] at HP ho8 ⊢
      have HN8 := hide ho8
      clear ho8
      have HNL := hide hnl
      clear hnl
      go_upto_region 26 with fail
      go_loopw [92] (fun v wr => ∃ (i : Nat) (os2 : List (Rc × Option Addr × Nat)), i ≤ nl ∧ v = .int .i64 i ∧ Hid (os2.length = nl) ∧ Hid (Many w wr rb m A' cap' os2 (.slice oA nl oc) (.slice wA nl wc))) (fun v _ => nl - (intOf v).toNat)
      case atStart => exact ⟨0, os, Nat.zero_le _, rfl, HNL, HP⟩
      case round =>
        obtain ⟨i, os2, hi, rfl, HL2, HP2'⟩ := hrel
        by_cases hlt : i < nl
        · obtain ⟨x, hx⟩ : ∃ x, os2[i]? = some x := ⟨_, List.getElem?_eq_getElem (by rw [HL2.out]; exact hlt)⟩
          obtain ⟨wb, wcap, p, hwv, hpo, hbx, hnc, hcm, hwb, hrc⟩ := HP2'.out.at hx
          rw [HL2.out] at hwv
          simp only [Value.slice.injEq, true_and] at hwv
          obtain ⟨hwA, hwc⟩ := hwv
          obtain ⟨og9, hog⟩ : ∃ g, (oA : Option Addr) = some ⟨g, 0, none⟩ := by
            rcases HP2'.out.others.2 with ⟨_, e0⟩ | ⟨g, c, cur, e, _⟩
            · have := HL2.out
              omega
            · simp only [Value.slice.injEq] at e
              exact ⟨g, e.1⟩
          subst hog hwA
          have hov : wr.cell? ⟨og9, i, none⟩ = some (.pointer (some ⟨x.1.lb, 0, none⟩)) := by
            have hr := HP2'.out.others
            rw [HL2.out] at hr
            rw [hr.cellAt _ (by omega), List.getElem?_map, hx]
            rfl
          have hst := stands_any (hbx.below (w' := wr.drew) ((Below.refl _ _).drew)) (fun u hu => HMW.out.below (HP2'.out.below.drew.trans hu)) (HP2'.out.smalls i x hx)
          rw [hpo] at hst
          have ogne : og9 ≠ x.1.lb := fun e => row_not HP2'.out.others (HP2'.out.lists i x hx).blk (by decide) og9 rfl e
          have HS : Hid (∀ u, Turned (fun k => k = x.1.lb) wr u → u.cell? ⟨og9, i, none⟩ = some (.pointer (some ⟨x.1.lb, 0, none⟩))) := fun u hu => by
            rw [World.cell?_of_block (w := wr) (w' := u) (a := ⟨og9, i, none⟩) (hu.block og9 (World.block_lt_of_cell? _ _ hov) ogne)]
            exact hov
          have HST := hide hst
          have HBX := hide hbx
          have HX := hide hx
          have HWC := hide hwc
          have HRC := hide (And.intro hnc (And.intro hcm (And.intro hwb hrc)))
          have l0 : (0 : Int) ≤ (i : Int) := by omega
          have l1 : (i : Int) < (nl : Int) := by omega
          have HI := hide hi
          have HLT := hide hlt
          clear hst hbx hx hwc hnc hcm hwb hrc hpo hov ogne hi
          go_upto_region 28 with fail
          go_region_held3 (fun u => u.cell? ⟨og9, i, none⟩ = some (.pointer (some ⟨x.1.lb, 0, none⟩)))
            (first | exact HS.out _ (.drew _ _) | exact HS.out _ T11)
            (first | (go_at_call 9; with_reducible refine (unhide HST).mono ?_; rintro e W11 ⟨rfl, hb11, ht11⟩; have T11 : Turned (fun k => k = x.1.lb) wr W11 := (Turned.drew _ _).trans ht11))
          obtain ⟨x', hx', hp11⟩ := HP2'.out.doesAt HX.out (by rw [HL2.out, HWC.out]) HBX.out HRC.out.1 HRC.out.2.1 HRC.out.2.2.1 HRC.out.2.2.2 (DPost.stood (lent := x.1.lent) hb11 T11) (HP2'.out.smalls i x HX.out)
          have HP11 : Hid (Many w W11 rb m A' cap' (os2.set i x') (.slice (some ⟨og9, 0, none⟩) nl oc) (.slice (some ⟨wb, 0, none⟩) nl wc)) := hp11
          have HL3 : Hid ((os2.set i x').length = nl) := by
            show _ = _
            rw [List.length_set]
            exact HL2.out
          clear hb11 T11 ht11 hp11 HST HS HBX HX HRC
          have hib : (i : Int) + 1 ≤ 9223372036854775807 := by have := HN8.out; omega
          go_wp2_with fail
          go_roundw
          case rel => exact ⟨i + 1, os2.set i x', by have := HLT.out; omega, by go_num, HL3, HP11⟩
          case measure => have := HLT.out; simp [intOf]; omega
        · have hie : i = nl := by omega
          subst hie
          go_wp2_with (first
            | (go_at_call 9; refine (stands_any HP2'.out.main (fun u hu => HMW.out.below (HP2'.out.below.trans hu)) HP2'.out.small).mono ?_; rintro e W8 ⟨rfl, hb8, ht8⟩; have HB8 := hide (HP2'.out.stood hb8 ht8); clear hb8 ht8))
          go_ret
          exact ⟨rfl, HB8.out⟩
end Go.Proofs.YtmfnonepcipplaaDoor
