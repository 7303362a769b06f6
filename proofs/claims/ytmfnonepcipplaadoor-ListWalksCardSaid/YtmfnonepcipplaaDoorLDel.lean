/-
  The contract of package list's Del.
-/
import Derived.Test.YtmfnonepcipplaaDoorLCut
import Derived.Test.YtmfnonepcipplaaDoorLPlace2
namespace Go.Proofs.YtmfnonepcipplaaDoor
open Go Go.RowKit Convs Lists

/-- While Del tells the map anew where the items behind stand. -/
structure Half (B : Nat) (w : World) (lb mb g cap : Nat) (nx : Int) (c : List (K × Int)) (j q : Nat) : Prop where
  blk : Blk w lb (lstCells lb (.slice (some ⟨g, 0, none⟩) c.length cap) mb nx false) 50
  row : w.ownsRow B 69 4 (.slice (some ⟨g, 0, none⟩) c.length cap) c.length (encItems c)
  map : Idx w mb (fAt c j q)
theorem Half.ne_mb {B : Nat} {w : World} {lb mb g cap : Nat} {nx : Int} {c : List (K × Int)} {j q : Nat} (h : Half B w lb mb g cap nx c j q) : lb ≠ mb ∧ g ≠ mb ∧ lb ≠ g := by
  obtain ⟨es, clock, hm⟩ := h.map.isMap
  obtain ⟨_, _, cs, hcs⟩ := ownsRow_lt h.row rfl
  refine ⟨?_, ?_, ?_⟩
  · rintro rfl
    have hb := h.blk
    unfold Blk at hb
    rw [hb] at hm
    cases hm
  · rintro rfl
    unfold Blk at hcs
    rw [hcs] at hm
    cases hm
  · rintro rfl
    exact absurd (hcs.inj h.blk) (by decide)
theorem Half.same {B : Nat} {w w' : World} {lb mb g cap : Nat} {nx : Int} {c : List (K × Int)} {j q : Nat} (h : Half B w lb mb g cap nx c j q) (hs : ∀ k, k < w.heap.size → w'.heap[k]? = w.heap[k]?) : Half B w' lb mb g cap nx c j q :=
  ⟨h.blk.same (hs _ h.blk.lt), ownsRow_same h.row (fun k hk => hs k (ownsRow_lt h.row hk).1), h.map.same (hs _ h.map.lt)⟩
theorem Half.put {B : Nat} {w w' : World} {lb mb g cap : Nat} {nx : Int} {c : List (K × Int)} {j q : Nat} {y : K} {v : Int} (h : Half B w lb mb g cap nx c j q) (hg : w.grownBy w' (some mb))
    (hn : (c.map (·.1)).Nodup) (hy : c[j + q]? = some (y, v)) (hi : Idx w' mb (updF (fAt c j q) y (some ((j : Int) + q)))) : Half B w' lb mb g cap nx c j (q + 1) := by
  obtain ⟨n1, n2, n3⟩ := h.ne_mb
  refine ⟨h.blk.same (hg.block _ h.blk.lt (fun e => n1 (Option.some.inj e))), ownsRow_same h.row (fun k hk => hg.block k (ownsRow_lt h.row hk).1 (fun e => n2 ?_)), hi.ext (fAt_step hn hy)⟩
  have h1 : g = k := Option.some.inj hk
  have h2 : k = mb := Option.some.inj e
  omega

theorem del_close {B : Nat} {w W w3 w8 w9 : World} {lb mb mb3 g cap : Nat} {iv : Value} {lent : Bool} {l : Ls} {k : K} {v0 : Int} {j : Nat} (hb : Below w.heap.size w W)
    (h3 : Lst B w3 lb mb3 (.slice (some ⟨g, 0, none⟩) l.items.length cap) false l) (s3 : Stepped W w3 lb mb iv lent mb3 (.slice (some ⟨g, 0, none⟩) l.items.length cap) false)
    (hh : hasI l.items k = true) (hat : l.items[j]? = some (k, v0))
    (t8 : Turned (fun i => i = lb ∨ i = g ∨ i = mb3) w3 w8) (t9 : Turned (fun i => i = mb3) w8 w9) (h9 : Half B w9 lb mb3 g cap l.next (cutL l.items j) j ((cutL l.items j).length - j)) :
    LPost B w lb mb iv lent (l.del k).1 (.bool (l.del k).2) (.returned (.bool true)) w9 := by
  have hj : j < l.items.length := (List.getElem?_eq_some_iff.1 hat).1
  have hd := delI_cut l.items k j v0 h3.good.nodup hat
  have hgood := h3.good.del k
  have e : l.del k = (⟨cutL l.items j, l.next⟩, true) := by unfold Ls.del; rw [if_pos hh, hd]
  rw [e] at hgood ⊢
  have hkeys : ∀ i ∈ (⟨cutL l.items j, l.next⟩ : Ls).keys, Kok i := by
    have hs := (delI_sub l.items k).map (·.1)
    rw [hd] at hs
    exact fun i hi => h3.keys i (hs.subset hi)
  have hown : ∀ i, Lst.own lb mb3 (.slice (some ⟨g, 0, none⟩) (cutL l.items j).length cap) false i → Lst.own lb mb3 (.slice (some ⟨g, 0, none⟩) l.items.length cap) false i := by
    rintro i (rfl | ⟨_, hi | rfl⟩)
    · exact .inl rfl
    · exact .inr ⟨rfl, .inl hi⟩
    · exact .inr ⟨rfl, .inr rfl⟩
  refine LPost.from hb ⟨mb3, _, false, rfl, ⟨h9.blk, h9.row, ?_, hgood, hkeys, h3.hlb, h3.hmb⟩, s3.trans ⟨?_, fun i hi => .inl (hown i hi), fun i hi => .inl (hown i hi)⟩⟩
  · exact h9.map.ext (fAt_end (by omega))
  · refine (t8.then t9 (fun i hi _ => .inr (.inr hi))).mono (fun i hi _ => ?_)
    rcases hi with rfl | rfl | rfl
    · exact .inl rfl
    · exact .inr ⟨rfl, .inl rfl⟩
    · exact .inr ⟨rfl, .inr rfl⟩

set_option maxRecDepth 100000 in
set_option maxHeartbeats 2000000 in
theorem Del_any {B : Nat} {w : World} {lb mb : Nat} {iv : Value} {lent : Bool} {l : Ls} (h : Lst B w lb mb iv lent l) (hM : Met w) (t0 : Bool) (n0 : Int) (s0 : ByteArray)
    (hk0 : Kok ⟨t0, n0, s0.data.toList⟩) (hs0 : s0.size ≤ 281474976710656) :
    Calls Tryd.prog 20 #[.pointer (some ⟨lb, 0, none⟩), .agg #[.bool t0, .int .i64 n0, .string s0]] w
      (LPost B w lb mb iv lent (l.del (normT ⟨t0, n0, s0.data.toList⟩)).1 (.bool (l.del (normT ⟨t0, n0, s0.data.toList⟩)).2)) := by
  obtain ⟨t, n, s, hnk, hkv⟩ := norm_cells ⟨t0, n0, s0.data.toList⟩
  have hk : Kok ⟨t, n, s.data.toList⟩ := by rw [← hnk]; exact normT_ok hk0
  have hN := fun W => fun (hM : Met W) => Norm_any t0 n0 s0 W hM hs0
  rw [hkv] at hN
  rw [hnk]
  have h0 := h.alloc (.cells #[.bool t0, .int .i64 n0, .string s0] 30)
  have hb0 := below_box w (.cells #[.bool t0, .int .i64 n0, .string s0] 30)
  have hkb := Blk.new w #[.bool t0, .int .i64 n0, .string s0] 30
  obtain ⟨W0, hW0⟩ : ∃ W0, w.alloc (.cells #[.bool t0, .int .i64 n0, .string s0] 30) = W0 := ⟨_, rfl⟩
  rw [hW0] at h0 hb0 hkb
  have hN0 := hN W0 (hM.below hb0)
  have HN := hide hN0
  have HW0 := hide hW0
  obtain ⟨c0, c1, c2, c3, c4, f0, f1, f2, f3, f4⟩ := h0.cells
  obtain ⟨b0, b1, b2, q0, q1, q2⟩ := hkb.three
  have HM := hide (isMade_any W0 lb c0)
  have HKB := hide hkb
  have HL := hide h0
  have HI := hide h
  have HB := hide hb0
  have HK := hide hk
  have HLT := hide h.blk.lt
  clear hN hN0 hW0 h0 hb0 hkb h hM hnk hkv hk0 hk
  go_enter Tryd.func20, Tryd.ntmps20
  go_upto_region 1 with fail
  rw [HW0.out]
  go_wp2_with (go_at_call 24; with_reducible refine (unhide HM).mono ?_; rintro e w1 ⟨rfl, rfl⟩)
  refine (unhide HN).mono ?_
  rintro e w1 ⟨rfl, hb1⟩
  have kb1 := HKB.out.below hb1 HKB.out.lt
  obtain ⟨b0, b1, b2, q0, q1, q2⟩ := kb1.three
  have HB1 := hide hb1
  have KB1 := hide kb1
  clear hb1 kb1
  go_upto_region 4 with fail
  have k2 := ((KB1.out.set 0 (.bool t)).set 1 (.int .i64 n)).set 2 (.string s)
  have hl2 : Lst B (((w1.setCell ⟨w.heap.size, 0, none⟩ (.bool t)).setCell ⟨w.heap.size, 1, none⟩ (.int .i64 n)).setCell ⟨w.heap.size, 2, none⟩ (.string s)) lb mb iv lent l :=
    HI.out.same (fun k hk => by
      have hlt := HI.out.fp_lt hk
      rw [Below.heap_setCell _ _ _ _ (by show k ≠ w.heap.size; omega), Below.heap_setCell _ _ _ _ (by show k ≠ w.heap.size; omega), Below.heap_setCell _ _ _ _ (by show k ≠ w.heap.size; omega),
        HB1.out.block k (Nat.lt_of_lt_of_le hlt HB.out.size), HB.out.block k hlt])
  have hb2 : Below w.heap.size w (((w1.setCell ⟨w.heap.size, 0, none⟩ (.bool t)).setCell ⟨w.heap.size, 1, none⟩ (.int .i64 n)).setCell ⟨w.heap.size, 2, none⟩ (.string s)) :=
    below_three (HB.out.trans (HB1.out.mono HB.out.size)) (Nat.le_refl _) _ _ _
  obtain ⟨w2, hw2⟩ : ∃ w2, ((w1.setCell ⟨w.heap.size, 0, none⟩ (.bool t)).setCell ⟨w.heap.size, 1, none⟩ (.int .i64 n)).setCell ⟨w.heap.size, 2, none⟩ (.string s) = w2 := ⟨_, rfl⟩
  rw [hw2] at k2 hl2 hb2 ⊢
  clear hw2
  obtain ⟨A, cap, hiv, hc1, hc2, hA⟩ := hl2.form
  obtain ⟨c0, c1, c2, c3, c4, f0, f1, f2, f3, f4⟩ := hl2.cells
  obtain ⟨b0, b1, b2, q0, q1, q2⟩ := k2.three
  subst hiv
  cases hh : hasI l.items ⟨t, n, s.data.toList⟩
  · have hlk' := look_none hl2 HK.out hh w2.drew rfl
    rw [kv_of] at hlk'
    have hl3 : Lst B w2.drew lb mb (.slice A l.items.length cap) lent l := hl2.same (fun _ _ => rfl)
    have he : l.del ⟨t, n, s.data.toList⟩ = (l, false) := by unfold Ls.del; rw [hh]; rfl
    have HE := hide he
    have HL3 := hide hl3
    have HB2 := hide hb2.drew
    clear hl2 k2 hh hb2 hA hl3 he
    go_region_held3 (fun w' => w'.cell? ⟨lb, 2, none⟩ = some (.map (some mb)) ∧ w'.cell? ⟨w.heap.size, 0, none⟩ = some (.bool t) ∧ w'.cell? ⟨w.heap.size, 1, none⟩ = some (.int .i64 n) ∧ w'.cell? ⟨w.heap.size, 2, none⟩ = some (.string s) ∧
        (Instr.lookup 47 (.map (some mb)) (.agg #[.bool t, .int .i64 n, .string s]) true).run Tryd.prog w' = .ok (.tuple #[.int .i64 0, .bool false]) w')
      (first | exact ⟨by assumption, by assumption, by assumption, by assumption, by assumption⟩ | go_keep)
      (first | fail)
    clear hlk'
    go_wp2_with fail
    go_ret
    rw [HE.out]
    exact LPost.from HB2.out ⟨mb, _, lent, rfl, HL3.out, .refl _ _ _ _ _⟩
  · obtain ⟨j, v0, hpl, hj, hat, _⟩ := placeOf_some l.items _ hh
    have hlk' := look_some hl2 HK.out hpl w2.drew rfl
    rw [kv_of] at hlk'
    have hl3 : Lst B w2.drew lb mb (.slice A l.items.length cap) lent l := hl2.same (fun _ _ => rfl)
    have HOWN := hide (own_any hl3)
    have HL2 := hide hl3
    have K2 := hide (show Blk w2.drew w.heap.size #[.bool t, .int .i64 n, .string s] 30 from k2)
    have HB2 := hide hb2.drew
    have HAT := hide hat
    have HPL := hide hpl
    have HH := hide hh
    have HJ := hide hj
    have hlen := HI.out.good.len
    unfold maxItems at hlen
    have j0 : (0 : Int) ≤ (j : Int) := by omega
    have j1 : (j : Int) < (l.items.length : Int) := by omega
    have j2 : (j : Int) < 2048 := by omega
    clear hl2 k2 hh hb2 hA hl3 hpl hat
    go_region_held3 (fun w' => w'.cell? ⟨lb, 2, none⟩ = some (.map (some mb)) ∧ w'.cell? ⟨w.heap.size, 0, none⟩ = some (.bool t) ∧ w'.cell? ⟨w.heap.size, 1, none⟩ = some (.int .i64 n) ∧ w'.cell? ⟨w.heap.size, 2, none⟩ = some (.string s) ∧
        (Instr.lookup 47 (.map (some mb)) (.agg #[.bool t, .int .i64 n, .string s]) true).run Tryd.prog w' = .ok (.tuple #[.int .i64 j, .bool true]) w')
      (first | exact ⟨by assumption, by assumption, by assumption, by assumption, by assumption⟩ | go_keep)
      (first | fail)
    clear hlk'
    go_wp2_with fail
    refine (unhide HOWN).mono ?_
    rintro e w3 ⟨mb3, iv3, rfl, hl3, hs3⟩
    obtain ⟨A3, cap3, hiv3, hc31, hc32, hA3⟩ := hl3.form
    obtain ⟨g, hg, _, _⟩ := hA3 (by omega)
    subst hg
    subst hiv3
    have k3 := hs3.blk HL2.out K2.out (by decide) (by decide)
    obtain ⟨c0, c1, c2, c3, c4, f0, f1, f2, f3, f4⟩ := hl3.cells
    obtain ⟨b0, b1, b2, q0, q1, q2⟩ := k3.three
    obtain ⟨w4, hrun, hi4, hg4, hz4⟩ := (show Idx w3.drew mb3 (placeOf l.items) from hl3.map).del ⟨t, n, s.data.toList⟩ HK.out 0
    rw [kv_of] at hrun
    have nmb : lb ≠ mb3 := hl3.lb_ne_mb
    have nkm : w.heap.size ≠ mb3 := by
      rintro h
      obtain ⟨es, clock, hm⟩ := hl3.map.isMap
      have := k3
      unfold Blk at this
      rw [h, hm] at this
      cases this
    have kl4 : Blk w4 lb (lstCells lb (.slice (some ⟨g, 0, none⟩) l.items.length cap3) mb3 l.next false) 50 := hl3.blk.same (hg4.block lb hl3.blk.lt (fun e => nmb (Option.some.inj e)))
    have row4 : w4.ownsRow B 69 4 (.slice (some ⟨g, 0, none⟩) l.items.length cap3) l.items.length (encItems l.items) := ownsRow_same hl3.row (fun k hk => hg4.block k (ownsRow_lt hl3.row hk).1 (fun e => by
      have hkm : k = mb3 := Option.some.inj e
      obtain ⟨_, _, cs, hcs⟩ := ownsRow_lt hl3.row hk
      obtain ⟨es, clock, hm⟩ := hl3.map.isMap
      unfold Blk at hcs
      rw [hkm, hm] at hcs
      cases hcs))
    obtain ⟨c, hc⟩ : ∃ c, cutL l.items j = c := ⟨_, rfl⟩
    have hcl : c.length = l.items.length - 1 := by rw [← hc]; exact cutL_length _ _ hj
    have hsd : Calls Tryd.prog 31 #[.slice (some ⟨g, 0, none⟩) l.items.length cap3, .int .i64 j, .int .i64 (j + 1)] w4 fun e w' =>
        e = .returned (.slice (some ⟨g, 0, none⟩) c.length cap3) ∧ w'.ownsRow B 69 4 (.slice (some ⟨g, 0, none⟩) c.length cap3) c.length (encItems c) ∧ Turned (fun k => k = g) w4 w' := by
      rw [hcl, ← hc]
      exact SDelete_any w4 B g cap3 j l.items hlen row4 hj
    have HSD := hide hsd
    have hgl : lb ≠ g := by
      rintro rfl
      obtain ⟨_, _, cs, hcs⟩ := ownsRow_lt row4 rfl
      exact absurd (hcs.inj kl4) (by decide)
    have hgm : mb3 ≠ g := by
      rintro rfl
      obtain ⟨_, _, cs, hcs⟩ := ownsRow_lt row4 rfl
      obtain ⟨es, clock, hm⟩ := hi4.isMap
      unfold Blk at hcs
      rw [hm] at hcs
      cases hcs
    have t34 : Turned (fun i => i = lb ∨ i = g ∨ i = mb3) w3.drew w4 := .grown hg4 (fun k hk => .inr (.inr (Option.some.inj hk).symm))
    obtain ⟨d0, d1, d2, d3, d4, g0, g1, g2, g3, g4⟩ := kl4.five
    have KL4 := hide kl4
    have T34 := hide ((Turned.drew (fun i => i = lb ∨ i = g ∨ i = mb3) w3).trans t34)
    have H3 := hide hl3
    have S3 := hide hs3
    have K3 := hide k3
    have I4 := hide hi4
    have HGL := hide hgl
    have HGM := hide hgm
    have NMB := hide nmb
    have HC := hide hc
    have HCL := hide hcl
    have lc : (j : Int) ≤ (c.length : Int) := by omega
    have lcc : (c.length : Int) ≤ (cap3 : Int) := by omega
    have lc2 : (c.length : Int) < 2048 := by omega
    clear hl3 hs3 k3 hi4 hg4 hz4 hA3 kl4 row4 t34 nmb nkm hsd hgl hgm hc hcl
    go_wp2_with fail
    go_still_tail 5, (by kernel_rfl)
    go_wp2_with (go_at_call 31; refine (unhide HSD).mono ?_; rintro e w5 ⟨rfl, hr5, ht5⟩; have k5 := ht5.blk KL4.out HGL.out; obtain ⟨e0, e1, e2, e3, e4, p0, p1, p2, p3, p4⟩ := k5.five; have K5 := hide k5; have R5 := hide hr5; have T5 := hide ht5; clear k5 hr5 ht5; go_upto_region 10 with fail)
    have ha6 : Half B (w5.setCell ⟨lb, 1, none⟩ (.slice (some ⟨g, 0, none⟩) c.length cap3)) lb mb3 g cap3 l.next c j 0 := by
      refine ⟨K5.out.set 1 _, ownsRow_same R5.out (fun k hk => ?_), ?_⟩
      · have : g = k := Option.some.inj hk
        subst this
        exact Below.heap_setCell _ _ _ _ (Ne.symm HGL.out)
      · refine ((I4.out.same (T5.out.block mb3 I4.out.lt HGM.out)).same (Below.heap_setCell _ _ _ _ (Ne.symm NMB.out))).ext (fun x => ?_)
        rw [fAt_start H3.out.good.nodup HAT.out, HC.out]
    have t36 : Turned (fun i => i = lb ∨ i = g ∨ i = mb3) w3 (w5.setCell ⟨lb, 1, none⟩ (.slice (some ⟨g, 0, none⟩) c.length cap3)) :=
      (T34.out.trans (T5.out.mono (fun i hi _ => .inr (.inl hi)))).trans (.setCell _ _ _ (.inl rfl))
    obtain ⟨w6, hw6⟩ : ∃ w6, w5.setCell ⟨lb, 1, none⟩ (.slice (some ⟨g, 0, none⟩) c.length cap3) = w6 := ⟨_, rfl⟩
    rw [hw6] at ha6 t36 ⊢
    clear hw6
    have HA6 := hide ha6
    have T36 := hide t36
    have hck : ∀ y ∈ c.map (·.1), Kok y := by
      rw [← HC.out]
      have hs : (cutL l.items j).Sublist l.items := by
        have := delI_sub l.items ⟨t, n, s.data.toList⟩
        rwa [delI_cut _ _ _ _ H3.out.good.nodup HAT.out] at this
      exact fun y hy => H3.out.keys y ((hs.map (·.1)).subset hy)
    have HCK := hide hck
    have HCN := hide (show (c.map (·.1)).Nodup by rw [← HC.out]; exact cutL_nodup j H3.out.good.nodup)
    clear ha6 t36 hck
    go_loopw [50] (fun v wr => ∃ q : Nat, j + q ≤ c.length ∧ v = .int .i64 q ∧ Hid (Half B wr lb mb3 g cap3 l.next c j q) ∧ Hid (Turned (fun i => i = mb3) w6 wr)) (fun v _ => c.length - (intOf v).toNat)
    case atStart => exact ⟨0, by omega, rfl, HA6, hide (Turned.refl _ _)⟩
    case round =>
      obtain ⟨q, hq, rfl, HA, HT⟩ := hrel
      obtain ⟨c0, c1, c2, c3, c4, f0, f1, f2, f3, f4⟩ := HA.out.blk.five
      by_cases hlt : j + q < c.length
      · obtain ⟨⟨⟨ty, ny, sy⟩, vy⟩, hy⟩ : ∃ y, c[j + q]? = some y := ⟨_, List.getElem?_eq_getElem hlt⟩
        obtain ⟨e0, e1, e2, e3⟩ := encItems_at _ _ _ hy
        obtain ⟨s', hs'⟩ : ∃ s' : ByteArray, (⟨sy.toArray⟩ : ByteArray) = s' := ⟨_, rfl⟩
        have hsy : sy = s'.data.toList := by rw [← hs']
        subst hsy
        have r0 : wr.cell? ⟨g, j * 4 + q * 4, none⟩ = some (.bool ty) := by rw [HA.out.row.cellAt _ (by omega), ← Nat.add_mul]; exact e0
        have r1 : wr.cell? ⟨g, j * 4 + q * 4 + 1, none⟩ = some (.int .i64 ny) := by rw [HA.out.row.cellAt _ (by omega), ← Nat.add_mul]; exact e1
        have r2 : wr.cell? ⟨g, j * 4 + q * 4 + 2, none⟩ = some (.string s') := by rw [HA.out.row.cellAt _ (by omega), ← Nat.add_mul]; exact e2
        have r3 : wr.cell? ⟨g, j * 4 + q * 4 + 3, none⟩ = some (.int .i64 vy) := by rw [HA.out.row.cellAt _ (by omega), ← Nat.add_mul]; exact e3
        have HY := hide hy
        have hl1 : (q : Int) < ((c.length - j : Nat) : Int) := by omega
        have hl2 : (q : Int) < (c.length : Int) - (j : Int) := by omega
        clear hy e0 e1 e2 e3 hs'
        go_wp2_with fail
        have ha8 := HA.out.same (w' := wr.alloc (.cells #[.bool ty, .int .i64 ny, .string s', .int .i64 vy] 69)) (fun k hk => Below.heap_alloc _ _ _ hk)
        have k8 := Blk.new wr #[.bool ty, .int .i64 ny, .string s', .int .i64 vy] 69
        have t8 := HT.out.trans (.alloc _ wr (.cells #[.bool ty, .int .i64 ny, .string s', .int .i64 vy] 69))
        obtain ⟨w8, hw8⟩ : ∃ w8, wr.alloc (.cells #[.bool ty, .int .i64 ny, .string s', .int .i64 vy] 69) = w8 := ⟨_, rfl⟩
        rw [hw8] at ha8 k8 t8 ⊢
        clear hw8
        obtain ⟨c0, c1, c2, c3, c4, f0, f1, f2, f3, f4⟩ := ha8.blk.five
        have b0 : w8.cell? ⟨wr.heap.size, 0, none⟩ = some (.bool ty) := k8.cell 0
        have b1 : w8.cell? ⟨wr.heap.size, 1, none⟩ = some (.int .i64 ny) := k8.cell 1
        have b2 : w8.cell? ⟨wr.heap.size, 2, none⟩ = some (.string s') := k8.cell 2
        obtain ⟨w9, hrun9, hi9, hg9, hz9⟩ := (show Idx w8.drew mb3 (fAt c j q) from ha8.map).put ⟨ty, ny, s'.data.toList⟩ (HCK.out _ (List.mem_map_of_mem (List.mem_of_getElem? HY.out))) ((j : Int) + q)
        rw [kv_of] at hrun9
        have HA9 := hide (ha8.put (y := ⟨ty, ny, s'.data.toList⟩) (v := vy) (w' := w9) ⟨hg9.os, hg9.tape, hg9.output, hg9.size, hg9.block⟩ HCN.out HY.out hi9)
        have T9 := hide (t8.trans ((Turned.drew (fun i => i = mb3) w8).trans (.grown hg9 (fun k hk => (Option.some.inj hk).symm))))
        clear ha8 k8 t8 hi9 hg9 hz9
        go_still_tail 9, (by kernel_rfl)
        go_wp2_with fail
        rw [hrun9]
        go_wp2_with fail
        go_roundw
        case rel => exact ⟨q + 1, by omega, by go_num, HA9, T9⟩
        case measure => simp [intOf]; omega
      · have hqe : q = c.length - j := by omega
        subst hqe
        go_wp2_with fail
        go_ret
        exact del_close HB2.out H3.out S3.out HH.out HAT.out T36.out HT.out (by rw [HC.out]; exact HA.out)
end Go.Proofs.YtmfnonepcipplaaDoor
