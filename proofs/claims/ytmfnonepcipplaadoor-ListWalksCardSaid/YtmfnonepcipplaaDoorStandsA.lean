/-
  The walk of the law's stands: true, and nothing but the list's mark that it is lent has turned.
-/
import Derived.Test.YtmfnonepcipplaaDoorStands
namespace Go.Proofs.YtmfnonepcipplaaDoor
open Go Go.RowKit Convs Lists
attribute [local go_sem] Oper.semAt_some

set_option maxRecDepth 100000 in
set_option maxHeartbeats 4000000 in
theorem stands_any {B : Nat} {w : World} {lb mb : Nat} {iv : Value} {lent : Bool} {rb : Nat} {A : Option Addr} {cap : Nat} {l : Ls} (h : Both B w lb mb iv lent rb A cap l) (hM : ∀ u, Below B w u → Met u) (hsm : Small l) :
    Calls Tryd.prog 9 #[.pointer (some ⟨lb, 0, none⟩), .pointer (some ⟨rb, 0, none⟩)] w fun e w' =>
      e = .returned (.bool true) ∧ Both B w' lb mb iv true rb A cap l ∧ Turned (fun k => k = lb) w w' := by
  have hBl : B ≤ w.heap.size := by have := h.ref.hrb; have := h.ref.blk.lt; omega
  obtain ⟨W0, hW0⟩ : ∃ W0, ((w.alloc (.cells #[.pointer (some ⟨lb, 0, none⟩)] 23)).alloc (.cells #[.pointer (some ⟨rb, 0, none⟩)] 34)).alloc (.cells #[.bool false] 4) = W0 := ⟨_, rfl⟩
  have hb0 : Below w.heap.size w W0 := by rw [← hW0]; exact (below_box2 w _ _).alloc (by simp; omega) _
  have p0 : Blk W0 w.heap.size #[.pointer (some ⟨lb, 0, none⟩)] 23 := by rw [← hW0]; exact ((Blk.new w _ _).alloc _).alloc _
  have p1 : Blk W0 (w.heap.size + 1) #[.pointer (some ⟨rb, 0, none⟩)] 34 := by
    rw [← hW0]
    have := (Blk.new (w.alloc (.cells #[.pointer (some ⟨lb, 0, none⟩)] 23)) #[.pointer (some ⟨rb, 0, none⟩)] 34).alloc (.cells #[.bool false] 4)
    rw [World.size_alloc] at this
    exact this
  have p2 : Blk W0 (w.heap.size + 2) #[.bool false] 4 := by
    rw [← hW0]
    have := Blk.new ((w.alloc (.cells #[.pointer (some ⟨lb, 0, none⟩)] 23)).alloc (.cells #[.pointer (some ⟨rb, 0, none⟩)] 34)) #[.bool false] 4
    rw [World.size_alloc, World.size_alloc] at this
    exact this
  have hbo := h.below hb0
  have HW0 := hide hW0
  have HB0 := hide hb0
  have HBO := hide hbo
  have P0 := hide p0
  have P1 := hide p1
  have P2 := hide p2
  have HM := hide hM
  have HSM := hide hsm
  have HBL := hide hBl
  have HI := hide h
  have HLE := hide (Len_any (hbo.lst.same (w' := W0.drew) (fun _ _ => rfl)))
  have HNE := hide (Next_any (hbo.lst.same (w' := W0.drew) (fun _ _ => rfl)))
  have hq := fun W => eqlNil W lb
  obtain ⟨r0, r1, -, -⟩ := hbo.ref.two
  rw [toQ_length] at r0
  have y0 : W0.drew.cell? ⟨w.heap.size, 0, none⟩ = some (.pointer (some ⟨lb, 0, none⟩)) := p0.cell 0
  have y1 : W0.drew.cell? ⟨w.heap.size + 1, 0, none⟩ = some (.pointer (some ⟨rb, 0, none⟩)) := p1.cell 0
  have s0 : W0.drew.cell? ⟨rb, 0, none⟩ = some (.slice A l.items.length cap) := r0
  have s1 : W0.drew.cell? ⟨rb, 1, none⟩ = some (.int .i64 l.next) := r1
  clear hW0 hb0 p0 p1 p2 hbo hM hsm hBl h
  refine (callsIn_wide (n := 6)).1 ?_
  refine callsIn_of_wp_marks Tryd.func9 rfl trivial ?_ rfl
  refine wpIn_wide.2 ?_
  simp only [Tryd.ntmps9, List.size_toArray, List.length_cons, List.length_nil, Nat.reduceAdd, Nat.reduceSub, Array.replicate_succ, Array.replicate_zero, List.push_toArray, List.append_toArray, List.nil_append, List.cons_append]
  go_upto_region 1 with fail
  rw [HW0.out]
  go_region_held3 (fun u => u.cell? ⟨w.heap.size, 0, none⟩ = some (.pointer (some ⟨lb, 0, none⟩)) ∧ u.cell? ⟨w.heap.size + 1, 0, none⟩ = some (.pointer (some ⟨rb, 0, none⟩)) ∧ u.cell? ⟨rb, 0, none⟩ = some (.slice A l.items.length cap) ∧ u.cell? ⟨rb, 1, none⟩ = some (.int .i64 l.next)) (first | exact ⟨y0, y1, s0, s1⟩)
    (first | (go_at_call 15; with_reducible refine (unhide HLE).mono ?_; rintro e w11 ⟨rfl, rfl⟩) | (go_at_call 16; with_reducible refine (unhide HNE).mono ?_; rintro e w11 ⟨rfl, rfl⟩))
  clear y0 y1 s0 s1 r0 r1 HLE HNE hq
  go_split_ands
  go_upto_region 4 with fail
  have st8 : Stood B (W0.alloc (.cells #[.int .i64 0] 3)).drew lb mb iv lent rb A cap l w.heap.size (w.heap.size + 1) (w.heap.size + 2) W0.heap.size 0 := by
    have hb := below_box W0 (.cells #[.int .i64 0] 3)
    have hb' : Below W0.heap.size W0 (W0.alloc (.cells #[.int .i64 0] 3)).drew := hb.drew
    exact ⟨HBO.out.below hb', P0.out.below hb' P0.out.lt, P1.out.below hb' P1.out.lt, P2.out.below hb' P2.out.lt, Blk.new W0 _ _⟩
  have hb8 : Below w.heap.size w (W0.alloc (.cells #[.int .i64 0] 3)).drew := (HB0.out.alloc HB0.out.size _).drew
  obtain ⟨c3, hc3⟩ : ∃ c3, W0.heap.size = c3 := ⟨_, rfl⟩
  obtain ⟨c0, hc0⟩ : ∃ c0, w.heap.size = c0 := ⟨_, rfl⟩
  have hc2 : w.heap.size + 1 + 1 = c0 + 2 := by omega
  obtain ⟨V8, hV8⟩ : ∃ V8, (W0.alloc (.cells #[.int .i64 0] 3)).drew = V8 := ⟨_, rfl⟩
  have hc30 : c0 + 3 = c3 := by rw [← hc3, ← HW0.out]; simp; omega
  rw [hc2, hc3, hc0, hV8]
  rw [hc3, hc0, hV8] at st8
  rw [hV8] at hb8
  have x0 : V8.cell? ⟨c0, 0, none⟩ = some (.pointer (some ⟨lb, 0, none⟩)) := st8.p0.cell 0
  have ST8 := hide st8
  have HB8 := hide hb8
  have HC0 := hide hc0
  have HC30 := hide hc30
  clear st8 hb8 hc2 hc3 hc0 hc30 hV8 HBO P0 P1 P2 HW0 HB0
  go_upto_region 5 with (first | (go_at_call 11; with_reducible refine (All_any _ _).mono ?_; rintro e v9 ⟨rfl, rfl⟩))
  have st9 := ST8.out.below (below_box V8 (.cells #[.pointer (some ⟨lb, 0, none⟩)] 23))
  have kb9 := Blk.new V8 #[.pointer (some ⟨lb, 0, none⟩)] 23
  have hb9w := HB8.out.alloc HB8.out.size (.cells #[.pointer (some ⟨lb, 0, none⟩)] 23)
  obtain ⟨b9, hb9⟩ : ∃ b9, V8.heap.size = b9 := ⟨_, rfl⟩
  obtain ⟨V9, hV9⟩ : ∃ V9, V8.alloc (.cells #[.pointer (some ⟨lb, 0, none⟩)] 23) = V9 := ⟨_, rfl⟩
  rw [hb9] at kb9 ⊢
  rw [hV9] at kb9 st9 hb9w ⊢
  have n9 : b9 ≠ lb := by
    rintro rfl
    exact absurd (kb9.inj st9.both.lst.blk) (by decide)
  have st9l := st9.lend
  have nrow : ∀ g, iv.ownBlock = some g → g < V9.heap.size := fun g hg => (ownsRow_lt st9.both.lst.row hg).1
  have n3 : c3 ≠ lb := by
    rintro rfl
    exact absurd (st9.p3.inj st9.both.lst.blk) (by decide)
  have ST9 := hide st9
  have ST9L := hide st9l
  have KB9 := hide kb9
  have N9 := hide n9
  have N3 := hide n3
  have NROW := hide nrow
  have HB9 := hide hb9w
  clear st9 st9l kb9 n9 n3 nrow hb9w hb9 hV9 x0 ST8 HB8
  refine (wpIn_wide (n := 6)).1 ?_
  refine name_act fun a0 ha0 => ?_
  refine wpIn_rangeFunc_gives (xs := l.items) (T := lend lb) (Kp := RowStays iv) (encs := encsI) rfl (by omega) (gf := 25) (lb := #[.pointer (some ⟨b9, 0, none⟩)]) (by rw [ha0]; rfl) trivial (enters_of Tryd.func25 (by kernel_rfl) rfl)
    (allGives 5 ST9.out.both.lst (KB9.out.cell 0) N9.out) (fun h k => rowStays_trans h k) (fun W r o hr => rowStays_put NROW.out W r o hr) (fun _ => rfl) (fun W k hk => lend_far lb W k (by have := ST9.out.both.lst.blk.lt; omega))
    (fun pre W => Blk W c3 #[.int .i64 (pre.length : Nat)] 3 ∧ Turned (fun k => k = c3) (lend lb V9) W) (fun _ _ _ => False)
    (by
      rw [← lend_size lb V9]
      rintro pre A B row ⟨h1, h2⟩ hg hr
      exact ⟨blk_own h1 hg hr, turned_own h2 hg hr⟩) (fun _ _ _ _ _ hs _ _ => hs)
    (fun W hW => ⟨(ST9L.out.p3.same ((lend_below (lb := lb) hW (fun _ => False)).block c3 ST9L.out.p3.lt id) : Blk (lend lb W) c3 #[.int .i64 0] _), lend_below hW _⟩)
    (fun x a' W => ∃ kb, V9.heap.size ≤ kb ∧ Blk W kb #[.bool x.1.t, .int .i64 x.1.n, .string ⟨x.1.s.toArray⟩] 30 ∧ a' = { tmps := (((a0.tmps.setIfInBounds 42 (kv x.1)).setIfInBounds 43 (.int .i64 x.2)).setIfInBounds 6 (.pointer (some ⟨kb, 0, none⟩))).setIfInBounds 7 (.int .i64 x.2), defers := [] })
    (fun x a' _ A B row hs hg hr => by obtain ⟨kb, h1, h2, h3⟩ := hs; exact ⟨kb, h1, blk_own h2 hg hr, h3⟩)
    ?assign ?body ?done ?stop
  case stop =>
    intro D c pre W _ _ h _
    exact h.elim
  case assign =>
    rintro r pre ⟨⟨ty, ny, sy⟩, vy⟩ W K ⟨h1, h2⟩ hK
    have hsz9 : V9.heap.size ≤ W.heap.size := by have := h2.size; rwa [lend_size] at this
    have HK := hide hK
    have H1 := hide h1
    have H2 := hide h2
    clear hK h1 h2
    subst ha0
    unfold encsI kv
    gi_wp2
    exact HK.out _ _ ((KeepsOthers.alloc _ _).from _) ⟨by simp, fun g hg => Below.heap_alloc _ _ _ (Nat.lt_of_lt_of_le (NROW.out g hg) hsz9)⟩ ⟨H1.out.alloc _, H2.out.trans (.alloc _ _ _)⟩ ⟨W.heap.size, hsz9, Blk.new W _ _, rfl⟩
  case done =>
    rintro D W hD ⟨h1, h2⟩ hdef
    have st := ST9L.out.other h2 h1
    have tw : Turned (fun k => k = lb) w W := ((Turned.of_below HB9.out).trans (Turned.setCell (S := fun k => k = lb) V9 ⟨lb, 4, none⟩ (.bool true) rfl)).then h2 (fun k hk hl => by
      have hk' : k = c3 := hk
      have := HC0.out
      have := HC30.out
      omega)
    have hDw : w.heap.size ≤ D := Nat.le_trans HB9.out.size hD
    have hA1 := At_out st.both.lst (l.items.length : Int) (.inr (Int.le_refl _))
    have z0 : W.cell? ⟨c0, 0, none⟩ = some (.pointer (some ⟨lb, 0, none⟩)) := st.p0.cell 0
    have z3 : W.cell? ⟨c3, 0, none⟩ = some (.int .i64 (l.items.length : Nat)) := st.p3.cell 0
    have HA1 := hide hA1
    have ST := hide st
    have TW := hide tw
    have HDEF := hide hdef
    have HDW := hide hDw
    subst ha0
    clear h1 h2 hdef st tw hA1 hD hDw
    go_upto_region 15 with (first | (go_at_call 23; refine (unhide HA1).mono ?_; rintro e W1 ⟨rfl, hb1⟩))
    have hb2 := hb1.alloc hb1.size (.cells #[.bool false, .int .i64 0, .string ⟨#[]⟩] 30)
    obtain ⟨b13, hb13⟩ : ∃ b13, W1.heap.size = b13 := ⟨_, rfl⟩
    obtain ⟨W2, hW2⟩ : ∃ W2, W1.alloc (.cells #[.bool false, .int .i64 0, .string ⟨#[]⟩] 30) = W2 := ⟨_, rfl⟩
    rw [hW2] at hb2 ⊢
    rw [hb13]
    have st2 := ST.out.below hb2
    have hA2 := At_out st2.both.lst (-1) (.inl (by decide))
    have z0 : W2.cell? ⟨c0, 0, none⟩ = some (.pointer (some ⟨lb, 0, none⟩)) := st2.p0.cell 0
    have HA2 := hide hA2
    have HB2 := hide hb2
    have ST2 := hide st2
    clear hb1 hb2 st2 hA2 hW2 hb13 HA1
    go_upto_region 16 with (first | (go_at_call 23; refine (unhide HA2).mono ?_; rintro e W3 ⟨rfl, hb3⟩))
    have hb4 := hb3.alloc hb3.size (.cells #[.bool false, .int .i64 0, .string ⟨#[]⟩] 30)
    obtain ⟨b16, hb16⟩ : ∃ b16, W3.heap.size = b16 := ⟨_, rfl⟩
    obtain ⟨W4, hW4⟩ : ∃ W4, W3.alloc (.cells #[.bool false, .int .i64 0, .string ⟨#[]⟩] 30) = W4 := ⟨_, rfl⟩
    rw [hW4] at hb4 ⊢
    rw [hb16]
    have st4 := ST2.out.below hb4
    have hbW := HB2.out.trans (hb4.mono HB2.out.size)
    have z1 : W4.cell? ⟨c0 + 1, 0, none⟩ = some (.pointer (some ⟨rb, 0, none⟩)) := st4.p1.cell 0
    have z2 : W4.cell? ⟨c0 + 2, 0, none⟩ = some (.bool false) := st4.p2.cell 0
    have f2 : W4.frozen? ⟨c0 + 2, 0, none⟩ = false := st4.p2.free 0
    have z3 : W4.cell? ⟨c3, 0, none⟩ = some (.int .i64 (l.items.length : Nat)) := st4.p3.cell 0
    obtain ⟨r0, r1, -, -⟩ := st4.both.ref.two
    rw [toQ_length] at r0
    have ST4 := hide st4
    have HBW := hide hbW
    clear hb3 hb4 st4 hbW hW4 hb16 HA2
    go_still_tail 15, (by kernel_rfl)
    go_wp2
    have n2 : c0 + 2 ≠ D := fun e => by
      have h1 := ST.out.p2
      unfold Blk at h1
      rw [e, HDEF.out] at h1
      cases h1
    have kr := ST4.out.p2.set 0 (.bool true)
    refine leaves_marks [D] _ (by simp) (fun E hE => ?_) (fun w' h1 h2 h3 h4 h5 => ?_)
    · obtain rfl : E = D := by simpa using hE
      show (World.setCell W4 ⟨c0 + 2, 0, none⟩ (.bool true)).heap[E]? = _
      rw [Below.heap_setCell W4 ⟨c0 + 2, 0, none⟩ (.bool true) E (Ne.symm n2)]
      exact (HBW.out.block E (Array.getElem?_eq_some_iff.1 HDEF.out).1).trans HDEF.out
    · have k11 : Blk w' (c0 + 2) #[.bool true] 4 := kr.same (h1 _ (by simpa using n2))
      have r5 := k11.cell 0
      refine ⟨.bool true, ?_, rfl, ?_⟩
      · simp [results, Tryd.results9, go_sem, r5]
      · have hD0 := HDW.out
        have hc0 := HC0.out
        have tq : Turned (fun k => k = c0 + 2 ∨ k = D) W4 w' := ⟨h3, h4, h5, by rw [h2]; simp [World.setCell], fun k hk hs => by
          rw [h1 k (by simp; exact fun e => hs (.inr e))]
          exact Below.heap_setCell W4 ⟨c0 + 2, 0, none⟩ (.bool true) k (fun e => hs (.inl e))⟩
        refine ⟨⟨ST4.out.both.lst.same fun k hk => tq.block k (ST4.out.both.lst.fp_lt hk) ?_, ST4.out.both.ref.same fun k hk => tq.block k (ST4.out.both.ref.fp hk).1 ?_⟩, (TW.out.trans (.of_below HBW.out)).then tq (fun k hk hl => ?_)⟩
        · rintro (rfl | rfl)
          · exact ST4.out.both.lst.apart ST4.out.p2 (by decide) (by decide) hk
          · exact ST4.out.both.lst.not_mark ((HBW.out.block k (Array.getElem?_eq_some_iff.1 HDEF.out).1).trans HDEF.out) hk
        · rintro (rfl | rfl)
          · exact ST4.out.both.ref.apart ST4.out.p2 (by decide) (by decide) hk
          · obtain ⟨_, _, cs, T, hb, _⟩ := ST4.out.both.ref.fp hk
            exact cells_not_mark hb ((HBW.out.block k (Array.getElem?_eq_some_iff.1 HDEF.out).1).trans HDEF.out) rfl
        · rcases hk with hk | hk <;> omega
  case body =>
    rintro r pre ⟨⟨ty, ny, sy⟩, vy⟩ a' W hr0 ⟨rr, hrr⟩ ⟨h1, h2⟩ ⟨kb, hkb0, hkb, rfl⟩ hpre
    have hat := pre_at hpre
    obtain ⟨s', hs'⟩ : ∃ s' : ByteArray, (⟨sy.toArray⟩ : ByteArray) = s' := ⟨_, rfl⟩
    have hsy : sy = s'.data.toList := by rw [← hs']
    subst hsy
    have hkm : (⟨ty, ny, s'.data.toList⟩ : Lists.K) ∈ l.keys := by
      unfold Ls.keys
      exact List.mem_map_of_mem (List.mem_of_getElem? hat)
    have hko := ST9.out.both.lst.keys _ hkm
    have hno := ST9.out.both.lst.good.norm _ hkm
    have hsz : s'.size ≤ 281474976710656 := by have := HSM.out _ hkm; simp only at this; rwa [← Lib.size_eq] at this
    have hln := (List.getElem?_eq_some_iff.1 hat).1
    have hl48 := ST9.out.both.lst.good.len
    unfold maxItems at hl48
    have st := ST9L.out.other h2 h1
    have hatq : (toQ l.items)[pre.length]? = some (⟨ty, ny, s'.data.toList⟩, numQ vy) := by unfold toQ; rw [List.getElem?_map, hat]; rfl
    obtain ⟨g, o, hA, e0, e1, e2, e3, e4, -⟩ := (RowAt.of_own st.both.ref.row).cells hatq
    simp only [numQ] at e0 e1 e2 e3 e4
    subst hA
    obtain ⟨k0, k1, k2, -⟩ := hkb.three
    have heq := fun W => key_equal W ⟨ty, ny, s'.data.toList⟩ ⟨ty, ny, s'.data.toList⟩ hko hko
    rw [kv_of] at heq
    simp only [decide_true] at heq
    obtain ⟨r0, r1, -, -⟩ := st.both.ref.two
    rw [toQ_length] at r0
    have z0 : W.cell? ⟨c0, 0, none⟩ = some (.pointer (some ⟨lb, 0, none⟩)) := st.p0.cell 0
    have z1 : W.cell? ⟨c0 + 1, 0, none⟩ = some (.pointer (some ⟨rb, 0, none⟩)) := st.p1.cell 0
    have z3 : W.cell? ⟨c3, 0, none⟩ = some (.int .i64 (pre.length : Nat)) := st.p3.cell 0
    have l1 : (pre.length : Int) < (l.items.length : Int) := by omega
    have l0 : (0 : Int) ≤ (pre.length : Int) := by omega
    have l2 : decide ((l.items.length : Int) ≤ (pre.length : Int)) = false := by simp; omega
    have l3 : ((l.items.length : Int) ≤ (pre.length : Int)) = False := by simp; omega
    have ST := hide st
    have KB := hide hkb
    have H2 := hide h2
    have HAT := hide hat
    have HKO := hide hko
    have HNO := hide hno
    have HSZ := hide hsz
    have HL48 := hide hl48
    clear h1 h2 hkb hat hkm hko hno hsz st hatq hpre hrr hln hl48 hs'
    subst ha0
    simp only [List.setIfInBounds_toArray, List.set_cons_succ, List.set_cons_zero]
    gi_upto_region 7 with fail
    refine wpIn_region_quiet_round (by kernel_rfl) (by kernel_rfl) (by kernel_rfl) ?_
    repeat (gi_big_quiet_step (fail))
    refine wpQuietIn_nil ?_
    intro _ hw'
    obtain ⟨nq, hw''⟩ := hw'
    subst hw''
    have hbq : Below W.heap.size W (W.drewN nq) := ⟨rfl, rfl, rfl, Nat.le_refl _, fun _ _ => rfl⟩
    have stq := ST.out.below hbq
    have hA := At_in stq.both.lst pre.length _ _ HAT.out
    rw [kv_of] at hA
    have kbq : Blk (W.drewN nq) kb #[.bool ty, .int .i64 ny, .string s'] 30 := KB.out
    have y0 : (W.drewN nq).cell? ⟨c0, 0, none⟩ = some (.pointer (some ⟨lb, 0, none⟩)) := z0
    have y3 : (W.drewN nq).cell? ⟨c3, 0, none⟩ = some (.int .i64 (pre.length : Nat)) := z3
    have HA := hide hA
    have STQ := hide stq
    have KBQ := hide kbq
    have TQ := hide (Turned.of_below (S := fun k => k = c3) hbq)
    obtain ⟨wq, hwq⟩ : ∃ wq, W.drewN nq = wq := ⟨_, rfl⟩
    rw [hwq] at y0 y3 HA STQ KBQ TQ ⊢
    clear hwq hbq stq hA kbq z0 z1 z3 r0 r1 e0 e1 e2 e3 e4 k0 k1 k2
    gi_upto_region 10 with (first | (refine ⟨trivial, (fun h => nomatch h), ?_⟩; refine (CallsIn.inRound r (callsIn_wide.2 (unhide HA))).mono ?_; rintro e W5 ⟨rfl, hb5⟩) | (refine ⟨trivial, ?_⟩; refine (CallsIn.inRound r (callsIn_wide.2 (unhide HA))).mono ?_; rintro e W5 ⟨rfl, hb5⟩))
    have hb6 := hb5.alloc hb5.size (.cells #[.bool ty, .int .i64 ny, .string s'] 30)
    have k8 := Blk.new W5 #[.bool ty, .int .i64 ny, .string s'] 30
    obtain ⟨b8, hb8⟩ : ∃ b8, W5.heap.size = b8 := ⟨_, rfl⟩
    obtain ⟨W6, hW6⟩ : ∃ W6, W5.alloc (.cells #[.bool ty, .int .i64 ny, .string s'] 30) = W6 := ⟨_, rfl⟩
    rw [hb8] at k8 ⊢
    rw [hW6] at hb6 k8 ⊢
    have st6 := STQ.out.below hb6
    have kb6 := KBQ.out.below hb6 KBQ.out.lt
    have hBW : Below B w W6 := by
      have h1 : Below B w V9 := HB9.out.mono HBL.out
      have h2 : Below B w (lend lb V9) := h1.setCell (p := ⟨lb, 4, none⟩) HI.out.lst.hlb (.bool true)
      have h3 : Below B w wq := by
        have := ((H2.out.trans TQ.out)).below (B := B) (by rw [lend_size]; exact Nat.le_trans HBL.out HB9.out.size) (fun k hk => by
          have hk' : k = c3 := hk
          have a1 := HC0.out
          have a2 := HC30.out
          have a3 := HBL.out
          omega)
        exact h2.trans this
      exact h3.trans (hb6.mono (by have := h3.size; have a3 := HBL.out; omega))
    have hg := Get_any st6.both.lst (HM.out _ hBW) ty ny s' HKO.out HSZ.out
    rw [HNO.out] at hg
    have hgn : getN l.items ⟨ty, ny, s'.data.toList⟩ = (vy, true) := by
      have h1 := getI_at l.items ST9.out.both.lst.good.nodup _ _ HAT.out
      simp only at h1
      unfold getN hasI
      rw [h1]
      rfl
    rw [hgn] at hg
    obtain ⟨k0, k1, k2, -⟩ := kb6.three
    have y0 : W6.cell? ⟨c0, 0, none⟩ = some (.pointer (some ⟨lb, 0, none⟩)) := st6.p0.cell 0
    have HG := hide hg
    have ST6 := hide st6
    have KB6 := hide kb6
    have K8 := hide k8
    have T6 := hide (TQ.out.trans (.of_below hb6))
    clear hb5 hb6 k8 st6 kb6 hBW hg hgn hb8 hW6 y3
    gi_upto_region 11 with (first | (refine ⟨trivial, (fun h => nomatch h), ?_⟩; refine (CallsIn.inRound r (callsIn_wide.2 (unhide HG))).mono ?_; rintro e W7 ⟨rfl, hb7⟩) | (refine ⟨trivial, ?_⟩; refine (CallsIn.inRound r (callsIn_wide.2 (unhide HG))).mono ?_; rintro e W7 ⟨rfl, hb7⟩))
    have st7 := ST6.out.below hb7
    have kb7 := KB6.out.below hb7 KB6.out.lt
    have k87 := K8.out.below hb7 K8.out.lt
    obtain ⟨k0, k1, k2, -⟩ := kb7.three
    obtain ⟨d0, d1, d2, -⟩ := k87.three
    have y3 : W7.cell? ⟨c3, 0, none⟩ = some (.int .i64 (pre.length : Nat)) := st7.p3.cell 0
    have f3 : W7.frozen? ⟨c3, 0, none⟩ = false := st7.p3.free 0
    have T7 := hide (T6.out.trans (.of_below hb7))
    have ST7 := hide st7
    have hi2 : (pre.length : Int) + 1 ≤ 9223372036854775807 := by
      have := HL48.out
      omega
    clear hb7 st7 kb7 k87
    gi_wp2
    have tw : Turned (fun k => k = c3) W (W7.setCell ⟨c3, 0, none⟩ (.int .i64 ((pre.length : Int) + 1))) := T7.out.trans (.setCell _ _ _ rfl)
    refine ⟨keeps_of_turned _ tw (fun k hk => ⟨_, _, hk ▸ ST.out.p3⟩), ⟨tw.size, fun g' hg' => ?_⟩, ?_, H2.out.trans tw⟩
    · obtain ⟨l1, _, cs, hcs⟩ := ownsRow_lt ST.out.both.lst.row hg'
      exact tw.block g' l1 (fun e => by
        have e' : g' = c3 := e
        subst e'
        exact absurd (hcs.inj ST.out.p3) (by decide))
    · have hbd := ST7.out.p3.set 0 (.int .i64 ((pre.length : Int) + 1))
      rw [List.length_append, List.length_singleton]
      exact hbd
end Go.Proofs.YtmfnonepcipplaaDoor
