/-
  ListWalks: for every script, the law's function returns true, and nothing below its own memory turns.
-/
import Derived.Test.YtmfnonepcipplaaDoorStandsA
import Derived.Test.YtmfnonepcipplaaDoorLAlive
import Derived.Test.YtmfnonepcipplaaDoorLRangeW
namespace Go.Proofs.YtmfnonepcipplaaDoor
open Go Go.RowKit Convs Lists
attribute [local go_sem] Oper.semAt_some

theorem Turned.fine {S : Nat → Prop} {B : Nat} {w w' : World} (h : Turned S w w') (hB : B ≤ w.heap.size) (hS : ∀ k, S k → B ≤ k) : Below B w w' := h.below hB hS
theorem Both.own_ge {B : Nat} {w : World} {lb mb : Nat} {iv : Value} {lent : Bool} {rb : Nat} {A : Option Addr} {cap : Nat} {l : Ls} (h : Both B w lb mb iv lent rb A cap l) {k : Nat} (hk : k = rb ∨ Lst.own lb mb iv lent k) : B ≤ k := by
  rcases hk with rfl | rfl | ⟨_, hk | rfl⟩
  · exact h.ref.hrb
  · exact h.lst.hlb
  · exact (ownsRow_lt h.lst.row hk).2.1
  · exact h.lst.hmb
theorem Both.size {B : Nat} {w : World} {lb mb : Nat} {iv : Value} {lent : Bool} {rb : Nat} {A : Option Addr} {cap : Nat} {l : Ls} (h : Both B w lb mb iv lent rb A cap l) : B ≤ w.heap.size := by
  have h1 := h.ref.hrb
  have h2 := h.ref.blk.lt
  omega
/-- What a call on both does not turn. -/
theorem DPost.keep {B : Nat} {w : World} {lb mb : Nat} {iv : Value} {lent : Bool} {rb : Nat} {A : Option Addr} {cap : Nat} {l l' : Ls} {w' : World} (h : Both B w lb mb iv lent rb A cap l) (hd : DPost B w lb mb iv lent rb l' w') {b : Nat} {cs : Array Value} {T : TypeId} (hb : Blk w b cs T)
    (h1 : T ≠ 50) (h2 : T ≠ 69) (h3 : T ≠ 27) : Blk w' b cs T := by
  obtain ⟨_, _, _, _, _, _, ht, _, _⟩ := hd
  refine hb.same (ht.block b hb.lt ?_)
  rintro (rfl | hk)
  · exact h3 (hb.inj h.ref.blk)
  · exact h.lst.apart hb h1 h2 (own_false hk)
/-- Between two calls: both lists, the box of the list's pointer, and that nothing below has turned. -/
structure Wk (w : World) (lb bl rb : Nat) (wr : World) (mb : Nat) (iv : Value) (lent : Bool) (A : Option Addr) (cap : Nat) (l : Ls) : Prop where
  below : Below w.heap.size w wr
  both : Both w.heap.size wr lb mb iv lent rb A cap l
  small : Small l
  box : Blk wr bl #[.pointer (some ⟨lb, 0, none⟩)] 23
theorem Wk.later {w : World} {lb bl rb : Nat} {wr : World} {mb : Nat} {iv : Value} {lent : Bool} {A : Option Addr} {cap : Nat} {l : Ls} (h : Wk w lb bl rb wr mb iv lent A cap l) {w' : World} (hb : Below wr.heap.size wr w') : Wk w lb bl rb w' mb iv lent A cap l :=
  ⟨h.below.trans (hb.mono h.both.size), h.both.below hb, h.small, h.box.below hb h.box.lt⟩
theorem Wk.does {w : World} {lb bl rb : Nat} {wr : World} {mb : Nat} {iv : Value} {lent : Bool} {A : Option Addr} {cap : Nat} {l : Ls} (h : Wk w lb bl rb wr mb iv lent A cap l) {l' : Ls} {w' : World} (hd : DPost w.heap.size wr lb mb iv lent rb l' w') (hs : Small l') :
    ∃ mb' iv' lent' A' cap', Wk w lb bl rb w' mb' iv' lent' A' cap' l' := by
  have hk := DPost.keep h.both hd h.box (by decide) (by decide) (by decide)
  obtain ⟨mb', iv', lent', A', cap', h1, h2, _, _⟩ := hd
  exact ⟨mb', iv', lent', A', cap', h.below.trans (h2.below h.both.size (fun k hk => h.both.own_ge hk)), h1, hs, hk⟩

theorem Both.grown {B : Nat} {W : World} {lb mb : Nat} {iv : Value} {lent : Bool} {rb : Nat} {A : Option Addr} {cap : Nat} {l : Ls} (h : Both B W lb mb iv lent rb A cap l) {W' : World} {row : Option Nat} (hg : W.grownBy W' row)
    (hr : ∀ r, row = some r → ∃ lp : Loop, W.heap[r]? = some (.loop lp)) : Both B W' lb mb iv lent rb A cap l := by
  refine ⟨h.lst.same fun k hk => hg.block k (h.lst.fp_lt hk) (fun e => ?_), h.ref.same fun k hk => hg.block k (h.ref.fp hk).1 (fun e => ?_)⟩
  · obtain ⟨lp, hlp⟩ := hr k e.symm
    rcases hk with rfl | ⟨_, hk | rfl⟩
    · have hb := h.lst.blk
      unfold Blk at hb
      rw [hlp] at hb
      cases hb
    · obtain ⟨_, _, cs, hcs⟩ := ownsRow_lt h.lst.row hk
      unfold Blk at hcs
      rw [hlp] at hcs
      cases hcs
    · obtain ⟨es, clock, hm⟩ := h.lst.map.isMap
      rw [hm] at hlp
      cases hlp
  · obtain ⟨lp, hlp⟩ := hr k e.symm
    obtain ⟨_, _, cs, T, hb, _⟩ := h.ref.fp hk
    unfold Blk at hb
    rw [hlp] at hb
    cases hb
theorem wpIn_post_block {F : Fence} {n : Nat} {P : Program} {C : Code} {Q : Exit → Act → World → Prop} {a : Act} {w : World} {b : Nat} (R : Act → World → Prop) (h : C.wpIn F n P (fun e a w => (e = .normal ∨ e = .exit b) ∧ R a w) a w) (hR : ∀ a w, R a w → Q .normal a w) : C.wpIn F n P (Exit.inBlock b Q) a w :=
  Code.wpIn_mono (fun e a w hq => by
    obtain ⟨rfl | rfl, hr⟩ := hq
    · exact hR a w hr
    · simp only [Exit.inBlock, if_true]
      exact hR a w hr) h
theorem Both.lend {B : Nat} {W : World} {lb mb : Nat} {iv : Value} {lent : Bool} {rb : Nat} {A : Option Addr} {cap : Nat} {l : Ls} (h : Both B W lb mb iv lent rb A cap l) : Both B (Proofs.YtmfnonepcipplaaDoor.lend lb W) lb mb iv true rb A cap l := by
  have hrow : ∀ k, iv.ownBlock = some k → k ≠ lb := by
    rintro k hk rfl
    obtain ⟨_, _, cs, hcs⟩ := ownsRow_lt h.lst.row hk
    exact absurd (hcs.inj h.lst.blk) (by decide)
  refine ⟨⟨h.lst.blk.set 4 (.bool true), ownsRow_same h.lst.row (fun k hk => Below.heap_setCell _ _ _ _ (hrow k hk)), h.lst.map.same (Below.heap_setCell _ _ _ _ (Ne.symm h.lst.lb_ne_mb)), h.lst.good, h.lst.keys, h.lst.hlb, h.lst.hmb⟩, h.ref.same fun k hk => lend_far lb W k (fun e => ?_)⟩
  subst e
  obtain ⟨_, _, cs, T, hb, hT⟩ := h.ref.fp hk
  have := hb.inj h.lst.blk
  subst this
  rcases hT with hT | hT <;> exact absurd hT (by decide)
/-- Between two rounds of the walk: nothing has turned since it began but the list's header, the document's header and the count; both lists stand alike, and the list is lent. -/
structure Rd (B : Nat) (V W : World) (lb rb cn i : Nat) : Prop where
  turned : Turned (fun k => k = rb ∨ k = lb ∨ k = cn) V W
  count : Blk W cn #[.int .i64 i] 3
  both : ∃ mb iv A cap l, Both B W lb mb iv true rb A cap l ∧ Small l
/-- In the middle of a round, lent or not. -/
structure RdL (B : Nat) (V W : World) (lb rb cn i : Nat) : Prop where
  turned : Turned (fun k => k = rb ∨ k = lb ∨ k = cn) V W
  count : Blk W cn #[.int .i64 i] 3
  both : ∃ mb iv lent A cap l, Both B W lb mb iv lent rb A cap l ∧ Small l
theorem Rd.any {B : Nat} {V W : World} {lb rb cn i : Nat} (h : Rd B V W lb rb cn i) : RdL B V W lb rb cn i := by
  obtain ⟨mb, iv, A, cap, l, hb, hs⟩ := h.both
  exact ⟨h.turned, h.count, mb, iv, true, A, cap, l, hb, hs⟩
theorem Rd.grown {B : Nat} {V W : World} {lb rb cn i : Nat} (h : Rd B V W lb rb cn i) {W' : World} {row : Option Nat} (hg : W.grownBy W' row) (hr : ∀ r, row = some r → V.heap.size ≤ r ∧ ∃ lp : Loop, W.heap[r]? = some (.loop lp)) : Rd B V W' lb rb cn i := by
  have hr' : ∀ r, row = some r → V.heap.size ≤ r ∧ ∃ o : Obj, W.heap[r]? = some o ∧ o.isCells = false := fun r e => by
    obtain ⟨h1, lp, h2⟩ := hr r e
    exact ⟨h1, _, h2, rfl⟩
  obtain ⟨mb, iv, A, cap, l, hb, hs⟩ := h.both
  exact ⟨turned_own h.turned hg hr', blk_own h.count hg hr', mb, iv, A, cap, l, hb.grown hg (fun r e => (hr r e).2), hs⟩

set_option maxRecDepth 100000 in
set_option maxHeartbeats 4000000 in
theorem ListWalks_walk (v0 v1 : Value) (lv : Int) (A : Option Addr) (cnt cap : Nat) (hv : v0 = .slice A cnt cap) (Aw : Option Addr) (cntw capw : Nat) (hv1 : v1 = .slice Aw cntw capw) (w : World) (hM : Met w) (hcn : cnt ≤ maxLen) (_ : cntw ≤ maxLen) (hlv0 : 0 ≤ lv) (hlv1 : lv ≤ 255)
    (hA : ∀ j, j < cnt → ∃ (ab ao : Nat) (kd nn : Int) (t : Bool) (n : Int) (s : ByteArray), A = some ⟨ab, ao, none⟩ ∧ w.cell? ⟨ab, ao + j * 5, none⟩ = some (.int .i64 kd) ∧ w.cell? ⟨ab, ao + j * 5 + 1, none⟩ = some (.int .i64 nn) ∧ w.cell? ⟨ab, ao + j * 5 + 2, none⟩ = some (.bool t) ∧
      w.cell? ⟨ab, ao + j * 5 + 3, none⟩ = some (.int .i64 n) ∧ w.cell? ⟨ab, ao + j * 5 + 4, none⟩ = some (.string s) ∧ Kok ⟨t, n, s.data.toList⟩ ∧ s.size ≤ 281474976710656 ∧ -9223372036854775808 ≤ kd ∧ kd ≤ 9223372036854775807)
    (hAw : ∀ j, j < cntw → ∃ (ab ao : Nat) (kd nn : Int) (t : Bool) (n : Int) (s : ByteArray), Aw = some ⟨ab, ao, none⟩ ∧ w.cell? ⟨ab, ao + j * 5, none⟩ = some (.int .i64 kd) ∧ w.cell? ⟨ab, ao + j * 5 + 1, none⟩ = some (.int .i64 nn) ∧ w.cell? ⟨ab, ao + j * 5 + 2, none⟩ = some (.bool t) ∧
      w.cell? ⟨ab, ao + j * 5 + 3, none⟩ = some (.int .i64 n) ∧ w.cell? ⟨ab, ao + j * 5 + 4, none⟩ = some (.string s) ∧ Kok ⟨t, n, s.data.toList⟩ ∧ s.size ≤ 281474976710656 ∧ -9223372036854775808 ≤ kd ∧ kd ≤ 9223372036854775807) :
    Calls Tryd.prog 5 #[v0, v1, .int .u8 lv] w fun e w' => e = .returned (.bool true) ∧ Below w.heap.size w w' := by
  subst hv hv1
  have HMW := hide hM
  have HA := hide hA
  have HAW := hide hAw
  clear hM hA hAw
  obtain ⟨W0, hW0⟩ : ∃ W0, ((w.alloc (.cells #[.slice Aw cntw capw] 22)).alloc (.cells #[.int .u8 lv] 5)).alloc (.cells #[.bool false] 4) = W0 := ⟨_, rfl⟩
  have hb0 : Below w.heap.size w W0 := by rw [← hW0]; exact (below_box2 w _ _).alloc (by simp; omega) _
  have p0 : Blk W0 w.heap.size #[.slice Aw cntw capw] 22 := by rw [← hW0]; exact ((Blk.new w _ _).alloc _).alloc _
  have p1 : Blk W0 (w.heap.size + 1) #[.int .u8 lv] 5 := by
    rw [← hW0]
    have := (Blk.new (w.alloc (.cells #[.slice Aw cntw capw] 22)) #[.int .u8 lv] 5).alloc (.cells #[.bool false] 4)
    rw [World.size_alloc] at this
    exact this
  have p2 : Blk W0 (w.heap.size + 2) #[.bool false] 4 := by
    rw [← hW0]
    have := Blk.new ((w.alloc (.cells #[.slice Aw cntw capw] 22)).alloc (.cells #[.int .u8 lv] 5)) #[.bool false] 4
    rw [World.size_alloc, World.size_alloc] at this
    exact this
  have HMW0 := hide (HMW.out.below hb0)
  have HW0 := hide hW0
  have HB0 := hide hb0
  have P0 := hide p0
  have P1 := hide p1
  have P2 := hide p2
  have HNEW := hide (New_any W0)
  clear hW0 hb0 p0 p1 p2
  refine (callsIn_wide (n := 8)).1 ?_
  refine callsIn_of_wp_marks Tryd.func5 rfl trivial ?_ rfl
  refine wpIn_wide.2 ?_
  simp only [Tryd.ntmps5, List.size_toArray, List.length_cons, List.length_nil, Nat.reduceAdd, Nat.reduceSub, Array.replicate_succ, Array.replicate_zero, List.push_toArray, List.append_toArray, List.nil_append, List.cons_append]
  go_upto_region 1 with fail
  rw [HW0.out]
  obtain ⟨c0, hc0⟩ : ∃ c0, w.heap.size = c0 := ⟨_, rfl⟩
  rw [hc0]
  have HC0 := hide hc0
  clear hc0
  go_upto_region 2 with (first | (go_at_call 6; refine (unhide HNEW).mono ?_; rintro e w1 ⟨rfl, hl1, hb1⟩))
  go_upto_region 3 with fail
  have hwk : Wk W0 (W0.heap.size + 1) w1.heap.size (w1.heap.size + 1) ((w1.alloc (.cells #[.pointer (some ⟨W0.heap.size + 1, 0, none⟩)] 23)).alloc (.cells #[.slice none 0 0, .int .i64 0] 27)) W0.heap.size (.slice none 0 0) false none 0 ⟨[], 0⟩ := by
    have hl2 := (hl1.alloc (.cells #[.pointer (some ⟨W0.heap.size + 1, 0, none⟩)] 23)).alloc (.cells #[.slice none 0 0, .int .i64 0] 27)
    have hk2 := Blk.new (w1.alloc (.cells #[.pointer (some ⟨W0.heap.size + 1, 0, none⟩)] 23)) #[.slice none 0 0, .int .i64 0] 27
    rw [World.size_alloc] at hk2
    have hz := hb1.size
    exact ⟨(hb1.alloc hb1.size _).alloc (by simp; omega) _, ⟨hl2, ⟨hk2, World.ownsRow_nil _ _ _ _, by omega, fun x hx => by simp [toQ] at hx, by simp [toQ], by decide, by decide⟩⟩, fun k hk => by simp [Ls.keys] at hk, (Blk.new w1 _ _).alloc _⟩
  obtain ⟨lb, hlb⟩ : ∃ lb, W0.heap.size + 1 = lb := ⟨_, rfl⟩
  obtain ⟨bl, hbl⟩ : ∃ bl, w1.heap.size = bl := ⟨_, rfl⟩
  obtain ⟨rb, hrb⟩ : ∃ rb, w1.heap.size + 1 = rb := ⟨_, rfl⟩
  rw [hrb, hlb] at hwk ⊢
  rw [hbl] at hwk ⊢
  obtain ⟨W2, hW2⟩ : ∃ W2, (w1.alloc (.cells #[.pointer (some ⟨lb, 0, none⟩)] 23)).alloc (.cells #[.slice none 0 0, .int .i64 0] 27) = W2 := ⟨_, rfl⟩
  rw [hW2] at hwk ⊢
  have hal := hide (alive_any W2 (HMW0.out.below hwk.below))
  have hq := fun W => eqlNil W lb
  have y0 : W2.cell? ⟨bl, 0, none⟩ = some (.pointer (some ⟨lb, 0, none⟩)) := hwk.box.cell 0
  have HP2 := hide hwk
  clear hl1 hb1 hwk hlb hrb hbl hW2 HNEW
  go_upto_region 5 with (first | (go_at_call 7; refine (unhide hal).mono ?_; rintro e W3 ⟨rfl, hb3⟩))
  have HP3 := hide (HP2.out.later hb3)
  clear hb3 hal HP2 y0
  go_upto_region 6 with fail
  go_loopw [28] (fun v wr => ∃ j : Nat, j ≤ cnt ∧ v = .int .i64 j ∧ ∃ (mb : Nat) (iv : Value) (lent : Bool) (A' : Option Addr) (cap' : Nat) (l : Ls), Hid (Wk W0 lb bl rb wr mb iv lent A' cap' l)) (fun v _ => cnt - (intOf v).toNat)
  case atStart => exact ⟨0, Nat.zero_le _, rfl, _, _, _, _, _, _, HP3⟩
  case round =>
    obtain ⟨j, hj, rfl, mb, iv, lent, A', cap', l, HP⟩ := hrel
    by_cases hlt : j < cnt
    · have hjb : (j : Int) + 1 ≤ 9223372036854775807 := by unfold maxLen at hcn; omega
      obtain ⟨ab, ao, kd, nn, t, n, s, rfl, p0, p1, p2, p3, p4, hko, hsz, hkd0, hkd1⟩ := HA.out j hlt
      have hBb := HB0.out.trans (HP.out.below.mono HB0.out.size)
      have q0 : wr.cell? ⟨ab, ao + j * 5, none⟩ = some (.int .i64 kd) := (hBb.cell (p := ⟨ab, ao + j * 5, none⟩) (World.block_lt_of_cell? w _ p0)).trans p0
      have q1 : wr.cell? ⟨ab, ao + j * 5 + 1, none⟩ = some (.int .i64 nn) := (hBb.cell (p := ⟨ab, ao + j * 5 + 1, none⟩) (World.block_lt_of_cell? w _ p1)).trans p1
      have q2 : wr.cell? ⟨ab, ao + j * 5 + 2, none⟩ = some (.bool t) := (hBb.cell (p := ⟨ab, ao + j * 5 + 2, none⟩) (World.block_lt_of_cell? w _ p2)).trans p2
      have q3 : wr.cell? ⟨ab, ao + j * 5 + 3, none⟩ = some (.int .i64 n) := (hBb.cell (p := ⟨ab, ao + j * 5 + 3, none⟩) (World.block_lt_of_cell? w _ p3)).trans p3
      have q4 : wr.cell? ⟨ab, ao + j * 5 + 4, none⟩ = some (.string s) := (hBb.cell (p := ⟨ab, ao + j * 5 + 4, none⟩) (World.block_lt_of_cell? w _ p4)).trans p4
      have KO := hide hko
      have SZ := hide hsz
      clear p0 p1 p2 p3 p4 hko hsz hBb
      go_upto_region 8 with fail
      have hp6 := HP.out.later (below_box wr (.cells #[.int .i64 kd, .int .i64 nn, .bool t, .int .i64 n, .string s] 32))
      have k6 := Blk.new wr #[.int .i64 kd, .int .i64 nn, .bool t, .int .i64 n, .string s] 32
      obtain ⟨b6, hb6⟩ : ∃ b6, wr.heap.size = b6 := ⟨_, rfl⟩
      obtain ⟨W6, hW6⟩ : ∃ W6, wr.alloc (.cells #[.int .i64 kd, .int .i64 nn, .bool t, .int .i64 n, .string s] 32) = W6 := ⟨_, rfl⟩
      rw [hb6] at k6 ⊢
      rw [hW6] at k6 hp6 ⊢
      obtain ⟨d0, d1, d2, d3, d4, -⟩ := k6.five
      have y0 : W6.cell? ⟨bl, 0, none⟩ = some (.pointer (some ⟨lb, 0, none⟩)) := hp6.box.cell 0
      have hdo := does_any hp6.both (fun u hu => HMW0.out.below (hp6.below.trans hu)) kd nn t n s KO.out SZ.out hkd0 hkd1 hp6.small
      have HDO := hide hdo
      have HP6 := hide hp6
      clear k6 hp6 hb6 hW6 hdo q0 q1 q2 q3 q4 HP
      go_wp2_with (first
        | (go_at_call 8; refine (unhide HDO).mono ?_; rintro e W7 ⟨rfl, l', hd7, hs7⟩; obtain ⟨mb7, iv7, lent7, A7, cap7, hp7⟩ := HP6.out.does hd7 hs7; have HP7 := hide hp7; clear hd7 hs7 hp7))
      go_roundw
      case rel => exact ⟨j + 1, by omega, by go_num, _, _, _, _, _, _, HP7⟩
      case measure => simp [intOf]; omega
    · have hje : j = cnt := by omega
      subst hje
      obtain ⟨r0, r1, -, -⟩ := HP.out.both.ref.two
      rw [toQ_length] at r0
      have y0 : wr.cell? ⟨bl, 0, none⟩ = some (.pointer (some ⟨lb, 0, none⟩)) := HP.out.box.cell 0
      go_upto_region 11 with fail
      have hwk := HP.out.later (below_box wr (.cells #[.slice A' l.items.length cap', .int .i64 l.next] 27))
      have kw := Blk.new wr #[.slice A' l.items.length cap', .int .i64 l.next] 27
      obtain ⟨cw, hcw⟩ : ∃ cw, wr.heap.size = cw := ⟨_, rfl⟩
      obtain ⟨V1, hV1⟩ : ∃ V1, wr.alloc (.cells #[.slice A' l.items.length cap', .int .i64 l.next] 27) = V1 := ⟨_, rfl⟩
      rw [hcw] at kw ⊢
      rw [hV1] at kw hwk ⊢
      have z0 : V1.cell? ⟨bl, 0, none⟩ = some (.pointer (some ⟨lb, 0, none⟩)) := hwk.box.cell 0
      have HP1 := hide hwk
      have KW := hide kw
      have NWR := hide (show cw ≠ rb by have := HP.out.both.ref.blk.lt; omega)
      clear hwk kw hcw hV1 r0 r1 y0 HP
      go_upto_region 13 with (first | (go_at_call 11; with_reducible refine (All_any _ _).mono ?_; rintro e v9 ⟨rfl, rfl⟩))
      have hb2 := (below_box V1 (.cells #[.pointer (some ⟨lb, 0, none⟩)] 23)).alloc (by simp) (.cells #[.int .i64 0] 3)
      have k9 : Blk ((V1.alloc (.cells #[.pointer (some ⟨lb, 0, none⟩)] 23)).alloc (.cells #[.int .i64 0] 3)) V1.heap.size #[.pointer (some ⟨lb, 0, none⟩)] 23 := (Blk.new V1 _ _).alloc _
      have kn : Blk ((V1.alloc (.cells #[.pointer (some ⟨lb, 0, none⟩)] 23)).alloc (.cells #[.int .i64 0] 3)) (V1.heap.size + 1) #[.int .i64 0] 3 := by
        have := Blk.new (V1.alloc (.cells #[.pointer (some ⟨lb, 0, none⟩)] 23)) #[.int .i64 0] 3
        rw [World.size_alloc] at this
        exact this
      have hwk := HP1.out.later hb2
      obtain ⟨b9, hb9⟩ : ∃ b9, V1.heap.size = b9 := ⟨_, rfl⟩
      obtain ⟨cn, hcn'⟩ : ∃ cn, V1.heap.size + 1 = cn := ⟨_, rfl⟩
      obtain ⟨V2, hV2⟩ : ∃ V2, (V1.alloc (.cells #[.pointer (some ⟨lb, 0, none⟩)] 23)).alloc (.cells #[.int .i64 0] 3) = V2 := ⟨_, rfl⟩
      have kw := KW.out.below hb2 KW.out.lt
      rw [hV2] at hwk k9 kn kw ⊢
      rw [hcn'] at kn ⊢
      rw [hb9] at k9 ⊢
      have n9 : b9 ≠ lb := by
        rintro rfl
        exact absurd (k9.inj hwk.both.lst.blk) (by decide)
      have nn : cn ≠ lb := by
        rintro rfl
        exact absurd (kn.inj hwk.both.lst.blk) (by decide)
      have nrow : ∀ g, iv.ownBlock = some g → g < V2.heap.size := fun g hg => (ownsRow_lt hwk.both.lst.row hg).1
      have HP2 := hide hwk
      have KW2 := hide kw
      have K9 := hide k9
      have KN := hide kn
      have HCN := hide (show W0.heap.size ≤ cn by have := HP1.out.below.size; omega)
      have N9 := hide n9
      have NN := hide nn
      have NROW := hide nrow
      clear hwk kw k9 kn n9 nn nrow hb9 hcn' hV2 hb2 z0 KW HP1
      go_upto_region 14 with fail
      refine (wpIn_wide (n := 8)).1 ?_
      refine name_act fun a0 ha0 => ?_
      -- what stands from the walk's beginning on
      have HF : Hid (∀ u, Turned (fun k => k = rb ∨ k = lb ∨ k = cn) (lend lb V2) u → Blk u cw #[.slice A' l.items.length cap', .int .i64 l.next] 27 ∧ Blk u b9 #[.pointer (some ⟨lb, 0, none⟩)] 23 ∧ Blk u bl #[.pointer (some ⟨lb, 0, none⟩)] 23 ∧ RowAt u A' (toQ l.items) ∧
          Blk u w.heap.size #[.slice Aw cntw capw] 22 ∧ Blk u (w.heap.size + 1) #[.int .u8 lv] 5 ∧ Blk u (w.heap.size + 2) #[.bool false] 4 ∧ Below W0.heap.size W0 u) := by
        refine hide fun u hu => ?_
        have hlst := HP2.out.both.lst.blk
        have href := HP2.out.both.ref.blk
        have keep : ∀ {b : Nat} {cs : Array Value} {T : TypeId}, Blk V2 b cs T → b ≠ rb → b ≠ lb → b ≠ cn → Blk u b cs T := fun hb h1 h2 h3 =>
          hu.blk (hb.same (lend_far lb V2 _ h2)) (by
            rintro (e | e | e)
            · exact h1 e
            · exact h2 e
            · exact h3 e)
        have hw0 : W0.heap.size ≤ V2.heap.size := HP2.out.below.size
        have hle : W0.heap.size ≤ (lend lb V2).heap.size := by rw [lend_size]; exact hw0
        have low : ∀ {b : Nat} {cs : Array Value} {T : TypeId}, Blk W0 b cs T → Blk u b cs T := fun hb => keep (hb.below HP2.out.below hb.lt) (by have := HP2.out.both.ref.hrb; have := hb.lt; omega) (by have := HP2.out.both.lst.hlb; have := hb.lt; omega) (fun e => by
          have h1 := hb.below HP2.out.below hb.lt
          have := HCN.out
          have := hb.lt
          omega)
        have hne : ∀ {b : Nat} {cs : Array Value} {T : TypeId}, Blk V2 b cs T → T ≠ 50 → b ≠ lb := fun hb hT e => hT (by subst e; exact hb.inj hlst)
        have hnr : ∀ {b : Nat} {cs : Array Value} {T : TypeId}, Blk V2 b cs T → T ≠ 27 → b ≠ rb := fun hb hT e => hT (by subst e; exact hb.inj href)
        have hnc : ∀ {b : Nat} {cs : Array Value} {T : TypeId}, Blk V2 b cs T → T ≠ 3 → b ≠ cn := fun hb hT e => hT (by subst e; exact hb.inj KN.out)
        refine ⟨keep KW2.out NWR.out (hne KW2.out (by decide)) (hnc KW2.out (by decide)), keep K9.out (hnr K9.out (by decide)) (hne K9.out (by decide)) (hnc K9.out (by decide)), keep HP2.out.box (hnr HP2.out.box (by decide)) (hne HP2.out.box (by decide)) (hnc HP2.out.box (by decide)), ?_, low P0.out, low P1.out, low P2.out, ?_⟩
        · have hr := HP2.out.both.lend.ref
          refine (RowAt.of_own hr.row).turned hu ?_
          rintro a rfl
          obtain ⟨_, _, cs, hcs⟩ := ownsRow_lt hr.row (k := a.block) rfl
          have hkn : Blk (lend lb V2) cn #[.int .i64 0] 3 := KN.out.same (lend_far lb V2 _ NN.out)
          rintro (e | e | e)
          · exact absurd ((e ▸ hcs).inj hr.blk) (by decide)
          · exact absurd ((e ▸ hcs).inj HP2.out.both.lend.lst.blk) (by decide)
          · exact absurd ((e ▸ hcs).inj hkn) (by decide)
        · have h2 : Below W0.heap.size W0 (lend lb V2) := HP2.out.below.setCell (p := ⟨lb, 4, none⟩) HP2.out.both.lst.hlb (.bool true)
          exact h2.trans (hu.below hle (by
            rintro k (rfl | rfl | rfl)
            · exact HP2.out.both.ref.hrb
            · exact HP2.out.both.lst.hlb
            · exact HCN.out))
      refine wpIn_post_block (fun a W => ∃ D, V2.heap.size ≤ D ∧ a = { tmps := a0.tmps, defers := [{ target := .collected D, args := #[] }] } ∧ Rd W0.heap.size (lend lb V2) W lb rb cn l.items.length ∧ W.heap[D]? = some (.deferred (some []))) ?walk ?after
      case after =>
        rintro _ W ⟨D, hD, rfl, h1, hdef⟩
        have y1 := h1.count.cell 0
        obtain ⟨kw, k9, kb, -⟩ := HF.out W h1.turned
        have y2 := kw.cell 0
        have y3 := kw.cell 1
        have HD := hide hD
        have H1 := hide h1
        have HDEF := hide hdef
        clear hD h1 hdef
        subst ha0
        go_upto_region 27 with fail
        obtain ⟨mb1, iv1, A1, cap1, l1, hb1, hs1⟩ := H1.out.both
        have hbm := below_box W (.cells #[.int .i64 0] 3)
        have km := Blk.new W #[.int .i64 0] 3
        have hbo := hb1.below hbm
        have k9' := k9.below hbm k9.lt
        have kb' := kb.below hbm kb.lt
        obtain ⟨cm, hcm⟩ : ∃ cm, W.heap.size = cm := ⟨_, rfl⟩
        obtain ⟨V3, hV3⟩ : ∃ V3, W.alloc (.cells #[.int .i64 0] 3) = V3 := ⟨_, rfl⟩
        rw [hV3] at km hbo hbm k9' kb' ⊢
        rw [hcm] at km ⊢
        have nml : cm ≠ lb := by
          rintro rfl
          exact absurd (km.inj hbo.lst.blk) (by decide)
        have nrow1 : ∀ g, iv1.ownBlock = some g → g < V3.heap.size := fun g hg => (ownsRow_lt hbo.lst.row hg).1
        have BO := hide hbo
        have KM := hide km
        have K93 := hide k9'
        have KB3 := hide kb'
        have NML := hide nml
        have NROW1 := hide nrow1
        have HS1 := hide hs1
        have HBM := hide hbm
        have HCM := hide hcm
        clear hb1 hs1 hbm km hbo k9' kb' hcm hV3 nml nrow1 kw k9 kb y1 y2 y3
        go_upto_region 28 with fail
        refine (wpIn_wide (n := 8)).1 ?_
        refine name_act fun a1 ha1 => ?_
        refine wpIn_rangeFunc_gives (xs := l1.items) (T := lend lb) (Kp := RowStays iv1) (encs := encsI) rfl (by omega) (gf := 25) (lb := #[.pointer (some ⟨b9, 0, none⟩)]) (by rw [ha1]; rfl) trivial (enters_of Tryd.func25 (by kernel_rfl) rfl)
          (allGives 7 BO.out.lst (K93.out.cell 0) N9.out) (fun h k => rowStays_trans h k) (fun W r o hr => rowStays_put NROW1.out W r o hr) (fun _ => rfl) (fun W k hk => lend_far lb W k (by have := BO.out.lst.blk.lt; omega))
          (fun pre W => Blk W cm #[.int .i64 (pre.length : Nat)] 3 ∧ Turned (fun k => k = cm) (lend lb V3) W) (fun _ _ _ => False)
          (by
            rw [← lend_size lb V3]
            rintro pre A B row ⟨h1, h2⟩ hg hr
            exact ⟨blk_own h1 hg hr, turned_own h2 hg hr⟩) (fun _ _ _ _ _ hs _ _ => hs)
          (fun W hW => ⟨((KM.out.below hW KM.out.lt).same (lend_far lb W _ NML.out) : Blk (lend lb W) cm #[.int .i64 0] _), lend_below hW _⟩)
          (fun x a' W => ∃ kb, V3.heap.size ≤ kb ∧ Blk W kb #[.bool x.1.t, .int .i64 x.1.n, .string ⟨x.1.s.toArray⟩] 30 ∧ a' = { tmps := ((a1.tmps.setIfInBounds 97 (kv x.1)).setIfInBounds 98 (.int .i64 x.2)).setIfInBounds 17 (.pointer (some ⟨kb, 0, none⟩)), defers := [] })
          (fun x a' _ A B row hs hg hr => by obtain ⟨kb, h1, h2, h3⟩ := hs; exact ⟨kb, h1, blk_own h2 hg hr, h3⟩)
          ?assign ?body ?done ?stop
        case stop =>
          intro D c pre W _ _ h _
          exact h.elim
        case assign =>
          rintro r pre ⟨⟨ty, ny, sy⟩, vy⟩ W K ⟨h1, h2⟩ hK
          have hsz9 : V3.heap.size ≤ W.heap.size := by have := h2.size; rwa [lend_size] at this
          have HK := hide hK
          have H1 := hide h1
          have H2 := hide h2
          clear hK h1 h2
          subst ha1
          unfold encsI kv
          gi_wp2
          exact HK.out _ _ ((KeepsOthers.alloc _ _).from _) ⟨by simp, fun g hg => Below.heap_alloc _ _ _ (Nat.lt_of_lt_of_le (NROW1.out g hg) hsz9)⟩ ⟨H1.out.alloc _, H2.out.trans (.alloc _ _ _)⟩ ⟨W.heap.size, hsz9, Blk.new W _ _, rfl⟩
        case done =>
          rintro D2 W2 hD2 ⟨h1, h2⟩ hdef2
          have hbl3 := BO.out.lend
          have kml : Blk (lend lb V3) cm #[.int .i64 0] 3 := KM.out.same (lend_far lb V3 _ NML.out)
          have hb : Both W0.heap.size W2 lb mb1 iv1 true rb A1 cap1 l1 := ⟨hbl3.lst.same fun k hk => h2.block k (hbl3.lst.fp_lt hk) (fun e => hbl3.lst.apart kml (by decide) (by decide) ((show k = cm from e) ▸ hk)),
            hbl3.ref.same fun k hk => h2.block k (hbl3.ref.fp hk).1 (fun e => hbl3.ref.apart kml (by decide) (by decide) ((show k = cm from e) ▸ hk))⟩
          have kbx : Blk W2 bl #[.pointer (some ⟨lb, 0, none⟩)] 23 := h2.blk (KB3.out.same (lend_far lb V3 _ (fun e => by have h := KB3.out; rw [e] at h; exact absurd (h.inj BO.out.lst.blk) (by decide)))) (fun e => by have h := KB3.out; rw [show bl = cm from e] at h; exact absurd (h.inj KM.out) (by decide))
          obtain ⟨-, -, -, -, kA, kL, kR, hBW⟩ := HF.out W H1.out.turned
          have hV3 : Below W0.heap.size W0 V3 := hBW.trans (HBM.out.mono (hBW.size))
          have hL3 : Below W0.heap.size W0 (lend lb V3) := hV3.setCell (p := ⟨lb, 4, none⟩) BO.out.lst.hlb (.bool true)
          have hW2 : Below W0.heap.size W0 W2 := hL3.trans (h2.below (by rw [lend_size]; exact hV3.size) (fun k hk => by have := HCM.out; have := hBW.size; have hk' : k = cm := hk; omega))
          have y0 : W2.cell? ⟨bl, 0, none⟩ = some (.pointer (some ⟨lb, 0, none⟩)) := kbx.cell 0
          have ym : W2.cell? ⟨cm, 0, none⟩ = some (.int .i64 (l1.items.length : Nat)) := h1.cell 0
          obtain ⟨r0, r1, -, -⟩ := hb.ref.two
          rw [toQ_length] at r0
          have HST := hide (stands_any hb (fun u hu => HMW0.out.below (hW2.trans hu)) HS1.out)
          have HBB := hide hb
          have HW2 := hide hW2
          have HD2 := hide hD2
          have HDEF2 := hide hdef2
          have H2 := hide h2
          have hcr : w.heap.size + 2 = c0 + 1 + 1 := by have := HC0.out; omega
          have P2' := P2.out
          rw [hcr] at P2'
          have PR := hide (P2'.below hW2 P2'.lt)
          have LTR := hide P2'.lt
          clear P2' hcr
          clear h1 h2 hbl3 kml hb kbx kA kL kR hBW hV3 hL3 hW2 hD2 hdef2
          subst ha1
          go_wp2_with (first
            | (go_at_call 9; refine (unhide HST).mono ?_; rintro e W8 ⟨rfl, hb8, ht8⟩; have HB8 := hide hb8; have HT8 := hide ht8; have PR8 := hide (ht8.blk PR.out (fun e => by have hx := HBB.out.lst.hlb; have := LTR.out; have e' : c0 + 1 + 1 = lb := e; omega)); have yr := PR8.out.cell 0; have fr := PR8.out.free 0; clear hb8 ht8))
          have hV2 : lb < V2.heap.size := HP2.out.both.lst.blk.lt
          have hW02 : W0.heap.size ≤ V2.heap.size := HP2.out.below.size
          have hV2W : V2.heap.size ≤ W.heap.size := by have := H1.out.turned.size; rwa [lend_size] at this
          have hWV3 := HBM.out.size
          have hl2 := LTR.out
          have hd := HD.out
          have hd2 := HD2.out
          have hDl := (Array.getElem?_eq_some_iff.1 HDEF.out).1
          have hcm := HCM.out
          have hlb := HBB.out.lst.hlb
          have hc0 := HC0.out
          have hb0 := HB0.out.size
          have e2 : W2.heap[D]? = some (.deferred (some [])) := (H2.out.block D (by rw [lend_size]; omega) (fun e => by have e' : D = cm := e; omega)).trans ((lend_far lb V3 D (by omega)).trans ((HBM.out.block D hDl).trans HDEF.out))
          refine leaves_marks [D2, D] _ (by simp; omega) (fun E hE => ?_) (fun w' h1 h2 h3 h4 h5 => ?_)
          · show (World.setCell W8 ⟨c0 + 1 + 1, 0, none⟩ (.bool true)).heap[E]? = _
            have hE' : E = D2 ∨ E = D := by simpa using hE
            rw [Below.heap_setCell W8 ⟨c0 + 1 + 1, 0, none⟩ (.bool true) E (by show E ≠ c0 + 1 + 1; rcases hE' with rfl | rfl <;> omega)]
            rcases hE' with rfl | rfl
            · exact (HT8.out.block E (Array.getElem?_eq_some_iff.1 HDEF2.out).1 (fun e => by have e' : E = lb := e; omega)).trans HDEF2.out
            · exact (HT8.out.block E (Array.getElem?_eq_some_iff.1 e2).1 (fun e => by have e' : E = lb := e; omega)).trans e2
          · have k11 : Blk w' (c0 + 1 + 1) #[.bool true] 4 := (PR8.out.set 0 (.bool true)).same (h1 _ (by simp; omega))
            have r5 := k11.cell 0
            refine ⟨.bool true, ?_, rfl, ?_⟩
            · simp [results, Tryd.results5, go_sem, r5]
            · have t1 : Below w.heap.size w W2 := HB0.out.trans (HW2.out.mono hb0)
              have t2 : Below w.heap.size w W8 := t1.trans (HT8.out.below t1.size (fun k hk => by have hk' : k = lb := hk; omega))
              have t3 : Turned (fun k => k = c0 + 1 + 1 ∨ k = D2 ∨ k = D) W8 w' := ⟨h3, h4, h5, by rw [h2]; simp [World.setCell], fun k hk hs => by
                rw [h1 k (by simp; exact ⟨fun e => hs (.inr (.inl e)), fun e => hs (.inr (.inr e))⟩)]
                exact Below.heap_setCell W8 ⟨c0 + 1 + 1, 0, none⟩ (.bool true) k (fun e => hs (.inl e))⟩
              exact t2.trans (t3.below t2.size (fun k hk => by rcases hk with hk | hk | hk <;> omega))
        case body =>
          rintro r pre ⟨⟨ty, ny, sy⟩, vy⟩ a' W3 hr0 ⟨rr, hrr⟩ ⟨h1, h2⟩ ⟨kb, hkb0, hkb, rfl⟩ hpre
          have hbl3 := BO.out.lend
          have kml : Blk (lend lb V3) cm #[.int .i64 0] 3 := KM.out.same (lend_far lb V3 _ NML.out)
          have hb : Both W0.heap.size W3 lb mb1 iv1 true rb A1 cap1 l1 := ⟨hbl3.lst.same fun k hk => h2.block k (hbl3.lst.fp_lt hk) (fun e => hbl3.lst.apart kml (by decide) (by decide) ((show k = cm from e) ▸ hk)),
            hbl3.ref.same fun k hk => h2.block k (hbl3.ref.fp hk).1 (fun e => hbl3.ref.apart kml (by decide) (by decide) ((show k = cm from e) ▸ hk))⟩
          have hat := pre_at hpre
          obtain ⟨s', hs'⟩ : ∃ s' : ByteArray, (⟨sy.toArray⟩ : ByteArray) = s' := ⟨_, rfl⟩
          have hsy : sy = s'.data.toList := by rw [← hs']
          subst hsy
          have hkm : (⟨ty, ny, s'.data.toList⟩ : Lists.K) ∈ l1.keys := by
            unfold Ls.keys
            exact List.mem_map_of_mem (List.mem_of_getElem? hat)
          have hko := BO.out.lst.keys _ hkm
          have hln := (List.getElem?_eq_some_iff.1 hat).1
          have hl48 := BO.out.lst.good.len
          unfold maxItems at hl48
          have hatq : (toQ l1.items)[pre.length]? = some (⟨ty, ny, s'.data.toList⟩, numQ vy) := by unfold toQ; rw [List.getElem?_map, hat]; rfl
          obtain ⟨g, o, hA1, e0, e1, e2, e3, e4, -⟩ := (RowAt.of_own hb.ref.row).cells hatq
          simp only [numQ] at e0 e1 e2 e3 e4
          subst hA1
          obtain ⟨k0, k1, k2, -⟩ := hkb.three
          have heq := fun W => key_equal W ⟨ty, ny, s'.data.toList⟩ ⟨ty, ny, s'.data.toList⟩ hko hko
          rw [kv_of] at heq
          simp only [decide_true] at heq
          obtain ⟨r0, r1, -, -⟩ := hb.ref.two
          rw [toQ_length] at r0
          have z3 : W3.cell? ⟨cm, 0, none⟩ = some (.int .i64 (pre.length : Nat)) := h1.cell 0
          have f3 : W3.frozen? ⟨cm, 0, none⟩ = false := h1.free 0
          have l1' : (pre.length : Int) < (l1.items.length : Int) := by omega
          have l0 : (0 : Int) ≤ (pre.length : Int) := by omega
          have l2 : decide ((l1.items.length : Int) ≤ (pre.length : Int)) = false := by simp; omega
          have l3 : ((l1.items.length : Int) ≤ (pre.length : Int)) = False := by simp; omega
          have hi2 : (pre.length : Int) + 1 ≤ 9223372036854775807 := by omega
          have HBB := hide hb
          have KCM := hide h1
          have H2 := hide h2
          clear h1 h2 hkb hat hkm hb hatq hpre hrr hln hl48 hs' hbl3 kml
          subst ha1
          simp only [List.setIfInBounds_toArray, List.set_cons_succ, List.set_cons_zero]
          gi_upto_region 29 with fail
          refine wpIn_region_quiet_round (by kernel_rfl) (by kernel_rfl) (by kernel_rfl) ?_
          repeat (gi_big_quiet_step (fail))
          refine wpQuietIn_nil ?_
          intro _ hw'
          obtain ⟨nq, hw''⟩ := hw'
          subst hw''
          have y3 : (W3.drewN nq).cell? ⟨cm, 0, none⟩ = some (.int .i64 (pre.length : Nat)) := z3
          have g3 : (W3.drewN nq).frozen? ⟨cm, 0, none⟩ = false := f3
          gi_wp2
          have tw : Turned (fun k => k = cm) W3 ((W3.drewN nq).setCell ⟨cm, 0, none⟩ (.int .i64 ((pre.length : Int) + 1))) := (Turned.of_below (S := fun k => k = cm) (show Below W3.heap.size W3 (W3.drewN nq) from ⟨rfl, rfl, rfl, Nat.le_refl _, fun _ _ => rfl⟩)).trans (.setCell _ _ _ rfl)
          refine ⟨keeps_of_turned _ tw (fun k hk => ⟨_, _, hk ▸ KCM.out⟩), ⟨tw.size, fun g' hg' => ?_⟩, ?_, H2.out.trans tw⟩
          · obtain ⟨l1, _, cs, hcs⟩ := ownsRow_lt HBB.out.lst.row hg'
            exact tw.block g' l1 (fun e => by
              have e' : g' = cm := e
              subst e'
              exact absurd (hcs.inj KCM.out) (by decide))
          · have hbd := (show Blk (W3.drewN nq) cm #[.int .i64 (pre.length : Nat)] 3 from KCM.out).set 0 (.int .i64 ((pre.length : Int) + 1))
            rw [List.length_append, List.length_singleton]
            exact hbd
      refine wpIn_rangeFunc_givesW (xs := l.items) (T := lend lb) (Kp := RowStays iv) (encs := encsI) rfl (by omega) (gf := 25) (lb := #[.pointer (some ⟨b9, 0, none⟩)]) (by rw [ha0]; rfl) trivial (enters_of Tryd.func25 (by kernel_rfl) rfl)
        (allGivesW 7 HP2.out.both.lst (K9.out.cell 0) N9.out) (fun h k => rowStays_trans h k) (fun W r o hr => rowStays_put NROW.out W r o hr) (fun _ => rfl) (fun W k hk => lend_far lb W k (by have := HP2.out.both.lst.blk.lt; omega))
        (fun pre W => Rd W0.heap.size (lend lb V2) W lb rb cn pre.length) (fun c _ W => c = .exit 2 ∧ Rd W0.heap.size (lend lb V2) W lb rb cn l.items.length)
        (fun pre A B row h hg hr => h.grown hg (by rw [lend_size]; exact hr)) (fun c pre A B row h hg hr => ⟨h.1, h.2.grown hg (by rw [lend_size]; exact hr)⟩)
        (fun W hW => ⟨lend_below hW _, ((KN.out.below hW KN.out.lt).same (lend_far lb W _ NN.out) : Blk (lend lb W) cn #[.int .i64 0] _), _, _, _, _, _, (HP2.out.both.below hW).lend, HP2.out.small⟩)
        (fun x a' W => ∃ kb, V2.heap.size ≤ kb ∧ Blk W kb #[.bool x.1.t, .int .i64 x.1.n, .string ⟨x.1.s.toArray⟩] 30 ∧ a' = { tmps := (((a0.tmps.setIfInBounds 40 (kv x.1)).setIfInBounds 41 (.int .i64 x.2)).setIfInBounds 14 (.pointer (some ⟨kb, 0, none⟩))).setIfInBounds 15 (.int .i64 x.2), defers := [] })
        (fun x a' _ A B row hs hg hr => by
          obtain ⟨kb, h1, h2, h3⟩ := hs
          exact ⟨kb, h1, blk_own h2 hg (fun r e => ⟨(hr r e).1, by obtain ⟨_, lp, hl⟩ := hr r e; exact ⟨_, hl, rfl⟩⟩), h3⟩)
        ?assign ?body ?done ?stop
      case assign =>
        rintro r pre ⟨⟨ty, ny, sy⟩, vy⟩ W K h1 hK
        have hsz9 : V2.heap.size ≤ W.heap.size := by have := h1.turned.size; rwa [lend_size] at this
        have HK := hide hK
        have H1 := hide h1
        clear hK h1
        subst ha0
        unfold encsI kv
        gi_wp2
        exact HK.out _ _ ((KeepsOthers.alloc _ _).from _) ⟨by simp, fun g hg => Below.heap_alloc _ _ _ (Nat.lt_of_lt_of_le (NROW.out g hg) hsz9)⟩ (H1.out.grown (World.grownBy_alloc W _ none) (fun r e => by cases e)) ⟨W.heap.size, hsz9, Blk.new W _ _, rfl⟩
      case body =>
        rintro r pre ⟨⟨ty, ny, sy⟩, vy⟩ a' W hr0 ⟨rr, hrr⟩ hR ⟨kb, hkb0, hkb, rfl⟩ hpre
        obtain ⟨kwas, -, kbx, hrow, kwh, klv, -, hBW⟩ := HF.out W hR.turned
        have hat := pre_at hpre
        obtain ⟨s', hs'⟩ : ∃ s' : ByteArray, (⟨sy.toArray⟩ : ByteArray) = s' := ⟨_, rfl⟩
        have hsy : sy = s'.data.toList := by rw [← hs']
        subst hsy
        have hkm : (⟨ty, ny, s'.data.toList⟩ : Lists.K) ∈ l.keys := by
          unfold Ls.keys
          exact List.mem_map_of_mem (List.mem_of_getElem? hat)
        have hko := HP2.out.both.lst.keys _ hkm
        have hln := (List.getElem?_eq_some_iff.1 hat).1
        have hl48 := HP2.out.both.lst.good.len
        unfold maxItems at hl48
        have hatq : (toQ l.items)[pre.length]? = some (⟨ty, ny, s'.data.toList⟩, numQ vy) := by unfold toQ; rw [List.getElem?_map, hat]; rfl
        obtain ⟨g, o, hA1, e0, e1, e2, e3, e4, -⟩ := hrow.cells hatq
        simp only [numQ] at e0 e1 e2 e3 e4
        subst hA1
        obtain ⟨k0, k1, k2, -⟩ := hkb.three
        have heq := fun W => key_equal W ⟨ty, ny, s'.data.toList⟩ ⟨ty, ny, s'.data.toList⟩ hko hko
        rw [kv_of] at heq
        simp only [decide_true] at heq
        have r0 := kwas.cell 0
        have z3 : W.cell? ⟨cn, 0, none⟩ = some (.int .i64 (pre.length : Nat)) := hR.count.cell 0
        have z0 : W.cell? ⟨bl, 0, none⟩ = some (.pointer (some ⟨lb, 0, none⟩)) := kbx.cell 0
        rw [HC0.out] at kwh klv
        have zw : W.cell? ⟨c0, 0, none⟩ = some (.slice Aw cntw capw) := kwh.cell 0
        have l1' : (pre.length : Int) < (l.items.length : Int) := by omega
        have l0 : (0 : Int) ≤ (pre.length : Int) := by omega
        have l2 : decide ((l.items.length : Int) ≤ (pre.length : Int)) = false := by simp; omega
        have l3 : ((l.items.length : Int) ≤ (pre.length : Int)) = False := by simp; omega
        have HR := hide hR
        have HLN := hide hln
        have HL48 := hide hl48
        have HBW := hide hBW
        have HRR := hide hrr
        clear hR hkb hat hkm hatq hpre hrr hs' hrow kwas kbx kwh klv hBW
        subst ha0
        simp only [List.setIfInBounds_toArray, List.set_cons_succ, List.set_cons_zero]
        gi_upto_region 16 with fail
        refine wpIn_region_quiet_round (by kernel_rfl) (by kernel_rfl) (by kernel_rfl) ?_
        repeat (gi_big_quiet_step (fail))
        refine wpQuietIn_nil ?_
        intro _ hw'
        obtain ⟨nq, hw''⟩ := hw'
        subst hw''
        have y3 : (W.drewN nq).cell? ⟨cn, 0, none⟩ = some (.int .i64 (pre.length : Nat)) := z3
        have yw : (W.drewN nq).cell? ⟨c0, 0, none⟩ = some (.slice Aw cntw capw) := zw
        have y0 : (W.drewN nq).cell? ⟨bl, 0, none⟩ = some (.pointer (some ⟨lb, 0, none⟩)) := z0
        gi_upto_region 18 with fail
        have hrq : Rd W0.heap.size (lend lb V2) (W.drewN nq) lb rb cn pre.length := HR.out.grown (row := none) ⟨rfl, rfl, rfl, Nat.le_refl _, fun _ _ _ => rfl⟩ (fun r e => by cases e)
        have hrrq : (W.drewN nq).heap[r]? = some (.loop rr) := HRR.out
        have tq : Turned (fun k => k = rb ∨ k = lb ∨ k = cn) W (W.drewN nq) := ⟨rfl, rfl, rfl, Nat.le_refl _, fun _ _ _ => rfl⟩
        obtain ⟨Wq, hWq⟩ : ∃ Wq, W.drewN nq = Wq := ⟨_, rfl⟩
        rw [hWq] at hrq hrrq tq y3 yw y0 ⊢
        have HRQ := hide hrq
        have TQ := hide tq
        have HRRQ := hide hrrq
        clear hrq hrrq tq hWq z3 zw z0 r0 e0 e1 e2 e3 e4 k0 k1 k2 l0 l2 l3 heq
        by_cases hlw : pre.length < cntw
        · have l4 : ((pre.length : Int) < (cntw : Int)) = True := by simp; omega
          have l5 : decide ((pre.length : Int) < (cntw : Int)) = true := by simp; omega
          have l6 : (pre.length : Int) < (cntw : Int) := by omega
          have l7 : (0 : Int) ≤ (pre.length : Int) := by omega
          obtain ⟨ab, ao, kd, nn, t, n, s, rfl, p0, p1, p2, p3, p4, hko2, hsz2, hkd0, hkd1⟩ := HAW.out pre.length hlw
          have hBWq := (HF.out Wq HRQ.out.turned).2.2.2.2.2.2.2
          have hBb := HB0.out.trans (hBWq.mono HB0.out.size)
          have q0 : Wq.cell? ⟨ab, ao + pre.length * 5, none⟩ = some (.int .i64 kd) := (hBb.cell (p := ⟨ab, ao + pre.length * 5, none⟩) (World.block_lt_of_cell? w _ p0)).trans p0
          have q1 : Wq.cell? ⟨ab, ao + pre.length * 5 + 1, none⟩ = some (.int .i64 nn) := (hBb.cell (p := ⟨ab, ao + pre.length * 5 + 1, none⟩) (World.block_lt_of_cell? w _ p1)).trans p1
          have q2 : Wq.cell? ⟨ab, ao + pre.length * 5 + 2, none⟩ = some (.bool t) := (hBb.cell (p := ⟨ab, ao + pre.length * 5 + 2, none⟩) (World.block_lt_of_cell? w _ p2)).trans p2
          have q3 : Wq.cell? ⟨ab, ao + pre.length * 5 + 3, none⟩ = some (.int .i64 n) := (hBb.cell (p := ⟨ab, ao + pre.length * 5 + 3, none⟩) (World.block_lt_of_cell? w _ p3)).trans p3
          have q4 : Wq.cell? ⟨ab, ao + pre.length * 5 + 4, none⟩ = some (.string s) := (hBb.cell (p := ⟨ab, ao + pre.length * 5 + 4, none⟩) (World.block_lt_of_cell? w _ p4)).trans p4
          obtain ⟨mb1, iv1, A1, cap1, l1, hb1, hs1⟩ := HRQ.out.both
          have hdr : Below Wq.heap.size Wq Wq.drew := (Below.refl _ Wq).drew
          have hW0q : W0.heap.size ≤ Wq.heap.size := hBWq.size
          have HDO := hide (does_any (hb1.below hdr) (fun u hu => HMW0.out.below ((hBWq.trans (hdr.mono hW0q)).trans hu)) kd nn t n s hko2 hsz2 hkd0 hkd1 hs1)
          have HB1 := hide (hb1.below hdr)
          clear p0 p1 p2 p3 p4 hko2 hsz2 hkd0 hkd1 hb1 hs1 hBWq hBb hW0q hdr
          gi_upto_region 19 with fail
          have hmo : Tryd.prog.follows .mixedOrders = true := by kernel_rfl
          apply wpIn_post_at (fun w' => ∃ l', DPost W0.heap.size Wq.drew lb mb1 iv1 true rb l' w' ∧ Small l')
          case reg =>
            gi_region_with_o (refine ⟨trivial, ?_⟩; refine (CallsIn.inRound r (callsIn_wide.2 (unhide HDO))).mono ?_; rintro e w' ⟨rfl, hb⟩)
            all_goals exact ⟨rfl, rfl, hb⟩
          case after =>
            rintro Wd ⟨l', hd, hsd⟩
            have hcd := DPost.keep HB1.out hd (show Blk Wq.drew cn #[.int .i64 pre.length] 3 from HRQ.out.count) (by decide) (by decide) (by decide)
            have td : Turned (fun k => k = rb ∨ k = lb ∨ k = cn) Wq.drew Wd := by
              obtain ⟨_, _, _, _, _, _, ht, _, _⟩ := hd
              exact ht.mono (fun k hk _ => by
                rcases hk with hk | hk | ⟨hk, _⟩
                · exact .inl hk
                · exact .inr (.inl hk)
                · cases hk)
            have tdq : Turned (fun k => k = rb ∨ k = lb ∨ k = cn) Wq Wd := (Turned.drew _ Wq).trans td
            have hbd : ∃ mb iv lent A cap l, Both W0.heap.size Wd lb mb iv lent rb A cap l ∧ Small l := by
              obtain ⟨_, _, _, _, _, h1, _, _, _⟩ := hd
              exact ⟨_, _, _, _, _, _, h1, hsd⟩
            have hrd : Wd.heap[r]? = some (.loop rr) := by
              have hrc := HRRQ.out
              refine (tdq.block r (Array.getElem?_eq_some_iff.1 hrc).1 (fun hk => ?_)).trans hrc
              have hV2 := HP2.out.both.lst.blk.lt
              have hV3 := HP2.out.both.ref.blk.lt
              have hV4 := KN.out.lt
              rcases hk with hk | hk | hk <;> omega
            have HRL : Hid (RdL W0.heap.size (lend lb V2) Wd lb rb cn pre.length) := hide ⟨HRQ.out.turned.trans tdq, hcd, hbd⟩
            have TQ' := hide (TQ.out.trans tdq)
            have y0' : Wd.cell? ⟨bl, 0, none⟩ = some (.pointer (some ⟨lb, 0, none⟩)) := (HF.out Wd HRL.out.turned).2.2.1.cell 0
            have HRRD := hide hrd
            clear TQ y0 y3 yw q0 q1 q2 q3 q4 hcd td tdq hbd hrd hd hsd HDO HB1 HRQ HRRQ l4 l5 l6 l7 hlw
            gi_upto_region 20 with fail
            obtain ⟨mb1, iv1, lent1, A1, cap1, l1, hb1, hs1⟩ := HRL.out.both
            have BO := hide hb1
            have SM := hide hs1
            clear hb1 hs1
            gi_upto_region 21 with (first | (refine ⟨trivial, (fun h => nomatch h), ?_⟩; refine (CallsIn.inRound r (callsIn_wide.2 (All_any _ _))).mono ?_; rintro e v9 ⟨rfl, rfl⟩) | (refine ⟨trivial, ?_⟩; refine (CallsIn.inRound r (callsIn_wide.2 (All_any _ _))).mono ?_; rintro e v9 ⟨rfl, rfl⟩))
            have hbx := below_box Wd (.cells #[.pointer (some ⟨lb, 0, none⟩)] 23)
            have kbn := Blk.new Wd #[.pointer (some ⟨lb, 0, none⟩)] 23
            have hbo := BO.out.below hbx
            have hrn := (hbx.block r (Array.getElem?_eq_some_iff.1 HRRD.out).1).trans HRRD.out
            obtain ⟨bn, hbn⟩ : ∃ bn, Wd.heap.size = bn := ⟨_, rfl⟩
            obtain ⟨Vn, hVn⟩ : ∃ Vn, Wd.alloc (.cells #[.pointer (some ⟨lb, 0, none⟩)] 23) = Vn := ⟨_, rfl⟩
            rw [hVn] at hbx kbn hbo hrn ⊢
            rw [hbn] at kbn ⊢
            have nbl : bn ≠ lb := by
              rintro rfl
              exact absurd (kbn.inj hbo.lst.blk) (by decide)
            have nrow1 : ∀ g, iv1.ownBlock = some g → g < Vn.heap.size := fun g hg => (ownsRow_lt hbo.lst.row hg).1
            have BON := hide hbo
            have KBN := hide kbn
            have NBL := hide nbl
            have NROWN := hide nrow1
            have HBX := hide hbx
            have HBN := hide hbn
            have HRN := hide hrn
            clear hbx kbn hbo hrn nbl nrow1 hbn hVn
            simp only [Nat.reduceSub]
            refine name_act fun a2 ha2 => ?_
            refine wpIn_post_block (fun a W' => a = a2 ∧ Turned (fun _ => False) (lend lb Vn) W') ?nest ?rest
            case nest =>
              refine wpIn_rangeFunc_givesN (l₀ := r) (r₀ := rr) (xs := l1.items) (T := lend lb) (Kp := RowStays iv1) (encs := encsI) rfl HRN.out (by omega) (gf := 25) (lb := #[.pointer (some ⟨bn, 0, none⟩)]) (by rw [ha2]; rfl) trivial (enters_of Tryd.func25 (by kernel_rfl) rfl)
                ((allGives 5 BON.out.lst (KBN.out.cell 0) NBL.out).inRound r) (fun h k => rowStays_trans h k) (fun W r o hr => rowStays_put NROWN.out W r o hr) (fun _ => rfl) (fun W k hk => lend_far lb W k (by have := BON.out.lst.blk.lt; omega))
                (fun _ W' => Turned (fun _ => False) (lend lb Vn) W') (fun c _ W' => c = .exit 4 ∧ Turned (fun _ => False) (lend lb Vn) W')
                (by
                  rw [← lend_size lb Vn]
                  exact fun pre A B row h hg hr => turned_own h hg hr)
                (by
                  rw [← lend_size lb Vn]
                  exact fun c pre A B row h hg hr => ⟨h.1, turned_own h.2 hg hr⟩)
                (fun W hW => lend_below hW _)
                (fun _ _ _ => True) (fun x a' _ A B row hs hg hr => trivial) ?nassign ?nbody ?ndone ?nstop
              case nassign =>
                intro r2 pre2 x2 W2 K2 h2 hK2
                refine wpIn_skip ?_
                exact hK2 _ _ ⟨Nat.le_refl _, fun _ _ _ h _ => h⟩ ⟨Nat.le_refl _, fun _ _ => rfl⟩ h2 trivial
              case nbody =>
                rintro r2 pre2 x2 a2' W2 hr2 ⟨rr2, hrr2⟩ h2 - hpre2
                refine wpIn_block ?_
                refine wpIn_exit ?_
                exact ⟨⟨Nat.le_refl _, fun _ _ _ h _ => h⟩, rfl, h2⟩
              case ndone =>
                intro W2 hz2 h2
                exact ⟨.inl rfl, rfl, h2⟩
              case nstop =>
                rintro c pre2 W2 hz2 hpre2 ⟨rfl, h2⟩
                exact wpIn_exit ⟨.inr rfl, rfl, h2⟩
            case rest =>
              rintro a3 W2 ⟨ha3, h2⟩
              have hbl := BON.out.lend
              have hb2 : Both W0.heap.size W2 lb mb1 iv1 true rb A1 cap1 l1 := ⟨hbl.lst.same fun k hk => h2.block k (hbl.lst.fp_lt hk) id, hbl.ref.same fun k hk => h2.block k (hbl.ref.fp hk).1 id⟩
              have tl : Turned (fun k => k = rb ∨ k = lb ∨ k = cn) Wd W2 := ((Turned.of_below HBX.out).trans (.setCell (S := fun k => k = rb ∨ k = lb ∨ k = cn) Vn ⟨lb, 4, none⟩ (.bool true) (.inr (.inl rfl)))).trans (h2.mono (fun _ hk _ => hk.elim))
              have t3 := HRL.out.turned.trans tl
              have t4 := TQ'.out.trans tl
              obtain ⟨kwas, -, -, -, -, klv, -, hBW2⟩ := HF.out W2 t3
              have kc2 : Blk W2 cn #[.int .i64 pre.length] 3 := h2.blk ((HRL.out.count.below HBX.out HRL.out.count.lt).same (lend_far lb Vn _ NN.out)) id
              rw [HC0.out] at klv
              have z3 : W2.cell? ⟨cn, 0, none⟩ = some (.int .i64 (pre.length : Nat)) := kc2.cell 0
              have f3 : W2.frozen? ⟨cn, 0, none⟩ = false := kc2.free 0
              have zl : W2.cell? ⟨c0 + 1, 0, none⟩ = some (.int .u8 lv) := klv.cell 0
              have r0 := kwas.cell 0
              have hi2 : (pre.length : Int) + 1 ≤ 9223372036854775807 := by
                have := HL48.out
                have := HLN.out
                omega
              have CB : Hid (∀ k, (k = rb ∨ k = lb ∨ k = cn) → ∃ cs T, Blk W k cs T) := hide (by
                obtain ⟨mb9, iv9, A9, cap9, l9, hb9, _⟩ := HR.out.both
                rintro k (rfl | rfl | rfl)
                · exact ⟨_, _, hb9.ref.blk⟩
                · exact ⟨_, _, hb9.lst.blk⟩
                · exact ⟨_, _, HR.out.count⟩)
              have HB2 := hide hb2
              have T3 := hide t3
              have T4 := hide t4
              have KC2 := hide kc2
              clear h2 hbl hb2 tl t3 t4 kwas klv hBW2 kc2
              subst ha3
              subst ha2
              by_cases hlv : (pre.length : Int) = lv
              · have c1 : ((pre.length : Int) = lv) = True := by simp [hlv]
                have c2 : decide ((pre.length : Int) = lv) = true := by simp [hlv]
                have hle : (l.items.length : Int) ≤ 9223372036854775807 := by
                  have := HL48.out
                  omega
                gi_wp2
                have tw : Turned (fun k => k = rb ∨ k = lb ∨ k = cn) W2 (W2.setCell ⟨cn, 0, none⟩ (.int .i64 (l.items.length : Nat))) := .setCell _ _ _ (.inr (.inr rfl))
                have hcell := KC2.out.set 0 (.int .i64 (l.items.length : Nat))
                have hne : ∀ k, Lst.own lb mb1 iv1 false k → k ≠ cn := fun k hk e => HB2.out.lst.apart KC2.out (by decide) (by decide) (e ▸ hk)
                have hnr : ∀ k, rown rb A1 k → k ≠ cn := fun k hk e => HB2.out.ref.apart KC2.out (by decide) (by decide) (e ▸ hk)
                exact ⟨keeps_of_turned _ (T4.out.trans tw) CB.out, rfl, T3.out.trans tw, hcell, _, _, _, _, _, ⟨HB2.out.lst.same fun k hk => Below.heap_setCell _ _ _ _ (hne k hk), HB2.out.ref.same fun k hk => Below.heap_setCell _ _ _ _ (hnr k hk)⟩, SM.out⟩
              · have c1 : ((pre.length : Int) = lv) = False := by simp [hlv]
                have c2 : decide ((pre.length : Int) = lv) = false := by simp [hlv]
                have c3 : ((pre.length : Int) == lv) = false := by simp [hlv]
                clear hlv
                gi_wp2
                have tw : Turned (fun k => k = rb ∨ k = lb ∨ k = cn) W2 (W2.setCell ⟨cn, 0, none⟩ (.int .i64 ((pre.length : Int) + 1))) := .setCell _ _ _ (.inr (.inr rfl))
                have hcell := KC2.out.set 0 (.int .i64 ((pre.length : Int) + 1))
                have hne : ∀ k, Lst.own lb mb1 iv1 false k → k ≠ cn := fun k hk e => HB2.out.lst.apart KC2.out (by decide) (by decide) (e ▸ hk)
                have hnr : ∀ k, rown rb A1 k → k ≠ cn := fun k hk e => HB2.out.ref.apart KC2.out (by decide) (by decide) (e ▸ hk)
                have tW := T4.out.trans tw
                refine ⟨keeps_of_turned _ tW CB.out, ⟨tW.size, fun g' hg' => ?_⟩, T3.out.trans tw, ?_, _, _, _, _, _, ⟨HB2.out.lst.same fun k hk => Below.heap_setCell _ _ _ _ (hne k hk), HB2.out.ref.same fun k hk => Below.heap_setCell _ _ _ _ (hnr k hk)⟩, SM.out⟩
                · obtain ⟨lg, _, cs, hcs⟩ := ownsRow_lt HP2.out.both.lst.row hg'
                  have hVW : V2.heap.size ≤ W.heap.size := by have := HR.out.turned.size; rwa [lend_size] at this
                  refine tW.block g' (Nat.lt_of_lt_of_le lg hVW) ?_
                  rintro (e | e | e)
                  · exact absurd ((e ▸ hcs).inj HP2.out.both.ref.blk) (by decide)
                  · exact absurd ((e ▸ hcs).inj HP2.out.both.lst.blk) (by decide)
                  · exact absurd ((e ▸ hcs).inj KN.out) (by decide)
                · rw [List.length_append, List.length_singleton]
                  exact hcell
        · have l4 : ((pre.length : Int) < (cntw : Int)) = False := by simp; omega
          have l5 : decide ((pre.length : Int) < (cntw : Int)) = false := by simp; omega
          gi_upto_region 20 with fail
          have HRL := hide HRQ.out.any
          clear HRQ l4 l5 hlw
          obtain ⟨mb1, iv1, lent1, A1, cap1, l1, hb1, hs1⟩ := HRL.out.both
          have BO := hide hb1
          have SM := hide hs1
          clear hb1 hs1
          gi_upto_region 21 with (first | (refine ⟨trivial, (fun h => nomatch h), ?_⟩; refine (CallsIn.inRound r (callsIn_wide.2 (All_any _ _))).mono ?_; rintro e v9 ⟨rfl, rfl⟩) | (refine ⟨trivial, ?_⟩; refine (CallsIn.inRound r (callsIn_wide.2 (All_any _ _))).mono ?_; rintro e v9 ⟨rfl, rfl⟩))
          have hbx := below_box Wq (.cells #[.pointer (some ⟨lb, 0, none⟩)] 23)
          have kbn := Blk.new Wq #[.pointer (some ⟨lb, 0, none⟩)] 23
          have hbo := BO.out.below hbx
          have hrn := (hbx.block r (Array.getElem?_eq_some_iff.1 HRRQ.out).1).trans HRRQ.out
          obtain ⟨bn, hbn⟩ : ∃ bn, Wq.heap.size = bn := ⟨_, rfl⟩
          obtain ⟨Vn, hVn⟩ : ∃ Vn, Wq.alloc (.cells #[.pointer (some ⟨lb, 0, none⟩)] 23) = Vn := ⟨_, rfl⟩
          rw [hVn] at hbx kbn hbo hrn ⊢
          rw [hbn] at kbn ⊢
          have nbl : bn ≠ lb := by
            rintro rfl
            exact absurd (kbn.inj hbo.lst.blk) (by decide)
          have nrow1 : ∀ g, iv1.ownBlock = some g → g < Vn.heap.size := fun g hg => (ownsRow_lt hbo.lst.row hg).1
          have BON := hide hbo
          have KBN := hide kbn
          have NBL := hide nbl
          have NROWN := hide nrow1
          have HBX := hide hbx
          have HBN := hide hbn
          have HRN := hide hrn
          clear hbx kbn hbo hrn nbl nrow1 hbn hVn
          simp only [Nat.reduceSub]
          refine name_act fun a2 ha2 => ?_
          refine wpIn_post_block (fun a W' => a = a2 ∧ Turned (fun _ => False) (lend lb Vn) W') ?nest ?rest
          case nest =>
            refine wpIn_rangeFunc_givesN (l₀ := r) (r₀ := rr) (xs := l1.items) (T := lend lb) (Kp := RowStays iv1) (encs := encsI) rfl HRN.out (by omega) (gf := 25) (lb := #[.pointer (some ⟨bn, 0, none⟩)]) (by rw [ha2]; rfl) trivial (enters_of Tryd.func25 (by kernel_rfl) rfl)
              ((allGives 5 BON.out.lst (KBN.out.cell 0) NBL.out).inRound r) (fun h k => rowStays_trans h k) (fun W r o hr => rowStays_put NROWN.out W r o hr) (fun _ => rfl) (fun W k hk => lend_far lb W k (by have := BON.out.lst.blk.lt; omega))
              (fun _ W' => Turned (fun _ => False) (lend lb Vn) W') (fun c _ W' => c = .exit 4 ∧ Turned (fun _ => False) (lend lb Vn) W')
              (by
                rw [← lend_size lb Vn]
                exact fun pre A B row h hg hr => turned_own h hg hr)
              (by
                rw [← lend_size lb Vn]
                exact fun c pre A B row h hg hr => ⟨h.1, turned_own h.2 hg hr⟩)
              (fun W hW => lend_below hW _)
              (fun _ _ _ => True) (fun x a' _ A B row hs hg hr => trivial) ?nassign ?nbody ?ndone ?nstop
            case nassign =>
              intro r2 pre2 x2 W2 K2 h2 hK2
              refine wpIn_skip ?_
              exact hK2 _ _ ⟨Nat.le_refl _, fun _ _ _ h _ => h⟩ ⟨Nat.le_refl _, fun _ _ => rfl⟩ h2 trivial
            case nbody =>
              rintro r2 pre2 x2 a2' W2 hr2 ⟨rr2, hrr2⟩ h2 - hpre2
              refine wpIn_block ?_
              refine wpIn_exit ?_
              exact ⟨⟨Nat.le_refl _, fun _ _ _ h _ => h⟩, rfl, h2⟩
            case ndone =>
              intro W2 hz2 h2
              exact ⟨.inl rfl, rfl, h2⟩
            case nstop =>
              rintro c pre2 W2 hz2 hpre2 ⟨rfl, h2⟩
              exact wpIn_exit ⟨.inr rfl, rfl, h2⟩
          case rest =>
            rintro a3 W2 ⟨ha3, h2⟩
            have hbl := BON.out.lend
            have hb2 : Both W0.heap.size W2 lb mb1 iv1 true rb A1 cap1 l1 := ⟨hbl.lst.same fun k hk => h2.block k (hbl.lst.fp_lt hk) id, hbl.ref.same fun k hk => h2.block k (hbl.ref.fp hk).1 id⟩
            have tl : Turned (fun k => k = rb ∨ k = lb ∨ k = cn) Wq W2 := ((Turned.of_below HBX.out).trans (.setCell (S := fun k => k = rb ∨ k = lb ∨ k = cn) Vn ⟨lb, 4, none⟩ (.bool true) (.inr (.inl rfl)))).trans (h2.mono (fun _ hk _ => hk.elim))
            have t3 := HRL.out.turned.trans tl
            have t4 := TQ.out.trans tl
            obtain ⟨kwas, -, -, -, -, klv, -, hBW2⟩ := HF.out W2 t3
            have kc2 : Blk W2 cn #[.int .i64 pre.length] 3 := h2.blk ((HRL.out.count.below HBX.out HRL.out.count.lt).same (lend_far lb Vn _ NN.out)) id
            rw [HC0.out] at klv
            have z3 : W2.cell? ⟨cn, 0, none⟩ = some (.int .i64 (pre.length : Nat)) := kc2.cell 0
            have f3 : W2.frozen? ⟨cn, 0, none⟩ = false := kc2.free 0
            have zl : W2.cell? ⟨c0 + 1, 0, none⟩ = some (.int .u8 lv) := klv.cell 0
            have r0 := kwas.cell 0
            have hi2 : (pre.length : Int) + 1 ≤ 9223372036854775807 := by
              have := HL48.out
              have := HLN.out
              omega
            have CB : Hid (∀ k, (k = rb ∨ k = lb ∨ k = cn) → ∃ cs T, Blk W k cs T) := hide (by
              obtain ⟨mb9, iv9, A9, cap9, l9, hb9, _⟩ := HR.out.both
              rintro k (rfl | rfl | rfl)
              · exact ⟨_, _, hb9.ref.blk⟩
              · exact ⟨_, _, hb9.lst.blk⟩
              · exact ⟨_, _, HR.out.count⟩)
            have HB2 := hide hb2
            have T3 := hide t3
            have T4 := hide t4
            have KC2 := hide kc2
            clear h2 hbl hb2 tl t3 t4 kwas klv hBW2 kc2
            subst ha3
            subst ha2
            by_cases hlv : (pre.length : Int) = lv
            · have c1 : ((pre.length : Int) = lv) = True := by simp [hlv]
              have c2 : decide ((pre.length : Int) = lv) = true := by simp [hlv]
              have hle : (l.items.length : Int) ≤ 9223372036854775807 := by
                have := HL48.out
                omega
              gi_wp2
              have tw : Turned (fun k => k = rb ∨ k = lb ∨ k = cn) W2 (W2.setCell ⟨cn, 0, none⟩ (.int .i64 (l.items.length : Nat))) := .setCell _ _ _ (.inr (.inr rfl))
              have hcell := KC2.out.set 0 (.int .i64 (l.items.length : Nat))
              have hne : ∀ k, Lst.own lb mb1 iv1 false k → k ≠ cn := fun k hk e => HB2.out.lst.apart KC2.out (by decide) (by decide) (e ▸ hk)
              have hnr : ∀ k, rown rb A1 k → k ≠ cn := fun k hk e => HB2.out.ref.apart KC2.out (by decide) (by decide) (e ▸ hk)
              exact ⟨keeps_of_turned _ (T4.out.trans tw) CB.out, rfl, T3.out.trans tw, hcell, _, _, _, _, _, ⟨HB2.out.lst.same fun k hk => Below.heap_setCell _ _ _ _ (hne k hk), HB2.out.ref.same fun k hk => Below.heap_setCell _ _ _ _ (hnr k hk)⟩, SM.out⟩
            · have c1 : ((pre.length : Int) = lv) = False := by simp [hlv]
              have c2 : decide ((pre.length : Int) = lv) = false := by simp [hlv]
              have c3 : ((pre.length : Int) == lv) = false := by simp [hlv]
              clear hlv
              gi_wp2
              have tw : Turned (fun k => k = rb ∨ k = lb ∨ k = cn) W2 (W2.setCell ⟨cn, 0, none⟩ (.int .i64 ((pre.length : Int) + 1))) := .setCell _ _ _ (.inr (.inr rfl))
              have hcell := KC2.out.set 0 (.int .i64 ((pre.length : Int) + 1))
              have hne : ∀ k, Lst.own lb mb1 iv1 false k → k ≠ cn := fun k hk e => HB2.out.lst.apart KC2.out (by decide) (by decide) (e ▸ hk)
              have hnr : ∀ k, rown rb A1 k → k ≠ cn := fun k hk e => HB2.out.ref.apart KC2.out (by decide) (by decide) (e ▸ hk)
              have tW := T4.out.trans tw
              refine ⟨keeps_of_turned _ tW CB.out, ⟨tW.size, fun g' hg' => ?_⟩, T3.out.trans tw, ?_, _, _, _, _, _, ⟨HB2.out.lst.same fun k hk => Below.heap_setCell _ _ _ _ (hne k hk), HB2.out.ref.same fun k hk => Below.heap_setCell _ _ _ _ (hnr k hk)⟩, SM.out⟩
              · obtain ⟨lg, _, cs, hcs⟩ := ownsRow_lt HP2.out.both.lst.row hg'
                have hVW : V2.heap.size ≤ W.heap.size := by have := HR.out.turned.size; rwa [lend_size] at this
                refine tW.block g' (Nat.lt_of_lt_of_le lg hVW) ?_
                rintro (e | e | e)
                · exact absurd ((e ▸ hcs).inj HP2.out.both.ref.blk) (by decide)
                · exact absurd ((e ▸ hcs).inj HP2.out.both.lst.blk) (by decide)
                · exact absurd ((e ▸ hcs).inj KN.out) (by decide)
              · rw [List.length_append, List.length_singleton]
                exact hcell
      case done =>
        rintro D W hD h1 hdef
        exact ⟨.inl rfl, D, hD, by rw [ha0], h1, hdef⟩
      case stop =>
        rintro D c pre W hD hpre ⟨rfl, h1⟩ hdef
        exact wpIn_exit ⟨.inr rfl, D, hD, by rw [ha0], h1, hdef⟩
theorem ListWalks_any (v0 : Value) (A : Option Addr) (cnt cap : Nat) (hv : v0 = .slice A cnt cap) (v1 : Value) (Aw : Option Addr) (cntw capw : Nat) (hv1 : v1 = .slice Aw cntw capw) (lv : Int) (w : World) (hM : Met w) (hcn : cnt ≤ maxLen)
    (hA : (∀ j, j < cnt → ∃ (ab ao : Nat) (kd nn : Int) (t : Bool) (n : Int) (s : ByteArray), A = some ⟨ab, ao, none⟩ ∧ w.cell? ⟨ab, ao + j * 5, none⟩ = some (.int .i64 kd) ∧ w.cell? ⟨ab, ao + j * 5 + 1, none⟩ = some (.int .i64 nn) ∧ w.cell? ⟨ab, ao + j * 5 + 2, none⟩ = some (.bool t) ∧
      w.cell? ⟨ab, ao + j * 5 + 3, none⟩ = some (.int .i64 n) ∧ w.cell? ⟨ab, ao + j * 5 + 4, none⟩ = some (.string s) ∧ Kok ⟨t, n, s.data.toList⟩ ∧ s.size ≤ 281474976710656 ∧ -9223372036854775808 ≤ kd ∧ kd ≤ 9223372036854775807)) (hcw : cntw ≤ maxLen)
    (hAw : (∀ j, j < cntw → ∃ (ab ao : Nat) (kd nn : Int) (t : Bool) (n : Int) (s : ByteArray), Aw = some ⟨ab, ao, none⟩ ∧ w.cell? ⟨ab, ao + j * 5, none⟩ = some (.int .i64 kd) ∧ w.cell? ⟨ab, ao + j * 5 + 1, none⟩ = some (.int .i64 nn) ∧ w.cell? ⟨ab, ao + j * 5 + 2, none⟩ = some (.bool t) ∧
      w.cell? ⟨ab, ao + j * 5 + 3, none⟩ = some (.int .i64 n) ∧ w.cell? ⟨ab, ao + j * 5 + 4, none⟩ = some (.string s) ∧ Kok ⟨t, n, s.data.toList⟩ ∧ s.size ≤ 281474976710656 ∧ -9223372036854775808 ≤ kd ∧ kd ≤ 9223372036854775807)) (hlv0 : 0 ≤ lv) (hlv1 : lv ≤ 255) :
    Calls Tryd.prog 5 #[v0, v1, .int .u8 lv] w fun e w' => e = .returned (.bool true) ∧ Below w.heap.size w w' :=
  ListWalks_walk v0 v1 lv A cnt cap hv Aw cntw capw hv1 w hM hcn hcw hlv0 hlv1 hA hAw
end Go.Proofs.YtmfnonepcipplaaDoor
