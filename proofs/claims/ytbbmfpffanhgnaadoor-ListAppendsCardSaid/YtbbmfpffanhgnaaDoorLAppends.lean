/-
  ListAppends: for every script, the law's function returns true, and nothing below its own memory turns.
-/
import Derived.Test.YtbbmfpffanhgnaaDoorLRoundQ
namespace Go.Proofs.YtbbmfpffanhgnaaDoor
open Go Go.RowKit Convs Lists
attribute [local go_sem] Oper.semAt_some

theorem eqlNil (w : World) (lb : Nat) : (binOp .eql 23 (.pointer (some ⟨lb, 0, none⟩)) (.pointer none)).run Tryd.prog w = .ok (.bool false) w := by
  obtain ⟨i, hi⟩ := Option.isSome_iff_exists.1 lstInfo
  first
  | exact run_eql_ptr_other w _ _ (by simp) Tryd.underlying23 hi
  | (have h : ∀ d : Nat, (Op.equalIn (d + 1) 23 (.pointer (some ⟨lb, 0, none⟩)) (.pointer none)).run Tryd.prog w = .ok false w := fun d => by
      simp [Op.equalIn, run_underlying Tryd.underlying23]
     simp only [binOp]
     simp [Op.equal, Op.maxDepth, h 9999])

set_option maxRecDepth 100000 in
set_option maxHeartbeats 4000000 in
theorem ListAppends_any (v0 : Value) (A : Option Addr) (cnt cap : Nat) (hv : v0 = .slice A cnt cap) (w : World) (hM : Met w) (hcn : cnt ≤ maxLen)
    (hA : ∀ j, j < cnt → ∃ (ab ao : Nat) (kd nn : Int) (t : Bool) (n : Int) (s : ByteArray), A = some ⟨ab, ao, none⟩ ∧ w.cell? ⟨ab, ao + j * 5, none⟩ = some (.int .i64 kd) ∧ w.cell? ⟨ab, ao + j * 5 + 1, none⟩ = some (.int .i64 nn) ∧ w.cell? ⟨ab, ao + j * 5 + 2, none⟩ = some (.bool t) ∧
      w.cell? ⟨ab, ao + j * 5 + 3, none⟩ = some (.int .i64 n) ∧ w.cell? ⟨ab, ao + j * 5 + 4, none⟩ = some (.string s) ∧ Kok ⟨t, n, s.data.toList⟩ ∧ s.size ≤ 281474976710656 ∧ -9223372036854775808 ≤ kd ∧ kd ≤ 9223372036854775807) :
    Calls Tryd.prog 7 #[v0] w fun e w' => e = .returned (.bool true) ∧ Below w.heap.size w w' := by
  subst hv
  have HMW := hide hM
  have HA := hide hA
  clear hM hA
  have hr0 := Blk.new w #[.bool false] 4
  have hb0 := below_box w (.cells #[.bool false] 4)
  obtain ⟨W0, hW0⟩ : ∃ W0, w.alloc (.cells #[.bool false] 4) = W0 := ⟨_, rfl⟩
  have hz0 : W0.heap.size = w.heap.size + 1 := by rw [← hW0]; simp
  rw [hW0] at hr0 hb0
  have HW0 := hide hW0
  clear hW0
  have HR0 := hide hr0
  have HB0 := hide hb0
  have HNEW := hide (New_any W0)
  clear hr0 hb0
  refine (callsIn_wide (n := 6)).1 ?_
  refine callsIn_of_wp_marks Tryd.func7 rfl trivial ?_ rfl
  refine wpIn_wide.2 ?_
  simp only [Tryd.ntmps7, List.size_toArray, List.length_cons, List.length_nil, Nat.reduceAdd, Nat.reduceSub, Array.replicate_succ, Array.replicate_zero, List.push_toArray, List.append_toArray, List.nil_append, List.cons_append]
  go_upto_region 1 with fail
  rw [HW0.out]
  go_upto_region 2 with (first | (go_at_call 9; refine (unhide HNEW).mono ?_; rintro e w1 ⟨rfl, hl1, hb1⟩))
  have hl2 := hl1.alloc (.cells #[.pointer (some ⟨W0.heap.size + 1, 0, none⟩)] 23)
  have kb3 := Blk.new w1 #[.pointer (some ⟨W0.heap.size + 1, 0, none⟩)] 23
  have hb2 := HB0.out.trans ((hb1.alloc hb1.size (.cells #[.pointer (some ⟨W0.heap.size + 1, 0, none⟩)] 23)).mono HB0.out.size)
  have kr2 := (HR0.out.below hb1 HR0.out.lt).alloc (.cells #[.pointer (some ⟨W0.heap.size + 1, 0, none⟩)] 23)
  obtain ⟨W2, hW2⟩ : ∃ W2, w1.alloc (.cells #[.pointer (some ⟨W0.heap.size + 1, 0, none⟩)] 23) = W2 := ⟨_, rfl⟩
  rw [hz0] at hW2
  rw [← hz0] at hW2
  rw [show w.heap.size + 1 + 1 = W0.heap.size + 1 by rw [hz0], hW2]
  rw [hW2] at hl2 kb3 hb2 kr2
  clear hW2
  obtain ⟨lb, hlb⟩ : ∃ lb, W0.heap.size + 1 = lb := ⟨_, rfl⟩
  obtain ⟨mb, hmb⟩ : ∃ mb, W0.heap.size = mb := ⟨_, rfl⟩
  obtain ⟨b2, hb2'⟩ : ∃ b2, w.heap.size = b2 := ⟨_, rfl⟩
  obtain ⟨b3, hb3⟩ : ∃ b3, w1.heap.size = b3 := ⟨_, rfl⟩
  rw [hlb] at hl2 kb3 ⊢
  rw [hb3] at kb3 ⊢
  have hst : Lst w.heap.size W2 lb mb (.slice none 0 0) false ⟨[], 0⟩ := by
    rw [hmb] at hl2
    exact ⟨hl2.blk, ownsRow_base hl2.row (by omega), hl2.map, hl2.good, hl2.keys, by omega, by omega⟩
  have hal := hide (alive_any W2 (HMW.out.below hb2))
  obtain ⟨x0, x1⟩ : W2.cell? ⟨b3, 0, none⟩ = some (.pointer (some ⟨lb, 0, none⟩)) ∧ True := ⟨kb3.cell 0, trivial⟩
  have hq := fun W => eqlNil W lb
  have ST := hide hst
  have KB3 := hide kb3
  have KR := hide kr2
  have HB2 := hide hb2
  clear hl2 hb2 kr2 kb3 hst hl1 hb1 x1
  go_wp2_with (first | (go_at_call 10; refine (unhide hal).mono ?_; rintro e W3 ⟨rfl, hb3'⟩))
  have rnd0 : Rnd w b2 b3 lb [] W3 mb (.slice none 0 0) false ⟨[], 0⟩ (-1) := by
    have r2 : Rnd w b2 b3 lb [] W2 mb (.slice none 0 0) false ⟨[], 0⟩ (-1) := ⟨HB2.out, hb2' ▸ KR.out, KB3.out, ST.out, ⟨Ls.Most.new, fun k hk => by simp [Ls.keys] at hk⟩, List.nodup_nil, fun D hD => by simp at hD, by omega⟩
    exact r2.later hb3'
  have RND0 := hide rnd0
  clear rnd0 hb3' x0 hal
  refine wp_loop_ghost_k (fun gk a wr => ∃ (u4 u27 u6 u7 u8 u9 u10 u11 u12 u13 u14 u15 u16 u17 u28 u29 u30 u31 u32 u33 u34 u35 u36 u37 u38 u39 u40 u41 u42 u43 u44 u45 u46 u47 u48 u49 u50 u51 u52 u53 u54 u55 u56 u57 u58 u59 u60 u61 u62 u63 u64 u65 u66 u67 u68 u69 u70 u71 u72 u73 u74 u75 u76 u77 u78 u79 u80 u81 u82 u83 u84 u85 u86 u87 u88 u89 u90 u91 u92 u93 u94 u95 u96 u97 u98 u99 u100 u101 u102 u103 u104 u105 u106 u107 u108 u109 u110 u111 u112 u113 u114 u115 u116 u117 u118 u119 u120 u121 u122 u123 u124 u125 u126 u127 u128 u129 u130 u131 u132 u133 u134 u135 u136 u137 u138 u139 : Value) (df : List Deferred), (∃ (j : Nat) (m : Int) (Ds : List Nat) (mb : Nat) (iv : Value) (lent : Bool) (l : Ls), gk = cnt - j ∧ j ≤ cnt ∧ u4 = .int .i64 m ∧ u27 = .int .i64 j ∧ df = marksOf Ds ∧ Hid (Rnd w b2 b3 lb Ds wr mb iv lent l m)) ∧
    a = { tmps := #[.slice A cnt cap, undef, .pointer (some ⟨b2, 0, none⟩), .pointer (some ⟨b3, 0, none⟩), u4, undef, u6, u7, u8, u9, u10, u11, u12, u13, u14, u15, u16, u17, .pointer (some ⟨lb, 0, none⟩), .pointer (some ⟨lb, 0, none⟩), .bool false, .bool false, .bool true, .bool false, .bool false, .slice A cnt cap, .int .i64 cnt, u27, u28, u29, u30, u31, u32, u33, u34, u35, u36, u37, u38, u39, u40, u41, u42, u43, u44, u45, u46, u47, u48, u49, u50, u51, u52, u53, u54, u55, u56, u57, u58, u59, u60, u61, u62, u63, u64, u65, u66, u67, u68, u69, u70, u71, u72, u73, u74, u75, u76, u77, u78, u79, u80, u81, u82, u83, u84, u85, u86, u87, u88, u89, u90, u91, u92, u93, u94, u95, u96, u97, u98, u99, u100, u101, u102, u103, u104, u105, u106, u107, u108, u109, u110, u111, u112, u113, u114, u115, u116, u117, u118, u119, u120, u121, u122, u123, u124, u125, u126, u127, u128, u129, u130, u131, u132, u133, u134, u135, u136, u137, u138, u139], defers := df }) cnt ?_ ?_
  · refine ⟨_, _, _, _, _, _, _, _, _, _, _, _, _, _, _, _, _, _, _, _, _, _, _, _, _, _, _, _, _, _, _, _, _, _, _, _, _, _, _, _, _, _, _, _, _, _, _, _, _, _, _, _, _, _, _, _, _, _, _, _, _, _, _, _, _, _, _, _, _, _, _, _, _, _, _, _, _, _, _, _, _, _, _, _, _, _, _, _, _, _, _, _, _, _, _, _, _, _, _, _, _, _, _, _, _, _, _, _, _, _, _, _, _, _, _, _, _, _, _, _, _, _, _, _, _, _, _, ⟨0, -1, [], mb, _, false, _, rfl, Nat.zero_le _, rfl, rfl, rfl, RND0⟩, rfl⟩
  have HW2' := hide hb2'
  clear hb2' ST KB3 KR HB2 RND0 HB0 HR0 HW0 hlb hmb hb3 HNEW
  intro gk a wr hinv
  obtain ⟨u4, hinv⟩ := hinv
  obtain ⟨u27, hinv⟩ := hinv
  obtain ⟨u6, hinv⟩ := hinv
  obtain ⟨u7, hinv⟩ := hinv
  obtain ⟨u8, hinv⟩ := hinv
  obtain ⟨u9, hinv⟩ := hinv
  obtain ⟨u10, hinv⟩ := hinv
  obtain ⟨u11, hinv⟩ := hinv
  obtain ⟨u12, hinv⟩ := hinv
  obtain ⟨u13, hinv⟩ := hinv
  obtain ⟨u14, hinv⟩ := hinv
  obtain ⟨u15, hinv⟩ := hinv
  obtain ⟨u16, hinv⟩ := hinv
  obtain ⟨u17, hinv⟩ := hinv
  obtain ⟨u28, hinv⟩ := hinv
  obtain ⟨u29, hinv⟩ := hinv
  obtain ⟨u30, hinv⟩ := hinv
  obtain ⟨u31, hinv⟩ := hinv
  obtain ⟨u32, hinv⟩ := hinv
  obtain ⟨u33, hinv⟩ := hinv
  obtain ⟨u34, hinv⟩ := hinv
  obtain ⟨u35, hinv⟩ := hinv
  obtain ⟨u36, hinv⟩ := hinv
  obtain ⟨u37, hinv⟩ := hinv
  obtain ⟨u38, hinv⟩ := hinv
  obtain ⟨u39, hinv⟩ := hinv
  obtain ⟨u40, hinv⟩ := hinv
  obtain ⟨u41, hinv⟩ := hinv
  obtain ⟨u42, hinv⟩ := hinv
  obtain ⟨u43, hinv⟩ := hinv
  obtain ⟨u44, hinv⟩ := hinv
  obtain ⟨u45, hinv⟩ := hinv
  obtain ⟨u46, hinv⟩ := hinv
  obtain ⟨u47, hinv⟩ := hinv
  obtain ⟨u48, hinv⟩ := hinv
  obtain ⟨u49, hinv⟩ := hinv
  obtain ⟨u50, hinv⟩ := hinv
  obtain ⟨u51, hinv⟩ := hinv
  obtain ⟨u52, hinv⟩ := hinv
  obtain ⟨u53, hinv⟩ := hinv
  obtain ⟨u54, hinv⟩ := hinv
  obtain ⟨u55, hinv⟩ := hinv
  obtain ⟨u56, hinv⟩ := hinv
  obtain ⟨u57, hinv⟩ := hinv
  obtain ⟨u58, hinv⟩ := hinv
  obtain ⟨u59, hinv⟩ := hinv
  obtain ⟨u60, hinv⟩ := hinv
  obtain ⟨u61, hinv⟩ := hinv
  obtain ⟨u62, hinv⟩ := hinv
  obtain ⟨u63, hinv⟩ := hinv
  obtain ⟨u64, hinv⟩ := hinv
  obtain ⟨u65, hinv⟩ := hinv
  obtain ⟨u66, hinv⟩ := hinv
  obtain ⟨u67, hinv⟩ := hinv
  obtain ⟨u68, hinv⟩ := hinv
  obtain ⟨u69, hinv⟩ := hinv
  obtain ⟨u70, hinv⟩ := hinv
  obtain ⟨u71, hinv⟩ := hinv
  obtain ⟨u72, hinv⟩ := hinv
  obtain ⟨u73, hinv⟩ := hinv
  obtain ⟨u74, hinv⟩ := hinv
  obtain ⟨u75, hinv⟩ := hinv
  obtain ⟨u76, hinv⟩ := hinv
  obtain ⟨u77, hinv⟩ := hinv
  obtain ⟨u78, hinv⟩ := hinv
  obtain ⟨u79, hinv⟩ := hinv
  obtain ⟨u80, hinv⟩ := hinv
  obtain ⟨u81, hinv⟩ := hinv
  obtain ⟨u82, hinv⟩ := hinv
  obtain ⟨u83, hinv⟩ := hinv
  obtain ⟨u84, hinv⟩ := hinv
  obtain ⟨u85, hinv⟩ := hinv
  obtain ⟨u86, hinv⟩ := hinv
  obtain ⟨u87, hinv⟩ := hinv
  obtain ⟨u88, hinv⟩ := hinv
  obtain ⟨u89, hinv⟩ := hinv
  obtain ⟨u90, hinv⟩ := hinv
  obtain ⟨u91, hinv⟩ := hinv
  obtain ⟨u92, hinv⟩ := hinv
  obtain ⟨u93, hinv⟩ := hinv
  obtain ⟨u94, hinv⟩ := hinv
  obtain ⟨u95, hinv⟩ := hinv
  obtain ⟨u96, hinv⟩ := hinv
  obtain ⟨u97, hinv⟩ := hinv
  obtain ⟨u98, hinv⟩ := hinv
  obtain ⟨u99, hinv⟩ := hinv
  obtain ⟨u100, hinv⟩ := hinv
  obtain ⟨u101, hinv⟩ := hinv
  obtain ⟨u102, hinv⟩ := hinv
  obtain ⟨u103, hinv⟩ := hinv
  obtain ⟨u104, hinv⟩ := hinv
  obtain ⟨u105, hinv⟩ := hinv
  obtain ⟨u106, hinv⟩ := hinv
  obtain ⟨u107, hinv⟩ := hinv
  obtain ⟨u108, hinv⟩ := hinv
  obtain ⟨u109, hinv⟩ := hinv
  obtain ⟨u110, hinv⟩ := hinv
  obtain ⟨u111, hinv⟩ := hinv
  obtain ⟨u112, hinv⟩ := hinv
  obtain ⟨u113, hinv⟩ := hinv
  obtain ⟨u114, hinv⟩ := hinv
  obtain ⟨u115, hinv⟩ := hinv
  obtain ⟨u116, hinv⟩ := hinv
  obtain ⟨u117, hinv⟩ := hinv
  obtain ⟨u118, hinv⟩ := hinv
  obtain ⟨u119, hinv⟩ := hinv
  obtain ⟨u120, hinv⟩ := hinv
  obtain ⟨u121, hinv⟩ := hinv
  obtain ⟨u122, hinv⟩ := hinv
  obtain ⟨u123, hinv⟩ := hinv
  obtain ⟨u124, hinv⟩ := hinv
  obtain ⟨u125, hinv⟩ := hinv
  obtain ⟨u126, hinv⟩ := hinv
  obtain ⟨u127, hinv⟩ := hinv
  obtain ⟨u128, hinv⟩ := hinv
  obtain ⟨u129, hinv⟩ := hinv
  obtain ⟨u130, hinv⟩ := hinv
  obtain ⟨u131, hinv⟩ := hinv
  obtain ⟨u132, hinv⟩ := hinv
  obtain ⟨u133, hinv⟩ := hinv
  obtain ⟨u134, hinv⟩ := hinv
  obtain ⟨u135, hinv⟩ := hinv
  obtain ⟨u136, hinv⟩ := hinv
  obtain ⟨u137, hinv⟩ := hinv
  obtain ⟨u138, hinv⟩ := hinv
  obtain ⟨u139, hinv⟩ := hinv
  obtain ⟨df, ⟨j, m, Ds, mb, iv, lent, l, rfl, hj, rfl, rfl, rfl, RND⟩, ha⟩ := hinv
  subst ha
  intro J K hJ hK
  have HJ := hide hJ
  clear hJ
  by_cases hlt : j < cnt
  · have hjb : (j : Int) + 1 ≤ 9223372036854775807 := by unfold maxLen at hcn; omega
    obtain ⟨ab, ao, kd, nn, t, n, s, rfl, p0, p1, p2, p3, p4, hko, hsz, hkd0, hkd1⟩ := HA.out j hlt
    have q0 : wr.cell? ⟨ab, ao + j * 5, none⟩ = some (.int .i64 kd) := (RND.out.below.cell (p := ⟨ab, ao + j * 5, none⟩) (World.block_lt_of_cell? w _ p0)).trans p0
    have q1 : wr.cell? ⟨ab, ao + j * 5 + 1, none⟩ = some (.int .i64 nn) := (RND.out.below.cell (p := ⟨ab, ao + j * 5 + 1, none⟩) (World.block_lt_of_cell? w _ p1)).trans p1
    have q2 : wr.cell? ⟨ab, ao + j * 5 + 2, none⟩ = some (.bool t) := (RND.out.below.cell (p := ⟨ab, ao + j * 5 + 2, none⟩) (World.block_lt_of_cell? w _ p2)).trans p2
    have q3 : wr.cell? ⟨ab, ao + j * 5 + 3, none⟩ = some (.int .i64 n) := (RND.out.below.cell (p := ⟨ab, ao + j * 5 + 3, none⟩) (World.block_lt_of_cell? w _ p3)).trans p3
    have q4 : wr.cell? ⟨ab, ao + j * 5 + 4, none⟩ = some (.string s) := (RND.out.below.cell (p := ⟨ab, ao + j * 5 + 4, none⟩) (World.block_lt_of_cell? w _ p4)).trans p4
    have KO := hide hko
    have SZ := hide hsz
    clear p0 p1 p2 p3 p4 hko hsz
    go_upto_region 9 with fail
    have kb6 := (Blk.new wr #[.int .i64 kd, .int .i64 nn, .bool t, .int .i64 n, .string s] 32).alloc (.cells #[.slice none 0 0] 54)
    have kb7 := Blk.new (wr.alloc (.cells #[.int .i64 kd, .int .i64 nn, .bool t, .int .i64 n, .string s] 32)) #[.slice none 0 0] 54
    rw [World.size_alloc] at kb7
    have mid8 := (RND.out.later (below_box2 wr (.cells #[.int .i64 kd, .int .i64 nn, .bool t, .int .i64 n, .string s] 32) (.cells #[.slice none 0 0] 54))).mid kb6 kb7
    obtain ⟨W8, hW8⟩ : ∃ W8, (wr.alloc (.cells #[.int .i64 kd, .int .i64 nn, .bool t, .int .i64 n, .string s] 32)).alloc (.cells #[.slice none 0 0] 54) = W8 := ⟨_, rfl⟩
    have hbg : w.heap.size ≤ wr.heap.size + 1 := by have := RND.out.below.size; omega
    obtain ⟨b6, hb6⟩ : ∃ b6, wr.heap.size = b6 := ⟨_, rfl⟩
    obtain ⟨b7, hb7⟩ : ∃ b7, wr.heap.size + 1 = b7 := ⟨_, rfl⟩
    rw [hb7] at hbg
    rw [hW8, hb6, show b6 + 1 = b7 by omega] at mid8 ⊢
    have x3 : W8.cell? ⟨b3, 0, none⟩ = some (.pointer (some ⟨lb, 0, none⟩)) := mid8.box.cell 0
    have MID8 := hide mid8
    have HBG := hide hbg
    clear kb6 kb7 mid8 hW8 hb6 hb7 q0 q1 q2 q3 q4 hbg RND
    go_upto_region 12 with (first | (go_at_call 14; with_reducible refine (All_any _ _).mono ?_; rintro e v9 ⟨rfl, rfl⟩))
    have mid9 := MID8.out.later (below_box W8 (.cells #[.pointer (some ⟨lb, 0, none⟩)] 23))
    have kb9 := Blk.new W8 #[.pointer (some ⟨lb, 0, none⟩)] 23
    obtain ⟨b9, hb9⟩ : ∃ b9, W8.heap.size = b9 := ⟨_, rfl⟩
    obtain ⟨V9, hV9⟩ : ∃ V9, W8.alloc (.cells #[.pointer (some ⟨lb, 0, none⟩)] 23) = V9 := ⟨_, rfl⟩
    rw [hb9] at kb9 ⊢
    rw [hV9] at kb9 mid9 ⊢
    have n9 : b9 ≠ lb := by
      rintro rfl
      exact absurd (kb9.inj mid9.lst.blk) (by decide)
    have mid9l := mid9.lend (by decide) (by decide)
    have nrow : ∀ g, iv.ownBlock = some g → g < V9.heap.size := fun g hg => (ownsRow_lt mid9.lst.row hg).1
    have MID9 := hide mid9
    have MID9L := hide mid9l
    have KB9 := hide kb9
    have N9 := hide n9
    have NROW := hide nrow
    clear mid9 mid9l kb9 n9 nrow hb9 hV9 x3 MID8
    obtain ⟨i0, hi, hz0, hz1, hz2⟩ := info_parts keyInfo
    refine (wpIn_wide (n := 6)).1 ?_
    refine name_act fun a0 ha0 => ?_
    refine wpIn_rangeFunc_gives (xs := l.items) (T := lend lb) (Kp := RowStays iv) (encs := encsI) rfl (by omega) (gf := 30) (lb := #[.pointer (some ⟨b9, 0, none⟩)]) (by rw [ha0]; rfl) trivial (enters_of Tryd.func30 (by kernel_rfl) rfl)
      (allGives 5 MID9.out.lst (KB9.out.cell 0) N9.out) (fun h k => rowStays_trans h k) (fun W r o hr => rowStays_put NROW.out W r o hr) (fun _ => rfl) (fun W k hk => lend_far lb W k (by have := MID9.out.lst.blk.lt; omega))
      (fun pre W => ∃ v, Ahead (lend lb V9) b7 (pre.map (·.1)) v W) (fun _ _ _ => False) (by rw [← lend_size lb V9]; exact Ahead.own _) (fun _ _ _ _ _ hs _ _ => hs)
      (fun W hW => ⟨_, ((MID9L.out.ahb.same (((lend_below (lb := lb) hW (fun _ => False)).block b7 (MID9L.out.ahb.lt) id))) : Blk (lend lb W) b7 #[.slice none 0 0] _), World.ownsRow_nil _ _ _ _, lend_below hW _⟩)
      (fun x a' W => ∃ kb, V9.heap.size ≤ kb ∧ Blk W kb #[.bool x.1.t, .int .i64 x.1.n, .string ⟨x.1.s.toArray⟩] 30 ∧ a' = { tmps := ((a0.tmps.setIfInBounds 33 (kv x.1)).setIfInBounds 34 (.int .i64 x.2)).setIfInBounds 8 (.pointer (some ⟨kb, 0, none⟩)), defers := [] })
      (fun x a' _ A B row hs hg hr => by obtain ⟨kb, h1, h2, h3⟩ := hs; exact ⟨kb, h1, blk_own h2 hg hr, h3⟩)
      ?assign ?body ?done ?stop
    case stop =>
      intro D c pre W _ _ h _
      exact h.elim
    case assign =>
      rintro r pre ⟨⟨ty, ny, sy⟩, vy⟩ W K ⟨v, hah⟩ hK
      have hsz9 : V9.heap.size ≤ W.heap.size := by have := hah.2.2.size; rwa [lend_size] at this
      have HK := hide hK
      have HAH := hide hah
      clear hK hah
      subst ha0
      unfold encsI kv
      gi_wp2
      exact HK.out _ _ ((KeepsOthers.alloc _ _).from _) ⟨by simp, fun g hg => Below.heap_alloc _ _ _ (Nat.lt_of_lt_of_le (NROW.out g hg) hsz9)⟩ ⟨v, HAH.out.later (below_box W _)⟩ ⟨W.heap.size, hsz9, Blk.new W _ _, rfl⟩
    case body =>
      as_aux_lemma =>
        rintro r pre ⟨⟨ty, ny, sy⟩, vy⟩ a' W hr0 ⟨rr, hrr⟩ ⟨v, hah⟩ ⟨kb, hkb0, hkb, rfl⟩ hpre
        have hsz9 : V9.heap.size ≤ W.heap.size := by have := hah.2.2.size; rwa [lend_size] at this
        have hc := hah.1.cell 0
        obtain ⟨k0, k1, k2, -⟩ := hkb.three
        have hln := hpre.length_le
        have hl48 := MID9.out.lst.good.len
        unfold maxItems at hl48
        rw [List.length_append, List.length_singleton] at hln
        have hpm : (pre.map (·.1)).length = pre.length := by simp
        have hone : ∀ u ∈ [Value.bool ty, .int .i64 ny, .string ⟨sy.toArray⟩], u.oneCell' = true := by
          intro u hu
          simp only [List.mem_cons, List.not_mem_nil, or_false] at hu
          rcases hu with rfl | rfl | rfl <;> rfl
        have HAH := hide hah
        have HONE := hide hone
        have B1 : (pre.map (·.1)).length + 1 ≤ maxLen := by unfold maxLen; omega
        have B2 : ((pre.map (·.1)).length + 1) * 32 ≤ 140737488355328 := by omega
        have B3 : (lend lb V9).heap.size ≤ (W.alloc (.cells #[.bool ty, .int .i64 ny, .string ⟨sy.toArray⟩] 30)).heap.size := by rw [lend_size]; simp; omega
        have HB1 := hide B1
        have HB2 := hide B2
        have HB3 := hide B3
        clear hah hpre hln hl48 hrr B1 B2 B3 hone hpm
        subst ha0
        simp only [List.setIfInBounds_toArray, List.set_cons_succ, List.set_cons_zero]
        gi_wp2_with (gi_at_builtin; refine wpListIn_append_own _ rfl _ _ 54 rfl (lend lb V9).heap.size 30 i0 (.agg #[.bool false, .int .i64 0, .string ⟨#[]⟩]) 3 32 Tryd.underlying54 hi hz0 hz1 hz2 rfl (by decide) _ _ _ rfl (HAH.out.2.1.alloc _) ⟨W.heap.size, 0, none⟩ 1 1 [.bool ty, .int .i64 ny, .string ⟨sy.toArray⟩] rfl rfl (World.news_of_block (cs := #[.bool ty, .int .i64 ny, .string ⟨sy.toArray⟩]) (t := 30) (fr := (0, 0)) (heap_alloc_new W _)) HONE.out HB1.out HB2.out HB3.out ?_; intro v' w1 hown' hgrow _; obtain ⟨g', cap', rfl⟩ := ownsRow_succ hown'; obtain ⟨hv1, hah2, hkf, hfar, hsz2⟩ := HAH.out.push (k := ⟨ty, ny, sy⟩) hgrow hown'; have hc1 := hv1.cell 0; have hf1 := hv1.free 0; have HAH2 := hide hah2; have HKF := hide hkf; have HFAR := hide hfar; have HSZ2 := hide hsz2; clear hv1 hah2 hkf hfar hsz2 hown' hgrow)
        have hah2 := HAH2.out
        simp only [List.length_map] at hah2
        refine ⟨by have := HKF.out; simp only [List.length_map, lend_size] at this; exact this, ⟨by have := HSZ2.out; simp only [List.length_map] at this; exact this, fun g hg => ?_⟩, ⟨_, by rw [List.map_append]; exact hah2⟩⟩
        obtain ⟨_, _, cs, hcs⟩ := ownsRow_lt MID9L.out.lst.row hg
        have := HFAR.out g cs _ (HAH.out.2.2.blk hcs (fun e => by have e' : g = b7 := e; subst e'; exact absurd (hcs.inj MID9L.out.ahb) (by decide))) (by decide) (by decide)
        simp only [List.length_map] at this
        exact this
    case done =>
    rintro D W hD ⟨v, hah⟩ hdef
    have HL48 : Hid (l.items.length ≤ 2048) := by have := MID9.out.lst.good.len; unfold maxItems at this; exact this
    have mid10 := (MID9L.out.fill (by decide) (by decide) (by decide) (by decide) HBG.out hah.1 (ownsRow_base hah.2.1 MID9L.out.below.size) hah.2.2).mark (D := D) (Nat.le_trans MID9.out.below.size hD) hdef (fun E hE => Nat.lt_of_lt_of_le (MID9.out.mark_lt E hE) hD)
    have HKL := hide (show (∀ y ∈ l.items.map (·.1), Kok y) ∧ (∀ y ∈ l.items.map (·.1), normT y = y) ∧ (∀ y ∈ l.items.map (·.1), y.s.length ≤ 281474976710656) from ⟨mid10.lst.keys, mid10.lst.good.norm, mid10.most.2⟩)
    have x6 := (mid10.acts.cell 0 : W.cell? ⟨b6, 0, none⟩ = some (.int .i64 kd))
    have MID10 := hide mid10
    subst ha0
    clear mid10 hah hD hdef MID9 MID9L KB9 N9 NROW hi hz0 hz1 hz2
    go_upto_region 13 with fail
    obtain ⟨c, hc⟩ : ∃ c, (wrap64 (kd.tmod 5 + 5)).tmod 5 = c := ⟨_, rfl⟩
    rw [hc]
    clear hc
    rename_i Kt ht Ks hs
    have TAIL : Hid (∀ (z8 z9 z10 z11 z12 z13 z14 z15 z16 z17 z28 z29 z30 z31 z32 z33 z34 z35 z36 z37 z38 z39 z40 z41 z42 z43 z44 z45 z46 z47 z48 z49 z50 z51 z52 z53 z54 z55 z56 z57 z58 z59 z60 z61 z62 z63 z64 z65 z66 z67 z68 z69 z70 z71 z72 z73 z74 z75 z76 z77 z78 z79 z80 z81 z82 z83 z84 z85 z86 z87 z88 z89 z90 z91 z92 z93 z94 z95 z96 z97 z98 z99 z100 z101 z102 z103 z104 z105 z106 z107 z108 z109 z110 z111 z112 z113 z114 z115 z116 z117 z118 z119 z120 z121 z122 z123 z124 z125 z126 z127 z128 z129 z130 z131 z132 z133 z134 z135 z136 z137 z138 z139 : Value) (m2 : Int) (W2 : World) (mb2 : Nat) (iv2 : Value) (lent2 : Bool) (l2 : Ls),
        Mid w b2 b3 lb b6 b7 32 54 #[.int .i64 kd, .int .i64 nn, .bool t, .int .i64 n, .string s] (D :: Ds) W2 mb2 iv2 lent2 l2 m2 v (l.items.map (·.1)) →
        scanK (fun k => hasI l2.items k) (l.items.map (·.1)) (l2.items.map (·.1)) = true →
        Kt { tmps := #[.slice (some ⟨ab, ao, none⟩) cnt cap, undef, .pointer (some ⟨b2, 0, none⟩), .pointer (some ⟨b3, 0, none⟩), .int .i64 m2, undef, .pointer (some ⟨b6, 0, none⟩), .pointer (some ⟨b7, 0, none⟩), z8, z9, z10, z11, z12, z13, z14, z15, z16, z17, .pointer (some ⟨lb, 0, none⟩), .pointer (some ⟨lb, 0, none⟩), .bool false, .bool false, .bool true, .bool false, .bool false, .slice (some ⟨ab, ao, none⟩) cnt cap, .int .i64 cnt, .int .i64 j, z28, z29, z30, z31, z32, z33, z34, z35, z36, z37, z38, z39, z40, z41, z42, z43, z44, z45, z46, z47, z48, z49, z50, z51, z52, z53, z54, z55, z56, z57, z58, z59, z60, z61, z62, z63, z64, z65, z66, z67, z68, z69, z70, z71, z72, z73, z74, z75, z76, z77, z78, z79, z80, z81, z82, z83, z84, z85, z86, z87, z88, z89, z90, z91, z92, z93, z94, z95, z96, z97, z98, z99, z100, z101, z102, z103, z104, z105, z106, z107, z108, z109, z110, z111, z112, z113, z114, z115, z116, z117, z118, z119, z120, z121, z122, z123, z124, z125, z126, z127, z128, z129, z130, z131, z132, z133, z134, z135, z136, z137, z138, z139], defers := { target := .collected D, args := #[] } :: marksOf Ds } W2) := by
      as_aux_lemma =>
        clear hs
        intro z8 z9 z10 z11 z12 z13 z14 z15 z16 z17 z28 z29 z30 z31 z32 z33 z34 z35 z36 z37 z38 z39 z40 z41 z42 z43 z44 z45 z46 z47 z48 z49 z50 z51 z52 z53 z54 z55 z56 z57 z58 z59 z60 z61 z62 z63 z64 z65 z66 z67 z68 z69 z70 z71 z72 z73 z74 z75 z76 z77 z78 z79 z80 z81 z82 z83 z84 z85 z86 z87 z88 z89 z90 z91 z92 z93 z94 z95 z96 z97 z98 z99 z100 z101 z102 z103 z104 z105 z106 z107 z108 z109 z110 z111 z112 z113 z114 z115 z116 z117 z118 z119 z120 z121 z122 z123 z124 z125 z126 z127 z128 z129 z130 z131 z132 z133 z134 z135 z136 z137 z138 z139 m2 W2 mb2 iv2 lent2 l2 mid hsc
        apply ht
        clear ht
        have mid1 := mid.later (below_box W2 (.cells #[.int .i64 0] 3))
        have k14 := Blk.new W2 #[.int .i64 0] 3
        have hge : w.heap.size ≤ W2.heap.size := mid.below.size
        obtain ⟨b14, hb14⟩ : ∃ b14, W2.heap.size = b14 := ⟨_, rfl⟩
        obtain ⟨W2a, hW2a⟩ : ∃ W2a, W2.alloc (.cells #[.int .i64 0] 3) = W2a := ⟨_, rfl⟩
        rw [hW2a] at mid1 k14
        rw [hb14] at k14 hge
        have HA1 := hide hb14
        have HA2 := hide hW2a
        have HSC := hide hsc
        have HGE := hide hge
        have MID1 := hide mid1
        have K14 := hide k14
        have x3 : W2a.cell? ⟨b3, 0, none⟩ = some (.pointer (some ⟨lb, 0, none⟩)) := mid1.box.cell 0
        clear mid mid1 k14 hsc hb14 hW2a hge
        go_upto_region 27 with fail
        rw [HA2.out, HA1.out]
        go_wp2_with (first | (go_at_call 14; with_reducible refine (All_any _ _).mono ?_; rintro e v9 ⟨rfl, rfl⟩))
        have mid2 := MID1.out.later (below_box W2a (.cells #[.pointer (some ⟨lb, 0, none⟩)] 23))
        have k14b := K14.out.alloc (.cells #[.pointer (some ⟨lb, 0, none⟩)] 23)
        have k15 := Blk.new W2a #[.pointer (some ⟨lb, 0, none⟩)] 23
        obtain ⟨b15, hb15⟩ : ∃ b15, W2a.heap.size = b15 := ⟨_, rfl⟩
        obtain ⟨V2, hV2⟩ : ∃ V2, W2a.alloc (.cells #[.pointer (some ⟨lb, 0, none⟩)] 23) = V2 := ⟨_, rfl⟩
        rw [hb15] at k15 ⊢
        rw [hV2] at k15 k14b mid2 ⊢
        have n15 : b15 ≠ lb := by
          rintro rfl
          exact absurd (k15.inj mid2.lst.blk) (by decide)
        have n14 : b14 ≠ lb := by
          rintro rfl
          exact absurd (k14b.inj mid2.lst.blk) (by decide)
        have midl := mid2.lend (by decide) (by decide)
        have nrow : ∀ g, iv2.ownBlock = some g → g < V2.heap.size := fun g hg => (ownsRow_lt mid2.lst.row hg).1
        have MID2 := hide mid2
        have MIDL := hide midl
        have K15 := hide k15
        have K14B := hide (show Blk (lend lb V2) b14 #[.int .i64 0] 3 from k14b.same (lend_far lb V2 b14 n14))
        have N15 := hide n15
        have N14 := hide n14
        have NROW := hide nrow
        clear mid2 midl k14b k15 n15 n14 nrow hb15 hV2 x3 HA1 HA2 MID1 K14
        refine (wpIn_wide (n := 6)).1 ?_
        refine name_act fun a0 ha0 => ?_
        refine wpIn_rangeFunc_gives (xs := l2.items) (T := lend lb) (Kp := RowStays iv2) (encs := encsI) rfl (by omega) (gf := 30) (lb := #[.pointer (some ⟨b15, 0, none⟩)]) (by rw [ha0]; rfl) trivial (enters_of Tryd.func30 (by kernel_rfl) rfl)
          (allGives 5 MID2.out.lst (K15.out.cell 0) N15.out) (fun h k => rowStays_trans h k) (fun W r o hr => rowStays_put NROW.out W r o hr) (fun _ => rfl) (fun W k hk => lend_far lb W k (by have := MID2.out.lst.blk.lt; omega))
          (fun pre W => ∃ i : Nat, Blk W b14 #[.int .i64 i] 3 ∧ Turned (fun k => k = b14) (lend lb V2) W ∧ i ≤ l.items.length + pre.length ∧ scanK (fun k => hasI l2.items k) ((l.items.map (·.1)).drop i) ((l2.items.map (·.1)).drop pre.length) = true) (fun _ _ _ => False)
          (by
            rw [← lend_size lb V2]
            rintro pre A B row ⟨i, h1, h2, h3⟩ hg hr
            exact ⟨i, blk_own h1 hg hr, turned_own h2 hg hr, h3⟩) (fun _ _ _ _ _ hs _ _ => hs)
          (fun W hW => ⟨0, K14B.out.same ((lend_below (lb := lb) hW (fun _ => False)).block b14 K14B.out.lt id), lend_below hW _, Nat.zero_le _, HSC.out⟩)
          (fun x a' W => ∃ kb, V2.heap.size ≤ kb ∧ Blk W kb #[.bool x.1.t, .int .i64 x.1.n, .string ⟨x.1.s.toArray⟩] 30 ∧ a' = { tmps := ((a0.tmps.setIfInBounds 111 (kv x.1)).setIfInBounds 112 (.int .i64 x.2)).setIfInBounds 15 (.pointer (some ⟨kb, 0, none⟩)), defers := [] })
          (fun x a' _ A B row hs hg hr => by obtain ⟨kb, h1, h2, h3⟩ := hs; exact ⟨kb, h1, blk_own h2 hg hr, h3⟩)
          ?assign2 ?body2 ?done2 ?stop2
        case stop2 =>
          intro D c pre W _ _ h _
          exact h.elim
        case assign2 =>
          rintro r pre ⟨⟨ty, ny, sy⟩, vy⟩ W K ⟨i, h1, h2, h3⟩ hK
          have hsz9 : V2.heap.size ≤ W.heap.size := by have := h2.size; rwa [lend_size] at this
          have HK := hide hK
          have H1 := hide h1
          have H2 := hide h2
          have H3 := hide h3
          clear hK h1 h2 h3
          subst ha0
          unfold encsI kv
          gi_wp2
          exact HK.out _ _ ((KeepsOthers.alloc _ _).from _) ⟨by simp, fun g hg => Below.heap_alloc _ _ _ (Nat.lt_of_lt_of_le (NROW.out g hg) hsz9)⟩ ⟨i, H1.out.alloc _, H2.out.trans (.alloc _ _ _), H3.out⟩ ⟨W.heap.size, hsz9, Blk.new W _ _, rfl⟩
        case done2 =>
          rintro D2 W hD2 ⟨i, h1, h2, h3⟩ hdef
          have mid3 := (MIDL.out.other K14B.out (by decide) (by decide) HGE.out h2).mark (D := D2) (Nat.le_trans MID2.out.below.size hD2) hdef (fun E hE => Nat.lt_of_lt_of_le (MID2.out.mark_lt E hE) hD2)
          have RND3 := hide mid3.rnd
          subst ha0
          clear mid3 h1 h2 h3 hdef
          go_wp2
          exact Handed.intro (cnt - (j + 1)) (by omega) (HJ.out _ _ _ ⟨_, _, _, _, _, _, _, _, _, _, _, _, _, _, _, _, _, _, _, _, _, _, _, _, _, _, _, _, _, _, _, _, _, _, _, _, _, _, _, _, _, _, _, _, _, _, _, _, _, _, _, _, _, _, _, _, _, _, _, _, _, _, _, _, _, _, _, _, _, _, _, _, _, _, _, _, _, _, _, _, _, _, _, _, _, _, _, _, _, _, _, _, _, _, _, _, _, _, _, _, _, _, _, _, _, _, _, _, _, _, _, _, _, _, _, _, _, _, _, _, _, _, _, _, _, _, _, ⟨j + 1, m2, D2 :: D :: Ds, mb2, iv2, true, l2, rfl, by omega, rfl, by go_num, rfl, RND3⟩, rfl⟩)
        case body2 =>
          as_aux_lemma =>
            rintro r pre ⟨⟨ty, ny, sy⟩, vy⟩ a' W hr0 ⟨rr, hrr⟩ ⟨i, h1, h2, hib, hscan⟩ ⟨kb, hkb0, hkb, rfl⟩ hpre
            have hat := pre_at hpre
            obtain ⟨s', hs'⟩ : ∃ s' : ByteArray, (⟨sy.toArray⟩ : ByteArray) = s' := ⟨_, rfl⟩
            have hsy : sy = s'.data.toList := by rw [← hs']
            subst hsy
            have hkm : (l2.items.map (·.1))[pre.length]? = some ⟨ty, ny, s'.data.toList⟩ := by rw [List.getElem?_map, hat]; rfl
            rw [drop_cons hkm] at hscan
            obtain ⟨rest, hskip, hscan2⟩ := scan_cons hscan
            have hkeyOk : Kok ⟨ty, ny, s'.data.toList⟩ := MID2.out.lst.keys _ (List.mem_of_getElem? hkm)
            have hln := hpre.length_le
            have hl48 := MID2.out.lst.good.len
            unfold maxItems at hl48
            rw [List.length_append, List.length_singleton] at hln
            obtain ⟨k0, k1, k2, -⟩ := hkb.three
            have SC2 := hide hscan2
            have KOY := hide hkeyOk
            have SK0 := hide hskip
            have T2 := hide h2
            have KB := hide hkb
            have B14 := hide h1
            have hpl : pre.length < 2048 := by omega
            have hi0 : i ≤ l.items.length + pre.length := hib
            clear hscan hscan2 hkeyOk hskip h2 hkb h1 hat hkm hpre hrr hln hl48 hib hs'
            subst ha0
            simp only [List.setIfInBounds_toArray, List.set_cons_succ, List.set_cons_zero]
            gi_wp2
            have END : Hid (∀ (wr : World) (nq i' : Nat), Turned (fun k => k = b14) W wr → Blk wr b14 #[.int .i64 i'] 3 → i' ≤ l.items.length + pre.length → rest = (l.items.map (·.1)).drop (i' + 1) →
                KeepsFrom V2.heap.size W ((wr.drewN nq).setCell ⟨b14, 0, none⟩ (.int .i64 ((i' : Int) + 1))) ∧ RowStays iv2 W ((wr.drewN nq).setCell ⟨b14, 0, none⟩ (.int .i64 ((i' : Int) + 1))) ∧
                ∃ i : Nat, Blk ((wr.drewN nq).setCell ⟨b14, 0, none⟩ (.int .i64 ((i' : Int) + 1))) b14 #[.int .i64 i] 3 ∧ Turned (fun k => k = b14) (lend lb V2) ((wr.drewN nq).setCell ⟨b14, 0, none⟩ (.int .i64 ((i' : Int) + 1))) ∧ i ≤ l.items.length + (pre ++ [((⟨ty, ny, s'.data.toList⟩ : Lists.K), vy)]).length ∧
                  scanK (fun k => hasI l2.items k) ((l.items.map (·.1)).drop i) ((l2.items.map (·.1)).drop (pre ++ [((⟨ty, ny, s'.data.toList⟩ : Lists.K), vy)]).length) = true) := by
              intro wr nq i' ti bi hb hr
              have tw : Turned (fun k => k = b14) W ((wr.drewN nq).setCell ⟨b14, 0, none⟩ (.int .i64 ((i' : Int) + 1))) := (ti.trans (.drewN _ wr nq)).trans (.setCell _ _ _ rfl)
              refine ⟨keeps_of_turned _ tw (fun k hk => ⟨_, _, hk ▸ B14.out⟩), ⟨tw.size, fun g hg => ?_⟩, i' + 1, ?_, T2.out.trans tw, by rw [List.length_append, List.length_singleton]; omega, ?_⟩
              · obtain ⟨l1, _, cs, hcs⟩ := ownsRow_lt MIDL.out.lst.row hg
                refine tw.block g (Nat.lt_of_lt_of_le l1 T2.out.size) (fun e => ?_)
                have e' : g = b14 := e
                subst e'
                exact absurd (hcs.inj K14B.out) (by decide)
              · have hbd : Blk (wr.drewN nq) b14 #[.int .i64 i'] 3 := bi
                exact hbd.set 0 (.int .i64 ((i' : Int) + 1))
              · rw [List.length_append, List.length_singleton, ← hr]
                exact SC2.out
            gi_loopw [113] (fun _ wr => ∃ i' : Nat, Hid (Blk wr b14 #[.int .i64 i'] 3) ∧ i' ≤ l.items.length + pre.length ∧ Hid (Turned (fun k => k = b14) W wr) ∧ Hid (skipTo (fun k => hasI l2.items k) ⟨ty, ny, s'.data.toList⟩ ((l.items.map (·.1)).drop i') = some rest))
              (fun _ wr => l.items.length - (intOf ((wr.cell? ⟨b14, 0, none⟩).getD undef)).toNat)
            case atStart => exact ⟨i, B14, hi0, hide (.refl _ _), SK0⟩
            case round =>
              obtain ⟨i', BI, hib, TI, SK⟩ := hrel
              have midr := MIDL.out.other K14B.out (by decide) (by decide) HGE.out (T2.out.trans TI.out)
              have kbr : Blk wr kb #[.bool ty, .int .i64 ny, .string s'] 30 := TI.out.blk KB.out (fun e => by
                have e' : kb = b14 := e
                subst e'
                exact absurd (KB.out.inj B14.out) (by decide))
              obtain ⟨k0, k1, k2, -⟩ := kbr.three
              have x3 : wr.cell? ⟨b3, 0, none⟩ = some (.pointer (some ⟨lb, 0, none⟩)) := midr.box.cell 0
              have x7 : wr.cell? ⟨b7, 0, none⟩ = some v := midr.ahb.cell 0
              have x14 : wr.cell? ⟨b14, 0, none⟩ = some (.int .i64 i') := BI.out.cell 0
              have f14 : wr.frozen? ⟨b14, 0, none⟩ = false := BI.out.free 0
              obtain ⟨A7, cap7, hv7⟩ := row_form midr.ahr
              have hal : (l.items.map (·.1)).length = l.items.length := List.length_map ..
              rw [hal] at hv7
              have hml := MIDL.out.lst.good.len
              have MIDR := hide midr
              have hib2 : (i' : Int) + 1 ≤ 9223372036854775807 := by
                have h48 : l.items.length ≤ 2048 := HL48.out
                omega
              clear midr kbr
              by_cases hlt2 : i' < l.items.length
              · obtain ⟨g7, cur7, hA7⟩ : ∃ g cur, A7 = some ⟨g, 0, none⟩ ∧ Blk wr g cur 30 := by
                  rcases MIDR.out.ahr.2 with ⟨_, h0⟩ | ⟨g, cap, cur, hv, _, hh, _⟩
                  · rw [hal] at h0; omega
                  · rw [hv7, hal] at hv
                    cases hv
                    exact ⟨g, cur, rfl, hh⟩
                obtain ⟨rfl, hg7⟩ := hA7
                obtain ⟨⟨ta, na, sa⟩, ha⟩ : ∃ a, (l.items.map (·.1))[i']? = some a := ⟨_, List.getElem?_eq_getElem (by rw [hal]; exact hlt2)⟩
                obtain ⟨e0, e1, e2⟩ := encKeys_at _ _ _ ha
                obtain ⟨sb, hsb⟩ : ∃ sb : ByteArray, (⟨sa.toArray⟩ : ByteArray) = sb := ⟨_, rfl⟩
                have hsa : sa = sb.data.toList := by rw [← hsb]
                subst hsa
                have hkoa : Kok ⟨ta, na, sb.data.toList⟩ := HKL.out.1 _ (List.mem_of_getElem? ha)
                have hnoa : normT ⟨ta, na, sb.data.toList⟩ = ⟨ta, na, sb.data.toList⟩ := HKL.out.2.1 _ (List.mem_of_getElem? ha)
                have hsma : sb.size ≤ 281474976710656 := by have := HKL.out.2.2 _ (List.mem_of_getElem? ha); simp only at this; rwa [← Lib.size_eq] at this
                have hrow := MIDR.out.ahr
                rw [hal] at hrow
                subst hv7
                have r0 : wr.cell? ⟨g7, i' * 3, none⟩ = some (.bool ta) := by rw [hrow.cellAt _ (by omega)]; exact e0
                have r1 : wr.cell? ⟨g7, i' * 3 + 1, none⟩ = some (.int .i64 na) := by rw [hrow.cellAt _ (by omega)]; exact e1
                have r2 : wr.cell? ⟨g7, i' * 3 + 2, none⟩ = some (.string sb) := by rw [hrow.cellAt _ (by omega)]; exact e2
                have hd3 : ((i' : Int) < (l.items.length : Int)) = True := by simpa using hlt2
                have hd0 : (0 : Int) ≤ (i' : Int) := by omega
                have hsk := SK.out
                rw [drop_cons ha] at hsk
                have heq := fun W => key_equal W ⟨ta, na, sb.data.toList⟩ ⟨ty, ny, s'.data.toList⟩ hkoa KOY.out
                rw [kv_of, kv_of] at heq
                by_cases hak : (⟨ta, na, sb.data.toList⟩ : Lists.K) = ⟨ty, ny, s'.data.toList⟩
                · have hre : rest = (l.items.map (·.1)).drop (i' + 1) := by rw [hak] at hsk; exact skip_hit hsk
                  have HRE := hide hre
                  simp only [hak, decide_true] at heq
                  clear hre hsk hrow ha e0 e1 e2 hsb hkoa hnoa hak hal hg7
                  gi_upto_region 29 with fail
                  refine wpIn_region_quiet_round (by kernel_rfl) (by kernel_rfl) (by kernel_rfl) ?_
                  repeat (gi_big_quiet_step (fail))
                  refine wpQuietIn_nil ?_
                  intro _ hw'
                  obtain ⟨nq, hw''⟩ := hw'
                  subst hw''
                  gi_wp2
                  exact END.out wr nq i' TI.out BI.out hib HRE.out
                · obtain ⟨hget, hsk2⟩ := skip_miss hak hsk
                  have SK2 := hide hsk2
                  have HGN := hide hget
                  have KOA := hide hkoa
                  have NOA := hide hnoa
                  simp only [hak, decide_false] at heq
                  clear hsk hsk2 hget hrow ha e0 e1 e2 hsb hkoa hnoa hak hal hg7
                  gi_upto_region 29 with fail
                  refine wpIn_region_quiet_round (by kernel_rfl) (by kernel_rfl) (by kernel_rfl) ?_
                  repeat (gi_big_quiet_step (fail))
                  refine wpQuietIn_nil ?_
                  intro _ hw'
                  obtain ⟨nq, hw''⟩ := hw'
                  subst hw''
                  gi_wp2
                  have hgetA := Get_any (MIDR.out.lst.same (w' := (wr.drewN nq).drew) (fun _ _ => rfl)) (HMW.out.below (w' := (wr.drewN nq).drew) ⟨MIDR.out.below.os, MIDR.out.below.tape, MIDR.out.below.output, MIDR.out.below.size, MIDR.out.below.block⟩) ta na sb KOA.out hsma
                  have hgn : getN l2.items ⟨ta, na, sb.data.toList⟩ = (0, false) := by
                    have h1 : hasI l2.items ⟨ta, na, sb.data.toList⟩ = false := HGN.out
                    unfold getN
                    unfold hasI at h1
                    cases hgi : getI l2.items ⟨ta, na, sb.data.toList⟩ with
                    | none => simp [hasI, hgi]
                    | some z => rw [hgi] at h1; cases h1
                  rw [NOA.out, hgn] at hgetA
                  have HGET := hide hgetA
                  have hmix : Tryd.prog.follows .mixedOrders = true := by kernel_rfl
                  have y3 : (wr.drewN nq).cell? ⟨b3, 0, none⟩ = some (.pointer (some ⟨lb, 0, none⟩)) := x3
                  have y7 : (wr.drewN nq).cell? ⟨b7, 0, none⟩ = some (.slice (some ⟨g7, 0, none⟩) l.items.length cap7) := x7
                  have y14 : (wr.drewN nq).cell? ⟨b14, 0, none⟩ = some (.int .i64 i') := x14
                  have s0 : (wr.drewN nq).cell? ⟨g7, i' * 3, none⟩ = some (.bool ta) := r0
                  have s1 : (wr.drewN nq).cell? ⟨g7, i' * 3 + 1, none⟩ = some (.int .i64 na) := r1
                  have s2 : (wr.drewN nq).cell? ⟨g7, i' * 3 + 2, none⟩ = some (.string sb) := r2
                  have TI2 := hide (show Turned (fun k => k = b14) W (wr.drewN nq) from TI.out.trans (.drewN _ wr nq))
                  have BI2 := hide (show Blk (wr.drewN nq) b14 #[.int .i64 i'] 3 from BI.out)
                  obtain ⟨wq, hwq⟩ : ∃ wq, wr.drewN nq = wq := ⟨_, rfl⟩
                  rw [hwq] at y3 y7 y14 s0 s1 s2 TI2 BI2 HGET ⊢
                  clear hwq hgetA hgn x3 x7 x14 f14 r0 r1 r2 k0 k1 k2 heq hd3 hd0
                  apply wpIn_post_at (fun w' => Below wq.drew.heap.size wq.drew w')
                  case reg =>
                    gi_region_with_o (refine ⟨trivial, ?_⟩; refine (CallsIn.inRound r (callsIn_wide.2 (unhide HGET))).mono ?_; rintro e w' ⟨rfl, hb⟩)
                    all_goals exact ⟨rfl, rfl, hb⟩
                  case after =>
                    intro w' hb
                    have BI3 := hide (BI2.out.drew.below hb BI2.out.drew.lt)
                    have TI3 := hide ((TI2.out.trans (.drew _ wq)).trans (.of_below hb))
                    have z14 : w'.cell? ⟨b14, 0, none⟩ = some (.int .i64 i') := BI3.out.cell 0
                    have zf14 : w'.frozen? ⟨b14, 0, none⟩ = false := BI3.out.free 0
                    clear hb y14
                    gi_wp2
                    refine ⟨⟨i' + 1, hide (BI3.out.set 0 (.int .i64 ((i' : Int) + 1))), by omega, hide (TI3.out.trans (.setCell _ _ _ rfl)), SK2⟩, ?_⟩
                    rw [(BI3.out.set 0 (.int .i64 ((i' : Int) + 1))).cell 0, BI.out.cell 0]
                    simp [intOf]
                    omega
              · have hd : decide ((i' : Int) < (l.items.length : Int)) = false := by simpa using Nat.le_of_not_lt hlt2
                have hrest : rest = (l.items.map (·.1)).drop (i' + 1) := by
                  have h := SK.out
                  rw [List.drop_of_length_le (by rw [hal]; omega)] at h
                  rw [skip_nil h, List.drop_of_length_le (by rw [hal]; omega)]
                subst hv7
                have HRE := hide hrest
                have hd2 : decide (i' < l.items.length) = false := by simpa using hlt2
                have hd3 : (i' < l.items.length) = False := by simpa using hlt2
                have hd4 : ((i' : Int) < (l.items.length : Int)) = False := by simpa using hlt2
                clear hrest hal
                gi_upto_region 29 with fail
                refine wpIn_region_quiet_round (by kernel_rfl) (by kernel_rfl) (by kernel_rfl) ?_
                repeat (gi_big_quiet_step (fail))
                refine wpQuietIn_nil ?_
                intro _ hw'
                obtain ⟨nq, hw''⟩ := hw'
                subst hw''
                gi_wp2
                exact END.out wr nq i' TI.out BI.out hib HRE.out
    clear ht
    obtain ⟨a0, a1, a2, a3, a4, -⟩ := MID10.out.acts.five
    have x3 : W.cell? ⟨b3, 0, none⟩ = some (.pointer (some ⟨lb, 0, none⟩)) := MID10.out.box.cell 0
    have hmm := MID10.out.most
    have HMM := hide hmm
    clear hmm
    by_cases c0 : c = 0
    · as_aux_lemma =>
        subst c0
        obtain ⟨tk, nk, sk, hnk, hkv⟩ := norm_cells ⟨t, n, s.data.toList⟩
        have hN := Norm_any t n s W (HMW.out.below MID10.out.below) SZ.out
        rw [hkv] at hN
        have hnb : nk ≤ most := by
          have := (normT_ok KO.out)
          rw [hnk] at this
          have := this.2.1
          unfold most
          exact this
        have hns : sk.data.toList.length ≤ 281474976710656 := by
          have h1 := normT_len ⟨t, n, s.data.toList⟩
          rw [hnk] at h1
          simp only at h1
          have h2 := SZ.out
          rw [← Lib.size_eq] at h1 ⊢
          rw [← Lib.size_eq] at h1
          omega
        have HN := hide hN
        have HNK := hide hnk
        have HNB := hide hnb
        have HNS := hide hns
        clear hN hnk hkv hnb hns
        go_upto_region 15 with (first | (go_at_call 15; refine (unhide HN).mono ?_; rintro e w11 ⟨rfl, hb11⟩))
        have mid12 := (MID10.out.later hb11).later (below_box w11 (.cells #[.bool tk, .int .i64 nk, .string sk] 30))
        have kb16 := Blk.new w11 #[.bool tk, .int .i64 nk, .string sk] 30
        obtain ⟨b16, hb16⟩ : ∃ b16, w11.heap.size = b16 := ⟨_, rfl⟩
        obtain ⟨W12, hW12⟩ : ∃ W12, w11.alloc (.cells #[.bool tk, .int .i64 nk, .string sk] 30) = W12 := ⟨_, rfl⟩
        rw [hb16] at kb16 ⊢
        rw [hW12] at kb16 mid12 ⊢
        have hS := Set_any mid12.lst (HMW.out.below mid12.below) t n s nn KO.out SZ.out
        rw [HNK.out] at hS
        have x3b : W12.cell? ⟨b3, 0, none⟩ = some (.pointer (some ⟨lb, 0, none⟩)) := mid12.box.cell 0
        obtain ⟨d0, d1, d2, d3, d4, -⟩ := mid12.acts.five
        have MID12 := hide mid12
        have KB16 := hide kb16
        clear mid12 kb16 hb16 hW12 hb11 HN
        obtain ⟨l', hl'⟩ : ∃ l', (l.set ⟨tk, nk, sk.data.toList⟩ nn).1 = l' := ⟨_, rfl⟩
        have hfacts := set_facts l ⟨tk, nk, sk.data.toList⟩ nn
        have hfull := set_full l ⟨tk, nk, sk.data.toList⟩ nn
        have hmost := Ls.Most.set HMM.out.1 ⟨tk, nk, sk.data.toList⟩ nn HNB.out
        rw [hl'] at hS hfacts hfull hmost
        have hsmall : ∀ y ∈ l'.keys, y.s.length ≤ 281474976710656 := fun y hy => (hfacts.2 y hy).elim (HMM.out.2 y) (fun e => by rw [e]; exact HNS.out)
        have FA := hide hfacts.1
        have SM := hide hsmall
        cases hf : (l.set ⟨tk, nk, sk.data.toList⟩ nn).2
        · have hmo := hmost hf
          rw [hf, show fullN false = 0 from rfl] at hS
          have HS := hide hS
          clear hS hf hfacts hfull hmost hl' hsmall
          cases tk
          · have HMO := hide (show l'.Most (max m nk) by simpa using hmo)
            clear hmo
            go_upto_region 16 with (first | (go_at_call 17; refine (unhide HS).mono ?_; rintro e W13 ⟨mb3, iv3, lent3, rfl, hl3, hs3⟩; have k13 := hs3.blk MID12.out.lst KB16.out (by decide) (by decide); obtain ⟨e0, e1, e2, -⟩ := k13.three; have MID13 := hide (MID12.out.stepped (by decide) (by decide) hl3 hs3 ⟨HMO.out, SM.out⟩); clear hl3 hs3 k13))
            go_wp2
            exact TAIL.out _ _ _ _ _ _ _ _ _ _ _ _ _ _ _ _ _ _ _ _ _ _ _ _ _ _ _ _ _ _ _ _ _ _ _ _ _ _ _ _ _ _ _ _ _ _ _ _ _ _ _ _ _ _ _ _ _ _ _ _ _ _ _ _ _ _ _ _ _ _ _ _ _ _ _ _ _ _ _ _ _ _ _ _ _ _ _ _ _ _ _ _ _ _ _ _ _ _ _ _ _ _ _ _ _ _ _ _ _ _ _ _ _ _ _ _ _ _ _ _ _ _ (max m nk) W13 mb3 iv3 lent3 l' MID13.out FA.out
          · have HMO := hide (show l'.Most m by simpa using hmo)
            clear hmo
            go_wp2_with (first | (go_at_call 17; refine (unhide HS).mono ?_; rintro e W13 ⟨mb3, iv3, lent3, rfl, hl3, hs3⟩; have k13 := hs3.blk MID12.out.lst KB16.out (by decide) (by decide); obtain ⟨e0, e1, e2, -⟩ := k13.three; have MID13 := hide (MID12.out.stepped (by decide) (by decide) hl3 hs3 ⟨HMO.out, SM.out⟩); clear hl3 hs3 k13))
            exact TAIL.out _ _ _ _ _ _ _ _ _ _ _ _ _ _ _ _ _ _ _ _ _ _ _ _ _ _ _ _ _ _ _ _ _ _ _ _ _ _ _ _ _ _ _ _ _ _ _ _ _ _ _ _ _ _ _ _ _ _ _ _ _ _ _ _ _ _ _ _ _ _ _ _ _ _ _ _ _ _ _ _ _ _ _ _ _ _ _ _ _ _ _ _ _ _ _ _ _ _ _ _ _ _ _ _ _ _ _ _ _ _ _ _ _ _ _ _ _ _ _ _ _ _ m W13 mb3 iv3 lent3 l' MID13.out FA.out
        · have hle := hfull hf
          rw [hf, show fullN true = 8 from rfl] at hS
          subst hle
          have HS := hide hS
          clear hS hf hfacts hmost hl' hsmall
          go_wp2_with (first | (go_at_call 17; refine (unhide HS).mono ?_; rintro e W13 ⟨mb3, iv3, lent3, rfl, hl3, hs3⟩; have MID13 := hide (MID12.out.stepped (by decide) (by decide) hl3 hs3 HMM.out); clear hl3 hs3))
          exact TAIL.out _ _ _ _ _ _ _ _ _ _ _ _ _ _ _ _ _ _ _ _ _ _ _ _ _ _ _ _ _ _ _ _ _ _ _ _ _ _ _ _ _ _ _ _ _ _ _ _ _ _ _ _ _ _ _ _ _ _ _ _ _ _ _ _ _ _ _ _ _ _ _ _ _ _ _ _ _ _ _ _ _ _ _ _ _ _ _ _ _ _ _ _ _ _ _ _ _ _ _ _ _ _ _ _ _ _ _ _ _ _ _ _ _ _ _ _ _ _ _ _ _ _ m W13 mb3 iv3 lent3 _ MID13.out FA.out
    by_cases c2 : c = 2
    · as_aux_lemma =>
        subst c2
        have hD := Del_any MID10.out.lst (HMW.out.below MID10.out.below) t n s KO.out SZ.out
        have HD := hide hD
        have hdf := hide (del_facts l (normT ⟨t, n, s.data.toList⟩) MID10.out.lst.good)
        clear hD
        go_wp2_with (first | (go_at_call 22; refine (unhide HD).mono ?_; rintro e W13 ⟨mb3, iv3, lent3, rfl, hl3, hs3⟩))
        exact TAIL.out _ _ _ _ _ _ _ _ _ _ _ _ _ _ _ _ _ _ _ _ _ _ _ _ _ _ _ _ _ _ _ _ _ _ _ _ _ _ _ _ _ _ _ _ _ _ _ _ _ _ _ _ _ _ _ _ _ _ _ _ _ _ _ _ _ _ _ _ _ _ _ _ _ _ _ _ _ _ _ _ _ _ _ _ _ _ _ _ _ _ _ _ _ _ _ _ _ _ _ _ _ _ _ _ _ _ _ _ _ _ _ _ _ _ _ _ _ _ _ _ _ _ m W13 mb3 iv3 lent3 _ (MID10.out.stepped (by decide) (by decide) hl3 hs3 ⟨HMM.out.1.del _, fun y hy => HMM.out.2 y (hdf.out.2 y hy)⟩) hdf.out.1
    by_cases c1 : c = 1
    · as_aux_lemma =>
        subst c1
        have hnx := Next_any (MID10.out.lst.same (w' := W.drew) (fun _ _ => rfl))
        have hg0 := Get_any (MID10.out.lst.same (w' := W.drew) (fun _ _ => rfl)) (HMW.out.below (w' := W.drew) ⟨MID10.out.below.os, MID10.out.below.tape, MID10.out.below.output, MID10.out.below.size, MID10.out.below.block⟩) false l.next ⟨#[]⟩ (by have h1 := MID10.out.lst.good.lo; have h2 := MID10.out.lst.good.hi; unfold most at h2; exact ⟨by simp only; omega, by simp only; omega, by simp⟩) (by decide)
        rw [show (⟨#[]⟩ : ByteArray).data.toList = [] from rfl, normT_num] at hg0
        obtain ⟨gv, gb, hgv⟩ : ∃ gv gb, getN l.items ⟨false, l.next, []⟩ = (gv, gb) := ⟨_, _, rfl⟩
        rw [hgv] at hg0
        have HGV := hide hgv
        have HNX := hide hnx
        have HG0 := hide hg0
        have y3 : W.drew.cell? ⟨b3, 0, none⟩ = some (.pointer (some ⟨lb, 0, none⟩)) := x3
        clear hnx hg0 hgv
        go_upto_region 18 with fail
        go_region_held3 (fun u => u.cell? ⟨b3, 0, none⟩ = some (.pointer (some ⟨lb, 0, none⟩))) (first | assumption | go_keep)
          (first | (go_at_call 20; with_reducible refine (unhide HNX).mono ?_; rintro e w11 ⟨rfl, rfl⟩) | (go_at_call 18; refine (unhide HG0).mono ?_; rintro e w12 ⟨rfl, hb12⟩; have y4 : w12.cell? ⟨b3, 0, none⟩ = some (.pointer (some ⟨lb, 0, none⟩)) := (hb12.cell (p := ⟨b3, 0, none⟩) (World.block_lt_of_cell? _ _ y3)).trans y3))
        have hbW : Below W.heap.size W w12 := ⟨hb12.os, hb12.tape, hb12.output, hb12.size, hb12.block⟩
        have mid18 := MID10.out.later hbW
        obtain ⟨d0, d1, d2, d3, d4, -⟩ := mid18.acts.five
        have hap := Append_any mid18.lst nn
        have haf := append_facts l nn
        have HAF := hide haf
        have hsmall : ∀ y ∈ (l.append nn).1.keys, y.s.length ≤ 281474976710656 := fun y hy => (haf.2 y hy).elim (HMM.out.2 y) (fun e => by rw [e]; simp)
        have MID18 := hide mid18
        have HSM := hide hsmall
        clear mid18 haf hsmall hb12 hbW y3
        cases ho : (l.append nn).2.2
        · obtain ⟨hmo, hgt, hkey, hn0⟩ := HMM.out.1.append nn ho
          rw [ho, hkey, show fullN false = 0 from rfl, show kv ⟨false, l.next, []⟩ = .agg #[.bool false, .int .i64 l.next, .string ⟨#[]⟩] from rfl] at hap
          have hgb : gb = false := by
            have h := HGV.out
            have hf := MID10.out.lst.good.fresh hn0
            unfold getN at h
            rw [hf] at h
            exact (Prod.mk.inj h).2.symm
          subst hgb
          have hmo2 : (l.append nn).1.Most (max m l.next) := by
            rw [hkey] at hmo hgt
            simp only at hmo hgt
            rw [show max m l.next = l.next by omega]
            exact hmo
          have hgt2 : m < l.next := by rw [hkey] at hgt; exact hgt
          have hle : decide (l.next ≤ m) = false := by simpa using hgt2
          have hle2 : (l.next ≤ m) = False := by simpa using hgt2
          have HMO := hide hmo2
          have HAP := hide hap
          obtain ⟨l', hl'⟩ : ∃ l', (l.append nn).1 = l' := ⟨_, rfl⟩
          rw [hl'] at HAP HMO HSM HAF
          clear hmo hmo2 hkey hn0 hap ho hl' hgt
          go_upto_region 20 with (first | (go_at_call 21; refine (unhide HAP).mono ?_; rintro e W13 ⟨mb3, iv3, lent3, rfl, hl3, hs3⟩; have MID13 := hide (MID18.out.stepped (by decide) (by decide) hl3 hs3 ⟨HMO.out, HSM.out⟩); clear hl3 hs3))
          have mid14 := MID13.out.later (below_box W13 (.cells #[.bool false, .int .i64 l.next, .string ⟨#[]⟩] 30))
          have kb := Blk.new W13 #[.bool false, .int .i64 l.next, .string ⟨#[]⟩] 30
          obtain ⟨b17, hb17⟩ : ∃ b17, W13.heap.size = b17 := ⟨_, rfl⟩
          obtain ⟨W14, hW14⟩ : ∃ W14, W13.alloc (.cells #[.bool false, .int .i64 l.next, .string ⟨#[]⟩] 30) = W14 := ⟨_, rfl⟩
          rw [hb17] at kb ⊢
          rw [hW14] at kb mid14 ⊢
          obtain ⟨k0, k1, k2, -⟩ := kb.three
          have MID14 := hide mid14
          clear mid14 kb hb17 hW14
          go_wp2
          exact TAIL.out _ _ _ _ _ _ _ _ _ _ _ _ _ _ _ _ _ _ _ _ _ _ _ _ _ _ _ _ _ _ _ _ _ _ _ _ _ _ _ _ _ _ _ _ _ _ _ _ _ _ _ _ _ _ _ _ _ _ _ _ _ _ _ _ _ _ _ _ _ _ _ _ _ _ _ _ _ _ _ _ _ _ _ _ _ _ _ _ _ _ _ _ _ _ _ _ _ _ _ _ _ _ _ _ _ _ _ _ _ _ _ _ _ _ _ _ _ _ _ _ _ _ (max m l.next) W14 mb3 iv3 lent3 l' MID14.out HAF.out.1
        · have hle := append_full l nn ho
          rw [ho, show fullN true = 8 from rfl] at hap
          rw [hle] at hap HAF
          obtain ⟨kk, hkk⟩ : ∃ kk, (l.append nn).2.1 = kk := ⟨_, rfl⟩
          rw [hkk] at hap
          obtain ⟨tk, nk, sk⟩ := kk
          obtain ⟨sk', hsk'⟩ : ∃ sk' : ByteArray, (⟨sk.toArray⟩ : ByteArray) = sk' := ⟨_, rfl⟩
          rw [show kv ⟨tk, nk, sk⟩ = .agg #[.bool tk, .int .i64 nk, .string ⟨sk.toArray⟩] from rfl, hsk'] at hap
          have HAP := hide hap
          clear hap hle hkk hsk' ho HSM
          go_upto_region 20 with (first | (go_at_call 21; refine (unhide HAP).mono ?_; rintro e W13 ⟨mb3, iv3, lent3, rfl, hl3, hs3⟩; have MID13 := hide (MID18.out.stepped (by decide) (by decide) hl3 hs3 HMM.out); clear hl3 hs3))
          have mid14 := MID13.out.later (below_box W13 (.cells #[.bool tk, .int .i64 nk, .string sk'] 30))
          have kb := Blk.new W13 #[.bool tk, .int .i64 nk, .string sk'] 30
          obtain ⟨b17, hb17⟩ : ∃ b17, W13.heap.size = b17 := ⟨_, rfl⟩
          obtain ⟨W14, hW14⟩ : ∃ W14, W13.alloc (.cells #[.bool tk, .int .i64 nk, .string sk'] 30) = W14 := ⟨_, rfl⟩
          rw [hb17] at kb ⊢
          rw [hW14] at kb mid14 ⊢
          obtain ⟨k0, k1, k2, -⟩ := kb.three
          have MID14 := hide mid14
          clear mid14 kb hb17 hW14
          go_wp2
          exact TAIL.out _ _ _ _ _ _ _ _ _ _ _ _ _ _ _ _ _ _ _ _ _ _ _ _ _ _ _ _ _ _ _ _ _ _ _ _ _ _ _ _ _ _ _ _ _ _ _ _ _ _ _ _ _ _ _ _ _ _ _ _ _ _ _ _ _ _ _ _ _ _ _ _ _ _ _ _ _ _ _ _ _ _ _ _ _ _ _ _ _ _ _ _ _ _ _ _ _ _ _ _ _ _ _ _ _ _ _ _ _ _ _ _ _ _ _ _ _ _ _ _ _ _ m W14 mb3 iv3 lent3 l MID14.out (same_scan _ _)
    · as_aux_lemma =>
        have q0 : (c == 0) = false := by simpa using c0
        have q1 : (c == 1) = false := by simpa using c1
        have q2 : (c == 2) = false := by simpa using c2
        clear c0 c1 c2
        go_wp2
        exact TAIL.out _ _ _ _ _ _ _ _ _ _ _ _ _ _ _ _ _ _ _ _ _ _ _ _ _ _ _ _ _ _ _ _ _ _ _ _ _ _ _ _ _ _ _ _ _ _ _ _ _ _ _ _ _ _ _ _ _ _ _ _ _ _ _ _ _ _ _ _ _ _ _ _ _ _ _ _ _ _ _ _ _ _ _ _ _ _ _ _ _ _ _ _ _ _ _ _ _ _ _ _ _ _ _ _ _ _ _ _ _ _ _ _ _ _ _ _ _ _ _ _ _ _ m W mb iv true l MID10.out (same_scan _ _)
  · have hje : j = cnt := by omega
    subst hje
    have z0 : wr.cell? ⟨b2, 0, none⟩ = some (.bool false) := RND.out.res.cell 0
    have z1 : wr.frozen? ⟨b2, 0, none⟩ = false := RND.out.res.free 0
    go_wp2
    have kr := RND.out.res.set 0 (.bool true)
    refine leaves_marks Ds _ RND.out.nodup (fun D hD => ?_) (fun w' h1 h2 h3 h4 h5 => ?_)
    · obtain ⟨a1, a2⟩ := RND.out.marks D hD
      exact (Below.heap_setCell _ _ _ _ (cells_not_mark RND.out.res a2)).trans a2
    · have n2 : b2 ∉ Ds := fun hm => cells_not_mark RND.out.res (RND.out.marks b2 hm).2 rfl
      have k11 : Blk w' b2 #[.bool true] 4 := kr.same (h1 _ n2)
      have r5 := k11.cell 0
      refine ⟨.bool true, ?_, rfl, ?_⟩
      · simp [results, Tryd.results7, go_sem, r5]
      · have hB := RND.out.below.setCell (p := ⟨b2, 0, none⟩) RND.out.ge2 (.bool true)
        refine ⟨h3.trans hB.os, h4.trans hB.tape, h5.trans hB.output, by rw [h2]; exact hB.size, fun k hk => ?_⟩
        rw [h1 k (fun hm => by have := (RND.out.marks k hm).1; omega)]
        exact hB.block k hk
end Go.Proofs.YtbbmfpffanhgnaaDoor
