/-
  The contracts of the document's Append and Get, and of the law's number.
-/
import Derived.Test.YtmfnonepcipplaaDoorRSet
namespace Go.Proofs.YtmfnonepcipplaaDoor
open Go Go.RowKit Convs Lists

def appQ (xs : List (K × Q)) (nx : Int) (q : Q) : (List (K × Q) × Int) × K × Bool :=
  if nx < 0 then ((xs, nx), ⟨false, 0, []⟩, true) else ((setQ xs nx ⟨false, nx, []⟩ q).1, if (setQ xs nx ⟨false, nx, []⟩ q).2 then ⟨false, 0, []⟩ else ⟨false, nx, []⟩, (setQ xs nx ⟨false, nx, []⟩ q).2)

theorem RPost.behind {B : Nat} {w : World} {rb : Nat} {xs' : List (K × Q)} {nx' : Int} {r r' : Value} {w1 w' w'' : World} {kb : Nat} (hb : Below w.heap.size w w1) (hkb : w.heap.size ≤ kb) (_ : kb < w1.heap.size)
    (hne : ∀ A cap, RLst B w' rb A cap xs' nx' → ¬ rown rb A kb) (h : RPost B w1 rb xs' nx' r (.returned r) w') (ht : Turned (fun k => k = kb) w' w'') : RPost B w rb xs' nx' r' (.returned r') w'' := by
  obtain ⟨_, A', cap', h1, h2⟩ := h
  refine ⟨rfl, A', cap', h1.same (fun k hk => ht.block k (h1.fp hk).1 (fun e => hne _ _ h1 (by have e' : k = kb := e; rw [← e']; exact hk))), ?_⟩
  refine ((Turned.of_below hb).trans h2).then ht (fun i hi hl => ?_)
  have hi' : i = kb := hi
  omega

set_option maxRecDepth 100000 in
set_option maxHeartbeats 2000000 in
theorem RApp_any {B : Nat} {w : World} {rb : Nat} {A : Option Addr} {cap : Nat} {xs : List (K × Q)} {nx : Int} (h : RLst B w rb A cap xs nx) (q : Q) :
    Calls Tryd.prog 19 #[.pointer (some ⟨rb, 0, none⟩), .agg #[.int .i64 q.kd, .int .i64 q.n, .string q.s, q.iv]] w
      (RPost B w rb (appQ xs nx q).1.1 (appQ xs nx q).1.2 (.tuple #[kv (appQ xs nx q).2.1, .int .i64 (fullN (appQ xs nx q).2.2)])) := by
  obtain ⟨kd, qn, qs, qA, ql, qc⟩ := q
  have kv0 := (Blk.new w #[.int .i64 kd, .int .i64 qn, .string qs, .slice qA ql qc] 43).alloc (.cells #[.bool false, .int .i64 0, .string ⟨#[]⟩] 30)
  have kk := Blk.new (w.alloc (.cells #[.int .i64 kd, .int .i64 qn, .string qs, .slice qA ql qc] 43)) #[.bool false, .int .i64 0, .string ⟨#[]⟩] 30
  have hb0 := below_box2 w (.cells #[.int .i64 kd, .int .i64 qn, .string qs, .slice qA ql qc] 43) (.cells #[.bool false, .int .i64 0, .string ⟨#[]⟩] 30)
  rw [World.size_alloc] at kk
  obtain ⟨W0, hW0⟩ : ∃ W0, (w.alloc (.cells #[.int .i64 kd, .int .i64 qn, .string qs, .slice qA ql qc] 43)).alloc (.cells #[.bool false, .int .i64 0, .string ⟨#[]⟩] 30) = W0 := ⟨_, rfl⟩
  rw [hW0] at kk kv0 hb0
  have hl0 := h.below hb0
  have nlo := h.nlo
  have nhi := h.nhi
  obtain ⟨r0, r1, rf0, rf1⟩ := hl0.two
  obtain ⟨k0, k1, k2, z0, z1, z2⟩ := kk.three
  have HW0 := hide hW0
  by_cases hn : nx < 0
  · have ha : appQ xs nx ⟨kd, qn, qs, qA, ql, qc⟩ = ((xs, nx), ⟨false, 0, []⟩, true) := by unfold appQ; rw [if_pos hn]
    rw [ha]
    have HL := hide hl0
    have HB := hide hb0
    have HK := hide kk
    clear hl0 hb0 kk kv0 h hW0 ha
    go_enter Tryd.func19, Tryd.ntmps19
    simp only [Q.iv]
    go_upto_region 1 with fail
    rw [HW0.out]
    go_wp2_with fail
    refine bodyPost_ret (v := .tuple #[.agg #[.bool false, .int .i64 0, .string ⟨#[]⟩], .int .i64 8]) (by simp [results, Tryd.results19, go_sem, k0, k1, k2]) rfl ?_
    exact RPost.behind HB.out (by omega) HK.out.lt (fun A cap hl => hl.apart HK.out (by decide) (by decide)) (r := .tuple #[]) ⟨rfl, A, cap, HL.out, .refl _ _⟩ (turned_three _ _ _ _ _)
  · have hnn : decide (nx < 0) = false := by simpa using hn
    have h1 := hl0.below (below_box W0 (.cells #[.bool false, .int .i64 nx, .string ⟨#[]⟩] 30))
    have hb1 := below_box W0 (.cells #[.bool false, .int .i64 nx, .string ⟨#[]⟩] 30)
    have kn := Blk.new W0 #[.bool false, .int .i64 nx, .string ⟨#[]⟩] 30
    have kz := kk.below hb1 kk.lt
    have kv1 := kv0.below hb1 kv0.lt
    have hsz : W0.heap.size = w.heap.size + 2 := by rw [← hW0]; simp
    obtain ⟨W1, hW1⟩ : ∃ W1, W0.alloc (.cells #[.bool false, .int .i64 nx, .string ⟨#[]⟩] 30) = W1 := ⟨_, rfl⟩
    rw [hW1] at h1 hb1 kn kz kv1
    have hset := RSet_any h1 false nx ⟨#[]⟩ ⟨kd, qn, qs, qA, ql, qc⟩ ⟨by simp only; omega, by simp only; omega, by simp⟩ (by decide)
    rw [show (⟨#[]⟩ : ByteArray).data.toList = [] from rfl, normT_num] at hset
    simp only [Q.iv] at hset ⊢
    have ha : appQ xs nx ⟨kd, qn, qs, qA, ql, qc⟩ = ((setQ xs nx ⟨false, nx, []⟩ ⟨kd, qn, qs, qA, ql, qc⟩).1, if (setQ xs nx ⟨false, nx, []⟩ ⟨kd, qn, qs, qA, ql, qc⟩).2 then ⟨false, 0, []⟩ else ⟨false, nx, []⟩, (setQ xs nx ⟨false, nx, []⟩ ⟨kd, qn, qs, qA, ql, qc⟩).2) := by unfold appQ; rw [if_neg hn]
    obtain ⟨sq, hsq⟩ : ∃ sq, setQ xs nx ⟨false, nx, []⟩ ⟨kd, qn, qs, qA, ql, qc⟩ = sq := ⟨_, rfl⟩
    rw [ha]
    rw [hsq] at hset ⊢
    obtain ⟨⟨ys, ny⟩, fb⟩ := sq
    have hne1 : w.heap.size + 1 ≠ rb := fun e => absurd (e ▸ kz : Blk W1 rb _ _) (fun h => absurd (h.inj h1.blk) (by decide))
    rw [hsz] at kn
    have hne2 : w.heap.size + 2 ≠ rb := fun e => absurd (e ▸ kn : Blk W1 rb _ _) (fun h => absurd (h.inj h1.blk) (by decide))
    have HNE1 := hide hne1
    have HNE2 := hide hne2
    clear hne1 hne2
    have HKZ := hide kz
    have HKN := hide kn
    have HB1 := hide (hb0.trans (hb1.mono hb0.size))
    have HW1 := hide hW1
    have v0 := kv1.cell 0
    have v1 := kv1.cell 1
    have v2 := kv1.cell 2
    have v3 := kv1.cell 3
    obtain ⟨d0, d1, d2, -⟩ := kn.three
    have V0 : W1.cell? ⟨w.heap.size, 0, none⟩ = some (.int .i64 kd) := v0
    have V1 : W1.cell? ⟨w.heap.size, 1, none⟩ = some (.int .i64 qn) := v1
    have V2 : W1.cell? ⟨w.heap.size, 2, none⟩ = some (.string qs) := v2
    have V3 : W1.cell? ⟨w.heap.size, 3, none⟩ = some (.slice qA ql qc) := v3
    clear hl0 hb0 kk kv0 h hW0 hsq ha h1 hb1 kn kz kv1 hW1 v0 v1 v2 v3
    cases fb
    · rw [show fullN false = 0 from rfl] at hset
      have HSET := hide hset
      clear hset
      go_enter Tryd.func19, Tryd.ntmps19
      go_upto_region 1 with fail
      rw [HW0.out]
      go_upto_region 4 with fail
      rw [HW1.out]
      go_wp2_with (first | (go_at_call 17; refine (unhide HSET).mono ?_; rintro e w5 ⟨rfl, A5, cap5, hl5, ht5⟩; have kz5 := ht5.blk HKZ.out HNE1.out; have kn5 := ht5.blk HKN.out HNE2.out; obtain ⟨k0, k1, k2, z0, z1, z2⟩ := kz5.three; obtain ⟨d0, d1, d2, -⟩ := kn5.three; have KZ5 := hide kz5; have HL5 := hide hl5; have HT5 := hide ht5; clear hl5 ht5 kz5 kn5))
      refine bodyPost_ret (v := .tuple #[.agg #[.bool false, .int .i64 nx, .string ⟨#[]⟩], .int .i64 0]) (by simp [results, Tryd.results19, go_sem, k0, k1, k2]) rfl ?_
      exact RPost.behind HB1.out (by omega) HKZ.out.lt (fun A cap hl => hl.apart KZ5.out (by decide) (by decide)) (r := .tuple #[]) ⟨rfl, A5, cap5, HL5.out, HT5.out⟩ (turned_three _ _ _ _ _)
    · rw [show fullN true = 8 from rfl] at hset
      have HSET := hide hset
      clear hset
      go_enter Tryd.func19, Tryd.ntmps19
      go_upto_region 1 with fail
      rw [HW0.out]
      go_upto_region 4 with fail
      rw [HW1.out]
      go_wp2_with (first | (go_at_call 17; refine (unhide HSET).mono ?_; rintro e w5 ⟨rfl, A5, cap5, hl5, ht5⟩; have kz5 := ht5.blk HKZ.out HNE1.out; have kn5 := ht5.blk HKN.out HNE2.out; obtain ⟨k0, k1, k2, z0, z1, z2⟩ := kz5.three; obtain ⟨d0, d1, d2, -⟩ := kn5.three; have KZ5 := hide kz5; have HL5 := hide hl5; have HT5 := hide ht5; clear hl5 ht5 kz5 kn5))
      refine bodyPost_ret (v := .tuple #[.agg #[.bool false, .int .i64 0, .string ⟨#[]⟩], .int .i64 8]) (by simp [results, Tryd.results19, go_sem, k0, k1, k2]) rfl ?_
      exact RPost.behind HB1.out (by omega) HKZ.out.lt (fun A cap hl => hl.apart KZ5.out (by decide) (by decide)) (r := .tuple #[]) ⟨rfl, A5, cap5, HL5.out, HT5.out⟩ (turned_three _ _ _ _ _)

/-- What Get answers. -/
def getQ (xs : List (K × Q)) (k : K) : Q × Bool := match findQ xs k with
  | some i => ((xs[i]?.map (·.2)).getD ⟨0, 0, ⟨#[]⟩, none, 0, 0⟩, true)
  | none => (⟨0, 0, ⟨#[]⟩, none, 0, 0⟩, false)
def qval (q : Q) : Value := .agg #[.int .i64 q.kd, .int .i64 q.n, .string q.s, q.iv]
set_option maxRecDepth 100000 in
set_option maxHeartbeats 2000000 in
theorem RGet_any {B : Nat} {w : World} {rb : Nat} {A : Option Addr} {cap : Nat} {xs : List (K × Q)} {nx : Int} (h : RLst B w rb A cap xs nx) (t0 : Bool) (n0 : Int) (s0 : ByteArray)
    (hk0 : Kok ⟨t0, n0, s0.data.toList⟩) (hs0 : s0.size ≤ 281474976710656) :
    Calls Tryd.prog 22 #[.pointer (some ⟨rb, 0, none⟩), .agg #[.bool t0, .int .i64 n0, .string s0]] w fun e w' =>
      e = .returned (.tuple #[qval (getQ xs (normT ⟨t0, n0, s0.data.toList⟩)).1, .bool (getQ xs (normT ⟨t0, n0, s0.data.toList⟩)).2]) ∧ Below w.heap.size w w' := by
  obtain ⟨t, n, s, hnk, hkv⟩ := norm_cells ⟨t0, n0, s0.data.toList⟩
  have hk : Kok ⟨t, n, s.data.toList⟩ := by rw [← hnk]; exact normT_ok hk0
  have hN := fun W => RNorm_any t0 n0 s0 W hs0
  rw [hkv] at hN
  rw [hnk]
  have kk := (Blk.new w #[.bool t0, .int .i64 n0, .string s0] 30).alloc (.cells #[.int .i64 0, .int .i64 0, .string ⟨#[]⟩, .slice none 0 0] 43)
  have kv0 := Blk.new (w.alloc (.cells #[.bool t0, .int .i64 n0, .string s0] 30)) #[.int .i64 0, .int .i64 0, .string ⟨#[]⟩, .slice none 0 0] 43
  have hb0 := below_box2 w (.cells #[.bool t0, .int .i64 n0, .string s0] 30) (.cells #[.int .i64 0, .int .i64 0, .string ⟨#[]⟩, .slice none 0 0] 43)
  rw [World.size_alloc] at kv0
  obtain ⟨W0, hW0⟩ : ∃ W0, (w.alloc (.cells #[.bool t0, .int .i64 n0, .string s0] 30)).alloc (.cells #[.int .i64 0, .int .i64 0, .string ⟨#[]⟩, .slice none 0 0] 43) = W0 := ⟨_, rfl⟩
  rw [hW0] at kk kv0 hb0
  have hl0 := h.below hb0
  have HW0 := hide hW0
  have HB0 := hide hb0
  have HKV := hide kv0
  have HL0 := hide hl0
  have hS : ∀ u, Below W0.heap.size W0 u → (Below W0.heap.size W0 u ∧ u.cell? ⟨rb, 0, none⟩ = some (.slice A xs.length cap) ∧ u.cell? ⟨w.heap.size, 0, none⟩ = some (.bool t0) ∧ u.cell? ⟨w.heap.size, 1, none⟩ = some (.int .i64 n0) ∧ u.cell? ⟨w.heap.size, 2, none⟩ = some (.string s0)) := by
    intro u hu
    have kb := (kk.below hu kk.lt).three
    exact ⟨hu, (hl0.below hu).two.1, kb.1, kb.2.1, kb.2.2.1⟩
  have HS := hide hS
  have HN : Hid (∀ u, Below W0.heap.size W0 u → _) := hide (fun u hu => from_ hu (hN u))
  have HFI : Hid (∀ u, Below W0.heap.size W0 u → _) := hide (fun u hu => from_ hu (RFind_any u A cap xs (RowAt.of_own (hl0.below hu).row) hl0.keys t n s hk (by have := hl0.few; unfold maxLen; omega)))
  have hfew := hl0.few
  clear hW0 hb0 hN hl0 kk kv0 hk hk0 h hS
  go_enter Tryd.func22, Tryd.ntmps22
  go_upto_region 1 with fail
  rw [HW0.out]
  go_region_held3 (fun u => Below W0.heap.size W0 u ∧ u.cell? ⟨rb, 0, none⟩ = some (.slice A xs.length cap) ∧ u.cell? ⟨w.heap.size, 0, none⟩ = some (.bool t0) ∧ u.cell? ⟨w.heap.size, 1, none⟩ = some (.int .i64 n0) ∧ u.cell? ⟨w.heap.size, 2, none⟩ = some (.string s0))
    (first | exact HS.out _ (by assumption) | exact HS.out _ (Below.refl _ _).drew)
    (first | (go_at_call 29; refine (HN.out _ (by first | assumption | exact (Below.refl _ _).drew)).mono ?_; rintro e w3 ⟨rfl, hb3⟩) | (go_at_call 30; refine (HFI.out _ (by first | assumption | exact (Below.refl _ _).drew)).mono ?_; rintro e w4 ⟨rfl, hb4⟩))
  go_split_ands
  have hl4 := HL0.out.below hb4
  have kv4 := HKV.out.below hb4 HKV.out.lt
  have v0 := kv4.cell 0
  have v1 := kv4.cell 1
  have v2 := kv4.cell 2
  have v3 := kv4.cell 3
  have f0 := kv4.free 0
  have f1 := kv4.free 1
  have f2 := kv4.free 2
  have f3 := kv4.free 3
  have V0 : w4.cell? ⟨w.heap.size + 1, 0, none⟩ = some (.int .i64 0) := v0
  have V1 : w4.cell? ⟨w.heap.size + 1, 1, none⟩ = some (.int .i64 0) := v1
  have V2 : w4.cell? ⟨w.heap.size + 1, 2, none⟩ = some (.string ⟨#[]⟩) := v2
  have V3 : w4.cell? ⟨w.heap.size + 1, 3, none⟩ = some (.slice none 0 0) := v3
  obtain ⟨r0, r1, rf0, rf1⟩ := hl4.two
  have HL4 := hide hl4
  have HB4 := hide (HB0.out.trans (hb4.mono HB0.out.size))
  clear hl4 kv4 v0 v1 v2 v3 hb4 hb3 HS HN HFI
  cases hf : findQ xs ⟨t, n, s.data.toList⟩ with
  | some i =>
    have hfn : findN xs ⟨t, n, s.data.toList⟩ = (i : Int) := by unfold findN; rw [hf]
    obtain ⟨q0, hat⟩ := findQ_at _ _ _ hf
    have hg : getQ xs ⟨t, n, s.data.toList⟩ = (q0, true) := by unfold getQ; rw [hf]; simp only; rw [hat]; rfl
    have hil := (List.getElem?_eq_some_iff.1 hat).1
    rw [hfn]
    have HG := hide hg
    have i0 : (0 : Int) ≤ (i : Int) := by omega
    have i1 : (i : Int) < (xs.length : Int) := by omega
    have i2 : decide ((i : Int) < 0) = false := by simp
    obtain ⟨g, o, hA, _, _, _, e3, e4, e5, e6⟩ := (RowAt.of_own HL4.out.row).cells hat
    simp only [Q.iv] at e3 e4 e5 e6
    subst hA
    clear hf hfn hat hg
    go_wp2_with fail
    refine bodyPost_ret (v := .tuple #[.agg #[.int .i64 q0.kd, .int .i64 q0.n, .string q0.s, .slice q0.A q0.len q0.cap], .bool true]) (by simp [results, Tryd.results22, go_sem, V0, V1, V2, V3]) rfl ⟨by rw [HG.out]; rfl, ?_⟩
    exact below_set (below_set (below_set (below_set HB4.out _ _ _ (by omega)) _ _ _ (by omega)) _ _ _ (by omega)) _ _ _ (by omega)
  | none =>
    have hfn : findN xs ⟨t, n, s.data.toList⟩ = -1 := by unfold findN; rw [hf]
    have hg : getQ xs ⟨t, n, s.data.toList⟩ = (⟨0, 0, ⟨#[]⟩, none, 0, 0⟩, false) := by unfold getQ; rw [hf]
    rw [hfn]
    have HG := hide hg
    clear hf hfn hg
    go_wp2_with fail
    refine bodyPost_ret (v := .tuple #[.agg #[.int .i64 0, .int .i64 0, .string ⟨#[]⟩, .slice none 0 0], .bool false]) (by simp [results, Tryd.results22, go_sem, V0, V1, V2, V3]) rfl ⟨by rw [HG.out]; rfl, ?_⟩
    exact below_set (below_set (below_set (below_set HB4.out _ _ _ (by omega)) _ _ _ (by omega)) _ _ _ (by omega)) _ _ _ (by omega)
end Go.Proofs.YtmfnonepcipplaaDoor
