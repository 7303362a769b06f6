/-
  The contract of the document's Set.
-/
import Derived.Test.YtmfnonepcipplaaDoorRLst
import Derived.Test.YtmfnonepcipplaaDoorLAppend
namespace Go.Proofs.YtmfnonepcipplaaDoor
open Go Go.RowKit Convs Lists

/-- What a call on the document's list leaves. -/
def RPost (B : Nat) (w : World) (rb : Nat) (xs' : List (K × Q)) (nx' : Int) (r : Value) (e : Ending) (w' : World) : Prop :=
  e = .returned r ∧ ∃ A' cap', RLst B w' rb A' cap' xs' nx' ∧ Turned (fun k => k = rb) w w'
theorem RPost.from {B : Nat} {w w2 : World} {rb : Nat} {xs' : List (K × Q)} {nx' : Int} {r : Value} {e : Ending} {w' : World} (hb : Below w.heap.size w w2) (h : RPost B w2 rb xs' nx' r e w') : RPost B w rb xs' nx' r e w' := by
  obtain ⟨h1, A', cap', h2, h3⟩ := h
  exact ⟨h1, A', cap', h2, (Turned.of_below hb).trans h3⟩

theorem RLst.put {B : Nat} {w : World} {rb : Nat} {A : Option Addr} {cap : Nat} {xs : List (K × Q)} {nx : Int} (h : RLst B w rb A cap xs nx) {A' : Option Addr} {cap' : Nat} {xs' : List (K × Q)}
    (hr : w.ownsRow B 45 7 (.slice A' xs'.length cap') xs'.length (encQ xs')) (hk : ∀ x ∈ xs', Kok x.1) (hf : xs'.length ≤ 2048) : RLst B (w.setCell ⟨rb, 0, none⟩ (.slice A' xs'.length cap')) rb A' cap' xs' nx := by
  refine ⟨h.blk.set 0 _, row_same hr (fun k hk => Below.heap_setCell _ _ _ _ ?_), h.hrb, hk, hf, h.nlo, h.nhi⟩
  rintro rfl
  obtain ⟨_, _, cs, hcs⟩ := row_lt hr hk
  exact absurd (hcs.inj h.blk) (by decide)
theorem RLst.nextTo {B : Nat} {w : World} {rb : Nat} {A : Option Addr} {cap : Nat} {xs : List (K × Q)} {nx : Int} (h : RLst B w rb A cap xs nx) (nx' : Int) (h0 : -1 ≤ nx') (h1 : nx' ≤ 9223372036854775807) : RLst B (w.setCell ⟨rb, 1, none⟩ (.int .i64 nx')) rb A cap xs nx' := by
  refine ⟨h.blk.set 1 _, row_same h.row (fun k hk => Below.heap_setCell _ _ _ _ ?_), h.hrb, h.keys, h.few, h0, h1⟩
  rintro rfl
  obtain ⟨_, _, cs, hcs⟩ := row_lt h.row hk
  exact absurd (hcs.inj h.blk) (by decide)
theorem below_grown {w w' : World} (h : w.grownBy w' none) : Below w.heap.size w w' := ⟨h.os, h.tape, h.output, h.size, fun k hk => h.block k hk (by simp)⟩
theorem below_set {B : Nat} {w w' : World} (h : Below B w w') (b j : Nat) (v : Value) (hb : B ≤ b) : Below B w (w'.setCell ⟨b, j, none⟩ v) := h.setCell (p := ⟨b, j, none⟩) hb v
theorem rset_close {B : Nat} {w w4 w5 : World} {rb : Nat} {A : Option Addr} {cap cap5 g5 : Nat} {xs : List (K × Q)} {nx : Int} (hbw : Below w.heap.size w w4) (hl : RLst B w4 rb A cap xs nx) (hb5 : Below w4.heap.size w4 w5) (hg5 : g5 = w4.heap.size)
    (ho : w5.ownsRow B 45 7 (.slice (some ⟨g5, 0, none⟩) xs.length cap5) xs.length (encQ xs)) {i : Nat} {k : K} {q q0 : Q} (hat : xs[i]? = some (k, q0)) (hrw : rb < w.heap.size) :
    RLst B ((((w5.setCell ⟨g5, i * 7 + 3, none⟩ (.int .i64 q.kd)).setCell ⟨g5, i * 7 + 3 + 1, none⟩ (.int .i64 q.n)).setCell ⟨g5, i * 7 + 3 + 2, none⟩ (.string q.s)).setCell ⟨g5, i * 7 + 3 + 3, none⟩ q.iv) rb A cap xs nx ∧
    ((((w5.setCell ⟨g5, i * 7 + 3, none⟩ (.int .i64 q.kd)).setCell ⟨g5, i * 7 + 3 + 1, none⟩ (.int .i64 q.n)).setCell ⟨g5, i * 7 + 3 + 2, none⟩ (.string q.s)).setCell ⟨g5, i * 7 + 3 + 3, none⟩ q.iv).ownsRow B 45 7 (.slice (some ⟨g5, 0, none⟩) (xs.set i (k, q)).length cap5) (xs.set i (k, q)).length (encQ (xs.set i (k, q))) ∧
    Below w.heap.size w ((((w5.setCell ⟨g5, i * 7 + 3, none⟩ (.int .i64 q.kd)).setCell ⟨g5, i * 7 + 3 + 1, none⟩ (.int .i64 q.n)).setCell ⟨g5, i * 7 + 3 + 2, none⟩ (.string q.s)).setCell ⟨g5, i * 7 + 3 + 3, none⟩ q.iv) := by
  have hb6 : Below w4.heap.size w4 ((((w5.setCell ⟨g5, i * 7 + 3, none⟩ (.int .i64 q.kd)).setCell ⟨g5, i * 7 + 3 + 1, none⟩ (.int .i64 q.n)).setCell ⟨g5, i * 7 + 3 + 2, none⟩ (.string q.s)).setCell ⟨g5, i * 7 + 3 + 3, none⟩ q.iv) :=
    below_set (below_set (below_set (below_set hb5 _ _ _ (by omega)) _ _ _ (by omega)) _ _ _ (by omega)) _ _ _ (by omega)
  refine ⟨hl.below hb6, ?_, hbw.trans (hb6.mono hbw.size)⟩
  have h1 := (((ho.stored (i * 7 + 3) (.int .i64 q.kd)).1.stored (i * 7 + 4) (.int .i64 q.n)).1.stored (i * 7 + 5) (.string q.s)).1.stored (i * 7 + 6) q.iv |>.1
  rw [encQ_set xs i k q q0 hat] at h1
  rw [List.length_set]
  exact h1

/-- All but the list's struct stays, and that stays one with this next number. -/
def RT (w : World) (rb : Nat) (nx : Int) (u : World) : Prop := Turned (fun k => k = rb) w u ∧ ∃ v, Blk u rb #[v, .int .i64 nx] 27
section
variable {w u u' : World} {rb : Nat} {nx : Int}
theorem RT.of {v : Value} (h : Blk w rb #[v, .int .i64 nx] 27) : RT w rb nx w := ⟨.refl _ _, v, h⟩
theorem RT.drew (h : RT w rb nx u) : RT w rb nx u.drew := ⟨h.1.trans (.drew _ _), h.2⟩
theorem RT.alloc (h : RT w rb nx u) (o : Obj) : RT w rb nx (u.alloc o) := by
  obtain ⟨h1, v, h2⟩ := h
  exact ⟨h1.trans (.alloc _ _ _), v, h2.alloc o⟩
theorem RT.below (h : RT w rb nx u) (hb : Below u.heap.size u u') : RT w rb nx u' := by
  obtain ⟨h1, v, h2⟩ := h
  exact ⟨h1.trans (.of_below hb), v, h2.below hb h2.lt⟩
theorem RT.grown (h : RT w rb nx u) {row : Option Nat} (hg : u.grownBy u' row) (hr : ∀ k, row = some k → w.heap.size ≤ k ∧ k ≠ rb) : RT w rb nx u' := by
  obtain ⟨h1, v, h2⟩ := h
  refine ⟨⟨hg.os.trans h1.os, hg.tape.trans h1.tape, hg.output.trans h1.output, Nat.le_trans h1.size hg.size, fun k hk hs => (hg.block k (Nat.lt_of_lt_of_le hk h1.size) (fun e => by have := (hr k e.symm).1; omega)).trans (h1.block k hk hs)⟩, v, h2.same (hg.block rb h2.lt (fun e => (hr rb e.symm).2 rfl))⟩
theorem RT.put (h : RT w rb nx u) (x : Value) : RT w rb nx (u.setCell ⟨rb, 0, none⟩ x) := by
  obtain ⟨h1, v, h2⟩ := h
  exact ⟨h1.trans (.setCell _ _ _ rfl), x, h2.set 0 x⟩
end
/-- The end of a region that makes a new row and puts it into the struct. -/
theorem RLst.drewN {B : Nat} {w : World} {rb : Nat} {A : Option Addr} {cap : Nat} {xs : List (K × Q)} {nx : Int} (h : RLst B w rb A cap xs nx) (n : Nat) : RLst B (w.drewN n) rb A cap xs nx := h.same (fun _ _ => rfl)
theorem RLst.drew {B : Nat} {w : World} {rb : Nat} {A : Option Addr} {cap : Nat} {xs : List (K × Q)} {nx : Int} (h : RLst B w rb A cap xs nx) : RLst B w.drew rb A cap xs nx := h.same (fun _ _ => rfl)
theorem RT.lstN {B : Nat} {w : World} {rb : Nat} {nx : Int} {u : World} (h : RT w rb nx u) {A : Option Addr} {cap N : Nat} {xs : List (K × Q)} (hN : xs.length = N) (hr : u.ownsRow B 45 7 (.slice A N cap) N (encQ xs)) (hrb : B ≤ rb) (hk : ∀ x ∈ xs, Kok x.1) (hf : xs.length ≤ 2048) (h0 : -1 ≤ nx) (h1 : nx ≤ 9223372036854775807) :
    RLst B (u.setCell ⟨rb, 0, none⟩ (.slice A N cap)) rb A cap xs nx := by
  subst hN
  obtain ⟨_, v, h2⟩ := h
  refine ⟨h2.set 0 _, row_same hr (fun k hk => Below.heap_setCell _ _ _ _ ?_), hrb, hk, hf, h0, h1⟩
  rintro rfl
  obtain ⟨_, _, cs, hcs⟩ := row_lt hr hk
  exact absurd (hcs.inj h2) (by decide)
theorem RT.lst {B : Nat} {w : World} {rb : Nat} {nx : Int} {u : World} (h : RT w rb nx u) {A : Option Addr} {cap : Nat} {xs : List (K × Q)} (hr : u.ownsRow B 45 7 (.slice A xs.length cap) xs.length (encQ xs)) (hrb : B ≤ rb) (hk : ∀ x ∈ xs, Kok x.1) (hf : xs.length ≤ 2048) (h0 : -1 ≤ nx) (h1 : nx ≤ 9223372036854775807) :
    RLst B (u.setCell ⟨rb, 0, none⟩ (.slice A xs.length cap)) rb A cap xs nx := by
  obtain ⟨_, v, h2⟩ := h
  refine ⟨h2.set 0 _, row_same hr (fun k hk => Below.heap_setCell _ _ _ _ ?_), hrb, hk, hf, h0, h1⟩
  rintro rfl
  obtain ⟨_, _, cs, hcs⟩ := row_lt hr hk
  exact absurd (hcs.inj h2) (by decide)

set_option maxRecDepth 100000 in
set_option maxHeartbeats 4000000 in
theorem RSet_any {B : Nat} {w : World} {rb : Nat} {A : Option Addr} {cap : Nat} {xs : List (K × Q)} {nx : Int} (h : RLst B w rb A cap xs nx) (t0 : Bool) (n0 : Int) (s0 : ByteArray) (q : Q)
    (hk0 : Kok ⟨t0, n0, s0.data.toList⟩) (hs0 : s0.size ≤ 281474976710656) :
    Calls Tryd.prog 17 #[.pointer (some ⟨rb, 0, none⟩), .agg #[.bool t0, .int .i64 n0, .string s0], .agg #[.int .i64 q.kd, .int .i64 q.n, .string q.s, q.iv]] w
      (RPost B w rb (setQ xs nx (normT ⟨t0, n0, s0.data.toList⟩) q).1.1 (setQ xs nx (normT ⟨t0, n0, s0.data.toList⟩) q).1.2 (.int .i64 (fullN (setQ xs nx (normT ⟨t0, n0, s0.data.toList⟩) q).2))) := by
  obtain ⟨t, n, s, hnk, hkv⟩ := norm_cells ⟨t0, n0, s0.data.toList⟩
  have hk : Kok ⟨t, n, s.data.toList⟩ := by rw [← hnk]; exact normT_ok hk0
  have hN := fun W => RNorm_any t0 n0 s0 W hs0
  rw [hkv] at hN
  rw [hnk]
  obtain ⟨kd, qn, qs, qA, ql, qc⟩ := q
  simp only [Q.iv]
  obtain ⟨qq, hqq⟩ : ∃ qq : Q, (⟨kd, qn, qs, qA, ql, qc⟩ : Q) = qq := ⟨_, rfl⟩
  rw [hqq]
  have HQQ := hide hqq
  clear hqq
  have kk := (Blk.new w #[.bool t0, .int .i64 n0, .string s0] 30).alloc (.cells #[.int .i64 kd, .int .i64 qn, .string qs, .slice qA ql qc] 43)
  have kv0 := Blk.new (w.alloc (.cells #[.bool t0, .int .i64 n0, .string s0] 30)) #[.int .i64 kd, .int .i64 qn, .string qs, .slice qA ql qc] 43
  have hb0 := below_box2 w (.cells #[.bool t0, .int .i64 n0, .string s0] 30) (.cells #[.int .i64 kd, .int .i64 qn, .string qs, .slice qA ql qc] 43)
  rw [World.size_alloc] at kv0
  obtain ⟨W0, hW0⟩ : ∃ W0, (w.alloc (.cells #[.bool t0, .int .i64 n0, .string s0] 30)).alloc (.cells #[.int .i64 kd, .int .i64 qn, .string qs, .slice qA ql qc] 43) = W0 := ⟨_, rfl⟩
  rw [hW0] at kk kv0 hb0
  have hl0 := h.below hb0
  have HW0 := hide hW0
  have HB0 := hide hb0
  have HN := hide (hN W0)
  have HL0 := hide hl0
  have HKK := hide kk
  have HKV := hide kv0
  obtain ⟨k0, k1, k2, z0, z1, z2⟩ := kk.three
  have hlt : w.heap.size + 1 < W0.heap.size := by have := kv0.lt; omega
  have hrlt := h.blk.lt
  have HK := hide hk
  have HRL := hide hrlt
  have HLT := hide hlt
  clear hW0 hb0 hN hl0 kk kv0 hk hk0 h hkv hrlt hlt
  go_enter Tryd.func17, Tryd.ntmps17
  go_upto_region 1 with fail
  rw [HW0.out]
  go_upto_region 2 with (first | (go_at_call 29; refine (unhide HN).mono ?_; rintro e w1 ⟨rfl, hb1⟩; have kk1 := HKK.out.below hb1 HKK.out.lt; obtain ⟨k0, k1, k2, z0, z1, z2⟩ := kk1.three; have HB1 := hide hb1; have KK1 := hide kk1; clear hb1 kk1))
  have k3 := ((KK1.out.set 0 (.bool t)).set 1 (.int .i64 n)).set 2 (.string s)
  have hb3 : Below w.heap.size w (((w1.setCell ⟨w.heap.size, 0, none⟩ (.bool t)).setCell ⟨w.heap.size, 1, none⟩ (.int .i64 n)).setCell ⟨w.heap.size, 2, none⟩ (.string s)) := below_three (HB0.out.trans (HB1.out.mono HB0.out.size)) (Nat.le_refl _) _ _ _
  have t3 : Turned (fun k => k = w.heap.size) W0 (((w1.setCell ⟨w.heap.size, 0, none⟩ (.bool t)).setCell ⟨w.heap.size, 1, none⟩ (.int .i64 n)).setCell ⟨w.heap.size, 2, none⟩ (.string s)) :=
    (Turned.of_below HB1.out).trans (turned_three w1 w.heap.size _ _ _)
  obtain ⟨W3, hW3⟩ : ∃ W3, ((w1.setCell ⟨w.heap.size, 0, none⟩ (.bool t)).setCell ⟨w.heap.size, 1, none⟩ (.int .i64 n)).setCell ⟨w.heap.size, 2, none⟩ (.string s) = W3 := ⟨_, rfl⟩
  rw [hW3] at k3 hb3 t3 ⊢
  have hl3 : RLst B W3 rb A cap xs nx := HL0.out.same (fun k hk => t3.block k (HL0.out.fp hk).1 (fun e => HL0.out.apart HKK.out (by decide) (by decide) (by have e' : k = w.heap.size := e; rw [← e']; exact hk)))
  have v3 : Blk W3 (w.heap.size + 1) #[.int .i64 kd, .int .i64 qn, .string qs, .slice qA ql qc] 43 := t3.blk HKV.out (by omega)
  have k3' : Blk W3 w.heap.size #[.bool t, .int .i64 n, .string s] 30 := k3
  have HB3 := hide hb3
  have HL3 := hide hl3
  have HV3 := hide v3
  have HK3 := hide k3'
  clear hW3 hb3 t3 k3 k3' hl3 v3 k0 k1 k2 z0 z1 z2 HB1 KK1
  have hfi := fun u => fun (hu : Below W3.heap.size W3 u) => from_ hu (RFind_any u A cap xs (RowAt.of_own (HL3.out.below hu).row) HL3.out.keys t n s HK.out (by have := HL3.out.few; unfold maxLen; omega))
  have HFI := hide hfi
  have HS : Hid (∀ u, Below W3.heap.size W3 u → (Below W3.heap.size W3 u ∧ u.cell? ⟨rb, 0, none⟩ = some (.slice A xs.length cap) ∧ u.cell? ⟨w.heap.size, 0, none⟩ = some (.bool t) ∧ u.cell? ⟨w.heap.size, 1, none⟩ = some (.int .i64 n) ∧ u.cell? ⟨w.heap.size, 2, none⟩ = some (.string s))) := by
    intro u hu
    have kb := (HK3.out.below hu HK3.out.lt).three
    exact ⟨hu, (HL3.out.below hu).two.1, kb.1, kb.2.1, kb.2.2.1⟩
  clear hfi
  go_region_held3 (fun u => Below W3.heap.size W3 u ∧ u.cell? ⟨rb, 0, none⟩ = some (.slice A xs.length cap) ∧ u.cell? ⟨w.heap.size, 0, none⟩ = some (.bool t) ∧ u.cell? ⟨w.heap.size, 1, none⟩ = some (.int .i64 n) ∧ u.cell? ⟨w.heap.size, 2, none⟩ = some (.string s))
    (first | exact HS.out _ (by assumption) | exact HS.out _ (Below.refl _ _).drew)
    (first | (go_at_call 30; refine (HFI.out _ (by first | assumption | exact (Below.refl _ _).drew)).mono ?_; rintro e w4 ⟨rfl, hb4⟩))
  go_split_ands
  have hl4 := HL3.out.below hb4
  have kb4 := HK3.out.below hb4 HK3.out.lt
  have kv4 := HV3.out.below hb4 HV3.out.lt
  have hbw := HB3.out.trans (hb4.mono HB3.out.size)
  have hnr : w.heap.size ≠ rb ∧ w.heap.size + 1 ≠ rb := ⟨fun e => absurd (e ▸ kb4 : Blk w4 rb _ _) (fun h => absurd (h.inj hl4.blk) (by decide)), fun e => absurd (e ▸ kv4 : Blk w4 rb _ _) (fun h => absurd (h.inj hl4.blk) (by decide))⟩
  have HL4 := hide hl4
  have KB4 := hide kb4
  have KV4 := hide kv4
  have HBW := hide hbw
  have HNR := hide hnr
  obtain ⟨r0, r1, rf0, rf1⟩ := hl4.two
  have hfew := hl4.few
  clear hl4 kb4 kv4 hbw hb4 HFI HS hnr
  cases hf : findQ xs ⟨t, n, s.data.toList⟩ with
  | some i =>
    have hfn : findN xs ⟨t, n, s.data.toList⟩ = (i : Int) := by unfold findN; rw [hf]
    have hset : setQ xs nx ⟨t, n, s.data.toList⟩ qq = ((xs.set i (⟨t, n, s.data.toList⟩, qq), nx), false) := by unfold setQ; rw [hf]
    obtain ⟨q0, hat⟩ := findQ_at _ _ _ hf
    have HAT := hide hat
    have hil := (List.getElem?_eq_some_iff.1 hat).1
    rw [hfn]
    have HSET := hide hset
    have i0 : (0 : Int) ≤ (i : Int) := by omega
    have i1 : (i : Int) < (xs.length : Int) := by omega
    obtain ⟨v0, v1, v2⟩ : w4.cell? ⟨w.heap.size + 1, 0, none⟩ = some (.int .i64 kd) ∧ w4.cell? ⟨w.heap.size + 1, 1, none⟩ = some (.int .i64 qn) ∧ w4.cell? ⟨w.heap.size + 1, 2, none⟩ = some (.string qs) := ⟨KV4.out.cell 0, KV4.out.cell 1, KV4.out.cell 2⟩
    have v3 : w4.cell? ⟨w.heap.size + 1, 3, none⟩ = some (.slice qA ql qc) := KV4.out.cell 3
    have HRD := hide (RdQ.of_own HL4.out.row)
    have HBS := hide (show B ≤ w4.heap.size by have := HL4.out.hrb; have := HL4.out.blk.lt; omega)
    clear hf hfn hset hat v0 v1 v2 v3
    go_upto_region 5 with (first | (at_builtin; refine list_appQ rfl _ _ rfl (.slice none 0 0) A cap [] xs B xs.length rfl rfl (by simp) (by omega) HBS.out (World.ownsRow_nil _ _ _ _) HRD.out ?_; intro A5 cap5 w5 hown5 hgrow5 hat5))
    obtain ⟨g5, hA5, hg5⟩ : ∃ g5, A5 = some ⟨g5, 0, none⟩ ∧ g5 = w4.heap.size := by
      rcases (hat5 rfl).1 with h | h
      · subst h
        rcases hown5.2 with ⟨_, h0⟩ | ⟨g, c, cur, h', _⟩
        · omega
        · cases h'
      · exact ⟨_, h, rfl⟩
    subst hA5
    have hb5 : Below w4.heap.size w4 w5 := ⟨hgrow5.os, hgrow5.tape, hgrow5.output, hgrow5.size, fun k hk => hgrow5.block k hk (by simp [Value.ownBlock])⟩
    have hl5 := HL4.out.below hb5
    have kv5 := KV4.out.below hb5 KV4.out.lt
    simp only [List.nil_append] at hown5
    obtain ⟨cur5, hcur5⟩ := (row_lt hown5 (k := g5) rfl).2.2
    obtain ⟨q0', e3, e4, e5, e6⟩ : True ∧ w5.cell? ⟨g5, i * 7 + 3, none⟩ = some (.int .i64 q0.kd) ∧ w5.cell? ⟨g5, i * 7 + 4, none⟩ = some (.int .i64 q0.n) ∧ w5.cell? ⟨g5, i * 7 + 5, none⟩ = some (.string q0.s) ∧ w5.cell? ⟨g5, i * 7 + 6, none⟩ = some q0.iv := by
      have hr := RowAt.of_own hown5
      obtain ⟨g, o, hA, _, _, _, h3, h4, h5, h6⟩ := hr.cells HAT.out
      simp only [Option.some.injEq, Addr.mk.injEq, and_true] at hA
      obtain ⟨rfl, rfl⟩ := hA
      simp only [Nat.zero_add] at h3 h4 h5 h6
      exact ⟨trivial, h3, h4, h5, h6⟩
    have p3 := hcur5.free (i * 7 + 3)
    have p4 := hcur5.free (i * 7 + 4)
    have p5 := hcur5.free (i * 7 + 5)
    have p6 := hcur5.free (i * 7 + 6)
    obtain ⟨v0, v1, v2⟩ : w5.cell? ⟨w.heap.size + 1, 0, none⟩ = some (.int .i64 kd) ∧ w5.cell? ⟨w.heap.size + 1, 1, none⟩ = some (.int .i64 qn) ∧ w5.cell? ⟨w.heap.size + 1, 2, none⟩ = some (.string qs) := ⟨kv5.cell 0, kv5.cell 1, kv5.cell 2⟩
    have v3 : w5.cell? ⟨w.heap.size + 1, 3, none⟩ = some (.slice qA ql qc) := kv5.cell 3
    have OW5 := hide hown5
    have HL5 := hide hl5
    have HB5 := hide hb5
    have HG5 := hide hg5
    have HC5 := hide hcur5
    clear hown5 hl5 hb5 hg5 hcur5 kv5 hgrow5 hat5 r0 r1 rf0 rf1
    go_upto_region 6 with fail
    obtain ⟨hl6, hr6, hb6⟩ := rset_close (q := ⟨kd, qn, qs, qA, ql, qc⟩) HBW.out HL4.out HB5.out HG5.out OW5.out HAT.out HRL.out
    simp only [Q.iv] at hl6 hr6 hb6
    obtain ⟨W6, hW6⟩ : ∃ W6, (((w5.setCell ⟨g5, i * 7 + 3, none⟩ (.int .i64 kd)).setCell ⟨g5, i * 7 + 3 + 1, none⟩ (.int .i64 qn)).setCell ⟨g5, i * 7 + 3 + 2, none⟩ (.string qs)).setCell ⟨g5, i * 7 + 3 + 3, none⟩ (.slice qA ql qc) = W6 := ⟨_, rfl⟩
    rw [hW6] at hl6 hr6 hb6 ⊢
    rw [HQQ.out] at hr6
    obtain ⟨r0, r1, rf0, rf1⟩ := hl6.two
    have hl7 := hl6.put hr6 (fun x hx => by
      rcases List.mem_or_eq_of_mem_set hx with h | h
      · exact hl6.keys x h
      · rw [h]; exact HK.out) (by rw [List.length_set]; exact hl6.few)
    rw [List.length_set] at hl7
    have HL7 := hide hl7
    have HB6 := hide hb6
    clear hW6 hl6 hr6 hb6 hl7 e3 e4 e5 e6 p3 p4 p5 p6 v0 v1 v2 v3
    go_wp2_with fail
    go_ret
    rw [HSET.out]
    exact ⟨rfl, _, _, HL7.out, (Turned.of_below HB6.out).trans (.setCell _ _ _ rfl)⟩
  | none =>
    have hfn : findN xs ⟨t, n, s.data.toList⟩ = -1 := by unfold findN; rw [hf]
    have HF := hide hf
    have hnn : ((0 : Int) ≤ -1) = False := by simp
    by_cases hfull : 2048 ≤ xs.length
    · have hset : setQ xs nx ⟨t, n, s.data.toList⟩ qq = ((xs, nx), true) := by unfold setQ; rw [hf, if_pos hfull]
      rw [hfn]
      have HSET := hide hset
      have hd : (2048 : Int) ≤ (xs.length : Int) := by omega
      clear hfn hf hset hfull
      go_wp2_with fail
      go_ret
      rw [HSET.out]
      exact ⟨rfl, _, _, HL4.out, Turned.of_below HBW.out⟩
    · have hset : setQ xs nx ⟨t, n, s.data.toList⟩ qq = ((xs ++ [(⟨t, n, s.data.toList⟩, qq)], nextT nx ⟨t, n, s.data.toList⟩), false) := by unfold setQ; rw [hf, if_neg hfull]
      rw [hfn]
      have hd : (xs.length : Int) < 2048 := by omega
      have HSet := hide hset
      clear hfn hf hset hfull
      have HRD := hide (RdQ.of_own HL4.out.row)
      have HBS := hide (show B ≤ w4.heap.size by have := HL4.out.hrb; have := HL4.out.blk.lt; omega)
      have HS : Hid (∀ u, RT w4 rb nx u → (RT w4 rb nx u ∧ u.cell? ⟨w.heap.size, 0, none⟩ = some (.bool t) ∧ u.cell? ⟨w.heap.size, 1, none⟩ = some (.int .i64 n) ∧ u.cell? ⟨w.heap.size, 2, none⟩ = some (.string s) ∧ u.cell? ⟨w.heap.size + 1, 0, none⟩ = some (.int .i64 kd) ∧ u.cell? ⟨w.heap.size + 1, 1, none⟩ = some (.int .i64 qn) ∧ u.cell? ⟨w.heap.size + 1, 2, none⟩ = some (.string qs) ∧ u.cell? ⟨w.heap.size + 1, 3, none⟩ = some (.slice qA ql qc))) := by
        intro u hu
        have kb := (hu.1.blk KB4.out HNR.out.1).three
        have kv := hu.1.blk KV4.out HNR.out.2
        exact ⟨hu, kb.1, kb.2.1, kb.2.2.1, kv.cell 0, kv.cell 1, kv.cell 2, kv.cell 3⟩
      have HRT := hide (RT.of HL4.out.blk)
      have HRBL := hide HL4.out.blk.lt
      have HRDT : Hid (∀ u, RT w4 rb nx u → RdQ u A cap xs) := fun u hu => HRD.out.turned hu.1 (fun a ha e => by
        have h1 : (Value.slice A xs.length cap).ownBlock = some rb := by rw [ha]; exact congrArg some e
        obtain ⟨_, _, cs, hcs⟩ := row_lt HL4.out.row h1
        exact absurd (hcs.inj HL4.out.blk) (by decide))
      go_upto_region 10 with fail
      have hq : qitem (⟨t, n, s.data.toList⟩, qq) = [.bool t, .int .i64 n, .string s, .int .i64 kd, .int .i64 qn, .string qs, .slice qA ql qc] := by rw [← HQQ.out]; rfl
      have HQ := hide hq
      clear hq
      have HGN := hide (fun (A1 : Option Addr) (cap1 : Nat) (w5 u : World) (hown : w5.ownsRow B 45 7 (.slice A1 xs.length cap1) xs.length (encQ xs)) (hb : Below w5.heap.size w5 u) => row_same hown (fun k hk => hb.block k (row_lt hown hk).1))
      have HNW := hide (fun (u : World) (b : Nat) (hb : Blk u b #[.bool t, .int .i64 n, .string s, .int .i64 kd, .int .i64 qn, .string qs, .slice qA ql qc] 45) => RdQ.one (x := (⟨t, n, s.data.toList⟩, qq)) (T := 45) (by rw [HQ.out]; exact hb) 1)
      obtain ⟨-, k0, k1, k2, v0, v1, v2, v3⟩ := HS.out _ HRT.out
      have re0 : (w4.alloc (.cells #[.bool t, .int .i64 n, .string s, .int .i64 kd, .int .i64 qn, .string qs, .slice qA ql qc] 45)).cell? ⟨rb, 0, none⟩ = some (.slice A xs.length cap) := (HL4.out.blk.alloc _).cell 0
      have HKS : Hid (∀ x ∈ xs ++ [((⟨t, n, s.data.toList⟩ : Lists.K), qq)], Kok x.1) := fun x hx => by
        rcases List.mem_append.1 hx with h | h
        · exact HL4.out.keys x h
        · rw [List.mem_singleton.1 h]; exact HK.out
      have HFS : Hid ((xs ++ [((⟨t, n, s.data.toList⟩ : Lists.K), qq)]).length ≤ 2048) := by show _ ≤ _; simp; omega
      rename_i Kt hKt
      have TAIL : ∀ (u1 u2 u3 u5 u7 u8 u9 u10 u11 u12 u13 u14 u15 u16 u17 u18 u19 u20 u21 u22 u23 u24 u25 u26 u27 u28 u29 u30 u31 u32 u33 u34 u35 u36 u37 u38 u39 u40 u41 u42 u43 u44 u45 u46 u47 u48 u49 u50 u51 u52 u53 u54 u55 u56 u57 u58 u59 u60 u61 u62 u63 u64 u65 u66 u67 u68 u69 u70 u71 u72 u73 u74 u75 u76 u77 u78 u79 u80 u81 u82 : Value) (A6 : Option Addr) (cap6 : Nat) (w8 : World), RLst B w8 rb A6 cap6 (xs ++ [((⟨t, n, s.data.toList⟩ : Lists.K), qq)]) nx → Turned (fun k => k = rb) w w8 → Blk w8 w.heap.size #[.bool t, .int .i64 n, .string s] 30 →
          Kt { tmps := #[.pointer (some ⟨rb, 0, none⟩), u1, u2, u3, .pointer (some ⟨w.heap.size, 0, none⟩), u5, .int .i64 0, u7, u8, u9, u10, u11, u12, u13, u14, u15, u16, u17, u18, u19, u20, u21, u22, u23, u24, u25, u26, u27, u28, u29, u30, u31, u32, u33, u34, u35, u36, u37, u38, u39, u40, u41, u42, u43, u44, u45, u46, u47, u48, u49, u50, u51, u52, u53, u54, u55, u56, u57, u58, u59, u60, u61, u62, u63, u64, u65, u66, u67, u68, u69, u70, u71, u72, u73, u74, u75, u76, u77, u78, u79, u80, u81, u82], defers := [] } w8 := by
        intro u1 u2 u3 u5 u7 u8 u9 u10 u11 u12 u13 u14 u15 u16 u17 u18 u19 u20 u21 u22 u23 u24 u25 u26 u27 u28 u29 u30 u31 u32 u33 u34 u35 u36 u37 u38 u39 u40 u41 u42 u43 u44 u45 u46 u47 u48 u49 u50 u51 u52 u53 u54 u55 u56 u57 u58 u59 u60 u61 u62 u63 u64 u65 u66 u67 u68 u69 u70 u71 u72 u73 u74 u75 u76 u77 u78 u79 u80 u81 u82 A6 cap6 w8 hl8 ht8 kb8
        apply hKt
        clear hKt r0 r1 rf0 rf1
        obtain ⟨k0, k1, k2, -⟩ := kb8.three
        obtain ⟨r0, r1, rf0, rf1⟩ := hl8.two
        have HL8 := hide hl8
        have HT8 := hide ht8
        clear hl8 ht8 kb8
        have hnb0 : -9223372036854775808 ≤ n := HK.out.1
        have hnb1 : n ≤ 9223372036854775807 := HK.out.2.1
        have hne := HNR.out.1
        have hne2 := Ne.symm HNR.out.1
        cases t
        · by_cases hn0 : 0 ≤ nx
          · by_cases hn1 : nx ≤ n
            · by_cases hn2 : n < 9223372036854775807
              · have HN2 : Hid (nextT nx ⟨false, n, s.data.toList⟩ = n + 1) := by show _ = _; unfold nextT most; simp only [hn0, hn1, hn2, and_self, if_true]
                go_wp2_with fail
                go_quiet (fail)
                go_wp2_with fail
                go_ret
                rw [HSet.out, HN2.out]
                exact ⟨rfl, A6, cap6, ((HL8.out.drewN _).nextTo (-1) (by omega) (by omega)).nextTo (n + 1) (by omega) (by omega), ((HT8.out.trans (.drewN _ _ _)).trans (.setCell _ _ _ rfl)).trans (.setCell _ _ _ rfl)⟩
              · have HN2 : Hid (nextT nx ⟨false, n, s.data.toList⟩ = -1) := by show _ = _; unfold nextT most; simp only [hn0, hn1, hn2, and_self, if_true, if_false]
                go_wp2_with fail
                go_quiet (fail)
                go_wp2_with fail
                go_ret
                rw [HSet.out, HN2.out]
                exact ⟨rfl, A6, cap6, HL8.out.drewN _ |>.nextTo _ (by omega) (by omega), (HT8.out.trans (.drewN _ _ _)).trans (.setCell _ _ _ rfl)⟩
            · have HN2 : Hid (nextT nx ⟨false, n, s.data.toList⟩ = nx) := by show _ = _; unfold nextT; simp only [hn1, and_false, if_false]
              have hd1 : decide (nx ≤ n) = false := by simpa using hn1
              go_wp2_with fail
              go_quiet (fail)
              go_wp2_with fail
              go_ret
              rw [HSet.out, HN2.out]
              exact ⟨rfl, A6, cap6, HL8.out.drewN _, HT8.out.trans (.drewN _ _ _)⟩
          · have HN2 : Hid (nextT nx ⟨false, n, s.data.toList⟩ = nx) := by show _ = _; unfold nextT; simp only [hn0, and_false, false_and, if_false]
            have hd1 : decide (0 ≤ nx) = false := by simpa using hn0
            go_wp2_with fail
            go_quiet (fail)
            go_wp2_with fail
            go_ret
            rw [HSet.out, HN2.out]
            exact ⟨rfl, A6, cap6, HL8.out.drewN _, HT8.out.trans (.drewN _ _ _)⟩
        · have HN2 : Hid (nextT nx ⟨true, n, s.data.toList⟩ = nx) := by show _ = _; unfold nextT; simp
          go_wp2_with fail
          go_quiet (fail)
          go_wp2_with fail
          go_ret
          rw [HSet.out, HN2.out]
          exact ⟨rfl, A6, cap6, HL8.out.drewN _, HT8.out.trans (.drewN _ _ _)⟩
      go_region_law (first
          | (refine step_appQ rfl (.const (.slice none 0 0)) (.tmp 43) rfl (.slice none 0 0) A cap [] xs B xs.length rfl (by simp [Act.eval, Act.put]) (by simp) (Nat.le_trans hfew (by decide)) (by first | exact HBS.out | (simp; have := HBS.out; omega)) (World.ownsRow_nil _ _ _ _) (by first | exact HRDT.out _ HRT.out.drew | exact HRDT.out _ (HRT.out.drew.alloc _) | exact HRDT.out _ (HRT.out.alloc _).drew) ?_; intro A5 cap5 w5 hown5 hgrow5 hat5; replace hown5 : w5.ownsRow B 45 7 (.slice A5 xs.length cap5) xs.length (encQ xs) := (by simpa using hown5); have R5 : RT w4 rb nx w5 := (by first | exact RT.below HRT.out.drew (below_grown hgrow5) | exact RT.below (HRT.out.drew.alloc _) (below_grown hgrow5) | exact RT.below (HRT.out.alloc _).drew (below_grown hgrow5)); obtain ⟨-, k0, k1, k2, v0, v1, v2, v3⟩ := HS.out _ R5)
          | (refine step_appQ rfl (.tmp 44) (.tmp 48) rfl (.slice A5 xs.length cap5) (some ⟨w5.heap.size, 0, none⟩) 1 xs [((⟨t, n, s.data.toList⟩ : Lists.K), qq)] B (xs.length + 1) (by simp [Act.eval, Act.put]) (by simp [Act.eval, Act.put]) rfl (by omega) (by have h1 := HBS.out; have h2 := hgrow5.size; simp at h2 ⊢; omega) (HGN.out _ _ _ _ hown5 (below_box _ _)) (HNW.out _ _ (Blk.new _ _ _)) ?_; intro A6 cap6 w6 hown6 hgrow6 hat6; have hrr : ∀ k, (Value.slice A5 xs.length cap5).ownBlock = some k → w4.heap.size ≤ k ∧ k ≠ rb := (by intro k hk; have hl := HRBL.out; rcases (hat5 rfl).1 with h | h <;> rw [h] at hk <;> simp [Value.ownBlock] at hk; subst hk; constructor <;> omega); have R6 : RT w4 rb nx w6 := (by first | exact RT.grown (R5.alloc _) hgrow6 hrr | exact RT.grown R5 hgrow6 hrr); obtain ⟨vv, hvv⟩ := R6.2; have st0 : w6.cell? ⟨rb, 0, none⟩ = some vv := hvv.cell 0; have st1 : w6.frozen? ⟨rb, 0, none⟩ = false := hvv.free 0)
          | (refine step_appQ rfl (.tmp 44) (.tmp 48) rfl (.slice A5 xs.length cap5) (some ⟨w4.heap.size, 0, none⟩) 1 xs [((⟨t, n, s.data.toList⟩ : Lists.K), qq)] B (xs.length + 1) (by simp [Act.eval, Act.put]) (by simp [Act.eval, Act.put]) rfl (by omega) (by have h1 := HBS.out; have h2 := hgrow5.size; simp at h2 ⊢; omega) hown5 (HNW.out _ _ ((Blk.new w4 _ _).same (hgrow5.block _ (by simp) (by simp [Value.ownBlock])))) ?_; intro A6 cap6 w6 hown6 hgrow6 hat6; have hrr : ∀ k, (Value.slice A5 xs.length cap5).ownBlock = some k → w4.heap.size ≤ k ∧ k ≠ rb := (by intro k hk; have hl := HRBL.out; rcases (hat5 rfl).1 with h | h <;> rw [h] at hk <;> simp [Value.ownBlock] at hk; subst hk; constructor <;> omega); have R6 : RT w4 rb nx w6 := (by first | exact RT.grown (R5.alloc _) hgrow6 hrr | exact RT.grown R5 hgrow6 hrr); obtain ⟨vv, hvv⟩ := R6.2; have st0 : w6.cell? ⟨rb, 0, none⟩ = some vv := hvv.cell 0; have st1 : w6.frozen? ⟨rb, 0, none⟩ = false := hvv.free 0)
          )
      all_goals exact TAIL _ _ _ _ _ _ _ _ _ _ _ _ _ _ _ _ _ _ _ _ _ _ _ _ _ _ _ _ _ _ _ _ _ _ _ _ _ _ _ _ _ _ _ _ _ _ _ _ _ _ _ _ _ _ _ _ _ _ _ _ _ _ _ _ _ _ _ _ _ _ _ _ _ _ _ _ _ _ _ _ A6 cap6 _ (R6.lstN (by simp) hown6 HL4.out.hrb HKS.out HFS.out HL4.out.nlo HL4.out.nhi) ((Turned.of_below HBW.out).trans (R6.put _).1) ((R6.put _).1.blk KB4.out HNR.out.1)
end Go.Proofs.YtmfnonepcipplaaDoor
