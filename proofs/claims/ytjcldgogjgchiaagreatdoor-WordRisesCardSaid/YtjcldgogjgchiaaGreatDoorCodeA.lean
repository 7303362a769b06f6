/-
  The contract of the reader's code.
-/
import Derived.Test.YtjcldgogjgchiaaGreatDoorReader
import Derived.Test.YtjcldgogjgchiaaGreatDoorCodeT
namespace Go.Proofs.YtjcldgogjgchiaaGreatDoor
open Go Go.RowKit Cutting Wording

/-- But for the reader and rows of tokens, what was there is as it was. -/
def Kept (P : Nat) (w w' : World) : Prop := w.heap.size ≤ w'.heap.size ∧ ∀ Q cs T z, Q ≠ P → T ≠ 32 → w.heap[Q]? = some (.cells cs T z) → w'.heap[Q]? = some (.cells cs T z)
theorem Kept.refl (P : Nat) (w : World) : Kept P w w := ⟨Nat.le_refl _, fun _ _ _ _ _ _ h => h⟩
theorem Kept.trans {P : Nat} {w w1 w2 : World} (h1 : Kept P w w1) (h2 : Kept P w1 w2) : Kept P w w2 := ⟨Nat.le_trans h1.1 h2.1, fun Q cs T z a b c => h2.2 Q cs T z a b (h1.2 Q cs T z a b c)⟩
theorem heap_lt {w : World} {Q : Nat} {o : Obj} (h : w.heap[Q]? = some o) : Q < w.heap.size := by
  rcases Nat.lt_or_ge Q w.heap.size with hlt | hge
  · exact hlt
  · rw [Array.getElem?_eq_none hge] at h; cases h
theorem Kept.below {P : Nat} {w w' : World} (h : Below w.heap.size w w') : Kept P w w' := ⟨h.size, fun Q _ _ _ _ _ hb => (h.block Q (heap_lt hb)).trans hb⟩
theorem Kept.blk {P Q : Nat} {w w' : World} {cs : Array Value} {T : TypeId} (h : Kept P w w') (hQ : Blk Q w cs T) (h1 : Q ≠ P) (h2 : T ≠ 32) : Blk Q w' cs T := ⟨h.2 Q cs T _ h1 h2 hQ.blk⟩
theorem own_typeZ {w : World} {C Q n size : Nat} {e T : TypeId} {v : Value} {xs : List Value} {cs : Array Value} {z} (h : w.ownsRow C e size v n xs) (hQ : w.heap[Q]? = some (.cells cs T z)) (hne : e ≠ T) : v.ownBlock ≠ some Q := by
  rcases h.2 with ⟨rfl, _⟩ | ⟨g', cap, cur, rfl, _, hh, _⟩
  · simp [Value.ownBlock]
  · intro he
    have hg : g' = Q := by simpa [Value.ownBlock] using he
    subst hg
    rw [hQ] at hh
    injection hh with hh
    injection hh with _ ht
    exact hne ht.symm
theorem Kept.add {P C : Nat} {w0 w w' : World} {file : ByteArray} {v : Value} {l : List TkV} {seen : Nat} (h : Rd P C w0 w file v l seen) (ho : OnlyRd P v w w') (hs : w.heap.size ≤ w'.heap.size) : Kept P w w' :=
  ⟨hs, fun Q _ _ _ h1 h2 hb => (ho Q (heap_lt hb) h1 (own_typeZ h.toks.own hb (fun e => h2 e.symm))).trans hb⟩

/-- What code does to the reader. -/
def CodePost (P C : Nat) (w0 w : World) (file : ByteArray) (l : List TkV) (seen lim num : Nat) (r : R (List (Tk × Nat))) (e : Ending) (w' : World) : Prop := Kept P w w' ∧ match r with
  | .error x => e = .returned (faultV x.1 x.2) ∧ Below C w0 w' ∧ C ≤ w'.heap.size
  | .ok ts => e = .returned (faultV 0 0) ∧ ∃ v' l2 seen', Rd P C w0 w' file v' (l ++ l2) seen' ∧ l2.map (fun x => (x.1, x.2.1)) = ts ∧ l2.length ≤ num ∧ seen' ≤ max seen lim

def strLen : Value → Nat | .string s => s.size | _ => 0
theorem Blk.set' {P : Nat} {w : World} {cs : Array Value} {T : TypeId} (h : Blk P w cs T) (i : Nat) (v : Value) : Blk P (w.setCell ⟨P, i, none⟩ v) (cs.setIfInBounds i v) T := by
  refine ⟨?_⟩
  have h1 := h.blk
  show (w.heap.modify P _)[P]? = _
  rw [Array.getElem?_modify]
  simp [h1]
/-- How things stand between two tokens of code. -/
structure CodeRel (P C : Nat) (w0 w wr : World) (file X : ByteArray) (l : List TkV) (a i : Nat) (k : Int) (Q : Nat) (S : ByteArray) (v' : Value) (l2 : List TkV) (seen' : Nat) : Prop where
  rest : S.data.toList = X.data.toList.drop i
  le : i ≤ X.size
  rd : Rd P C w0 wr file v' (l ++ l2) seen'
  kept : Kept P w wr
  box : Blk Q wr #[.int .i64 k, .string X, .int .i64 a] 51
  flt : Blk (Q + 1) wr fltZ 27
  seen : seen' ≤ a + i
  len : l2.length ≤ i
  code : codeT a X.data.toList = prep (l2.map (fun x => (x.1, x.2.1))) (codeT (a + i) (X.data.toList.drop i))

theorem codeRel_start {P C : Nat} {w0 w : World} {file X : ByteArray} {v : Value} {l : List TkV} {seen a : Nat} {k : Int} (h : Rd P C w0 w file v l seen) (h1 : seen ≤ a) (_hC : C = w0.heap.size) :
    CodeRel P C w0 w ((w.alloc (.cells #[.int .i64 k, .string X, .int .i64 a] 51)).alloc (.cells fltZ 27)) file X l a 0 k w.heap.size X v [] seen := by
  have hb : Below w.heap.size w ((w.alloc (.cells #[.int .i64 k, .string X, .int .i64 a] 51)).alloc (.cells fltZ 27)) := ((Below.refl _ _).alloc (Nat.le_refl _) _).alloc (by simp) _
  refine ⟨by rw [List.drop_zero], Nat.zero_le _, by rw [List.append_nil]; exact h.step hb, .below hb, (Blk.new w _ _).alloc _, ?_, by omega, Nat.le_refl _, by rw [List.map_nil, prep_nil, List.drop_zero, Nat.add_zero]⟩
  have := Blk.new (w.alloc (.cells #[.int .i64 k, .string X, .int .i64 a] 51)) fltZ 27
  simpa using this
theorem Rd.met {P C : Nat} {w0 w : World} {file : ByteArray} {v : Value} {l : List TkV} {seen : Nat} (h : Rd P C w0 w file v l seen) (hM : Met w0) (hC : C = w0.heap.size) : Met w :=
  hM.below h.toks.below (by rw [hC]; exact hM.lt)

theorem Rd.setF {P C Q : Nat} {w0 w : World} {file : ByteArray} {v : Value} {l : List TkV} {seen : Nat} {cs : Array Value} {T : TypeId} (h : Rd P C w0 w file v l seen) (hB : Blk Q w cs T) (hCQ : C ≤ Q) (hne : P ≠ Q)
    (ht : 32 ≠ T) (hp : 44 ≠ T) (i : Nat) (u : Value) : Rd P C w0 (w.setCell ⟨Q, i, none⟩ u) file v l seen :=
  ⟨h.rd.setCell hne i u, h.toks.setCell hCQ (own_type h.toks.own hB ht) (fun x hx => own_type (h.toks.prt x hx) hB hp) i u, h.hP⟩
theorem Kept.set {P Q : Nat} {w w' : World} (h : Kept P w w') (hQ : w.heap.size ≤ Q) (i : Nat) (u : Value) : Kept P w (w'.setCell ⟨Q, i, none⟩ u) :=
  ⟨by have := h.1; simpa [World.setCell] using this, fun b _ _ _ h1 h2 hb => (Below.heap_setCell w' ⟨Q, i, none⟩ u b (fun e => by have := heap_lt hb; dsimp only at e; omega)).trans (h.2 b _ _ _ h1 h2 hb)⟩
/-- The reader, and what was there before. -/
structure Core (P C : Nat) (w0 w wr : World) (file : ByteArray) (v : Value) (l : List TkV) (seen : Nat) : Prop where
  rd : Rd P C w0 wr file v l seen
  kept : Kept P w wr
theorem Core.step {P C : Nat} {w0 w wr w' : World} {file : ByteArray} {v : Value} {l : List TkV} {seen : Nat} (h : Core P C w0 w wr file v l seen) (hb : Below wr.heap.size wr w') : Core P C w0 w w' file v l seen := ⟨h.rd.step hb, h.kept.trans (.below hb)⟩
theorem Core.setF {P C Q : Nat} {w0 w wr : World} {file : ByteArray} {v : Value} {l : List TkV} {seen : Nat} {cs : Array Value} (h : Core P C w0 w wr file v l seen) (hB : Blk Q wr cs 27) (hC : C ≤ w.heap.size) (hP : P < w.heap.size) (hQ : w.heap.size ≤ Q) (a b : Value) :
    Core P C w0 w ((wr.setCell ⟨Q, 0, none⟩ a).setCell ⟨Q, 1, none⟩ b) file v l seen :=
  ⟨(h.rd.setF hB (by omega) (by omega) (by decide) (by decide) 0 a).setF (hB.set' 0 a) (by omega) (by omega) (by decide) (by decide) 1 b, (h.kept.set hQ 0 a).set hQ 1 b⟩
theorem Core.setT {P C Q : Nat} {w0 w wr : World} {file : ByteArray} {v : Value} {l : List TkV} {seen : Nat} {cs : Array Value} (h : Core P C w0 w wr file v l seen) (hB : Blk Q wr cs 32) (hC : C ≤ w.heap.size) (hP : P < w.heap.size) (hQ : w.heap.size ≤ Q) (hv : v.ownBlock ≠ some Q) (i : Nat) (u : Value) :
    Core P C w0 w (wr.setCell ⟨Q, i, none⟩ u) file v l seen :=
  ⟨⟨h.rd.rd.setCell (by omega) i u, h.rd.toks.setCell (by omega) hv (fun x hx => own_type (h.rd.toks.prt x hx) hB (by decide)) i u, h.rd.hP⟩, h.kept.set hQ i u⟩
theorem Core.setT6 {P C Q : Nat} {w0 w wr : World} {file : ByteArray} {v : Value} {l : List TkV} {seen : Nat} {cs : Array Value} (h : Core P C w0 w wr file v l seen) (hB : Blk Q wr cs 32) (hC : C ≤ w.heap.size) (hP : P < w.heap.size) (hQ : w.heap.size ≤ Q) (hv : v.ownBlock ≠ some Q) (a0 a1 a2 a3 a4 a5 : Value) :
    Core P C w0 w ((((((wr.setCell ⟨Q, 0, none⟩ a0).setCell ⟨Q, 1, none⟩ a1).setCell ⟨Q, 2, none⟩ a2).setCell ⟨Q, 3, none⟩ a3).setCell ⟨Q, 4, none⟩ a4).setCell ⟨Q, 5, none⟩ a5) file v l seen :=
  (((((h.setT hB hC hP hQ hv 0 a0).setT (hB.set' 0 a0) hC hP hQ hv 1 a1).setT ((hB.set' 0 a0).set' 1 a1) hC hP hQ hv 2 a2).setT (((hB.set' 0 a0).set' 1 a1).set' 2 a2) hC hP hQ hv 3 a3).setT ((((hB.set' 0 a0).set' 1 a1).set' 2 a2).set' 3 a3) hC hP hQ hv 4 a4).setT (((((hB.set' 0 a0).set' 1 a1).set' 2 a2).set' 3 a3).set' 4 a4) hC hP hQ hv 5 a5
theorem Blk.other6 {P Q : Nat} {w : World} {cs : Array Value} {T : TypeId} (h : Blk P w cs T) (hne : P ≠ Q) (a0 a1 a2 a3 a4 a5 : Value) :
    Blk P ((((((w.setCell ⟨Q, 0, none⟩ a0).setCell ⟨Q, 1, none⟩ a1).setCell ⟨Q, 2, none⟩ a2).setCell ⟨Q, 3, none⟩ a3).setCell ⟨Q, 4, none⟩ a4).setCell ⟨Q, 5, none⟩ a5) cs T :=
  (((((h.setCell hne 0 a0).setCell hne 1 a1).setCell hne 2 a2).setCell hne 3 a3).setCell hne 4 a4).setCell hne 5 a5
theorem Blk.other2 {P Q : Nat} {w : World} {cs : Array Value} {T : TypeId} (h : Blk P w cs T) (hne : P ≠ Q) (a0 a1 : Value) :
    Blk P ((w.setCell ⟨Q, 0, none⟩ a0).setCell ⟨Q, 1, none⟩ a1) cs T := (h.setCell hne 0 a0).setCell hne 1 a1
theorem gapN_bad (r : L) (h : (gapN r).2 = true) : (gapN r).1 < r.length := by
  have key : ∀ (n : Nat) (r : L), r.length ≤ n → (gapN r).2 = true → (gapN r).1 < r.length := by
    intro n
    induction n with
    | zero => intro r h h2; have := List.eq_nil_of_length_eq_zero (Nat.le_zero.1 h); subst this; simp [gapN_nil] at h2
    | succ n ih =>
      intro r h h2
      by_cases hr : r = []
      · subst hr; simp [gapN_nil] at h2
      · have hl := List.length_pos_iff.2 hr
        by_cases h0 : bitN r = 0
        · rw [gapN_stop r hr h0]; exact hl
        · rw [gapN_go r hr h0] at h2 ⊢
          have h1 := bitN_le r
          have h3 := ih (r.drop (bitN r)) (by rw [List.length_drop]; omega) h2
          rw [List.length_drop] at h3
          dsimp only
          omega
  exact key _ r (Nat.le_refl _) h
theorem code_end {a i n : Nat} {X r : L} {m : List (Tk × Nat)} (h : codeT a X = prep m (codeT (a + i) r)) (hg : gapN r = (n, false)) (hn : r.length ≤ n) : codeT a X = .ok m := by
  rw [h, codeT_step, hg]
  simp [List.drop_eq_nil_of_le hn, prep]
theorem code_gap {a i n : Nat} {X r : L} {m : List (Tk × Nat)} (h : codeT a X = prep m (codeT (a + i) r)) (hg : gapN r = (n, true)) : codeT a X = .error (10, a + i + n) := by
  rw [h, codeT_step, hg]
  simp [prep]
theorem code_err {a i n : Nat} {X r : L} {m : List (Tk × Nat)} {x : Nat × Nat} (h : codeT a X = prep m (codeT (a + i) r)) (hg : gapN r = (n, false)) (hn : n < r.length) (ht : tokT (r.drop n) = .error x) : codeT a X = .error (x.1, a + i + n + x.2) := by
  rw [h, codeT_step, hg]
  have : (r.drop n).isEmpty = false := by
    cases e : r.drop n with
    | nil => have h1 := congrArg List.length e; rw [List.length_drop, List.length_nil] at h1; omega
    | cons => rfl
  simp [prep, this, ht]
theorem code_tok {a i n j : Nat} {X r : L} {m : List (Tk × Nat)} {t : Tk} (h : codeT a X = prep m (codeT (a + i) r)) (hg : gapN r = (n, false)) (hn : n < r.length) (ht : tokT (r.drop n) = .ok (t, j)) :
    codeT a X = prep (m ++ [(t, a + i + n)]) (codeT (a + i + n + j) (r.drop (n + j))) := by
  rw [h, codeT_step, hg]
  have : (r.drop n).isEmpty = false := by
    cases e : r.drop n with
    | nil => have h1 := congrArg List.length e; rw [List.length_drop, List.length_nil] at h1; omega
    | cons => rfl
  simp only [this, ht, Bool.false_eq_true, if_false]
  rw [List.drop_drop]
  exact prep_snoc m (t, a + i + n) _

theorem code_ok {P C a : Nat} {w0 w w' : World} {file : ByteArray} {v' : Value} {l l2 : List TkV} {seen seen' lim num : Nat} {X : L} (h : Core P C w0 w w' file v' (l ++ l2) seen')
    (hc : codeT a X = .ok (l2.map (fun x => (x.1, x.2.1)))) (h1 : l2.length ≤ num) (h2 : seen' ≤ lim) : CodePost P C w0 w file l seen lim num (codeT a X) (.returned (faultV 0 0)) w' := by
  rw [hc]
  exact ⟨h.kept, rfl, v', l2, seen', h.rd, rfl, h1, by omega⟩
theorem code_bad {P C a : Nat} {w0 w w' : World} {file : ByteArray} {v' : Value} {l l2 : List TkV} {seen seen' lim num : Nat} {X : L} {x y : Nat} {v : Value} (h : Core P C w0 w w' file v' l2 seen')
    (hc : codeT a X = .error (x, y)) (hv : v = faultV x y) : CodePost P C w0 w file l seen lim num (codeT a X) (.returned v) w' := by
  rw [hc, hv]
  exact ⟨h.kept, rfl, h.rd.toks.below, h.rd.toks.base⟩

set_option maxHeartbeats 8000000 in
set_option maxRecDepth 100000 in
theorem code_any (P C : Nat) (w0 w : World) (file X : ByteArray) (v : Value) (l : List TkV) (seen a : Nat) (k : Int) (h : Rd P C w0 w file v l seen)
    (h1 : seen ≤ a) (h2 : a + X.size ≤ file.size) (hs : file.size ≤ 1073741820) (hl : l.length ≤ 1073741820) (hM : Met w0) (hC : C = w0.heap.size) :
    Calls Tryz.prog 34 #[.pointer (some ⟨P, 0, none⟩), .agg #[.int .i64 k, .string X, .int .i64 a]] w fun e w' => CodePost P C w0 w file l seen (a + X.size) X.size (codeT a X.data.toList) e w' := by
  go_enter Tryz.func34, Tryz.ntmps34
  go_wp2_with fail
  obtain ⟨Q, hQ⟩ : ∃ Q, Q = w.heap.size := ⟨_, rfl⟩
  have hR0 := codeRel_start (k := k) (X := X) h h1 hC
  obtain ⟨W0, hW0⟩ : ∃ W0, W0 = (w.alloc (.cells #[.int .i64 k, .string X, .int .i64 a] 51)).alloc (.cells fltZ 27) := ⟨_, rfl⟩
  rw [← hW0, ← hQ] at hR0
  rw [← hW0, ← hQ]
  have HQ := Lib.hid hQ
  have hCQ : C ≤ Q := by rw [hQ]; exact h.toks.base
  clear hW0 hQ
  go_loopw [5] (fun t wr => ∃ (S : ByteArray) (i : Nat) (v' : Value) (l2 : List TkV) (seen' : Nat), t = .string S ∧ CodeRel P C w0 w wr file X l a i k Q S v' l2 seen') (fun t _ => strLen t)
  case atStart => exact ⟨X, 0, v, [], seen, rfl, hR0⟩
  case round =>
    obtain ⟨S, i, v', l2, seen', rfl, hrel⟩ := hrel
    have hMr := hrel.rd.met hM hC
    have hSz : S.size + i = X.size := by rw [Lib.size_eq, hrel.rest, List.length_drop, ← Lib.size_eq]; have := hrel.le; omega
    have hSi : S.size ≤ X.size - i := by omega
    have HSz := Lib.hid hSz
    obtain ⟨n, hn⟩ : ∃ n, n = (gapN S.data.toList).1 := ⟨_, rfl⟩
    have hnl := gapN_le S.data.toList
    rw [← hn, ← Lib.size_eq] at hnl
    have HN := Lib.hid hn
    have hwQ : w.heap.size ≤ Q := by rw [HQ.out]; exact Nat.le_refl _
    have hPw : P < w.heap.size := h.rd.lt
    have hCw := h.toks.base
    clear hn hSz
    go_wp2_with fail
    refine (gapLen_any _ _ (by omega) hMr.hm).mono ?_
    rintro e w1 ⟨rfl, hb1⟩
    have hcore : Core P C w0 w w1 file v' (l ++ l2) seen' := (Core.mk hrel.rd hrel.kept).step hb1
    have hbox := hrel.box.below hb1
    have hflt := hrel.flt.below hb1
    have HREL := hide hrel
    clear hrel hb1
    obtain ⟨w2, hw2⟩ : ∃ w2, w2 = w1.alloc (.cells fltZ 27) := ⟨_, rfl⟩
    cases hg : (gapN S.data.toList).2
    · have HG : Hid (gapN S.data.toList = (n, false)) := by show _ = _; rw [HN.out, ← hg]
      rw [HG.out, gapV_ok]
      by_cases he : n = S.size
      · have hen : (S.extract n S.size).toList.isEmpty = true := by
          rw [Lib.toList_data, tail_list, List.drop_eq_nil_of_le (by rw [← Lib.size_eq]; omega)]; rfl
        have HE := Lib.hid he
        clear hg he
        have d0 := hflt.cell 0 rfl; have d1 := hflt.cell 1 rfl; have e0 := hflt.free 0; have e1 := hflt.free 1
        have hl1 := hflt.lt
        go_wp2_with fail
        refine bodyPost_ret (v := faultV 0 0) (by simp [faultV, results, Tryz.results34, go_sem, d0, d1, hl1]) rfl ?_
        have hc2 := (hcore.setF hflt hCw hPw (by omega) (.int .i64 0) (.int .i64 0)).step ((Below.refl _ _).alloc (Nat.le_refl _) (.cells fltZ 27))
        have hr := unhide HREL
        refine code_ok hc2 (code_end hr.code (by rw [← hr.rest]; exact HG.out) (by rw [← hr.rest, ← Lib.size_eq, HE.out]; exact Nat.le_refl _)) (by have := hr.len; have := hr.le; omega) (by have := hr.seen; have := hr.le; omega)
      · have hn2 : n < S.size := by omega
        have hen : (S.extract n S.size).toList.isEmpty = false := by
          refine isEmpty_of _ ?_
          rw [Lib.size_eq, tail_list, List.length_drop, ← Lib.size_eq]; omega
        have s1 : IntKind.i64.wrap ((a : Int) + (X.size : Int)) = (a : Int) + (X.size : Int) := IntWalk.i64_in _ (by omega)
        have HS2 : Hid ((S.extract n S.size).size = X.size - i - n) := by show _ = _; rw [Lib.size_eq, tail_list, List.length_drop, ← Lib.size_eq]; have := HSz.out; omega
        have hS2 : (S.extract n S.size).size ≤ X.size := by rw [HS2.out]; omega
        have hS3 : 0 < (S.extract n S.size).size := by rw [HS2.out]; have := HSz.out; omega
        have s2 : IntKind.i64.wrap ((a : Int) + (X.size : Int) - ((S.extract n S.size).size : Int)) = (a : Int) + (X.size : Int) - ((S.extract n S.size).size : Int) := IntWalk.i64_in _ (by omega)
        have HR2 := Lib.hid (tail_list S n)
        clear hg he
        have d0 := hflt.cell 0 rfl; have d1 := hflt.cell 1 rfl; have e0 := hflt.free 0; have e1 := hflt.free 1
        have b0 := hbox.cell 0 rfl; have b1 := hbox.cell 1 rfl; have b2 := hbox.cell 2 rfl
        have hl1 := hflt.lt
        have hlb := hbox.lt
        have hM1 := hide (hcore.rd.met hM hC)
        go_wp2_with fail
        obtain ⟨R1, hR1⟩ : ∃ R1, R1 = w1.heap.size := ⟨_, rfl⟩
        obtain ⟨w3, hw3⟩ : ∃ w3, w3 = (w1.alloc (.cells fltZ 27)).alloc (.cells tokZ 32) := ⟨_, rfl⟩
        have hRF : Blk R1 w3 fltZ 27 := by rw [hR1, hw3]; exact (Blk.new w1 _ _).alloc _
        have hRT : Blk (R1 + 1) w3 tokZ 32 := by
          rw [hR1, hw3]
          have := Blk.new (w1.alloc (.cells fltZ 27)) tokZ 32
          simpa using this
        have hb3 : Below w1.heap.size w1 w3 := by rw [hw3]; exact ((Below.refl _ _).alloc (Nat.le_refl _) _).alloc (by simp) _
        have hcore3 := hcore.step hb3
        have hbox3 := hbox.below hb3
        have hflt3 := hflt.below hb3
        have hvR : v'.ownBlock ≠ some (R1 + 1) := fun e => by have := (hcore.rd.toks.own.lt _ e).2; omega
        have hl1R : Q + 1 < R1 := by rw [hR1]; exact hl1
        have hM3 := hcore3.rd.met hM hC
        rw [← hR1, ← hw3]
        clear hcore hbox hflt hM1 d0 d1 e0 e1 b0 b1 b2 hb3 hl1 hlb hw3 hR1
        refine (token_any _ _ hS3 (by omega) hM3).mono ?_
        rintro e w4 ⟨pv, rfl, hp, hb4⟩
        have hcore4 := hcore3.step hb4
        have hbox4 := hbox3.below hb4
        have hflt4 := hflt3.below hb4
        have hRF4 := hRF.below hb4
        have hRT4 := hRT.below hb4
        have hTl := hRT.lt
        clear hcore3 hbox3 hflt3 hRF hRT hb4 hM3
        have e0 := hflt4.free 0; have e1 := hflt4.free 1; have d0 := hflt4.cell 0 rfl; have d1 := hflt4.cell 1 rfl
        have c0 := hRT4.cell 0 rfl; have c1 := hRT4.cell 1 rfl; have c2 := hRT4.cell 2 rfl; have c3 := hRT4.cell 3 rfl; have c4 := hRT4.cell 4 rfl; have c5 := hRT4.cell 5 rfl
        have f0 := hRT4.free 0; have f1 := hRT4.free 1; have f2 := hRT4.free 2; have f3 := hRT4.free 3; have f4 := hRT4.free 4; have f5 := hRT4.free 5
        have g0 := hRF4.cell 0 rfl; have g1 := hRF4.cell 1 rfl; have h0 := hRF4.free 0; have h1 := hRF4.free 1
        have hl4 := hRT4.lt
        cases hr : tokT (S.extract n S.size).data.toList with
        | error x =>
          obtain ⟨y, z⟩ := x
          have HR : Hid (tokT (S.extract n S.size).data.toList = .error (y, z)) := by show _ = _; rw [hr]
          have hze := tokT_err _ _ hr
          dsimp only at hze
          rw [← Lib.size_eq] at hze
          have hy : ((y : Int) == 0) = false := by rw [beq_eq_false_iff_ne]; omega
          have s3 : IntKind.i64.wrap ((a : Int) + (X.size : Int) - ((S.size - n : Nat) : Int) + (z : Int)) = (a : Int) + (X.size : Int) - ((S.size - n : Nat) : Int) + (z : Int) := IntWalk.i64_in _ (by omega)
          rw [resV_err]
          clear hr hp
          go_wp2_with fail
          obtain ⟨q, hq⟩ : ∃ q : Int, q = (a : Int) + (X.size : Int) - ((S.size - n : Nat) : Int) + (z : Int) := ⟨_, rfl⟩
          rw [← hq]
          have hcA := hcore4.setT6 hRT4 hCw hPw (by omega) hvR (.int .i64 0) (.string ⟨#[]⟩) (.int .i64 0) (.slice none 0 0) (.int .i64 0) (.int .i64 0)
          have hRA := hRF4.other6 (by omega : R1 ≠ R1 + 1) (.int .i64 0) (.string ⟨#[]⟩) (.int .i64 0) (.slice none 0 0) (.int .i64 0) (.int .i64 0)
          have hfA := hflt4.other6 (by omega : Q + 1 ≠ R1 + 1) (.int .i64 0) (.string ⟨#[]⟩) (.int .i64 0) (.slice none 0 0) (.int .i64 0) (.int .i64 0)
          have hcB := hcA.setF hRA hCw hPw (by omega) (.int .i64 y) (.int .i64 z)
          have hfB := hfA.other2 (by omega : Q + 1 ≠ R1) (.int .i64 y) (.int .i64 z)
          have hcC := hcB.setF hfB hCw hPw (by omega) (.int .i64 y) (.int .i64 q)
          have hfin := (hfB.set' 0 (.int .i64 y)).set' 1 (.int .i64 q)
          have p0 := hfin.cell (v := .int .i64 y) 0 (by simp [fltZ]); have p1 := hfin.cell (v := .int .i64 q) 1 (by simp [fltZ])
          clear e0 e1 d0 d1 c0 c1 c2 c3 c4 c5 f0 f1 f2 f3 f4 f5 g0 g1 h0 h1
          have HREL' := unhide HREL
          generalize hWF : ((((((((((w4.setCell _ _).setCell _ _).setCell _ _).setCell _ _).setCell _ _).setCell _ _).setCell _ _).setCell _ _).setCell _ _).setCell _ _) = WF at hcC p0 p1 ⊢
          refine bodyPost_ret (v := .agg #[.int .i64 y, .int .i64 q]) (by simp only [results, Tryz.results34, go_sem]; simp [go_sem, p0, p1]) rfl ?_
          exact code_bad hcC (code_err HREL'.code (by rw [← HREL'.rest]; exact HG.out) (by rw [← HREL'.rest, ← Lib.size_eq]; exact hn2) (by rw [← HREL'.rest, ← HR2.out]; exact HR.out)) (by unfold faultV; rw [show q = ((a + i + n + z : Nat) : Int) by have := HSz.out; omega])
        | ok x =>
          obtain ⟨t, j⟩ := x
          obtain ⟨T, hT⟩ := bytes_of t.text
          have HR : Hid (tokT (S.extract n S.size).data.toList = .ok (t, j)) := by show _ = _; rw [hr]
          have hze := tokT_le _ (by intro h; have := congrArg List.length h; rw [← Lib.size_eq, List.length_nil] at this; omega) _ hr
          dsimp only at hze
          rw [← Lib.size_eq] at hze
          have HTT : Hid ((⟨t.text.toArray⟩ : ByteArray) = T) := by show _ = _; rw [← hT, Lib.mk_data]
          rw [hr] at hp
          rw [resV_ok, HTT.out]
          obtain ⟨A, cap, rfl⟩ := own_form hp
          have hp3 := hide hp
          have hpT : (Value.slice A t.parts.length cap).ownBlock ≠ some (R1 + 1) := fun e => by have := (hp.lt _ e).1; omega
          have hpF : (Value.slice A t.parts.length cap).ownBlock ≠ some R1 := fun e => by have := (hp.lt _ e).1; omega
          have hC3 : C ≤ w3.heap.size := by omega
          clear hr hp hT
          go_wp2_with fail
          have hcA := hcore4.setT6 hRT4 hCw hPw (by omega) hvR (.int .i64 t.kind) (.string T) (.int .i64 t.int) (.slice A t.parts.length cap) (.int .i64 0) (.int .i64 0)
          have hRA := hRF4.other6 (by omega : R1 ≠ R1 + 1) (.int .i64 t.kind) (.string T) (.int .i64 t.int) (.slice A t.parts.length cap) (.int .i64 0) (.int .i64 0)
          have hfA := (hflt4.other6 (by omega : Q + 1 ≠ R1 + 1) (.int .i64 t.kind) (.string T) (.int .i64 t.int) (.slice A t.parts.length cap) (.int .i64 0) (.int .i64 0)).other2 (by omega : Q + 1 ≠ R1) (.int .i64 0) (.int .i64 0)
          have hbA := (hbox4.other6 (by omega : Q ≠ R1 + 1) (.int .i64 t.kind) (.string T) (.int .i64 t.int) (.slice A t.parts.length cap) (.int .i64 0) (.int .i64 0)).other2 (by omega : Q ≠ R1) (.int .i64 0) (.int .i64 0)
          have hcB := hcA.setF hRA hCw hPw (by omega) (.int .i64 0) (.int .i64 0)
          have hp4 : w4.ownsRow C 44 3 (.slice A t.parts.length cap) t.parts.length (encPs t.parts) := ownsRow_base (unhide hp3) hC3
          have hpB := own_setOther (own_setOther (own_setOther (own_setOther (own_setOther (own_setOther (own_setOther (own_setOther hp4 hpT 0 (.int .i64 t.kind)) hpT 1 (.string T)) hpT 2 (.int .i64 t.int)) hpT 3 (.slice A t.parts.length cap)) hpT 4 (.int .i64 0)) hpT 5 (.int .i64 0)) hpF 0 (.int .i64 0)) hpF 1 (.int .i64 0)
          clear hRA hcA hRT4 hRF4 hbox4 hflt4 hcore4 e0 e1 d0 d1 c0 c1 c2 c3 c4 c5 f0 f1 f2 f3 f4 f5 g0 g1 h0 h1
          generalize hWF : ((((((((w4.setCell _ _).setCell _ _).setCell _ _).setCell _ _).setCell _ _).setCell _ _).setCell _ _).setCell _ _) = w5 at hcB hpB hfA hbA ⊢
          clear hWF
          have hzat : (a : Int) + (X.size : Int) - ((S.size - n : Nat) : Int) = ((a + i + n : Nat) : Int) := by have := HSz.out; omega
          have hTV : tokV t (.slice A t.parts.length cap) 0 0 = .agg #[.int .i64 t.kind, .string T, .int .i64 t.int, .slice A t.parts.length cap, .int .i64 0, .int .i64 0] := by rw [tokV, HTT.out]
          rw [hzat, ← hTV]
          have hr := unhide HREL
          have hrs := hr.seen; have hrl := hr.len; have hrle := hr.le
          refine (add_any P C w0 w5 file v' (l ++ l2) seen' (a + i + n) t (.slice A t.parts.length cap) 0 0 hcB.rd hpB (by omega) (by have := HSz.out; omega) (by omega) (by rw [List.length_append]; omega)).mono ?_
          rintro e w6 ⟨v6, rfl, hRd6, hO6, hs6⟩
          have hK5 := Kept.add hcB.rd hO6 hs6
          have hcode := code_tok hr.code (by rw [← hr.rest]; exact HG.out) (by rw [← hr.rest, ← Lib.size_eq]; exact hn2) (by rw [← hr.rest, ← HR2.out]; exact HR.out)
          have hRel6 : Hid (CodeRel P C w0 w w6 file X l a (i + n + j) k Q ((S.extract n S.size).extract j (S.extract n S.size).size) v6 (l2 ++ [(t, a + i + n, .slice A t.parts.length cap)]) (a + i + n)) := by
            refine ⟨?_, by have := HSz.out; have := HS2.out; omega, by rw [← List.append_assoc]; exact hRd6, hcB.kept.trans hK5, hK5.blk hbA (by omega) (by decide), hK5.blk hfA (by omega) (by decide), by omega, by rw [List.length_append, List.length_singleton]; omega, ?_⟩
            · rw [tail_list, HR2.out, hr.rest, List.drop_drop, List.drop_drop, show i + (n + j) = i + n + j by omega]
            · rw [hcode, List.map_append, List.drop_drop]
              simp only [List.map_cons, List.map_nil]
              rw [show a + i + n + j = a + (i + n + j) by omega, show i + (n + j) = i + n + j by omega]
          have hmea : Hid (((S.extract n S.size).extract j (S.extract n S.size).size).size < S.size) := by
            show _ < _
            rw [Lib.size_eq, tail_list, List.length_drop, ← Lib.size_eq]
            have := HS2.out; have := HSz.out; omega
          have hj2 := hze.2
          clear hcB hpB hRd6 hO6 hr hcode hTV hK5
          have hszz : Hid (S.size - n = (S.extract n S.size).size) := by show _ = _; have := HS2.out; have := HSz.out; omega
          go_wp2_with fail
          rw [hszz.out]
          exact ⟨⟨_, _, _, _, _, rfl, hRel6.out⟩, hmea.out⟩
    · have HG : Hid (gapN S.data.toList = (n, true)) := by show _ = _; rw [HN.out, ← hg]
      have hlt := gapN_bad _ hg
      have HGB : Hid (n < S.size) := by show _ < _; rw [HN.out, Lib.size_eq]; exact hlt
      have hen : (S.extract n S.size).toList.isEmpty = false := by
        refine isEmpty_of _ ?_
        rw [Lib.size_eq, tail_list, List.length_drop, ← Lib.size_eq]; have := HGB.out; omega
      have s1 : IntKind.i64.wrap ((a : Int) + (X.size : Int)) = (a : Int) + (X.size : Int) := IntWalk.i64_in _ (by omega)
      have HS2 : Hid ((S.extract n S.size).size = X.size - i - n) := by show _ = _; rw [Lib.size_eq, tail_list, List.length_drop, ← Lib.size_eq]; have := HSz.out; omega
      have hS2 : (S.extract n S.size).size ≤ X.size := by rw [HS2.out]; omega
      have s2 : IntKind.i64.wrap ((a : Int) + (X.size : Int) - ((S.extract n S.size).size : Int)) = (a : Int) + (X.size : Int) - ((S.extract n S.size).size : Int) := IntWalk.i64_in _ (by omega)
      clear hg hlt
      rw [HG.out, gapV_bad]
      have d0 := hflt.cell 0 rfl; have d1 := hflt.cell 1 rfl; have e0 := hflt.free 0; have e1 := hflt.free 1
      have b0 := hbox.cell 0 rfl; have b1 := hbox.cell 1 rfl; have b2 := hbox.cell 2 rfl
      have hl1 := hflt.lt
      have hlb := hbox.lt
      go_wp2_with fail
      obtain ⟨z, hz⟩ : ∃ z : Int, z = (a : Int) + (X.size : Int) - ((S.size - n : Nat) : Int) := ⟨_, rfl⟩
      rw [← hz]
      have hfin := (((hflt.set' 0 (.int .i64 10)).set' 1 (.int .i64 z)).alloc (.cells #[.int .i64 10, .int .i64 0] 27)).alloc (.cells tokZ 32)
      have p0 := hfin.cell (v := .int .i64 10) 0 (by simp [fltZ]); have p1 := hfin.cell (v := .int .i64 z) 1 (by simp [fltZ])
      clear d0 d1 e0 e1
      refine bodyPost_ret (v := .agg #[.int .i64 10, .int .i64 z]) (by simp only [results, Tryz.results34, go_sem]; simp [go_sem, p0, p1]) rfl ?_
      have hc2 := ((hcore.setF hflt hCw hPw (by omega) (.int .i64 10) (.int .i64 z)).step ((Below.refl _ _).alloc (Nat.le_refl _) (.cells #[.int .i64 10, .int .i64 0] 27))).step ((Below.refl _ _).alloc (Nat.le_refl _) (.cells tokZ 32))
      have hr := unhide HREL
      exact code_bad hc2 (code_gap hr.code (by rw [← hr.rest]; exact HG.out)) (by unfold faultV; rw [show z = ((a + i + n : Nat) : Int) by have := HSz.out; omega]; rfl)
end Go.Proofs.YtjcldgogjgchiaaGreatDoor
