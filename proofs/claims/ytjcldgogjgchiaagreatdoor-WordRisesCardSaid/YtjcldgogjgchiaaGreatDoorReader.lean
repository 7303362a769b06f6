/-
  The tokens so far, as a reader has them; the contract of its add.
-/
import Derived.Test.YtjcldgogjgchiaaGreatDoorToken
import Derived.Test.YtjcldgogjgchiaaGreatDoorLine
import Derived.Deep.RegionLaw
import Derived.StillTailTactics
namespace Go.Proofs.YtjcldgogjgchiaaGreatDoor
open Go Go.RowKit Cutting Wording

def lnN (file : L) (k : Nat) : Nat := 1 + (file.take k).count 10
abbrev TkV : Type := Tk × Nat × Value
def encT (file : L) (x : TkV) : List Value := [.int .i64 x.1.kind, .string ⟨x.1.text.toArray⟩, .int .i64 x.1.int, x.2.2, .int .i64 x.2.1, .int .i64 (lnN file x.2.1)]
def encTs (file : L) (l : List TkV) : List Value := l.flatMap (encT file)
theorem encTs_length (file : L) (l : List TkV) : (encTs file l).length = l.length * 6 := by
  induction l with
  | nil => rfl
  | cons p l ih => simp only [encTs, List.flatMap_cons, List.length_append, List.length_cons] at ih ⊢; rw [ih]; simp [encT]; omega
theorem encTs_snoc (file : L) (l : List TkV) (p : TkV) : encTs file (l ++ [p]) = encTs file l ++ encT file p := by simp [encTs]
theorem tokInfo : (Tryz.prog.info? 32).map (fun i => (i.zero, i.size, i.bytes)) = some (some (.agg #[.int .i64 0, .string ⟨#[]⟩, .int .i64 0, .slice none 0 0, .int .i64 0, .int .i64 0]), 6, 72) := by kernel_rfl

/-- The tokens so far: a row of them, and of each its parts. -/
structure Toks (C : Nat) (w wr : World) (file : L) (v : Value) (l : List TkV) : Prop where
  own : wr.ownsRow C 32 6 v l.length (encTs file l)
  prt : ∀ x ∈ l, wr.ownsRow C 44 3 x.2.2 x.1.parts.length (encPs x.1.parts)
  below : Below C w wr
  base : C ≤ wr.heap.size
theorem Toks.step {C : Nat} {w wr w' : World} {file : L} {v : Value} {l : List TkV} (h : Toks C w wr file v l) (hb : Below wr.heap.size wr w') : Toks C w w' file v l :=
  ⟨ownsRow_below h.own hb, fun x hx => ownsRow_below (h.prt x hx) hb, h.below.trans (hb.mono h.base), Nat.le_trans h.base hb.size⟩
theorem own_setOther {w : World} {C : Nat} {e : TypeId} {size n : Nat} {v : Value} {xs : List Value} (h : w.ownsRow C e size v n xs) {P : Nat} (hP : v.ownBlock ≠ some P) (i : Nat) (u : Value) : (w.setCell ⟨P, i, none⟩ u).ownsRow C e size v n xs := by
  refine ⟨h.1, ?_⟩
  rcases h.2 with h0 | ⟨g, cap, cur, h1, h2, h3, h4⟩
  · exact .inl h0
  · refine .inr ⟨g, cap, cur, h1, h2, ?_, h4⟩
    rw [Below.heap_setCell w ⟨P, i, none⟩ u g (fun e => hP (by rw [h1]; dsimp only at e; simp [Value.ownBlock, e]))]
    exact h3
theorem Toks.setCell {C P : Nat} {w wr : World} {file : L} {v : Value} {l : List TkV} (h : Toks C w wr file v l) (hP : C ≤ P) (h1 : v.ownBlock ≠ some P) (h2 : ∀ x ∈ l, x.2.2.ownBlock ≠ some P) (i : Nat) (u : Value) : Toks C w (wr.setCell ⟨P, i, none⟩ u) file v l :=
  ⟨own_setOther h.own h1 i u, fun x hx => own_setOther (h.prt x hx) (h2 x hx) i u, h.below.setCell hP _, by have := h.base; simpa [World.setCell] using this⟩
theorem own_type {w : World} {C P n size : Nat} {e t : TypeId} {v : Value} {xs : List Value} {cs : Array Value} (h : w.ownsRow C e size v n xs) (hP : Blk P w cs t) (hne : e ≠ t) : v.ownBlock ≠ some P := by
  rcases h.2 with ⟨rfl, _⟩ | ⟨g', cap, cur, rfl, _, hh, _⟩
  · simp [Value.ownBlock]
  · intro he
    have hg : g' = P := by simpa [Value.ownBlock] using he
    subst hg
    have h2 := hP.blk
    rw [h2] at hh
    injection hh with hh
    injection hh with _ ht
    exact hne ht.symm
/-- The reader in its cells, with the tokens so far. -/
structure Rd (P C : Nat) (w wr : World) (file : ByteArray) (v : Value) (l : List TkV) (seen : Nat) : Prop where
  rd : Blk P wr #[.string file, v, .int .i64 seen, .int .i64 (lnN file.data.toList seen)] 49
  toks : Toks C w wr file.data.toList v l
  hP : C ≤ P
theorem Rd.step {P C : Nat} {w wr w' : World} {file : ByteArray} {v : Value} {l : List TkV} {seen : Nat} (h : Rd P C w wr file v l seen) (hb : Below wr.heap.size wr w') : Rd P C w w' file v l seen :=
  ⟨h.rd.below hb, h.toks.step hb, h.hP⟩
theorem Blk.set {P : Nat} {w : World} {cs : Array Value} {T : TypeId} (h : Blk P w cs T) (i : Nat) (v : Value) (_hi : i < cs.size) : Blk P (w.setCell ⟨P, i, none⟩ v) (cs.setIfInBounds i v) T := by
  refine ⟨?_⟩
  have h1 := h.blk
  show (w.heap.modify P _)[P]? = _
  rw [Array.getElem?_modify]
  simp [h1]
theorem Blk.drew_ {P : Nat} {w : World} {cs : Array Value} {T : TypeId} (h : Blk P w cs T) : Blk P w.drew cs T := h.below ((Below.refl _ _).drew)

theorem ln_add (file : L) (a b : Nat) (h : a ≤ b) : lnN file a + ((file.take b).drop a).count 10 = lnN file b := by
  unfold lnN
  have : file.take b = file.take a ++ (file.take b).drop a := by
    have := (List.take_append_drop a (file.take b)).symm
    rw [List.take_take, Nat.min_eq_left h] at this
    exact this
  conv => rhs; rw [this, List.count_append]
  omega

theorem rd_close (P C : Nat) (w0 w3 w4 w5 : World) (file : ByteArray) (v v5 : Value) (l : List TkV) (at_ LA : Nat) (x : TkV)
    (hT : Toks C w0 w3 file.data.toList v l) (hP : Blk P w3 #[.string file, v, .int .i64 at_, .int .i64 LA] 49) (hCP : C ≤ P) (hLA : LA = lnN file.data.toList at_)
    (hp : w3.ownsRow C 44 3 x.2.2 x.1.parts.length (encPs x.1.parts)) (hb : Below w3.heap.size w3 w4)
    (hown : w5.ownsRow C 32 6 v5 (l.length + 1) (encTs file.data.toList l ++ encT file.data.toList x)) (hg : w4.grownBy w5 v.ownBlock) (hvP : v.ownBlock ≠ some P) :
    Rd P C w0 (w5.setCell ⟨P, 1, none⟩ v5) file v5 (l ++ [x]) at_ := by
  have hT4 := hT.step hb
  have hp4 := ownsRow_below hp hb
  have hP4 := hP.below hb
  have hP5 : Blk P w5 #[.string file, v, .int .i64 at_, .int .i64 LA] 49 := ⟨(hg.block P hP4.lt (fun h => hvP h.symm)).trans hP4.blk⟩
  have hT5 : Toks C w0 w5 file.data.toList v5 (l ++ [x]) := by
    refine ⟨by rw [List.length_append, encTs_snoc]; exact hown, fun y hy => ?_, hT4.below.grown hg hT4.base (fun k hk => (hT4.own.lt k hk).1), Nat.le_trans hT4.base hg.size⟩
    rcases List.mem_append.1 hy with hy | hy
    · exact (hT4.prt y hy).kept hg (own_apart (hT4.prt y hy) hT4.own (by decide))
    · rw [List.mem_singleton] at hy
      subst hy
      exact hp4.kept hg (own_apart hp4 hT4.own (by decide))
  refine ⟨?_, hT5.setCell hCP (own_type hT5.own hP5 (by decide)) (fun y hy => own_type (hT5.prt y hy) hP5 (by decide)) 1 _, hCP⟩
  have h := hP5.set 1 v5 (by simp)
  rw [← hLA]
  exact h

/-- But for the reader and the row of its tokens, what was there is as it was. -/
def OnlyRd (P : Nat) (v : Value) (w w' : World) : Prop := ∀ b, b < w.heap.size → b ≠ P → v.ownBlock ≠ some b → w'.heap[b]? = w.heap[b]?
theorem OnlyRd.blk {P Q : Nat} {v : Value} {w w' : World} {cs : Array Value} {T : TypeId} (h : OnlyRd P v w w') (hQ : Blk Q w cs T) (h1 : Q ≠ P) (h2 : v.ownBlock ≠ some Q) : Blk Q w' cs T := ⟨(h Q hQ.lt h1 h2).trans hQ.blk⟩
def AddPost (P C : Nat) (w0 w : World) (file : ByteArray) (v : Value) (l : List TkV) (at_ : Nat) (e : Ending) (w' : World) : Prop := ∃ v', e = .returned (.tuple #[]) ∧ Rd P C w0 w' file v' l at_ ∧ OnlyRd P v w w' ∧ w.heap.size ≤ w'.heap.size
set_option maxHeartbeats 8000000 in
set_option maxRecDepth 100000 in
theorem add_any (P C : Nat) (w0 w : World) (file : ByteArray) (v : Value) (l : List TkV) (seen at_ : Nat) (t : Tk) (pv : Value) (a0 l0 : Int) (h : Rd P C w0 w file v l seen)
    (hp : w.ownsRow C 44 3 pv t.parts.length (encPs t.parts)) (h1 : seen ≤ at_) (h2 : at_ ≤ file.size) (hs : file.size ≤ 2147483640) (hl : l.length ≤ 2147483640) :
    Calls Tryz.prog 32 #[.pointer (some ⟨P, 0, none⟩), tokV t pv a0 l0, .int .i64 at_] w fun e w' => AddPost P C w0 w file v (l ++ [(t, at_, pv)]) at_ e w' := by
  obtain ⟨i0, hi, hz0, hz1, hz2⟩ := info_parts tokInfo
  have HI := Lib.hid hi
  have HZ0 := Lib.hid hz0
  have HZ1 := Lib.hid hz1
  have HZ2 := Lib.hid hz2
  clear hi hz0 hz1 hz2
  obtain ⟨T, hT⟩ := bytes_of t.text
  have HEN0 : Hid (∀ LA : Nat, LA = lnN file.data.toList at_ → encT file.data.toList (t, at_, pv) = [.int .i64 t.kind, .string T, .int .i64 t.int, pv, .int .i64 at_, .int .i64 LA]) := fun LA hLA => by rw [encT, ← hT, Lib.mk_data, hLA]
  have HTT : Hid (tokV t pv a0 l0 = .agg #[.int .i64 t.kind, .string T, .int .i64 t.int, pv, .int .i64 a0, .int .i64 l0]) := by show _ = _; rw [tokV, ← hT, Lib.mk_data]
  obtain ⟨A, cap, rfl⟩ := own_form hp
  have hPl := h.rd.lt
  have hb0 : Below w.heap.size w (w.alloc (.cells #[.int .i64 t.kind, .string T, .int .i64 t.int, .slice A t.parts.length cap, .int .i64 a0, .int .i64 l0] 32)) := (Below.refl _ _).alloc (Nat.le_refl _) _
  have hQ := Blk.new w #[.int .i64 t.kind, .string T, .int .i64 t.int, .slice A t.parts.length cap, .int .i64 a0, .int .i64 l0] 32
  have h' := h.step hb0
  have hp' := ownsRow_below hp hb0
  have hvQ : v.ownBlock ≠ some w.heap.size := fun e => by have := (h.toks.own.lt _ e).2; omega
  rw [HTT.out]
  go_enter Tryz.func32, Tryz.ntmps32
  go_wp2_with fail
  obtain ⟨Q, hQQ⟩ : ∃ Q, Q = w.heap.size := ⟨_, rfl⟩
  obtain ⟨w1, hw1⟩ : ∃ w1, w1 = w.alloc (.cells #[.int .i64 t.kind, .string T, .int .i64 t.int, .slice A t.parts.length cap, .int .i64 a0, .int .i64 l0] 32) := ⟨_, rfl⟩
  have hfr1 : ∀ b, b < w.heap.size → w1.heap[b]? = w.heap[b]? := fun b hb => by rw [hw1]; exact Below.heap_alloc w _ b hb
  rw [← hw1] at h' hp' hQ
  have HQQ := Lib.hid hQQ
  rw [← hQQ] at hQ hPl hvQ hfr1
  rw [← hQQ, ← hw1]
  clear h hp hb0 hw1 hQQ
  have p0 := h'.rd.cell 0 rfl; have p1 := h'.rd.cell 1 rfl; have p2 := h'.rd.cell 2 rfl; have p3 := h'.rd.cell 3 rfl
  have g0 := h'.rd.free 0; have g1 := h'.rd.free 1; have g2 := h'.rd.free 2; have g3 := h'.rd.free 3
  have hP1 := h'.rd.lt
  obtain ⟨K, hK⟩ : ∃ K, K = ((file.data.toList.take at_).drop seen).count 10 := ⟨_, rfl⟩
  have hKl : K ≤ at_ := by
    rw [hK]
    refine Nat.le_trans List.count_le_length ?_
    rw [List.length_drop, List.length_take]; omega
  have hLn : Hid (lineN (file.extract seen at_).data.toList ((at_ : Int) - (seen : Int)) = 1 + K) := by
    show _ = _
    rw [lineN, extract_list, hK, List.drop_take, List.take_of_length_le]
    rw [List.length_take, List.length_drop, ← Lib.size_eq]; omega
  have hln2 : lnN file.data.toList seen + K = lnN file.data.toList at_ := by rw [hK]; exact ln_add _ _ _ h1
  have hlns : lnN file.data.toList seen ≤ 1 + seen := by
    unfold lnN
    have := List.count_le_length (a := (10 : UInt8)) (l := file.data.toList.take seen)
    rw [List.length_take] at this
    omega
  obtain ⟨LN, hLN⟩ : ∃ LN, LN = lnN file.data.toList seen := ⟨_, rfl⟩
  rw [← hLN] at p3 hln2 hlns
  have HLN := Lib.hid hLN
  have HLN2 := Lib.hid hln2
  have s1 : IntKind.i64.wrap ((at_ : Int) - (seen : Int)) = (at_ : Int) - (seen : Int) := IntWalk.i64_in _ (by omega)
  have s2 : IntKind.i64.wrap (((1 + K : Nat) : Int) - 1) = (K : Int) := by rw [show ((1 + K : Nat) : Int) - 1 = (K : Int) by omega]; exact IntWalk.i64_in _ (by omega)
  have s3 : IntKind.i64.wrap ((LN : Int) + (K : Int)) = (LN : Int) + (K : Int) := IntWalk.i64_in _ (by omega)
  have s4 : (seen : Int) ≤ (at_ : Int) := by omega
  have s5 : (at_ : Int) ≤ (file.size : Int) := by omega
  have hLC : Hid (∀ W : World, Calls Tryz.prog 54 #[.string (file.extract seen at_), .int .i64 ((at_ : Int) - (seen : Int))] W fun e w' => e = .returned (.int .i64 ((1 + K : Nat) : Int)) ∧ W = w') := fun W => by
    have := Line_any (file.extract seen at_) ((at_ : Int) - (seen : Int)) W (by rw [Lib.size_eq, extract_list, List.length_take, List.length_drop, ← Lib.size_eq]; omega) (by omega) (by omega)
    rw [hLn.out] at this
    exact this
  clear hK hLn hLN hln2
  have H' := hide h'
  clear h'
  have hLC' : Hid (∀ W : World, Calls Tryz.prog 54 #[.string (file.extract seen at_), .int .i64 ((at_ : Int) - (seen : Int))] W fun e w' => e = .returned (.int .i64 ((1 + K : Nat) : Int)) ∧ w' = W) := fun W => (unhide hLC W).mono fun e w' ⟨a, b⟩ => ⟨a, b.symm⟩
  refine wp_region_still_tail 25 (by kernel_rfl) (by kernel_rfl) ?_
  simp only [List.take_succ_cons, List.take_zero, List.drop_succ_cons, List.drop_zero]
  repeat still_step
  still_call (unhide hLC' _)
  repeat still_step
  refine wpStill_nil ?_
  change wpList _ _ _ _ _ w1.drew
  have hR2 : Rd P C w0 w1.drew file v l seen := (unhide H').step ((Below.refl _ _).drew)
  have hfr2 : ∀ b, b < Q → w1.drew.heap[b]? = w.heap[b]? := fun b hb => hfr1 b hb
  have hsz2 : Q ≤ w1.drew.heap.size := Nat.le_of_lt hQ.lt
  have hQ2 := hQ.drew_
  have hp2 : w1.drew.ownsRow C 44 3 (.slice A t.parts.length cap) t.parts.length (encPs t.parts) := hp'.drew
  generalize w1.drew = w2 at hR2 hQ2 hp2 hfr2 hsz2
  clear H' hQ hp' p0 p1 p2 p3 g0 g1 g2 g3 hP1 hLC hLC' s1 s2 s3 s4 s5
  have hPB := hR2.rd
  rw [← HLN.out] at hPB
  have p0 := hPB.cell 0 rfl; have p1 := hPB.cell 1 rfl; have p2 := hPB.cell 2 rfl; have p3 := hPB.cell 3 rfl
  have g0 := hPB.free 0; have g1 := hPB.free 1; have g2 := hPB.free 2; have g3 := hPB.free 3
  have q0 := hQ2.cell 0 rfl; have q1 := hQ2.cell 1 rfl; have q2 := hQ2.cell 2 rfl; have q3 := hQ2.cell 3 rfl; have q4 := hQ2.cell 4 rfl; have q5 := hQ2.cell 5 rfl
  have r0 := hQ2.free 0; have r1 := hQ2.free 1; have r2 := hQ2.free 2; have r3 := hQ2.free 3; have r4 := hQ2.free 4; have r5 := hQ2.free 5
  have hne : Q ≠ P := by omega
  have hne2 : P ≠ Q := by omega
  have HR2 := hide hR2
  clear hR2
  go_wp2_with fail
  obtain ⟨LA, hLA⟩ : ∃ LA, LA = lnN file.data.toList at_ := ⟨_, rfl⟩
  have hLA2 : (LN : Int) + (1 + (K : Int) - 1) = (LA : Int) := by have := HLN2.out; omega
  rw [hLA2]
  have HLA := Lib.hid hLA
  have HEN := Lib.hid (unhide HEN0 LA hLA)
  -- the reader and the token as they stand now
  have hR2 := unhide HR2
  have hpQ : ∀ x ∈ l, x.2.2.ownBlock ≠ some Q := fun x hx => own_type (hR2.toks.prt x hx) hQ2 (by decide)
  have hpP : ∀ x ∈ l, x.2.2.ownBlock ≠ some P := fun x hx => own_type (hR2.toks.prt x hx) hPB (by decide)
  have hvP : v.ownBlock ≠ some P := own_type hR2.toks.own hPB (by decide)
  have hCQ : C ≤ Q := Nat.le_trans hR2.hP (Nat.le_of_lt hPl)
  have ht3 : Toks C w0 ((((w2.setCell ⟨P, 3, none⟩ (.int .i64 LA)).setCell ⟨P, 2, none⟩ (.int .i64 at_)).setCell ⟨Q, 4, none⟩ (.int .i64 at_)).setCell ⟨Q, 5, none⟩ (.int .i64 LA)) file.data.toList v l :=
    (((hR2.toks.setCell hR2.hP hvP hpP 3 _).setCell hR2.hP hvP hpP 2 _).setCell hCQ hvQ hpQ 4 _).setCell hCQ hvQ hpQ 5 _
  have hP3 : Blk P ((((w2.setCell ⟨P, 3, none⟩ (.int .i64 LA)).setCell ⟨P, 2, none⟩ (.int .i64 at_)).setCell ⟨Q, 4, none⟩ (.int .i64 at_)).setCell ⟨Q, 5, none⟩ (.int .i64 LA)) #[.string file, v, .int .i64 at_, .int .i64 LA] 49 :=
    (((hPB.set 3 (.int .i64 LA) (by simp)).set 2 (.int .i64 at_) (by simp)).setCell hne2 4 _).setCell hne2 5 _
  have hQ3 : Blk Q ((((w2.setCell ⟨P, 3, none⟩ (.int .i64 LA)).setCell ⟨P, 2, none⟩ (.int .i64 at_)).setCell ⟨Q, 4, none⟩ (.int .i64 at_)).setCell ⟨Q, 5, none⟩ (.int .i64 LA)) #[.int .i64 t.kind, .string T, .int .i64 t.int, .slice A t.parts.length cap, .int .i64 at_, .int .i64 LA] 32 :=
    (((hQ2.setCell hne 3 _).setCell hne 2 _).set 4 (.int .i64 at_) (by simp)).set 5 (.int .i64 LA) (by simp)
  have hpv : (Value.slice A t.parts.length cap).ownBlock ≠ some P ∧ (Value.slice A t.parts.length cap).ownBlock ≠ some Q := ⟨own_type hp2 hPB (by decide), own_type hp2 hQ2 (by decide)⟩
  have hp3 : ((((w2.setCell ⟨P, 3, none⟩ (.int .i64 LA)).setCell ⟨P, 2, none⟩ (.int .i64 at_)).setCell ⟨Q, 4, none⟩ (.int .i64 at_)).setCell ⟨Q, 5, none⟩ (.int .i64 LA)).ownsRow C 44 3 (.slice A t.parts.length cap) t.parts.length (encPs t.parts) :=
    own_setOther (own_setOther (own_setOther (own_setOther hp2 hpv.1 3 _) hpv.1 2 _) hpv.2 4 _) hpv.2 5 _
  have hfr3 : ∀ b, b < Q → b ≠ P → ((((w2.setCell ⟨P, 3, none⟩ (.int .i64 LA)).setCell ⟨P, 2, none⟩ (.int .i64 at_)).setCell ⟨Q, 4, none⟩ (.int .i64 at_)).setCell ⟨Q, 5, none⟩ (.int .i64 LA)).heap[b]? = w.heap[b]? := fun b hb hne => by
    rw [Below.heap_setCell _ ⟨Q, 5, none⟩ _ b (fun e => by dsimp only at e; omega), Below.heap_setCell _ ⟨Q, 4, none⟩ _ b (fun e => by dsimp only at e; omega), Below.heap_setCell _ ⟨P, 2, none⟩ _ b (fun e => hne (by dsimp only at e; omega)), Below.heap_setCell _ ⟨P, 3, none⟩ _ b (fun e => hne (by dsimp only at e; omega))]
    exact hfr2 b hb
  have hQs3 := hQ3.lt
  have hCP := hR2.hP
  generalize ((((w2.setCell ⟨P, 3, none⟩ (.int .i64 LA)).setCell ⟨P, 2, none⟩ (.int .i64 at_)).setCell ⟨Q, 4, none⟩ (.int .i64 at_)).setCell ⟨Q, 5, none⟩ (.int .i64 LA)) = w3 at ht3 hP3 hQ3 hp3 hfr3 hQs3
  clear hLA HR2 hR2 hPB hQ2 hp2 p0 p1 p2 p3 g0 g1 g2 g3 q0 q1 q2 q3 q4 q5 r0 r1 r2 r3 r4 r5 hpQ hpP hpv hLA2
  have p1 := hP3.cell 1 rfl; have g1 := hP3.free 1
  have q0 := hQ3.cell 0 rfl; have q1 := hQ3.cell 1 rfl; have q2 := hQ3.cell 2 rfl; have q3 := hQ3.cell 3 rfl; have q4 := hQ3.cell 4 rfl; have q5 := hQ3.cell 5 rfl
  have HT3 := hide ht3
  have HFR := hide hfr3
  clear hfr3 hfr2 hsz2 hfr1
  have HP3 := hide hP3
  have hsz3 := ht3.base
  clear ht3 hP3 hQ3
  have hgL : g1 = g1 := rfl
  clear hgL
  have hPl3 : P < w3.heap.size := (unhide HP3).lt
  have hvs : ∀ g, v.ownBlock = some g → g ≠ P := fun g hg he => hvP (by rw [hg, he])
  go_region_law (first
    | (refine step_append_lies _ rfl (.tmp 46) (.tmp 48) 24 rfl C 32 i0 _ 6 72 Tryz.underlying24 HI.out HZ0.out HZ1.out HZ2.out rfl (by decide) v l.length (encTs file.data.toList l) (by simp [Act.eval]) (ownsRow_below (unhide HT3).own (((Below.refl _ _).alloc (Nat.le_refl _) _).drew)) ⟨w3.heap.size, 0, none⟩ 1 1 [.int .i64 t.kind, .string T, .int .i64 t.int, .slice A t.parts.length cap, .int .i64 at_, .int .i64 LA] (by simp [Act.eval]) rfl (World.news_of_block (cs := #[.int .i64 t.kind, .string T, .int .i64 t.int, .slice A t.parts.length cap, .int .i64 at_, .int .i64 LA]) (t := 32) (fr := (0, 0)) (heap_alloc_new w3 _)) (by simp [Value.oneCell']) (by decide) (by unfold maxLen; omega) (by omega) (by simp; omega) (w3.heap.size + 1) (by simp) ?_; intro gg cc w5 hown5 hgrow hat5 hlt5; have e1 : w5.cell? ⟨P, 1, none⟩ = some v := (hgrow.cell_far ⟨P, 1, none⟩ (by simp; omega) (fun h => hvP h.symm)).trans (by simp [go_sem, p1, hPl3]); have e2 : w5.frozen? ⟨P, 1, none⟩ = false := (hgrow.frozen_far ⟨P, 1, none⟩ (by simp; omega) (fun h => hvP h.symm)).trans (by simp [go_sem, g1, hPl3])))
  all_goals
    have HO := hide hown5
    have HG := hide hgrow
    clear hown5 hgrow
    go_wp2_with fail
    go_end0
    refine ⟨_, rfl, rd_close P C w0 w3 _ w5 file v _ l at_ LA (t, at_, .slice A t.parts.length cap) (unhide HT3) (unhide HP3) hCP HLA.out hp3 (((Below.refl _ _).alloc (Nat.le_refl _) _).drew) ?_ (unhide HG) hvP, ?_, ?_⟩
    · have := unhide HO
      rw [HEN.out]
      exact this
    · intro b hb hbP hbv
      have hbQ : b < Q := by rw [HQQ.out]; exact hb
      rw [Below.heap_setCell _ ⟨P, 1, none⟩ _ b (fun e => hbP (by dsimp only at e; omega)), (unhide HG).block b (by simp; omega) (fun h => hbv h.symm)]
      exact (Below.heap_alloc w3 _ b (by omega)).trans (unhide HFR b hbQ hbP)
    · have h1 := (unhide HG).size
      have h2 := HQQ.out
      simp [World.setCell] at h1 ⊢
      omega
end Go.Proofs.YtjcldgogjgchiaaGreatDoor
