/-
  What stands in memory while ListAppends runs.
-/
import Derived.Test.YtbbmfpffanhgnaaDoorLGives
import Derived.Test.YtbbmfpffanhgnaaDoorLKeys
import Derived.Deep.LoopGhost
import Derived.Maps.AppendAt
namespace Go.Proofs.YtbbmfpffanhgnaaDoor
open Go Go.RowKit Convs Lists

/-- Keys, as they lie in a row. -/
def keyV (k : K) : List Value := [.bool k.t, .int .i64 k.n, .string ⟨k.s.toArray⟩]
def encKeys (l : List K) : List Value := l.flatMap keyV
theorem encKeys_length : ∀ l : List K, (encKeys l).length = l.length * 3
  | [] => rfl
  | x :: r => by
    have ih := encKeys_length r
    have e : encKeys (x :: r) = keyV x ++ encKeys r := by simp [encKeys]
    rw [e, List.length_append, ih]
    show 3 + _ = _
    rw [List.length_cons]; omega
theorem encKeys_at : ∀ (l : List K) (i : Nat) (x : K), l[i]? = some x →
    (encKeys l)[i * 3]? = some (.bool x.t) ∧ (encKeys l)[i * 3 + 1]? = some (.int .i64 x.n) ∧ (encKeys l)[i * 3 + 2]? = some (.string ⟨x.s.toArray⟩)
  | [], i, x, h => by simp at h
  | y :: r, 0, x, h => by
    simp only [List.getElem?_cons_zero, Option.some.injEq] at h
    subst h
    simp [encKeys, keyV]
  | y :: r, i + 1, x, h => by
    have ih := encKeys_at r i x (by simpa using h)
    have e : encKeys (y :: r) = keyV y ++ encKeys r := by simp [encKeys]
    have hl : (keyV y).length = 3 := rfl
    rw [e, List.getElem?_append_right (by omega), List.getElem?_append_right (by omega), List.getElem?_append_right (by omega), hl]
    rw [show (i + 1) * 3 - 3 = i * 3 by omega, show (i + 1) * 3 + 1 - 3 = i * 3 + 1 by omega, show (i + 1) * 3 + 2 - 3 = i * 3 + 2 by omega]
    exact ih
theorem keyInfo : (Tryd.prog.info? 30).map (fun i => (i.zero, i.size, i.bytes)) = some (some (.agg #[.bool false, .int .i64 0, .string ⟨#[]⟩]), 3, 32) := by kernel_rfl

def marksOf (Ds : List Nat) : List Deferred := Ds.map fun D => { target := .collected D, args := #[] }

/-- While a round runs: the law's boxes (its answer, the list's pointer, the call, the keys ahead), the list, the marks of the loops that are over. -/
structure Mid (w : World) (b2 b3 lb b6 b7 : Nat) (T6 T7 : TypeId) (act : Array Value) (Ds : List Nat) (W : World) (mb : Nat) (iv : Value) (lent : Bool) (l : Ls) (m : Int) (v : Value) (ah : List K) : Prop where
  below : Below w.heap.size w W
  res : Blk W b2 #[.bool false] 4
  box : Blk W b3 #[.pointer (some ⟨lb, 0, none⟩)] 23
  lst : Lst w.heap.size W lb mb iv lent l
  most : l.Most m ∧ ∀ k ∈ l.keys, k.s.length ≤ 281474976710656
  nodup : Ds.Nodup
  marks : ∀ D ∈ Ds, w.heap.size ≤ D ∧ W.heap[D]? = some (.deferred (some []))
  acts : Blk W b6 act T6
  ahb : Blk W b7 #[v] T7
  ahr : W.ownsRow w.heap.size 30 3 v ah.length (encKeys ah)
  ge2 : w.heap.size ≤ b2
section
variable {w : World} {b2 b3 lb b6 b7 : Nat} {T6 T7 : TypeId} {act : Array Value} {Ds : List Nat} {W : World} {mb : Nat} {iv : Value} {lent : Bool} {l : Ls} {m : Int} {v : Value} {ah : List K}
theorem Mid.later (h : Mid w b2 b3 lb b6 b7 T6 T7 act Ds W mb iv lent l m v ah) {W' : World} (hb : Below W.heap.size W W') : Mid w b2 b3 lb b6 b7 T6 T7 act Ds W' mb iv lent l m v ah :=
  ⟨h.below.trans (hb.mono h.below.size), h.res.below hb h.res.lt, h.box.below hb h.box.lt, h.lst.below hb, h.most, h.nodup, fun D hD => ⟨(h.marks D hD).1, (hb.block D (Array.getElem?_eq_some_iff.1 (h.marks D hD).2).1).trans (h.marks D hD).2⟩,
    h.acts.below hb h.acts.lt, h.ahb.below hb h.ahb.lt, ownsRow_same h.ahr (fun k hk => hb.block k (ownsRow_lt h.ahr hk).1), h.ge2⟩
theorem cells_not_mark {W : World} {b D : Nat} {cs : Array Value} {T : TypeId} (h : Blk W b cs T) (hD : W.heap[D]? = some (.deferred (some []))) : D ≠ b := by
  rintro rfl
  unfold Blk at h
  rw [hD] at h
  cases h
theorem Lst.not_mark {B : Nat} {W : World} (h : Lst B W lb mb iv lent l) {D : Nat} (hD : W.heap[D]? = some (.deferred (some []))) : ¬ Lst.own lb mb iv false D := by
  rintro (rfl | ⟨_, hk | rfl⟩)
  · exact cells_not_mark h.blk hD rfl
  · obtain ⟨_, _, cs, hcs⟩ := ownsRow_lt h.row hk
    exact cells_not_mark hcs hD rfl
  · obtain ⟨es, clock, hm⟩ := h.map.isMap
    rw [hm] at hD
    cases hD
theorem own_false {k : Nat} (h : Lst.own lb mb iv lent k) : Lst.own lb mb iv false k := by
  rcases h with rfl | ⟨_, h⟩
  · exact .inl rfl
  · exact .inr ⟨rfl, h⟩
/-- A call on the list. -/
theorem Mid.stepped (h : Mid w b2 b3 lb b6 b7 T6 T7 act Ds W mb iv lent l m v ah) (h6 : T6 ≠ 61 ∧ T6 ≠ 72) (h7 : T7 ≠ 61 ∧ T7 ≠ 72)
    {W' : World} {l' : Ls} {mb' : Nat} {iv' : Value} {lent' : Bool} {m' : Int} (hl : Lst w.heap.size W' lb mb' iv' lent' l') (hs : Stepped W W' lb mb iv lent mb' iv' lent') (hm : l'.Most m' ∧ ∀ k ∈ l'.keys, k.s.length ≤ 281474976710656) : Mid w b2 b3 lb b6 b7 T6 T7 act Ds W' mb' iv' lent' l' m' v ah := by
  refine ⟨h.below.trans (hs.below h.lst), hs.blk h.lst h.res (by decide) (by decide), hs.blk h.lst h.box (by decide) (by decide), hl, hm, h.nodup, fun D hD => ?_, hs.blk h.lst h.acts h6.1 h6.2, hs.blk h.lst h.ahb h7.1 h7.2, ?_, h.ge2⟩
  · obtain ⟨h1, h2⟩ := h.marks D hD
    exact ⟨h1, (hs.turned.block D (Array.getElem?_eq_some_iff.1 h2).1 (fun e => h.lst.not_mark h2 (own_false e))).trans h2⟩
  · refine ownsRow_same h.ahr (fun k hk => ?_)
    obtain ⟨h1, h2, cs, hcs⟩ := ownsRow_lt h.ahr hk
    exact hs.turned.block k h1 (fun e => h.lst.apart hcs (by decide) (by decide) (own_false e))
/-- The list lends. -/
theorem Mid.lend (h : Mid w b2 b3 lb b6 b7 T6 T7 act Ds W mb iv lent l m v ah) (h6 : T6 ≠ 61 ∧ T6 ≠ 72) (h7 : T7 ≠ 61 ∧ T7 ≠ 72) :
    Mid w b2 b3 lb b6 b7 T6 T7 act Ds (Proofs.YtbbmfpffanhgnaaDoor.lend lb W) mb iv true l m v ah := by
  have hrow : ∀ k, iv.ownBlock = some k → k ≠ lb := by
    rintro k hk rfl
    obtain ⟨_, _, cs, hcs⟩ := ownsRow_lt h.lst.row hk
    exact absurd (hcs.inj h.lst.blk) (by decide)
  have hl : Lst w.heap.size (Proofs.YtbbmfpffanhgnaaDoor.lend lb W) lb mb iv true l :=
    ⟨h.lst.blk.set 4 (.bool true), ownsRow_same h.lst.row (fun k hk => Below.heap_setCell _ _ _ _ (hrow k hk)), h.lst.map.same (Below.heap_setCell _ _ _ _ (Ne.symm h.lst.lb_ne_mb)), h.lst.good, h.lst.keys, h.lst.hlb, h.lst.hmb⟩
  exact h.stepped h6 h7 hl ⟨.setCell _ _ _ (.inl rfl), fun k hk => .inl (by
    rcases hk with rfl | ⟨h', _⟩
    · exact .inl rfl
    · cases h'), fun k hk => .inl hk⟩ h.most
/-- The keys ahead are told. -/
theorem Mid.fill (h : Mid w b2 b3 lb b6 b7 T6 T7 act Ds W mb iv lent l m v ah) (h7 : T7 ≠ 61 ∧ T7 ≠ 72) (h76 : T7 ≠ T6) (h72 : T7 ≠ 4) (h73 : T7 ≠ 23) (hb : w.heap.size ≤ b7)
    {W' : World} {v' : Value} {ah' : List K} (hv : Blk W' b7 #[v'] T7) (hr : W'.ownsRow w.heap.size 30 3 v' ah'.length (encKeys ah')) (ht : Turned (fun k => k = b7) W W') : Mid w b2 b3 lb b6 b7 T6 T7 act Ds W' mb iv lent l m v' ah' := by
  refine ⟨h.below.trans (ht.below h.below.size (fun k hk => hk ▸ hb)), ht.blk h.res (h.ahb.apart h.res h72).symm, ht.blk h.box (h.ahb.apart h.box h73).symm, h.lst.same (fun k hk => ht.block k (h.lst.fp_lt hk) ?_), h.most, h.nodup, fun D hD => ?_, ht.blk h.acts (h.ahb.apart h.acts h76).symm, hv, hr, h.ge2⟩
  · rintro rfl
    exact h.lst.apart h.ahb h7.1 h7.2 hk
  · obtain ⟨h1, h2⟩ := h.marks D hD
    exact ⟨h1, (ht.block D (Array.getElem?_eq_some_iff.1 h2).1 (cells_not_mark h.ahb h2)).trans h2⟩
theorem Mid.mark (h : Mid w b2 b3 lb b6 b7 T6 T7 act Ds W mb iv lent l m v ah) {D : Nat} (h1 : w.heap.size ≤ D) (h2 : W.heap[D]? = some (.deferred (some []))) (h3 : ∀ E ∈ Ds, E < D) : Mid w b2 b3 lb b6 b7 T6 T7 act (D :: Ds) W mb iv lent l m v ah :=
  { h with
    nodup := List.nodup_cons.2 ⟨fun hm => absurd (h3 D hm) (Nat.lt_irrefl _), h.nodup⟩
    marks := fun E hE => by
      rcases List.mem_cons.1 hE with rfl | hE
      · exact ⟨h1, h2⟩
      · exact h.marks E hE }
theorem Mid.mark_lt (h : Mid w b2 b3 lb b6 b7 T6 T7 act Ds W mb iv lent l m v ah) : ∀ E ∈ Ds, E < W.heap.size := fun E hE => (Array.getElem?_eq_some_iff.1 (h.marks E hE).2).1
end

/-- Between two rounds. -/
structure Rnd (w : World) (b2 b3 lb : Nat) (Ds : List Nat) (W : World) (mb : Nat) (iv : Value) (lent : Bool) (l : Ls) (m : Int) : Prop where
  below : Below w.heap.size w W
  res : Blk W b2 #[.bool false] 4
  box : Blk W b3 #[.pointer (some ⟨lb, 0, none⟩)] 23
  lst : Lst w.heap.size W lb mb iv lent l
  most : l.Most m ∧ ∀ k ∈ l.keys, k.s.length ≤ 281474976710656
  nodup : Ds.Nodup
  marks : ∀ D ∈ Ds, w.heap.size ≤ D ∧ W.heap[D]? = some (.deferred (some []))
  ge2 : w.heap.size ≤ b2
theorem Rnd.later {w : World} {b2 b3 lb : Nat} {Ds : List Nat} {W : World} {mb : Nat} {iv : Value} {lent : Bool} {l : Ls} {m : Int} (h : Rnd w b2 b3 lb Ds W mb iv lent l m) {W' : World} (hb : Below W.heap.size W W') : Rnd w b2 b3 lb Ds W' mb iv lent l m :=
  ⟨h.below.trans (hb.mono h.below.size), h.res.below hb h.res.lt, h.box.below hb h.box.lt, h.lst.below hb, h.most, h.nodup, fun D hD => ⟨(h.marks D hD).1, (hb.block D (Array.getElem?_eq_some_iff.1 (h.marks D hD).2).1).trans (h.marks D hD).2⟩, h.ge2⟩
theorem Rnd.mid {w : World} {b2 b3 lb : Nat} {Ds : List Nat} {W : World} {mb : Nat} {iv : Value} {lent : Bool} {l : Ls} {m : Int} (h : Rnd w b2 b3 lb Ds W mb iv lent l m) {b6 b7 : Nat} {T6 T7 : TypeId} {act : Array Value} (h6 : Blk W b6 act T6) (h7 : Blk W b7 #[.slice none 0 0] T7) :
    Mid w b2 b3 lb b6 b7 T6 T7 act Ds W mb iv lent l m (.slice none 0 0) [] :=
  ⟨h.below, h.res, h.box, h.lst, h.most, h.nodup, h.marks, h6, h7, World.ownsRow_nil _ _ _ _, h.ge2⟩
theorem Mid.rnd {w : World} {b2 b3 lb b6 b7 : Nat} {T6 T7 : TypeId} {act : Array Value} {Ds : List Nat} {W : World} {mb : Nat} {iv : Value} {lent : Bool} {l : Ls} {m : Int} {v : Value} {ah : List K} (h : Mid w b2 b3 lb b6 b7 T6 T7 act Ds W mb iv lent l m v ah) : Rnd w b2 b3 lb Ds W mb iv lent l m :=
  ⟨h.below, h.res, h.box, h.lst, h.most, h.nodup, h.marks, h.ge2⟩
end Go.Proofs.YtbbmfpffanhgnaaDoor
