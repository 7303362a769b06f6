/-
  A list has the document's items: what the law asks of both behind each call.
-/
import Derived.Test.YtmfnonepcipplaaDoorDoes
namespace Go.Proofs.YtmfnonepcipplaaDoor
open Go Go.RowKit Convs Lists
attribute [local go_sem] Oper.semAt_some

theorem eqlNil (w : World) (lb : Nat) : (binOp .eql 23 (.pointer (some ⟨lb, 0, none⟩)) (.pointer none)).run Tryd.prog w = .ok (.bool false) w := by
  obtain ⟨i, hi⟩ := Option.isSome_iff_exists.1 lstInfo
  first
  | exact run_eql_ptr_other w _ _ (by simp) Tryd.underlying23 hi
  | (have h : ∀ d : Nat, (Op.equalIn (d + 1) 23 (.pointer (some ⟨lb, 0, none⟩)) (.pointer none)).run Tryd.prog w = .ok false w := fun d => by
      simp [Op.equalIn, run_underlying Tryd.underlying23]
     simp only [binOp]
     simp [Op.equal, Op.maxDepth, h 9999])

/-- What stands in memory while the list is gone over: the boxes of both pointers, of the answer and of the place, both lists. -/
structure Stood (B : Nat) (W : World) (lb mb : Nat) (iv : Value) (lent : Bool) (rb : Nat) (A : Option Addr) (cap : Nat) (l : Ls) (c0 c1 c2 c3 : Nat) (i : Nat) : Prop where
  both : Both B W lb mb iv lent rb A cap l
  p0 : Blk W c0 #[.pointer (some ⟨lb, 0, none⟩)] 23
  p1 : Blk W c1 #[.pointer (some ⟨rb, 0, none⟩)] 34
  p2 : Blk W c2 #[.bool false] 4
  p3 : Blk W c3 #[.int .i64 i] 3
section
variable {B : Nat} {W : World} {lb mb : Nat} {iv : Value} {lent : Bool} {rb : Nat} {A : Option Addr} {cap : Nat} {l : Ls} {c0 c1 c2 c3 i : Nat}
theorem Stood.below (h : Stood B W lb mb iv lent rb A cap l c0 c1 c2 c3 i) {W' : World} (hb : Below W.heap.size W W') : Stood B W' lb mb iv lent rb A cap l c0 c1 c2 c3 i :=
  ⟨h.both.below hb, h.p0.below hb h.p0.lt, h.p1.below hb h.p1.lt, h.p2.below hb h.p2.lt, h.p3.below hb h.p3.lt⟩
theorem Stood.lend (h : Stood B W lb mb iv lent rb A cap l c0 c1 c2 c3 i) : Stood B (Proofs.YtmfnonepcipplaaDoor.lend lb W) lb mb iv true rb A cap l c0 c1 c2 c3 i := by
  have hrow : ∀ k, iv.ownBlock = some k → k ≠ lb := by
    rintro k hk rfl
    obtain ⟨_, _, cs, hcs⟩ := ownsRow_lt h.both.lst.row hk
    exact absurd (hcs.inj h.both.lst.blk) (by decide)
  have hl : Lst B (Proofs.YtmfnonepcipplaaDoor.lend lb W) lb mb iv true l :=
    ⟨h.both.lst.blk.set 4 (.bool true), ownsRow_same h.both.lst.row (fun k hk => Below.heap_setCell _ _ _ _ (hrow k hk)), h.both.lst.map.same (Below.heap_setCell _ _ _ _ (Ne.symm h.both.lst.lb_ne_mb)), h.both.lst.good, h.both.lst.keys, h.both.lst.hlb, h.both.lst.hmb⟩
  have far : ∀ {b : Nat} {cs : Array Value} {T : TypeId}, Blk W b cs T → T ≠ 50 → Blk (Proofs.YtmfnonepcipplaaDoor.lend lb W) b cs T := fun hb hT => hb.same (lend_far lb W _ (fun e => hT (by subst e; exact hb.inj h.both.lst.blk)))
  refine ⟨⟨hl, h.both.ref.same fun k hk => lend_far lb W k (fun e => ?_)⟩, far h.p0 (by decide), far h.p1 (by decide), far h.p2 (by decide), far h.p3 (by decide)⟩
  subst e
  obtain ⟨_, _, cs, T, hb, hT⟩ := h.both.ref.fp hk
  have := hb.inj h.both.lst.blk
  subst this
  rcases hT with hT | hT <;> exact absurd hT (by decide)
/-- The place moves on. -/
theorem Stood.other (h : Stood B W lb mb iv lent rb A cap l c0 c1 c2 c3 i) {W' : World} (ht : Turned (fun k => k = c3) W W') {j : Nat} (h3 : Blk W' c3 #[.int .i64 j] 3) : Stood B W' lb mb iv lent rb A cap l c0 c1 c2 c3 j := by
  have nlst : ∀ k, Lst.own lb mb iv false k → k ≠ c3 := fun k hk e => h.both.lst.apart h.p3 (by decide) (by decide) (e ▸ hk)
  have nref : ∀ k, rown rb A k → k ≠ c3 := fun k hk e => h.both.ref.apart h.p3 (by decide) (by decide) (e ▸ hk)
  exact ⟨⟨h.both.lst.same fun k hk => ht.block k (h.both.lst.fp_lt hk) (nlst k hk), h.both.ref.same fun k hk => ht.block k (h.both.ref.fp hk).1 (nref k hk)⟩,
    ht.blk h.p0 (h.p3.apart h.p0 (by decide)).symm, ht.blk h.p1 (h.p3.apart h.p1 (by decide)).symm, ht.blk h.p2 (h.p3.apart h.p2 (by decide)).symm, h3⟩
end
end Go.Proofs.YtmfnonepcipplaaDoor
