/-
  Several lists beside one another, each with the document's: what stands in memory while ListCopies runs.
-/
import Derived.Test.YtmfnonepcipplaaDoorPCopy
namespace Go.Proofs.YtmfnonepcipplaaDoor
open Go Go.RowKit Convs Lists

/-- One of the program's lists: where it lies, and what it is. -/
structure Rc where
  lb : Nat
  mb : Nat
  iv : Value
  lent : Bool
  l : Ls
def Rc.own (r : Rc) : Nat → Prop := Lst.own r.lb r.mb r.iv r.lent
def Rc.fp (r : Rc) : Nat → Prop := Lst.own r.lb r.mb r.iv false
def Rc.ptr (r : Rc) : Value := .pointer (some ⟨r.lb, 0, none⟩)
theorem Rc.own_fp {r : Rc} {k : Nat} (h : r.own k) : r.fp k := own_false h
/-- What one may write into, the other does not lie in. -/
def Apart (a b : Rc) : Prop := (∀ k, a.own k → ¬ b.fp k) ∧ (∀ k, b.own k → ¬ a.fp k)
theorem Apart.symm {a b : Rc} (h : Apart a b) : Apart b a := ⟨h.2, h.1⟩

/-- A doc list's struct in a row. -/
def encR : List (Rc × Option Addr × Nat) → List Value := fun xs => xs.flatMap fun x => [.slice x.2.1 x.1.l.items.length x.2.2, .int .i64 x.1.l.next]
theorem encR_cons (x : Rc × Option Addr × Nat) (r : List (Rc × Option Addr × Nat)) : encR (x :: r) = [.slice x.2.1 x.1.l.items.length x.2.2, .int .i64 x.1.l.next] ++ encR r := by simp [encR]
theorem encR_app (a b : List (Rc × Option Addr × Nat)) : encR (a ++ b) = encR a ++ encR b := by simp [encR]
theorem encR_length : ∀ xs : List (Rc × Option Addr × Nat), (encR xs).length = xs.length * 2
  | [] => rfl
  | x :: r => by rw [encR_cons, List.length_append, encR_length r, List.length_cons]; simp; omega
theorem encR_split : ∀ (xs : List (Rc × Option Addr × Nat)) (n : Nat) (x : Rc × Option Addr × Nat), xs[n]? = some x →
    encR xs = encR (xs.take n) ++ [.slice x.2.1 x.1.l.items.length x.2.2, .int .i64 x.1.l.next] ++ encR (xs.drop (n + 1)) := by
  intro xs n x h
  obtain ⟨hn, rfl⟩ := List.getElem?_eq_some_iff.1 h
  conv => lhs; rw [← List.take_append_drop n xs, List.drop_eq_getElem_cons hn]
  rw [encR_app, encR_cons, List.append_assoc]
theorem encR_set (xs : List (Rc × Option Addr × Nat)) (n : Nat) (x : Rc × Option Addr × Nat) (hn : n < xs.length) :
    encR (xs.set n x) = encR (xs.take n) ++ [.slice x.2.1 x.1.l.items.length x.2.2, .int .i64 x.1.l.next] ++ encR (xs.drop (n + 1)) := by
  rw [encR_split (xs.set n x) n x (by rw [List.getElem?_set_self hn])]
  rw [List.take_set_of_le (Nat.le_refl _), List.drop_set_of_lt (by omega)]

def ItemRow (B : Nat) (W : World) (x : Rc × Option Addr × Nat) : Prop := W.ownsRow B 45 7 (.slice x.2.1 x.1.l.items.length x.2.2) x.1.l.items.length (encQ (toQ x.1.l.items))

theorem Both.size {B : Nat} {w : World} {lb mb : Nat} {iv : Value} {lent : Bool} {rb : Nat} {p : Pos} {A : Option Addr} {cap : Nat} {l : Ls} (h : Both B w lb mb iv lent rb p A cap l) : B ≤ w.heap.size := by
  have h1 := h.ref.hrb
  have h2 := h.ref.blk.lt
  omega
theorem Rc.own_ge {B : Nat} {W : World} {r : Rc} (h : Lst B W r.lb r.mb r.iv r.lent r.l) {k : Nat} (hk : r.own k) : B ≤ k := by
  rcases hk with rfl | ⟨_, hk | rfl⟩
  · exact h.hlb
  · exact (ownsRow_lt h.row hk).2.1
  · exact h.hmb

/-- The main list m with the document's in block rb; the others, and the document's copies. -/
structure Many (w W : World) (rb : Nat) (m : Rc) (A : Option Addr) (cap : Nat) (os : List (Rc × Option Addr × Nat)) (ov wv : Value) : Prop where
  below : Below w.heap.size w W
  main : Both w.heap.size W m.lb m.mb m.iv m.lent rb ⟨[], []⟩ A cap m.l
  small : Small m.l
  lists : ∀ (j : Nat) (x : Rc × Option Addr × Nat), os[j]? = some x → Lst w.heap.size W x.1.lb x.1.mb x.1.iv x.1.lent x.1.l
  smalls : ∀ (j : Nat) (x : Rc × Option Addr × Nat), os[j]? = some x → Small x.1.l
  apart : ∀ (j : Nat) (x : Rc × Option Addr × Nat), os[j]? = some x → Apart m x.1
  apart2 : ∀ (i j : Nat) (x y : Rc × Option Addr × Nat), i ≠ j → os[i]? = some x → os[j]? = some y → Apart x.1 y.1
  rows : ∀ (j : Nat) (x : Rc × Option Addr × Nat), os[j]? = some x → ItemRow w.heap.size W x
  were : W.ownsRow w.heap.size 27 2 wv os.length (encR os)
  others : W.ownsRow w.heap.size 23 1 ov os.length (os.map fun x => x.1.ptr)
  wne : ∀ k, wv.ownBlock = some k → k ≠ rb
section
variable {w W : World} {rb : Nat} {m : Rc} {A : Option Addr} {cap : Nat} {os : List (Rc × Option Addr × Nat)} {ov wv : Value}
theorem Many.start {lb : Nat} {mb : Nat} {iv : Value} {lent : Bool} {l : Ls} (h0 : Below w.heap.size w W) (h : Both w.heap.size W lb mb iv lent rb ⟨[], []⟩ A cap l) (hs : Small l) : Many w W rb ⟨lb, mb, iv, lent, l⟩ A cap [] (.slice none 0 0) (.slice none 0 0) :=
  ⟨h0, h, hs, fun j x hx => by simp at hx, fun j x hx => by simp at hx, fun j x hx => by simp at hx, fun i j x y _ hx => by simp at hx, fun j x hx => by simp at hx, World.ownsRow_nil _ _ _ _, World.ownsRow_nil _ _ _ _, fun k hk => by simp [Value.ownBlock] at hk⟩
theorem Many.later (h : Many w W rb m A cap os ov wv) {W' : World} (hb : Below W.heap.size W W') : Many w W' rb m A cap os ov wv :=
  ⟨h.below.trans (hb.mono h.main.size), h.main.below hb, h.small, fun j x hx => (h.lists j x hx).below hb, h.smalls, h.apart, h.apart2, fun j x hx => row_same (h.rows j x hx) (fun k hk => hb.block k (row_lt (h.rows j x hx) hk).1),
    row_same h.were (fun k hk => hb.block k (row_lt h.were hk).1), row_same h.others (fun k hk => hb.block k (row_lt h.others hk).1), h.wne⟩
/-- A list of which nothing was turned. -/
theorem Many.stays {x : Rc} {a : Rc} {W' : World} {X : Nat} (hx : Lst w.heap.size W x.lb x.mb x.iv x.lent x.l) (ha : Apart a x) {cs : Array Value} {T : TypeId} (hX : Blk W X cs T) (hT : T ≠ 50 ∧ T ≠ 69)
    (ht : Turned (fun k => k = X ∨ a.own k) W W') : Lst w.heap.size W' x.lb x.mb x.iv x.lent x.l :=
  hx.same fun k hk => ht.block k (hx.fp_lt hk) (by
    rintro (e | e)
    · exact hx.apart hX hT.1 hT.2 (by rw [← e]; exact hk)
    · exact ha.1 k e hk)
theorem row_stays {B : Nat} {e : TypeId} {size : Nat} {v : Value} {n : Nat} {xs : List Value} (h : W.ownsRow B e size v n xs) {a : Rc} (ha : Lst w.heap.size W a.lb a.mb a.iv a.lent a.l) (he : e ≠ 50 ∧ e ≠ 69) {X : Nat}
    (hX : ∀ k, v.ownBlock = some k → k ≠ X) {W' : World} (ht : Turned (fun k => k = X ∨ a.own k) W W') : W'.ownsRow B e size v n xs :=
  row_same h fun k hk => ht.block k (row_lt h hk).1 (by
    rintro (e' | e')
    · exact hX k hk e'
    · obtain ⟨_, _, cs, hcs⟩ := row_lt h hk
      exact ha.apart hcs he.1 he.2 (own_false e'))
theorem Apart.step {a a' x : Rc} (h : Apart a x) (hlt : ∀ k, x.fp k → k < W.heap.size) (hown : ∀ k, a'.own k → a.own k ∨ W.heap.size ≤ k) (hfp : ∀ k, a'.fp k → a.fp k ∨ W.heap.size ≤ k) : Apart a' x := by
  refine ⟨fun k hk hx => ?_, fun k hk ha => ?_⟩
  · rcases hown k hk with h1 | h1
    · exact h.1 k h1 hx
    · have := hlt k hx; omega
  · rcases hfp k ha with h1 | h1
    · exact h.2 k hk h1
    · have := hlt k (own_false hk); omega
theorem row_not {B : Nat} {e T : TypeId} {size : Nat} {v : Value} {n : Nat} {xs : List Value} (h : W.ownsRow B e size v n xs) {X : Nat} {cs : Array Value} (hX : Blk W X cs T) (hT : e ≠ T) : ∀ k, v.ownBlock = some k → k ≠ X := fun k hk e' => by
  obtain ⟨_, _, cs', hcs⟩ := row_lt h hk
  subst e'
  exact hT (hcs.inj hX)
/-- The main list, or what stands in its place. -/
theorem Many.moved (h : Many w W rb m A cap os ov wv) {M : Rc} {A' : Option Addr} {cap' : Nat} {W' : World} (h1 : Both w.heap.size W' M.lb M.mb M.iv M.lent rb ⟨[], []⟩ A' cap' M.l) (ht : Turned (fun k => k = rb ∨ m.own k) W W') (h3 : ∀ k, M.own k → m.own k ∨ W.heap.size ≤ k) (h4 : ∀ k, M.fp k → m.fp k ∨ W.heap.size ≤ k) (hs : Small M.l) :
    Many w W' rb M A' cap' os ov wv := by
  refine ⟨h.below.trans (ht.below h.main.size (fun k hk => ?_)), h1, hs, fun j x hx => Many.stays (h.lists j x hx) (h.apart j x hx) h.main.ref.blk ⟨by decide, by decide⟩ ht, h.smalls, fun j x hx => (h.apart j x hx).step (fun k hk => (h.lists j x hx).fp_lt hk) h3 h4, h.apart2,
    fun j x hx => row_stays (h.rows j x hx) h.main.lst ⟨by decide, by decide⟩ (row_not (h.rows j x hx) h.main.ref.blk (by decide)) ht, row_stays h.were h.main.lst ⟨by decide, by decide⟩ h.wne ht, row_stays h.others h.main.lst ⟨by decide, by decide⟩ (row_not h.others h.main.ref.blk (by decide)) ht, h.wne⟩
  rcases hk with rfl | hk
  · exact h.main.ref.hrb
  · exact Rc.own_ge (r := m) h.main.lst hk
/-- A call on the main list. -/
theorem Many.does (h : Many w W rb m A cap os ov wv) {l' : Ls} {W' : World} (hd : DPost w.heap.size W m.lb m.mb m.iv m.lent rb ⟨[], []⟩ l' W') (hs : Small l') :
    ∃ m' A' cap', m'.lb = m.lb ∧ Many w W' rb m' A' cap' os ov wv := by
  obtain ⟨mb', iv', lent', A', cap', h1, h2, h3, h4⟩ := hd
  exact ⟨⟨m.lb, mb', iv', lent', l'⟩, A', cap', rfl, h.moved h1 h2 h3 h4 hs⟩
/-- A list that stands is lent, and no more. -/
theorem DPost.stood {B : Nat} {lb mb : Nat} {iv : Value} {lent : Bool} {rb : Nat} {p : Pos} {A : Option Addr} {cap : Nat} {l : Ls} {W' : World} (hb : Both B W' lb mb iv true rb p A cap l) (ht : Turned (fun k => k = lb) W W') : DPost B W lb mb iv lent rb p l W' :=
  ⟨mb, iv, true, A, cap, hb, ht.mono (fun k hk _ => .inr (.inl hk)), fun k hk => .inl (by
    rcases hk with h | ⟨h, _⟩
    · exact .inl h
    · cases h), fun k hk => .inl hk⟩
/-- A copy: either of both may be gone on with. -/
theorem Many.copied (h : Many w W rb m A cap os ov wv) {cb : Nat} {W' : World} (hcb : W.heap.size ≤ cb) (hl : Lst w.heap.size W' m.lb m.mb m.iv true m.l) (hc : Lst w.heap.size W' cb m.mb m.iv true m.l) (ht : Turned (fun k => k = m.lb) W W') :
    Many w W' rb ⟨m.lb, m.mb, m.iv, true, m.l⟩ A cap os ov wv ∧ Many w W' rb ⟨cb, m.mb, m.iv, true, m.l⟩ A cap os ov wv ∧ Apart ⟨m.lb, m.mb, m.iv, true, m.l⟩ ⟨cb, m.mb, m.iv, true, m.l⟩ := by
  have ht' : Turned (fun k => k = rb ∨ m.own k) W W' := ht.mono (fun k hk _ => .inr (.inl hk))
  have hr : RLst w.heap.size W' rb ⟨[], []⟩ A cap (toQ m.l.items) m.l.next := h.main.ref.same fun k hk => ht.block k (h.main.ref.fp hk).1 (fun e => by
    have e' : k = m.lb := e
    obtain ⟨_, _, cs, T, hb, hT⟩ := h.main.ref.fp hk
    subst e'
    have := hb.inj h.main.lst.blk
    subst this
    rcases hT with hT | hT <;> exact absurd hT (by decide))
  have lone : ∀ (b : Nat) (k : Nat), Rc.own ⟨b, m.mb, m.iv, true, m.l⟩ k → k = b := fun b k hk => by
    rcases hk with hk | ⟨hk, _⟩
    · exact hk
    · cases hk
  have hlb := h.main.lst.blk.lt
  refine ⟨h.moved ⟨hl, hr⟩ ht' (fun k hk => .inl ((lone _ _ hk) ▸ .inl rfl)) (fun k hk => .inl hk) h.small, h.moved ⟨hc, hr⟩ ht' (fun k hk => .inr (by rw [lone _ _ hk]; exact hcb)) (fun k hk => ?_) h.small, fun k hk hf => ?_, fun k hk hf => ?_⟩
  · rcases hk with rfl | hk
    · exact .inr hcb
    · exact .inl (.inr hk)
  · have hk' := lone _ _ hk
    rcases hf with hf | ⟨_, hf | hf⟩
    · simp only at hf; omega
    · obtain ⟨_, _, cs, hcs⟩ := ownsRow_lt h.main.lst.row hf
      rw [hk'] at hcs
      exact absurd (hcs.inj h.main.lst.blk) (by decide)
    · simp only at hf
      exact h.main.lst.lb_ne_mb (hk'.symm.trans hf)
  · have hk' := lone _ _ hk
    have := h.main.lst.fp_lt (k := k) (by simpa [Rc.fp] using hf)
    omega
/-- One more among the others. -/
theorem Many.push {M E : Rc} (h : Many w W rb M A cap os ov wv) (hE : Many w W rb E A cap os ov wv) (ha : Apart M E) {o1 o2 : Obj} {W1 W2 : World} {ov' wv' : Value}
    (hg1 : (W.alloc o1).grownBy W1 ov.ownBlock) (ho1 : W1.ownsRow w.heap.size 23 1 ov' (os.length + 1) ((os.map fun x => x.1.ptr) ++ [E.ptr]))
    (hg2 : (W1.alloc o2).grownBy W2 wv.ownBlock) (ho2 : W2.ownsRow w.heap.size 27 2 wv' (os.length + 1) (encR os ++ [.slice A E.l.items.length cap, .int .i64 E.l.next])) (hat : wv'.ownBlock = wv.ownBlock ∨ ∃ k, wv'.ownBlock = some k ∧ W.heap.size ≤ k) :
    Many w W2 rb M A cap (os ++ [(E, A, cap)]) ov' wv' := by
  have t1 : Turned (fun k => ov.ownBlock = some k) W W1 := (Turned.alloc _ W o1).trans (.grown hg1 (fun k hk => hk))
  have t2 : Turned (fun k => wv.ownBlock = some k) W1 W2 := (Turned.alloc _ W1 o2).trans (.grown hg2 (fun k hk => hk))
  have tt : Turned (fun k => ov.ownBlock = some k ∨ wv.ownBlock = some k) W W2 := (t1.mono (fun k hk _ => .inl hk)).trans (t2.mono (fun k hk _ => .inr hk))
  have kind : ∀ k, (ov.ownBlock = some k ∨ wv.ownBlock = some k) → ∃ cs T, Blk W k cs T ∧ (T = 23 ∨ (T = 27 ∧ k ≠ rb)) ∧ w.heap.size ≤ k := fun k hk => by
    rcases hk with hk | hk
    · obtain ⟨_, h2, cs, hcs⟩ := row_lt h.others hk
      exact ⟨cs, _, hcs, .inl rfl, h2⟩
    · obtain ⟨_, h2, cs, hcs⟩ := row_lt h.were hk
      exact ⟨cs, _, hcs, .inr ⟨rfl, h.wne k hk⟩, h2⟩
  have lst : ∀ {r : Rc}, Lst w.heap.size W r.lb r.mb r.iv r.lent r.l → Lst w.heap.size W2 r.lb r.mb r.iv r.lent r.l := fun hl => hl.same fun k hk => tt.block k (hl.fp_lt hk) (fun e => by
    obtain ⟨cs, T, hb, hT, _⟩ := kind k e
    rcases hT with rfl | ⟨rfl, _⟩
    · exact hl.apart hb (by decide) (by decide) hk
    · exact hl.apart hb (by decide) (by decide) hk)
  have item : ∀ {n : Nat} {v : Value} {xs : List Value}, W.ownsRow w.heap.size 45 7 v n xs → W2.ownsRow w.heap.size 45 7 v n xs := fun hr => row_same hr fun k hk => tt.block k (row_lt hr hk).1 (fun e => by
    obtain ⟨cs, T, hb, hT, _⟩ := kind k e
    obtain ⟨_, _, cs', hcs⟩ := row_lt hr hk
    have := hcs.inj hb
    subst this
    rcases hT with hT | ⟨hT, _⟩ <;> exact absurd hT (by decide))
  have get : ∀ (j : Nat) (y : Rc × Option Addr × Nat), (os ++ [(E, A, cap)])[j]? = some y → (j = os.length ∧ y = (E, A, cap)) ∨ (j < os.length ∧ os[j]? = some y) := by
    intro j y hy
    by_cases hj : j < os.length
    · rw [List.getElem?_append_left hj] at hy
      exact .inr ⟨hj, hy⟩
    · rw [List.getElem?_append_right (by omega)] at hy
      have : j - os.length = 0 := by
        have := (List.getElem?_eq_some_iff.1 hy).1
        simp at this
        omega
      rw [this] at hy
      exact .inl ⟨by omega, by simpa using hy.symm⟩
  refine ⟨h.below.trans (tt.below h.main.size (fun k hk => (kind k hk).choose_spec.choose_spec.2.2)), ⟨lst (r := M) h.main.lst, h.main.ref.same fun k hk => tt.block k (h.main.ref.fp hk).1 (fun e => ?_)⟩, h.small, fun j y hy => ?_, fun j y hy => ?_, fun j y hy => ?_, fun i j y z hij hy hz => ?_, fun j y hy => ?_, ?_, ?_, fun k hk => ?_⟩
  · obtain ⟨cs, T, hb, hT, _⟩ := kind k e
    rcases hk with rfl | ⟨a, ha', rfl⟩
    · rcases hT with rfl | ⟨_, hne⟩
      · exact absurd (hb.inj h.main.ref.blk) (by decide)
      · exact hne rfl
    · obtain ⟨_, _, cs', hcs⟩ := row_lt h.main.ref.row (k := a.block) (by rw [ha']; rfl)
      have := hcs.inj hb
      subst this
      rcases hT with hT | ⟨hT, _⟩ <;> exact absurd hT (by decide)
  · rcases get j y hy with ⟨_, rfl⟩ | ⟨_, hy⟩
    · exact lst (r := E) hE.main.lst
    · exact lst (h.lists j y hy)
  · rcases get j y hy with ⟨_, rfl⟩ | ⟨_, hy⟩
    · exact hE.small
    · exact h.smalls j y hy
  · rcases get j y hy with ⟨_, rfl⟩ | ⟨_, hy⟩
    · exact ha
    · exact h.apart j y hy
  · rcases get i y hy with ⟨hi, rfl⟩ | ⟨hi, hy2⟩
    · rcases get j z hz with ⟨hj, _⟩ | ⟨hj, hz2⟩
      · exact absurd (hi.trans hj.symm) hij
      · exact hE.apart j z hz2
    · rcases get j z hz with ⟨hj, rfl⟩ | ⟨hj, hz2⟩
      · exact (hE.apart i y hy2).symm
      · exact h.apart2 i j y z hij hy2 hz2
  · rcases get j y hy with ⟨_, rfl⟩ | ⟨_, hy⟩
    · have := item hE.main.ref.row
      rw [toQ_length] at this
      exact this
    · exact item (h.rows j y hy)
  · rw [List.length_append, encR_app]
    exact ho2
  · rw [List.length_append, List.map_append]
    exact row_same ho1 fun k hk => t2.block k (row_lt ho1 hk).1 (fun e => by
      obtain ⟨hlt, _, cs, hcs⟩ := row_lt h.were e
      have hne : ov.ownBlock ≠ some k := fun e2 => by
        obtain ⟨_, _, cs2, hcs2⟩ := row_lt h.others e2
        exact absurd (hcs2.inj hcs) (by decide)
      have h1 := t1.blk hcs hne
      obtain ⟨_, _, cs3, hcs3⟩ := row_lt ho1 hk
      exact absurd (hcs3.inj h1) (by decide))
  · rcases hat with e | ⟨k', e, hk'⟩
    · exact h.wne k (e ▸ hk)
    · rw [e] at hk
      cases hk
      have := h.main.ref.blk.lt
      omega
/-- The list stands: it is lent. -/
theorem Many.stood (h : Many w W rb m A cap os ov wv) {W' : World} (_ : Both w.heap.size W' m.lb m.mb m.iv true rb ⟨[], []⟩ A cap m.l) (ht : Turned (fun k => k = m.lb) W W') : Below w.heap.size w W' :=
  h.below.trans (ht.below h.main.size (fun k hk => by have hk' : k = m.lb := hk; rw [hk']; exact h.main.lst.hlb))

/-- One of the others, with the document's in its row. -/
theorem Many.at (h : Many w W rb m A cap os ov wv) {n : Nat} {x : Rc × Option Addr × Nat} (hx : os[n]? = some x) :
    ∃ wb wcap p, wv = .slice (some ⟨wb, 0, none⟩) os.length wcap ∧ p.o = n * 2 ∧ Both w.heap.size W x.1.lb x.1.mb x.1.iv x.1.lent wb p x.2.1 x.2.2 x.1.l ∧ os.length ≤ wcap ∧ wcap ≤ maxLen ∧ w.heap.size ≤ wb ∧
      (∀ v nx, (rc p v nx).size = wcap * 2 ∧ (rc p v nx).toList.take (os.length * 2) = encR (os.take n) ++ [v, .int .i64 nx] ++ encR (os.drop (n + 1))) := by
  have hn := (List.getElem?_eq_some_iff.1 hx).1
  rcases h.were.2 with ⟨_, h0⟩ | ⟨g, wcap, cur, hv, hb, hg, hnc, hcm, hcs, ht⟩
  · omega
  · have hsp := encR_split os n x hx
    obtain ⟨tl, h1⟩ : ∃ tl, cur.toList = encR os ++ tl := ⟨cur.toList.drop (os.length * 2), by rw [← ht, List.take_append_drop]⟩
    have e : cur = rc ⟨encR (os.take n), encR (os.drop (n + 1)) ++ tl⟩ (.slice x.2.1 x.1.l.items.length x.2.2) x.1.l.next := by
      unfold rc
      apply Array.ext'
      rw [h1, hsp]
      simp
    have hpo : (⟨encR (os.take n), encR (os.drop (n + 1)) ++ tl⟩ : Pos).o = n * 2 := by
      unfold Pos.o
      simp only [encR_length, List.length_take]
      omega
    have hl := h.lists n x hx
    refine ⟨g, wcap, ⟨encR (os.take n), encR (os.drop (n + 1)) ++ tl⟩, hv, hpo, ⟨hl, ⟨?_, ?_, hb, ?_, ?_, hl.good.lo, ?_⟩⟩, hnc, hcm, hb, fun v nx => ?_⟩
    · rw [toQ_length, ← e]
      exact hg
    · rw [toQ_length]
      exact h.rows n x hx
    · intro y hy
      unfold toQ at hy
      obtain ⟨z, hz, rfl⟩ := List.mem_map.1 hy
      exact hl.keys z.1 (List.mem_map_of_mem hz)
    · rw [toQ_length]
      have := hl.good.len
      unfold maxItems at this
      exact this
    · have := hl.good.hi
      unfold most at this
      exact this
    · have hsz : (rc ⟨encR (os.take n), encR (os.drop (n + 1)) ++ tl⟩ v nx).size = cur.size := by
        conv => rhs; rw [e]
        unfold rc
        simp
      refine ⟨hsz.trans hcs, ?_⟩
      unfold rc
      simp only
      have hlen : (encR (os.take n) ++ [v, .int .i64 nx] ++ encR (os.drop (n + 1))).length = os.length * 2 := by
        simp only [List.length_append, encR_length, List.length_take, List.length_drop, List.length_cons, List.length_nil]
        omega
      rw [show encR (os.take n) ++ v :: Value.int .i64 nx :: (encR (os.drop (n + 1)) ++ tl) = (encR (os.take n) ++ [v, .int .i64 nx] ++ encR (os.drop (n + 1))) ++ tl by simp]
      rw [← hlen, List.take_left]
/-- A call on one of the others. -/
theorem Many.doesAt (h : Many w W rb m A cap os ov wv) {n : Nat} {x : Rc × Option Addr × Nat} (hx : os[n]? = some x) {wb wcap : Nat} {p : Pos} (hv : wv = .slice (some ⟨wb, 0, none⟩) os.length wcap)
    (hb : Both w.heap.size W x.1.lb x.1.mb x.1.iv x.1.lent wb p x.2.1 x.2.2 x.1.l) (hnc : os.length ≤ wcap) (hcm : wcap ≤ maxLen) (hwb : w.heap.size ≤ wb)
    (hp : ∀ v nx, (rc p v nx).size = wcap * 2 ∧ (rc p v nx).toList.take (os.length * 2) = encR (os.take n) ++ [v, .int .i64 nx] ++ encR (os.drop (n + 1)))
    {l' : Ls} {W' : World} (hd : DPost w.heap.size W x.1.lb x.1.mb x.1.iv x.1.lent wb p l' W') (hs : Small l') :
    ∃ x', x'.1.lb = x.1.lb ∧ Many w W' rb m A cap (os.set n x') ov wv := by
  obtain ⟨mb', iv', lent', A', cap', h1, h2, h3, h4⟩ := hd
  have hn := (List.getElem?_eq_some_iff.1 hx).1
  have ht : Turned (fun k => k = wb ∨ x.1.own k) W W' := h2
  have hwr : wb ≠ rb := h.wne wb (by rw [hv]; rfl)
  have get : ∀ (x' : Rc × Option Addr × Nat) (j : Nat) (y : Rc × Option Addr × Nat), (os.set n x')[j]? = some y → (j = n ∧ y = x') ∨ (j ≠ n ∧ os[j]? = some y) := by
    intro x' j y hy
    by_cases hj : j = n
    · subst hj
      rw [List.getElem?_set_self hn] at hy
      exact .inl ⟨rfl, (Option.some.inj hy).symm⟩
    · rw [List.getElem?_set_ne (Ne.symm hj)] at hy
      exact .inr ⟨hj, hy⟩
  refine ⟨(⟨x.1.lb, mb', iv', lent', l'⟩, A', cap'), rfl, h.below.trans (h2.below h.main.size (fun k hk => ?_)), ⟨Many.stays h.main.lst (h.apart n x hx).symm hb.ref.blk ⟨by decide, by decide⟩ ht, ?_⟩, h.small, fun j y hy => ?_, fun j y hy => ?_, fun j y hy => ?_, fun i j y z hij hy hz => ?_, fun j y hy => ?_, ?_, ?_, h.wne⟩
  · rcases hk with rfl | hk
    · exact hwb
    · exact Rc.own_ge (r := x.1) hb.lst hk
  · refine h.main.ref.same fun k hk => ht.block k (h.main.ref.fp hk).1 ?_
    rintro (rfl | e)
    · rcases hk with e | ⟨a, ha, e⟩
      · exact hwr e
      · obtain ⟨_, _, cs, hcs⟩ := row_lt h.main.ref.row (k := a.block) (by rw [ha]; rfl)
        rw [← e] at hcs
        exact absurd (hcs.inj hb.ref.blk) (by decide)
    · obtain ⟨_, _, cs, T, hcs, hT⟩ := h.main.ref.fp hk
      rcases hT with rfl | rfl
      · exact hb.lst.apart hcs (by decide) (by decide) (own_false e)
      · exact hb.lst.apart hcs (by decide) (by decide) (own_false e)
  · rcases get _ j y hy with ⟨_, rfl⟩ | ⟨hj, hy⟩
    · exact h1.lst
    · exact Many.stays (h.lists j y hy) (h.apart2 n j x y (Ne.symm hj) hx hy) hb.ref.blk ⟨by decide, by decide⟩ ht
  · rcases get _ j y hy with ⟨_, rfl⟩ | ⟨hj, hy⟩
    · exact hs
    · exact h.smalls j y hy
  · rcases get _ j y hy with ⟨_, rfl⟩ | ⟨hj, hy⟩
    · exact (Apart.step (a' := ⟨x.1.lb, mb', iv', lent', l'⟩) (h.apart n x hx).symm (fun k hk => h.main.lst.fp_lt hk) h3 h4).symm
    · exact h.apart j y hy
  · rcases get _ i y hy with ⟨hi, ey⟩ | ⟨hi, hy2⟩
    · rcases get _ j z hz with ⟨hj, _⟩ | ⟨hj, hz2⟩
      · exact absurd (hi.trans hj.symm) hij
      · rw [ey]
        exact Apart.step (a' := ⟨x.1.lb, mb', iv', lent', l'⟩) (h.apart2 n j x z (Ne.symm hj) hx hz2) (fun k hk => (h.lists j z hz2).fp_lt hk) h3 h4
    · rcases get _ j z hz with ⟨hj, ez⟩ | ⟨hj, hz2⟩
      · rw [ez]
        exact (Apart.step (a' := ⟨x.1.lb, mb', iv', lent', l'⟩) (h.apart2 n i x y (Ne.symm hi) hx hy2) (fun k hk => (h.lists i y hy2).fp_lt hk) h3 h4).symm
      · exact h.apart2 i j y z hij hy2 hz2
  · rcases get _ j y hy with ⟨_, rfl⟩ | ⟨hj, hy⟩
    · have := h1.ref.row
      rw [toQ_length] at this
      exact this
    · exact row_stays (h.rows j y hy) hb.lst ⟨by decide, by decide⟩ (row_not (h.rows j y hy) hb.ref.blk (by decide)) ht
  · have hb1 := h1.ref.blk
    rw [toQ_length] at hb1
    obtain ⟨hp1, hp2⟩ := hp (.slice A' l'.items.length cap') l'.next
    rw [List.length_set, encR_set os n _ hn]
    refine ⟨?_, .inr ⟨wb, wcap, _, hv, hwb, hb1, hnc, hcm, hp1, hp2⟩⟩
    simp only [List.length_append, encR_length, List.length_take, List.length_drop, List.length_cons, List.length_nil]
    omega
  · rw [List.length_set]
    have e : (os.set n (⟨x.1.lb, mb', iv', lent', l'⟩, A', cap')).map (fun x => x.1.ptr) = os.map fun x => x.1.ptr := by
      rw [List.map_set]
      apply List.ext_getElem? 
      intro j
      by_cases hj : j = n
      · subst hj
        rw [List.getElem?_set_self (by simpa using hn), List.getElem?_map, hx]
        rfl
      · rw [List.getElem?_set_ne (Ne.symm hj)]
    rw [e]
    exact row_stays h.others hb.lst ⟨by decide, by decide⟩ (row_not h.others hb.ref.blk (by decide)) ht
end
end Go.Proofs.YtmfnonepcipplaaDoor
