/-
  The document's list in memory; what its Set makes of it; the append of rows of items.
-/
import Derived.Test.YtmfnonepcipplaaDoorRFind
import Derived.Laws.AppendOwnNone
import Derived.Deep.AppendLies
import Derived.Deep.Cut
import Derived.StillTailTactics
import Derived.Deep.RegionHeld3
namespace Go.Proofs.YtmfnonepcipplaaDoor
open Go Go.RowKit Convs Lists

theorem qInfo : (Tryd.prog.info? 45).map (fun i => (i.zero, i.size, i.bytes)) = some (some (.agg #[.bool false, .int .i64 0, .string ⟨#[]⟩, .int .i64 0, .int .i64 0, .string ⟨#[]⟩, .slice none 0 0]), 7, 88) := by kernel_rfl
theorem q_info_parts {T : TypeId} {z : Value} {s b : Nat} (h : (Tryd.prog.info? T).map (fun i => (i.zero, i.size, i.bytes)) = some (some z, s, b)) : ∃ i0, Tryd.prog.info? T = some i0 ∧ i0.zero = some z ∧ i0.size = s ∧ i0.bytes = b := by
  obtain ⟨i, hi, he⟩ := Option.map_eq_some_iff.1 h
  simp only [Prod.mk.injEq] at he
  exact ⟨i, hi, he.1, he.2.1, he.2.2⟩

/-- A slice value whose items can be read. -/
structure RdQ (w : World) (A : Option Addr) (cap : Nat) (xs : List (K × Q)) : Prop where
  row : RowAt w A xs
  nil : A = none → xs = [] ∧ cap = 0
theorem RdQ.below {w w' : World} {A : Option Addr} {cap : Nat} {xs : List (K × Q)} (h : RdQ w A cap xs) (hb : Below w.heap.size w w') : RdQ w' A cap xs := ⟨h.row.below hb, h.nil⟩
theorem RdQ.turned {S : Nat → Prop} {w w' : World} {A : Option Addr} {cap : Nat} {xs : List (K × Q)} (h : RdQ w A cap xs) (ht : Turned S w w') (hs : ∀ a, A = some a → ¬ S a.block) : RdQ w' A cap xs := ⟨h.row.turned ht hs, h.nil⟩
theorem RdQ.of_own {w : World} {B : Nat} {e : TypeId} {A : Option Addr} {n cap : Nat} {xs : List (K × Q)} (h : w.ownsRow B e 7 (.slice A n cap) n (encQ xs)) : RdQ w A cap xs := by
  refine ⟨.of_own h, fun hA => ?_⟩
  subst hA
  rcases h.2 with ⟨h', h0⟩ | ⟨g, cap', cur, h', _⟩
  · have hl : (encQ xs).length = 0 := by rw [h.1, h0]
    rw [encQ_length] at hl
    cases h'
    exact ⟨List.length_eq_zero_iff.1 (by omega), rfl⟩
  · cases h'
theorem RdQ.one {w : World} {b : Nat} {x : K × Q} {T : TypeId} (h : Blk w b (qitem x).toArray T) (cap : Nat) : RdQ w (some ⟨b, 0, none⟩) cap [x] := by
  refine ⟨fun j u hu => ⟨b, 0, rfl, ?_⟩, fun h => by cases h⟩
  have e : encQ [x] = qitem x := by simp [encQ]
  rw [e] at hu
  rw [Nat.zero_add, h.cell j]
  simpa using hu


theorem app_run (W : World) (B : Nat) (ty : TypeId) (rv : Value) (xs ys : List (K × Q)) (A : Option Addr) (cap : Nat) (hlen : xs.length + ys.length ≤ 100000000) (hB : B ≤ W.heap.size)
    (hown : W.ownsRow B 45 7 rv xs.length (encQ xs)) (hrd : RdQ W A cap ys) :
    ∃ A' cap' w', (Builtin.append_ #[25, 25] ty #[rv, .slice A ys.length cap]).run Tryd.prog W = .ok (.slice A' (xs.length + ys.length) cap') w' ∧ w'.ownsRow B 45 7 (.slice A' (xs.length + ys.length) cap') (xs.length + ys.length) (encQ (xs ++ ys)) ∧ W.grownBy w' rv.ownBlock ∧
      (rv = .slice none 0 0 → (A' = none ∨ A' = some ⟨W.heap.size, 0, none⟩) ∧ (ys = [] → A' = none)) := by
  obtain ⟨i0, hi, hz0, hz1, hz2⟩ := q_info_parts qInfo
  cases A with
  | none =>
    obtain ⟨rfl, rfl⟩ := hrd.nil rfl
    have hr := run_append_owned_none (w := W) (P := Tryd.prog) B 25 ty 45 i0 7 Tryd.underlying25 hi rv xs.length _ hown
    obtain ⟨A', cap', rfl⟩ : ∃ A cap, rv = .slice A xs.length cap := by
      rcases hown.2 with ⟨rfl, h0⟩ | ⟨g, cap, cur, rfl, _⟩
      · exact ⟨_, _, by rw [h0]⟩
      · exact ⟨_, _, rfl⟩
    refine ⟨A', cap', W, by simpa using hr, by simpa using hown, World.grownBy.refl W _, fun h => ?_⟩
    have h' : (Value.slice A' xs.length cap') = .slice none 0 0 := h
    simp only [Value.slice.injEq] at h'
    exact ⟨.inl h'.1, fun _ => h'.1⟩
  | some ad =>
    have hnews : ∀ j u, (encQ ys)[j]? = some u → W.cell? (ad.add j) = some u := by
      intro j u hu
      obtain ⟨g, o, hA, hc⟩ := hrd.row j u hu
      cases hA
      rw [Addr.add_lit]
      exact hc
    obtain ⟨v', w', h1, h2, h3, h4, h5⟩ := run_append_own_at (P := Tryd.prog) W B 25 ty 45 i0 _ 7 88 Tryd.underlying25 hi hz0 hz1 hz2 rfl (by decide) rv xs.length _ hown ad ys.length cap (encQ ys) (encQ_length ys) hnews (encQ_one ys) (by unfold maxLen; omega) (by omega) hB
    obtain ⟨A', cap', rfl⟩ : ∃ A cap, v' = .slice A (xs.length + ys.length) cap := by
      rcases h2.2 with ⟨rfl, h0⟩ | ⟨g, cap, cur, rfl, _⟩
      · exact ⟨_, _, by rw [h0]⟩
      · exact ⟨_, _, rfl⟩
    refine ⟨A', cap', w', h1, by rw [encQ_app]; exact h2, h3, fun hn => ⟨?_, fun hy => ?_⟩⟩
    · subst hn
      have hx0 : xs.length = 0 := by
        rcases hown.2 with ⟨_, h0⟩ | ⟨g, c, cur, h', _⟩
        · exact h0
        · cases h'
      rcases h2.2 with ⟨h', h0⟩ | ⟨g, c, cur, h', _⟩
      · simp only [Value.slice.injEq] at h'
        exact .inl h'.1
      · simp only [Value.slice.injEq] at h'
        obtain ⟨rfl, _⟩ := h'
        rcases h5 with h5 | h5
        · simp [Value.ownBlock] at h5
        · simp [Value.ownBlock] at h5
          exact .inr (by rw [h5])
    · subst hn hy
      have := (h4.2 ⟨rfl, rfl⟩)
      simp only [Value.slice.injEq] at this
      exact this.1

theorem step_appQ {ops : Array Oper} {o : Oper} {a : Act} {W : World} {K : Act → World → Prop} {Q' : Exit → Act → World → Prop} {E : Prop}
    (hg : o.guard = none) (s x : Operand) (hop : o.op = Op.call { callee := Callee.builtin Builtin.append, args := #[s, x], argTypes := #[25, 25] })
    (rv : Value) (A : Option Addr) (cap : Nat) (xs ys : List (Lists.K × Q)) (B N : Nat) (hs : a.eval s = rv) (hx : a.eval x = .slice A ys.length cap) (hN : N = xs.length + ys.length) (hlen : N ≤ 100000000) (hB : B ≤ W.heap.size)
    (hown : W.ownsRow B 45 7 rv xs.length (encQ xs)) (hrd : RdQ W A cap ys)
    (h : ∀ A' cap' W', W'.ownsRow B 45 7 (.slice A' N cap') N (encQ (xs ++ ys)) → W.grownBy W' rv.ownBlock → (rv = .slice none 0 0 → (A' = none ∨ A' = some ⟨W.heap.size, 0, none⟩) ∧ (ys = [] → A' = none)) → K (a.put o.dst (.slice A' N cap')) W') :
    if Region.wanted o (yielded ops a.tmps) = true then Oper.wp Tryd.prog o a W K Q' else E := by
  have hw : Region.wanted o (yielded ops a.tmps) = true := by simp [Region.wanted, hg]
  rw [if_pos hw]
  subst hN
  obtain ⟨A', cap', w', hrun, h1, h2, h3⟩ := app_run W B o.type rv xs ys A cap hlen hB hown hrd
  unfold Oper.wp
  simp [execOp, hop, resolve, invoke, builtin, hs, hx, hrun, Result.andThen]
  exact h A' cap' w' h1 h2 h3
theorem list_appQ {ops : Array Oper} {rest : List Oper} {o : Oper} {a : Act} {W : World} {Q' : Exit → Act → World → Prop}
    (hg : o.guard = none) (s x : Operand) (hop : o.op = Op.call { callee := Callee.builtin Builtin.append, args := #[s, x], argTypes := #[25, 25] })
    (rv : Value) (A : Option Addr) (cap : Nat) (xs ys : List (Lists.K × Q)) (B N : Nat) (hs : a.eval s = rv) (hx : a.eval x = .slice A ys.length cap) (hN : N = xs.length + ys.length) (hlen : N ≤ 100000000) (hB : B ≤ W.heap.size)
    (hown : W.ownsRow B 45 7 rv xs.length (encQ xs)) (hrd : RdQ W A cap ys)
    (h : ∀ A' cap' W', W'.ownsRow B 45 7 (.slice A' N cap') N (encQ (xs ++ ys)) → W.grownBy W' rv.ownBlock → (rv = .slice none 0 0 → (A' = none ∨ A' = some ⟨W.heap.size, 0, none⟩) ∧ (ys = [] → A' = none)) → wpList Tryd.prog ops Q' rest (a.put o.dst (.slice A' N cap')) W') :
    wpList Tryd.prog ops Q' (o :: rest) a W := by
  refine wpList_plain hg fun K hK => ?_
  subst hN
  obtain ⟨A', cap', w', hrun, h1, h2, h3⟩ := app_run W B o.type rv xs ys A cap hlen hB hown hrd
  unfold Oper.wp
  simp [execOp, hop, resolve, invoke, builtin, hs, hx, hrun, Result.andThen]
  exact hK _ _ (h A' cap' w' h1 h2 h3)

/-- What Set makes of a list, and whether it was full. -/
def setQ (xs : List (K × Q)) (nx : Int) (k : K) (q : Q) : (List (K × Q) × Int) × Bool :=
  match findQ xs k with
  | some i => ((xs.set i (k, q), nx), false)
  | none => if 2048 ≤ xs.length then ((xs, nx), true) else ((xs ++ [(k, q)], nextT nx k), false)

/-- The document's list in block rb, its row from B on. -/
structure RLst (B : Nat) (w : World) (rb : Nat) (A : Option Addr) (cap : Nat) (xs : List (K × Q)) (nx : Int) : Prop where
  blk : Blk w rb #[.slice A xs.length cap, .int .i64 nx] 27
  row : w.ownsRow B 45 7 (.slice A xs.length cap) xs.length (encQ xs)
  hrb : B ≤ rb
  keys : ∀ x ∈ xs, Kok x.1
  few : xs.length ≤ 2048
  nlo : -1 ≤ nx
  nhi : nx ≤ 9223372036854775807
section
variable {B : Nat} {w : World} {rb : Nat} {A : Option Addr} {cap : Nat} {xs : List (K × Q)} {nx : Int}
theorem row_same {w w' : World} {B : Nat} {e : TypeId} {size : Nat} {v : Value} {n : Nat} {xs : List Value} (h : w.ownsRow B e size v n xs) (hs : ∀ k, v.ownBlock = some k → w'.heap[k]? = w.heap[k]?) : w'.ownsRow B e size v n xs := by
  refine ⟨h.1, ?_⟩
  rcases h.2 with ⟨rfl, rfl⟩ | ⟨g, cap, cur, rfl, hb, hh, r⟩
  · exact .inl ⟨rfl, rfl⟩
  · exact .inr ⟨g, cap, cur, rfl, hb, (hs g rfl).trans hh, r⟩
theorem row_base {w : World} {B B' : Nat} {e : TypeId} {size : Nat} {v : Value} {n : Nat} {xs : List Value} (h : w.ownsRow B' e size v n xs) (hB : B ≤ B') : w.ownsRow B e size v n xs := by
  refine ⟨h.1, ?_⟩
  rcases h.2 with h | ⟨g, cap, cur, hv, hb, r⟩
  · exact .inl h
  · exact .inr ⟨g, cap, cur, hv, Nat.le_trans hB hb, r⟩
theorem row_lt {w : World} {B : Nat} {e : TypeId} {size : Nat} {v : Value} {n : Nat} {xs : List Value} (h : w.ownsRow B e size v n xs) {k : Nat} (hk : v.ownBlock = some k) : k < w.heap.size ∧ B ≤ k ∧ ∃ cs, Blk w k cs e := by
  rcases h.2 with ⟨rfl, _⟩ | ⟨g, cap, cur, rfl, hb, hh, _⟩
  · cases hk
  · cases hk
    exact ⟨(Array.getElem?_eq_some_iff.1 hh).1, hb, cur, hh⟩
/-- The blocks that it lies in. -/
def rown (rb : Nat) (A : Option Addr) : Nat → Prop := fun k => k = rb ∨ ∃ a, A = some a ∧ k = a.block
theorem RLst.same {w' : World} (h : RLst B w rb A cap xs nx) (hs : ∀ k, rown rb A k → w'.heap[k]? = w.heap[k]?) : RLst B w' rb A cap xs nx :=
  ⟨h.blk.same (hs rb (.inl rfl)), row_same h.row (fun k hk => hs k (by
    cases A with
    | none => simp [Value.ownBlock] at hk
    | some a => simp [Value.ownBlock] at hk; exact .inr ⟨a, rfl, hk.symm⟩)), h.hrb, h.keys, h.few, h.nlo, h.nhi⟩
theorem RLst.fp (h : RLst B w rb A cap xs nx) {k : Nat} (hk : rown rb A k) : k < w.heap.size ∧ B ≤ k ∧ ∃ cs T, Blk w k cs T ∧ (T = 27 ∨ T = 45) := by
  rcases hk with rfl | ⟨a, rfl, rfl⟩
  · exact ⟨h.blk.lt, h.hrb, _, _, h.blk, .inl rfl⟩
  · obtain ⟨h1, h2, cs, h3⟩ := row_lt h.row (k := a.block) rfl
    exact ⟨h1, h2, cs, _, h3, .inr rfl⟩
theorem RLst.below (h : RLst B w rb A cap xs nx) {w' : World} (hb : Below w.heap.size w w') : RLst B w' rb A cap xs nx := h.same fun _ hk => hb.block _ (h.fp hk).1
theorem RLst.apart (h : RLst B w rb A cap xs nx) {b : Nat} {cs : Array Value} {T : TypeId} (hb : Blk w b cs T) (h1 : T ≠ 27) (h2 : T ≠ 45) : ¬ rown rb A b := by
  intro hk
  obtain ⟨_, _, cs', T', h3, h4⟩ := h.fp hk
  have := h3.inj hb
  subst this
  rcases h4 with h4 | h4
  · exact h1 h4
  · exact h2 h4
theorem RLst.two (h : RLst B w rb A cap xs nx) : w.cell? ⟨rb, 0, none⟩ = some (.slice A xs.length cap) ∧ w.cell? ⟨rb, 1, none⟩ = some (.int .i64 nx) ∧ w.frozen? ⟨rb, 0, none⟩ = false ∧ w.frozen? ⟨rb, 1, none⟩ = false :=
  ⟨h.blk.cell 0, h.blk.cell 1, h.blk.free 0, h.blk.free 1⟩
end
end Go.Proofs.YtmfnonepcipplaaDoor
