/-
  The document's lists: rows of items with values, as they lie in memory; where a key stands among them.
-/
import Derived.Test.YtmfnonepcipplaaDoorLNorm
import Derived.Laws.AppendOwn
import Derived.Maps.AppendAt
import Derived.Deep.RegionLaw
namespace Go.Proofs.YtmfnonepcipplaaDoor
open Go Go.RowKit Convs Lists

/-- A value's cells. -/
structure Q where
  kd : Int
  n : Int
  s : ByteArray
  A : Option Addr
  len : Nat
  cap : Nat
def Q.iv (q : Q) : Value := .slice q.A q.len q.cap
def qitem (x : K × Q) : List Value := [.bool x.1.t, .int .i64 x.1.n, .string ⟨x.1.s.toArray⟩, .int .i64 x.2.kd, .int .i64 x.2.n, .string x.2.s, x.2.iv]
def encQ (xs : List (K × Q)) : List Value := xs.flatMap qitem
theorem qitem_length (x : K × Q) : (qitem x).length = 7 := rfl
theorem encQ_cons (x : K × Q) (r : List (K × Q)) : encQ (x :: r) = qitem x ++ encQ r := by simp [encQ]
theorem encQ_app (a b : List (K × Q)) : encQ (a ++ b) = encQ a ++ encQ b := by simp [encQ]
theorem encQ_length : ∀ xs : List (K × Q), (encQ xs).length = xs.length * 7
  | [] => rfl
  | x :: r => by rw [encQ_cons, List.length_append, encQ_length r, qitem_length, List.length_cons]; omega
theorem encQ_at : ∀ (xs : List (K × Q)) (i : Nat) (x : K × Q), xs[i]? = some x → ∀ c, c < 7 → (encQ xs)[i * 7 + c]? = (qitem x)[c]?
  | [], i, x, h, _, _ => by simp at h
  | y :: r, 0, x, h, c, hc => by
    simp only [List.getElem?_cons_zero, Option.some.injEq] at h
    subst h
    rw [encQ_cons, Nat.zero_mul, Nat.zero_add, List.getElem?_append_left (by rw [qitem_length]; exact hc)]
  | y :: r, i + 1, x, h, c, hc => by
    have ih := encQ_at r i x (by simpa using h) c hc
    rw [encQ_cons, List.getElem?_append_right (by rw [qitem_length]; omega), qitem_length, show (i + 1) * 7 + c - 7 = i * 7 + c by omega]
    exact ih
theorem encQ_one (xs : List (K × Q)) : ∀ u ∈ encQ xs, u.oneCell' = true := by
  intro u hu
  obtain ⟨x, _, hx⟩ := List.mem_flatMap.1 hu
  simp only [qitem, List.mem_cons, List.not_mem_nil, or_false] at hx
  rcases hx with rfl | rfl | rfl | rfl | rfl | rfl | rfl <;> rfl
theorem encQ_take : ∀ (xs : List (K × Q)) (i : Nat), (encQ xs).take (i * 7) = encQ (xs.take i)
  | [], i => by simp [encQ]
  | x :: r, 0 => by simp [encQ]
  | x :: r, i + 1 => by
    rw [encQ_cons, List.take_succ_cons, encQ_cons, List.take_append, List.take_of_length_le (by rw [qitem_length]; omega), qitem_length, show (i + 1) * 7 - 7 = i * 7 by omega, encQ_take r i]
theorem encQ_drop : ∀ (xs : List (K × Q)) (i : Nat), (encQ xs).drop (i * 7) = encQ (xs.drop i)
  | [], i => by simp [encQ]
  | x :: r, 0 => by simp
  | x :: r, i + 1 => by
    rw [encQ_cons, List.drop_succ_cons, List.drop_append, List.drop_of_length_le (by rw [qitem_length]; omega), qitem_length, show (i + 1) * 7 - 7 = i * 7 by omega, encQ_drop r i, List.nil_append]
theorem encQ_set (xs : List (K × Q)) (i : Nat) (k : K) (q q0 : Q) (h : xs[i]? = some (k, q0)) :
    ((((encQ xs).set (i * 7 + 3) (.int .i64 q.kd)).set (i * 7 + 4) (.int .i64 q.n)).set (i * 7 + 5) (.string q.s)).set (i * 7 + 6) q.iv = encQ (xs.set i (k, q)) := by
  induction xs generalizing i with
  | nil => simp at h
  | cons y r ih =>
    cases i with
    | zero =>
      simp only [List.getElem?_cons_zero, Option.some.injEq] at h
      subst h
      simp [encQ, qitem]
    | succ i =>
      have := ih i (by simpa using h)
      rw [List.set_cons_succ, encQ_cons, encQ_cons, ← this]
      have e : ∀ (l : List Value) (c : Nat) (v : Value), (qitem y ++ l).set ((i + 1) * 7 + c) v = qitem y ++ l.set (i * 7 + c) v := by
        intro l c v
        rw [List.set_append_right _ _ (by rw [qitem_length]; omega), qitem_length, show (i + 1) * 7 + c - 7 = i * 7 + c by omega]
      rw [e, e, e, e]

/-- Where a key stands. -/
def findQ : List (K × Q) → K → Option Nat
  | [], _ => none
  | x :: r, k => if x.1 = k then some 0 else (findQ r k).map (· + 1)
def findN (xs : List (K × Q)) (k : K) : Int := match findQ xs k with | some i => i | none => -1
theorem findQ_none : ∀ (xs : List (K × Q)) (k : K), (∀ (j : Nat) (y : K × Q), xs[j]? = some y → y.1 ≠ k) → findQ xs k = none
  | [], _, _ => rfl
  | x :: r, k, h => by
    have h0 : x.1 ≠ k := h 0 x rfl
    rw [findQ, if_neg h0, findQ_none r k (fun j y hy => h (j + 1) y (by simpa using hy))]
    rfl
theorem findQ_some : ∀ (xs : List (K × Q)) (k : K) (i : Nat) (x : K × Q), xs[i]? = some x → x.1 = k → (∀ (j : Nat) (y : K × Q), j < i → xs[j]? = some y → y.1 ≠ k) → findQ xs k = some i
  | [], _, _, _, h, _, _ => by simp at h
  | y :: r, k, 0, x, h, hx, _ => by
    simp only [List.getElem?_cons_zero, Option.some.injEq] at h
    rw [findQ, if_pos (by rw [h, hx])]
  | y :: r, k, i + 1, x, h, hx, hn => by
    rw [findQ, if_neg (hn 0 y (by omega) rfl), findQ_some r k i x (by simpa using h) hx (fun j z hj hz => hn (j + 1) z (by omega) (by simpa using hz))]
    rfl
theorem findQ_at : ∀ (xs : List (K × Q)) (k : K) (i : Nat), findQ xs k = some i → ∃ q, xs[i]? = some (k, q)
  | [], _, _, h => by cases h
  | x :: r, k, i, h => by
    rw [findQ] at h
    by_cases hx : x.1 = k
    · rw [if_pos hx] at h
      cases h
      exact ⟨x.2, by rw [← hx]; rfl⟩
    · rw [if_neg hx] at h
      cases hr : findQ r k with
      | none => rw [hr] at h; cases h
      | some j =>
        rw [hr] at h
        cases h
        obtain ⟨q, hq⟩ := findQ_at r k j hr
        exact ⟨q, by simpa using hq⟩

/-- A row of items can be read. -/
def RowAt (w : World) (A : Option Addr) (xs : List (K × Q)) : Prop := ∀ (j : Nat) (u : Value), (encQ xs)[j]? = some u → ∃ g o, A = some ⟨g, o, none⟩ ∧ w.cell? ⟨g, o + j, none⟩ = some u
theorem RowAt.cells {w : World} {A : Option Addr} {xs : List (K × Q)} (h : RowAt w A xs) {i : Nat} {x : K × Q} (hx : xs[i]? = some x) :
    ∃ g o, A = some ⟨g, o, none⟩ ∧ w.cell? ⟨g, o + i * 7, none⟩ = some (.bool x.1.t) ∧ w.cell? ⟨g, o + i * 7 + 1, none⟩ = some (.int .i64 x.1.n) ∧ w.cell? ⟨g, o + i * 7 + 2, none⟩ = some (.string ⟨x.1.s.toArray⟩) ∧
      w.cell? ⟨g, o + i * 7 + 3, none⟩ = some (.int .i64 x.2.kd) ∧ w.cell? ⟨g, o + i * 7 + 4, none⟩ = some (.int .i64 x.2.n) ∧ w.cell? ⟨g, o + i * 7 + 5, none⟩ = some (.string x.2.s) ∧ w.cell? ⟨g, o + i * 7 + 6, none⟩ = some x.2.iv := by
  have e := encQ_at xs i x hx
  obtain ⟨g, o, hA, h0⟩ := h (i * 7 + 0) _ (e 0 (by omega))
  have next : ∀ c u, c < 7 → (qitem x)[c]? = some u → w.cell? ⟨g, o + i * 7 + c, none⟩ = some u := by
    intro c u hc hu
    obtain ⟨g', o', hA', h'⟩ := h (i * 7 + c) u ((e c hc).trans hu)
    rw [hA] at hA'
    cases hA'
    rw [Nat.add_assoc]
    exact h'
  exact ⟨g, o, hA, next 0 _ (by omega) rfl, next 1 _ (by omega) rfl, next 2 _ (by omega) rfl, next 3 _ (by omega) rfl, next 4 _ (by omega) rfl, next 5 _ (by omega) rfl, next 6 _ (by omega) rfl⟩
theorem RowAt.nil (w : World) (A : Option Addr) : RowAt w A [] := fun j u h => by simp [encQ] at h
theorem RowAt.below {w w' : World} {A : Option Addr} {xs : List (K × Q)} (h : RowAt w A xs) (hb : Below w.heap.size w w') : RowAt w' A xs := fun j u hu => by
  obtain ⟨g, o, hA, hc⟩ := h j u hu
  exact ⟨g, o, hA, (hb.cell (p := ⟨g, o + j, none⟩) (World.block_lt_of_cell? w _ hc)).trans hc⟩
theorem RowAt.turned {S : Nat → Prop} {w w' : World} {A : Option Addr} {xs : List (K × Q)} (h : RowAt w A xs) (ht : Turned S w w') (hs : ∀ a, A = some a → ¬ S a.block) : RowAt w' A xs := fun j u hu => by
  obtain ⟨g, o, hA, hc⟩ := h j u hu
  refine ⟨g, o, hA, ?_⟩
  rw [World.cell?_of_block (w := w) (w' := w') (a := ⟨g, o + j, none⟩) (ht.block g (World.block_lt_of_cell? w _ hc) (hs _ hA))]
  exact hc
theorem RowAt.of_own {w : World} {B : Nat} {e : TypeId} {A : Option Addr} {n cap : Nat} {xs : List (K × Q)} (h : w.ownsRow B e 7 (.slice A n cap) n (encQ xs)) : RowAt w A xs := by
  intro j u hu
  rcases h.2 with ⟨h', h0⟩ | ⟨g, cap', cur, h', hb, hg, hnc, hcm, hcs, ht⟩
  · have : (encQ xs).length = 0 := by rw [h.1, h0]
    rw [List.length_eq_zero_iff.1 this] at hu
    simp at hu
  · simp only [Value.slice.injEq, true_and] at h'
    refine ⟨g, 0, h'.1, ?_⟩
    rw [Nat.zero_add]
    rw [h'.1] at h
    rw [h.cellAt _ (by have := (List.getElem?_eq_some_iff.1 hu).1; rw [h.1] at this; exact this), hu]
end Go.Proofs.YtmfnonepcipplaaDoor
