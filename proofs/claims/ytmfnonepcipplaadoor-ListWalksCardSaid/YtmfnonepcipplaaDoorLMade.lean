/-
  A list in memory, and contracts of package list's New, isMade, Len, Next.
-/
import Derived.Test.YtmfnonepcipplaaDoorLNorm
import Derived.Laws.AppendOwn
import Derived.LaidEqlPtr
namespace Go.Proofs.YtmfnonepcipplaaDoor
open Go Go.RowKit Convs Lists

def itemV (x : K × Int) : List Value := [.bool x.1.t, .int .i64 x.1.n, .string ⟨x.1.s.toArray⟩, .int .i64 x.2]
def encItems (l : List (K × Int)) : List Value := l.flatMap itemV
theorem encItems_length : ∀ l : List (K × Int), (encItems l).length = l.length * 4
  | [] => rfl
  | x :: r => by
    have := encItems_length r
    unfold encItems at *
    rw [List.flatMap_cons, List.length_append, this, List.length_cons]
    show 4 + _ = _
    omega
theorem encItems_app (l m : List (K × Int)) : encItems (l ++ m) = encItems l ++ encItems m := by simp [encItems]
theorem encItems_at : ∀ (l : List (K × Int)) (i : Nat) (x : K × Int), l[i]? = some x →
    (encItems l)[i * 4]? = some (.bool x.1.t) ∧ (encItems l)[i * 4 + 1]? = some (.int .i64 x.1.n) ∧ (encItems l)[i * 4 + 2]? = some (.string ⟨x.1.s.toArray⟩) ∧ (encItems l)[i * 4 + 3]? = some (.int .i64 x.2)
  | [], i, x, h => by simp at h
  | y :: r, 0, x, h => by simp at h; subst h; exact ⟨rfl, rfl, rfl, rfl⟩
  | y :: r, i + 1, x, h => by
    have ih := encItems_at r i x (by simpa using h)
    have e : encItems (y :: r) = itemV y ++ encItems r := by simp [encItems]
    have hl : (itemV y).length = 4 := rfl
    rw [e]
    have g : ∀ j, (itemV y ++ encItems r)[(i + 1) * 4 + j]? = (encItems r)[i * 4 + j]? := fun j => by
      rw [List.getElem?_append_right (by omega), hl]; congr 1; omega
    exact ⟨(g 0).trans ih.1, (g 1).trans ih.2.1, (g 2).trans ih.2.2.1, (g 3).trans ih.2.2.2⟩

/-- Of each key its place among the items. -/
def placeI : List (K × Int) → Nat → K → Option Int
  | [], _, _ => none
  | x :: r, n, k => if x.1 = k then some (n : Int) else placeI r (n + 1) k
def placeOf (l : List (K × Int)) (k : K) : Option Int := placeI l 0 k

/-- The cells of a list's struct. -/
def lstCells (lb : Nat) (iv : Value) (mb : Nat) (nx : Int) (lent : Bool) : Array Value := #[.pointer (some ⟨lb, 0, none⟩), iv, .map (some mb), .int .i64 nx, .bool lent]

/-- The list in block lb, its row and its map from B on: these items under this next number. -/
structure Lst (B : Nat) (w : World) (lb mb : Nat) (iv : Value) (lent : Bool) (l : Ls) : Prop where
  blk : Blk w lb (lstCells lb iv mb l.next lent) 50
  row : w.ownsRow B 69 4 iv l.items.length (encItems l.items)
  map : Idx w mb (placeOf l.items)
  good : l.Good
  keys : ∀ k ∈ l.keys, Kok k
  hlb : B ≤ lb
  hmb : B ≤ mb

theorem Lst.form {B : Nat} {w : World} {lb mb : Nat} {iv : Value} {lent : Bool} {l : Ls} (h : Lst B w lb mb iv lent l) :
    ∃ A cap, iv = .slice A l.items.length cap ∧ l.items.length ≤ cap ∧ cap ≤ maxLen ∧ (0 < l.items.length → ∃ g, A = some ⟨g, 0, none⟩ ∧ B ≤ g ∧ g < w.heap.size) := by
  rcases h.row.2 with ⟨rfl, h0⟩ | ⟨g, cap, cur, rfl, hb, hh, hn, hc, hcs, ht⟩
  · exact ⟨none, 0, by rw [h0], by omega, by unfold maxLen; omega, by omega⟩
  · exact ⟨_, cap, rfl, hn, hc, fun _ => ⟨g, rfl, hb, (Array.getElem?_eq_some_iff.1 hh).1⟩⟩

/-- The blocks that a turn of the list may write into. -/
def Lst.own (lb mb : Nat) (iv : Value) (lent : Bool) : Nat → Prop := fun k => k = lb ∨ (lent = false ∧ (iv.ownBlock = some k ∨ k = mb))

theorem New_any (w : World) : Calls Tryd.prog 6 #[] w fun e w' => e = .returned (.pointer (some ⟨w.heap.size + 1, 0, none⟩)) ∧ Lst w.heap.size w' (w.heap.size + 1) w.heap.size (.slice none 0 0) false ⟨[], 0⟩ ∧ Below w.heap.size w w' := by
  have hmm := @run_makeMap Tryd.prog
  go_enter Tryd.func6, Tryd.ntmps6
  go_wp2_with fail
  go_ret
  have h0 := Idx.made w
  have hB : Below w.heap.size w ((w.alloc (.map #[] 0)).alloc (.cells #[.pointer (some ⟨w.heap.size + 1, 0, none⟩), .slice none 0 0, .map (some w.heap.size), .int .i64 0, .bool false] 50)) := below_box2 w _ _
  refine ⟨rfl, ⟨?_, World.ownsRow_nil _ _ _ _, h0.same ?_, Ls.Good.new, fun k hk => by simp [Ls.keys] at hk, by omega, Nat.le_refl _⟩, hB⟩
  · have := Blk.new (w.alloc (.map #[] 0)) (lstCells (w.heap.size + 1) (.slice none 0 0) w.heap.size 0 false) 50
    rw [World.size_alloc] at this
    exact this
  · exact Below.heap_alloc _ _ _ (by simp)

section
variable {B : Nat} {w : World} {lb mb : Nat} {iv : Value} {lent : Bool} {l : Ls}
theorem Lst.cells (h : Lst B w lb mb iv lent l) :
    w.cell? ⟨lb, 0, none⟩ = some (.pointer (some ⟨lb, 0, none⟩)) ∧ w.cell? ⟨lb, 1, none⟩ = some iv ∧ w.cell? ⟨lb, 2, none⟩ = some (.map (some mb)) ∧ w.cell? ⟨lb, 3, none⟩ = some (.int .i64 l.next) ∧ w.cell? ⟨lb, 4, none⟩ = some (.bool lent) ∧
    w.frozen? ⟨lb, 0, none⟩ = false ∧ w.frozen? ⟨lb, 1, none⟩ = false ∧ w.frozen? ⟨lb, 2, none⟩ = false ∧ w.frozen? ⟨lb, 3, none⟩ = false ∧ w.frozen? ⟨lb, 4, none⟩ = false := h.blk.five
theorem lstInfo : (Tryd.prog.info? 50).isSome = true := by kernel_rfl
theorem eqlSame (w : World) (lb : Nat) : (binOp .eql 23 (.pointer (some ⟨lb, 0, none⟩)) (.pointer (some ⟨lb, 0, none⟩))).run Tryd.prog w = .ok (.bool true) w := by
  obtain ⟨i, hi⟩ := Option.isSome_iff_exists.1 lstInfo
  exact run_eql_ptr_same w _ Tryd.underlying23 hi
theorem eql_none_some {P : Program} {tp te : TypeId} (w : World) (a : Addr) (hp : P.underlying tp = some (.pointer te)) :
    (binOp .eql tp (.pointer none) (.pointer (some a))).run P w = .ok (.bool false) w := by
  have h : ∀ d : Nat, (Op.equalIn (d + 1) tp (.pointer none) (.pointer (some a))).run P w = .ok false w := fun d => by
    simp [Op.equalIn, run_underlying hp]
  simp only [binOp]
  simp [Op.equal, Op.maxDepth, h 9999]
theorem eqlNone (w : World) (lb : Nat) : (binOp .eql 23 (.pointer none) (.pointer (some ⟨lb, 0, none⟩))).run Tryd.prog w = .ok (.bool false) w :=
  eql_none_some w _ Tryd.underlying23

set_option maxRecDepth 100000 in
/-- A made list, asked whether it is. -/
theorem isMade_any (w : World) (lb : Nat) (hc : w.cell? ⟨lb, 0, none⟩ = some (.pointer (some ⟨lb, 0, none⟩))) :
    Calls Tryd.prog 24 #[.pointer (some ⟨lb, 0, none⟩)] w fun e w' => e = .returned (.bool true) ∧ w = w' := by
  have hq1 := fun W => eqlSame W lb
  have hq2 := fun W => eqlNone W lb
  go_enter Tryd.func24, Tryd.ntmps24
  go_wp2_with fail
  go_ret
  exact ⟨rfl, rfl⟩
theorem isMade_nil (w : World) : Calls Tryd.prog 24 #[.pointer none] w fun e w' => e = .returned (.bool false) ∧ w = w' := by
  go_enter Tryd.func24, Tryd.ntmps24
  go_wp2_with fail
  go_ret
  exact ⟨rfl, rfl⟩
set_option maxRecDepth 100000 in
theorem isMade_zero (w : World) (lb : Nat) (hc : w.cell? ⟨lb, 0, none⟩ = some (.pointer none)) :
    Calls Tryd.prog 24 #[.pointer (some ⟨lb, 0, none⟩)] w fun e w' => e = .returned (.bool false) ∧ w = w' := by
  have hq1 := fun W => eqlSame W lb
  have hq2 := fun W => eqlNone W lb
  go_enter Tryd.func24, Tryd.ntmps24
  go_wp2_with fail
  go_ret
  exact ⟨rfl, rfl⟩
theorem Len_any (h : Lst B w lb mb iv lent l) :
    Calls Tryd.prog 15 #[.pointer (some ⟨lb, 0, none⟩)] w fun e w' => e = .returned (.int .i64 l.items.length) ∧ w = w' := by
  obtain ⟨A, cap, rfl, hc1, hc2, _⟩ := h.form
  obtain ⟨c0, c1, c2, c3, c4, f0, f1, f2, f3, f4⟩ := h.cells
  have HM := hide (isMade_any w lb c0)
  go_enter Tryd.func15, Tryd.ntmps15
  go_wp2_with (go_at_call 24; with_reducible refine (unhide HM).mono ?_; rintro e w1 ⟨rfl, rfl⟩)
  go_ret
  exact ⟨rfl, rfl⟩
theorem Next_any (h : Lst B w lb mb iv lent l) :
    Calls Tryd.prog 16 #[.pointer (some ⟨lb, 0, none⟩)] w fun e w' => e = .returned (.int .i64 l.next) ∧ w = w' := by
  obtain ⟨c0, c1, c2, c3, c4, f0, f1, f2, f3, f4⟩ := h.cells
  have HM := hide (isMade_any w lb c0)
  go_enter Tryd.func16, Tryd.ntmps16
  go_wp2_with (go_at_call 24; with_reducible refine (unhide HM).mono ?_; rintro e w1 ⟨rfl, rfl⟩)
  go_ret
  exact ⟨rfl, rfl⟩
end
end Go.Proofs.YtmfnonepcipplaaDoor
