/-
  Rows of tokens where they lie; the read of a text with a variable.
-/
import Derived.Test.YtjcldgogjgchiaaGreatDoorTokens
namespace Go.Proofs.YtjcldgogjgchiaaGreatDoor
open Go Go.RowKit Cutting Wording

theorem flat_at {α : Type} (f : α → List Value) (m : Nat) : ∀ (l : List α), (∀ x ∈ l, (f x).length = m) → ∀ (i j : Nat) (hi : i < l.length), j < m → (l.flatMap f)[i * m + j]? = (f l[i])[j]? := by
  intro l
  induction l with
  | nil => intro _ i j hi; exact absurd hi (Nat.not_lt_zero _)
  | cons x l ih =>
    intro hf i j hi hj
    have h0 := hf x (List.mem_cons_self ..)
    rw [List.flatMap_cons]
    cases i with
    | zero => rw [Nat.zero_mul, Nat.zero_add, List.getElem?_append_left (by omega)]; rfl
    | succ i =>
      rw [List.getElem?_append_right (by rw [h0, Nat.succ_mul]; omega), h0, show (i + 1) * m + j - m = i * m + j by rw [Nat.succ_mul]; omega]
      exact ih (fun y hy => hf y (List.mem_cons_of_mem _ hy)) i j (by simpa using hi) hj
theorem Toks.form {C : Nat} {w wr : World} {file : L} {v : Value} {l : List TkV} (h : Toks C w wr file v l) (hl : 0 < l.length) : ∃ g cap, v = .slice (some ⟨g, 0, none⟩) l.length cap ∧ l.length ≤ cap := by
  rcases h.own.2 with ⟨rfl, h0⟩ | ⟨g, cap, cur, rfl, hb, hh, hn, hc, hcs, ht⟩
  · omega
  · exact ⟨g, cap, rfl, hn⟩
theorem Toks.cell {C : Nat} {w wr : World} {file : L} {v : Value} {l : List TkV} (h : Toks C w wr file v l) {g cap : Nat} (hv : v = .slice (some ⟨g, 0, none⟩) l.length cap) (i j : Nat) (hi : i < l.length) (hj : j < 6) {u : Value} (hu : (encT file l[i])[j]? = some u) :
    wr.cell? ⟨g, i * 6 + j, none⟩ = some u := by
  subst hv
  rw [h.own.cellAt _ (by omega), ← hu]
  exact flat_at (encT file) 6 l (fun _ _ => rfl) i j hi hj
theorem part_cell {C : Nat} {wr : World} {ps : List Prt} {g cap : Nat} (h : wr.ownsRow C 44 3 (.slice (some ⟨g, 0, none⟩) ps.length cap) ps.length (encPs ps)) (i j : Nat) (hi : i < ps.length) (hj : j < 3) {u : Value} (hu : (encPrt ps[i])[j]? = some u) :
    wr.cell? ⟨g, i * 3 + j, none⟩ = some u := by
  rw [h.cellAt _ (by omega), ← hu]
  exact flat_at encPrt 3 ps (fun _ _ => rfl) i j hi hj
theorem part_form {C : Nat} {wr : World} {ps : List Prt} {v : Value} (h : wr.ownsRow C 44 3 v ps.length (encPs ps)) (hl : 0 < ps.length) : ∃ g cap, v = .slice (some ⟨g, 0, none⟩) ps.length cap := by
  rcases h.2 with ⟨rfl, h0⟩ | ⟨g, cap, cur, rfl, hb, hh, hn, hc, hcs, ht⟩
  · omega
  · exact ⟨g, cap, rfl⟩

def aliveText : L := [60, 63, 112, 104, 112, 32, 69, 67, 72, 79, 32, 34, 97, 36, 98, 91, 48, 93, 92, 110, 34, 59, 32, 63, 62, 120]
def aliveToks : List (Tk × Nat) := [(⟨7, [101, 99, 104, 111], 0, []⟩, 6), (⟨6, [], 0, [⟨0, [97], []⟩, ⟨2, [98], [48]⟩, ⟨0, [10], []⟩]⟩, 11), (⟨7, [59], 0, []⟩, 21), (⟨7, [63, 62], 0, []⟩, 23), (⟨1, [120], 0, []⟩, 25)]
def okIs (r : R (List (Tk × Nat))) (l : List (Tk × Nat)) : Bool := match r with | .ok m => decide (m = l) | .error _ => false
theorem okIs_eq {r : R (List (Tk × Nat))} {l : List (Tk × Nat)} (h : okIs r l = true) : r = .ok l := by
  cases r with
  | error => cases h
  | ok m => rw [of_decide_eq_true h]
theorem alive_toks : fileT aliveText = .ok aliveToks := okIs_eq (by decide +kernel)

set_option maxHeartbeats 8000000 in
set_option maxRecDepth 100000 in
theorem alive2_any (w : World) (hM : Met w) :
    Calls Tryz.prog 11 #[] w fun e w' => e = .returned (.bool true) ∧ Below w.heap.size w w' := by
  have hsz : ∀ (b : ByteArray), b.data.toList = aliveText → b.size ≤ 65536 := fun b h => by rw [Lib.size_eq, h]; decide
  go_enter Tryz.func11, Tryz.ntmps11
  go_wp2_with fail
  refine (Tokens_any _ _ (hsz _ rfl) hM).mono ?_
  rintro e w1 ⟨hb, hp⟩
  change (match fileT aliveText with
    | .error x => e = .returned (.tuple #[.slice none 0 0, faultV x.1 x.2])
    | .ok ts => ∃ v l, e = .returned (.tuple #[v, faultV 0 0]) ∧ Toks w.heap.size w w1 aliveText v l ∧ l.map (fun x => (x.1, x.2.1)) = ts ∧ l.length ≤ 3 * 26 + 2) at hp
  rw [alive_toks] at hp
  obtain ⟨v, l, rfl, ht, hmap, hln⟩ := hp
  have hl5 : l.length = 5 := by have := congrArg List.length hmap; rwa [List.length_map] at this
  obtain ⟨g, cap, hv, hcap⟩ := ht.form (by omega)
  have hx : ∀ (i : Nat) (hi : i < l.length), l[i].1 = (aliveToks[i]'(by rw [hl5] at hi; exact hi)).1 := fun i hi => by
    have h1 : (l.map (fun x => (x.1, x.2.1)))[i]'(by rw [List.length_map]; exact hi) = aliveToks[i]'(by rw [hl5] at hi; exact hi) := List.getElem_of_eq hmap _
    rw [List.getElem_map] at h1
    exact congrArg Prod.fst h1
  have hx0 := hx 0 (by omega); have hx1 := hx 1 (by omega); have hx4 := hx 4 (by omega)
  have c01 := ht.cell hv 0 1 (by omega) (by decide) (u := .string ⟨#[101, 99, 104, 111]⟩) (by rw [encT, hx0]; rfl)
  have c10 := ht.cell hv 1 0 (by omega) (by decide) (u := .int .i64 6) (by rw [encT, hx1]; rfl)
  have c41 := ht.cell hv 4 1 (by omega) (by decide) (u := .string ⟨#[120]⟩) (by rw [encT, hx4]; rfl)
  have hp1 := ht.prt l[1] (List.getElem_mem _)
  have hpl : l[1].1.parts = [⟨0, [97], []⟩, ⟨2, [98], [48]⟩, ⟨0, [10], []⟩] := by rw [hx1]; rfl
  rw [hpl] at hp1
  obtain ⟨gp, cp, hpv⟩ := part_form hp1 (by decide)
  have c13 := ht.cell hv 1 3 (by omega) (by decide) (u := l[1].2.2) (by rw [encT]; rfl)
  rw [hpv] at hp1 c13
  have p0 := part_cell hp1 1 0 (by decide) (by decide) (u := .int .i64 2) rfl
  have p1 := part_cell hp1 1 1 (by decide) (by decide) (u := .string ⟨#[98]⟩) rfl
  have p2 := part_cell hp1 1 2 (by decide) (by decide) (u := .string ⟨#[48]⟩) rfl
  change w1.cell? ⟨g, 1, none⟩ = _ at c01
  change w1.cell? ⟨g, 6, none⟩ = _ at c10
  change w1.cell? ⟨g, 9, none⟩ = _ at c13
  change w1.cell? ⟨g, 25, none⟩ = _ at c41
  change w1.cell? ⟨gp, 3, none⟩ = _ at p0
  change w1.cell? ⟨gp, 4, none⟩ = _ at p1
  change w1.cell? ⟨gp, 5, none⟩ = _ at p2
  have hg := World.block_lt_of_cell? w1 _ c01
  have hgp := World.block_lt_of_cell? w1 _ p0
  dsimp only at hg hgp
  simp only [List.length_cons, List.length_nil] at c13
  rw [hv, hl5]
  clear hv hp1 hpv hpl hx hx0 hx1 hx4 hmap ht hsz
  unfold faultV
  go_wp2_with fail
  go_ret
  exact ⟨rfl, hb.alloc hb.size _⟩
end Go.Proofs.YtjcldgogjgchiaaGreatDoor
