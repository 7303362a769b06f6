/-
  A range over a function whose iterator, ahead of its first round, turns what lay before: a list lends its items. What the body is handed is known: the items in their order.
-/
import Derived.Test.YtmfnonepcipplaaDoorLNob
namespace Go.Proofs.YtmfnonepcipplaaDoor
open Go Go.RowKit Convs Lists

/-- An iterator that first makes T of the world, and then hands over xs in their order, as long as the rounds go on. -/
def Gives {α : Type} (F : Fence) (n : Nat) (P : Program) (g : Nat) (lb : Array Value) (encs : α → Array Value) (Kp : World → World → Prop) (xs : List α) (T : World → World) (w : World) : Prop :=
  ∀ (l : Nat) (J Jx : List α → World → Prop) (W : World), Below w.heap.size w W → AbidesFrom W.heap.size J → AbidesFrom W.heap.size Jx →
    (∀ pre x W1, J pre W1 → (pre ++ [x]) <+: xs → YieldAt F (n - 1) P l (encs x) W1 fun e W' =>
      (e = .returned (.bool true) ∧ J (pre ++ [x]) W' ∧ Kp W1 W') ∨ (e = .returned (.bool false) ∧ Jx (pre ++ [x]) W')) →
    J [] (T W) →
    CallsIn F n P g (#[.func (.yield l) #[] #[]] ++ lb) W fun e W' => (∃ v, e = .returned v) ∧ (J xs W' ∨ ∃ pre, pre <+: xs ∧ Jx pre W')

variable {F : Fence} {n : Nat} {P : Program} {w : World}
theorem wpIn_rangeFunc_gives {α : Type} {g : Operand} {ps : Array Tmp} {assign body : Code} {Q : Exit → Act → World → Prop} {a : Act}
    (hro : F.round = none) (h1 : 1 ≤ n) {gf : Nat} {lb : Array Value} (hg : a.eval g = .func (.func gf) #[] lb) (hFg : F.fn gf) (eg : ∀ args w, (callFunc gf args).run P w = .ok (.enter gf args) w)
    {encs : α → Array Value} {Kp : World → World → Prop} {xs : List α} {T : World → World} (hseq : Gives F (n - 1) P gf lb encs Kp xs T w)
    (hKt : ∀ {A B C : World}, Kp A B → Kp B C → Kp A C) (hKb : ∀ (W : World) (l : Nat) (o' : Obj), w.heap.size ≤ l → Kp W (W.putObj l o')) (hps : ∀ x, (encs x).size = ps.size)
    (hT : ∀ W k, w.heap.size ≤ k → (T W).heap[k]? = W.heap[k]?)
    (I : List α → World → Prop) (Ix : Code → List α → World → Prop) (hI : OwnFrom w.heap.size I) (hIx : ∀ c, OwnFrom w.heap.size (Ix c)) (h0 : ∀ W, Below w.heap.size w W → I [] (T W))
    (Ax : α → Act → World → Prop) (hAx : ∀ x a', OwnFrom w.heap.size (fun (_ : Unit) W => Ax x a' W))
    (hassign : ∀ (l : Nat) (pre : List α) (x : α) (W : World) (K : Act → World → Prop), I pre W → (∀ a' W', KeepsFrom w.heap.size W W' → Kp W W' → I pre W' → Ax x a' W' → K a' W') →
      assign.wpIn (F.inRound l) (n - 1 - 1) P (Exit.then K (fun _ _ _ => False)) { tmps := (ps.zip (encs x)).foldl (fun t (p, v) => t.setIfInBounds p v) a.tmps, defers := [] } W)
    (hbody : ∀ (l : Nat) (pre : List α) (x : α) (a' : Act) (W : World), w.heap.size ≤ l → (∃ r, W.heap[l]? = some (.loop r)) → I pre W → Ax x a' W → (pre ++ [x]) <+: xs →
      body.wpIn (F.inRound l) (n - 1 - 1) P (ownPostG w.heap.size Kp I Ix (pre ++ [x]) W) a' W)
    (hdone : ∀ (D : Nat) (W : World), w.heap.size ≤ D → I xs W → W.heap[D]? = some (.deferred (some [])) → Q .normal { a with defers := { target := .collected D, args := #[] } :: a.defers } W)
    (hstop : ∀ (D : Nat) (c : Code) (pre : List α) (W : World), w.heap.size ≤ D → pre <+: xs → Ix c pre W → W.heap[D]? = some (.deferred (some [])) → c.wpIn F n P Q { a with defers := { target := .collected D, args := #[] } :: a.defers } W) :
    (Code.rangeFunc g ps assign body).wpIn F n P Q a w := by
  refine wpIn_rangeFunc fun fn hfn => ?_
  rw [hro]
  -- the record, by its state, and the block of the rounds' deferred calls
  obtain ⟨D, hD⟩ : ∃ D, D = w.heap.size := ⟨_, rfl⟩
  obtain ⟨rec, hrec⟩ : ∃ rec : LoopState → Option Code → Loop, rec = fun st pe => { state := st, pending := pe, fn, tmps := a.tmps, params := ps, assign, body, defers := D } := ⟨_, rfl⟩
  obtain ⟨Bk, hBk⟩ : ∃ Bk : LoopState → Option Code → World → Prop, Bk = fun st pe W => W.heap[D + 1]? = some (.loop (rec st pe)) ∧ W.heap[D]? = some (.deferred (some [])) := ⟨_, rfl⟩
  have bkKeep : ∀ {st pe W W'}, Bk st pe W → KeepsFrom D W W' → Bk st pe W' := by
    intro st pe W W' h hk
    rw [hBk] at h ⊢
    exact ⟨hk.same _ _ (Nat.le_succ _) h.1 rfl, hk.same _ _ (Nat.le_refl _) h.2 rfl⟩
  have bkPut : ∀ {st pe st' pe' W}, Bk st pe W → Bk st' pe' (W.putObj (D + 1) (.loop (rec st' pe'))) := by
    intro st pe st' pe' W h
    rw [hBk] at h ⊢
    exact ⟨World.putObj_heap_same (Array.getElem?_eq_some_iff.1 h.1).1, (World.putObj_heap_other (by omega)).trans h.2⟩
  have bkWalk : ∀ {st pe A B row}, Bk st pe A → A.grownBy B row → (∀ r, row = some r → ∃ o : Obj, A.heap[r]? = some o ∧ o.isWalk = true) → Bk st pe B := by
    intro st pe A B row h hg hr
    rw [hBk] at h ⊢
    exact ⟨(grownBy_keeps hg hr h.1 rfl).trans h.1, (grownBy_keeps hg hr h.2 rfl).trans h.2⟩
  have bkLoop : ∀ {st pe W}, Bk st pe W → W.heap[D + 1]? = some (.loop (rec st pe)) := by
    intro st pe W h
    rw [hBk] at h
    exact h.1
  obtain ⟨W1, hW1⟩ : ∃ W1, (w.alloc (.deferred (some []))).alloc (.loop (rec .ready none)) = W1 := ⟨_, rfl⟩
  have hz1 : W1.heap.size = D + 1 + 1 := by rw [← hW1, hD]; simp
  have hb1 : Below w.heap.size w W1 := by rw [← hW1]; exact ((Below.refl _ w).alloc (Nat.le_refl _) _).alloc (by simp) _
  have bk1 : Bk .ready none (T W1) := by
    rw [hBk]
    refine ⟨(hT _ _ (by omega)).trans ?_, (hT _ _ (by omega)).trans ?_⟩
    · rw [← hW1, hD]
      have := World.alloc_heap_new (w.alloc (.deferred (some []))) (.loop (rec .ready none))
      rwa [World.size_alloc] at this
    · rw [← hW1, hD]
      exact (Below.heap_alloc _ _ _ (by simp)).trans (World.alloc_heap_new w _)
  refine ⟨D + 1, [{ target := .collected D, args := #[] }], W1, { target := .fn (.func gf) lb, args := #[.func (.yield (D + 1)) #[] #[]] }, W1, gf, #[.func (.yield (D + 1)) #[] #[]] ++ lb, W1, ?_, ?_, ?_, ?_, fun _ => h1, ?_⟩
  · rw [← hW1, hrec, hD]; exact run_enterLoop_outer _ _ _ _ _
  · simp only [resolve, hg]
    simp [go_sem]
  · intro f' hf'; simp [Target.leads] at hf'; subst hf'; exact hFg
  · simp [invoke, go_sem, eg]
  · have turnI : ∀ {A : World} {row : Option Nat}, (∀ r, row = some r → W1.heap.size ≤ r ∧ ∃ o : Obj, A.heap[r]? = some o ∧ o.isWalk = true) → (∀ r, row = some r → w.heap.size ≤ r ∧ ∃ o : Obj, A.heap[r]? = some o ∧ o.isCells = false) := by
      intro A row hr r e
      obtain ⟨hB, o, ho, hw⟩ := hr r e
      exact ⟨by omega, o, ho, Obj.not_cells_of_walk hw⟩
    refine (hseq (D + 1) (fun pre W => I pre W ∧ Bk .ready none W) (fun pre W => ∃ c, Ix c pre W ∧ Bk .done (some c) W) W1 hb1 ?_ ?_ ?_ ⟨h0 W1 hb1, bk1⟩).mono ?_
    · exact fun s A B row hs hg' hr => ⟨hI s A B row hs.1 hg' (turnI hr), bkWalk hs.2 hg' (fun r e => (hr r e).2)⟩
    · rintro s A B row ⟨c, hc, hk⟩ hg' hr
      exact ⟨c, hIx c s A B row hc hg' (turnI hr), bkWalk hk hg' (fun r e => (hr r e).2)⟩
    · rintro pre x W ⟨hi, hk⟩ hpre
      have hy := run_yield (P := P) (args := encs x) (bkLoop hk) (by rw [hrec]; exact hps x)
      rw [hrec] at hy
      refine ⟨fn, _, assign, body, hy, roundIn_of_wpIn hfn (hassign _ pre x W _ hi ?_)⟩
      intro a' Wa ka kpa ia ax
      have hka := bkKeep hk (hD ▸ ka)
      refine ⟨_, run_beginRound (bkLoop hka) (by rw [hrec]), ?_⟩
      have heq : ({ rec .ready none with state := .busy } : Loop) = rec .busy none := by rw [hrec]
      rw [heq]
      have hkb : Bk .busy none (Wa.putObj (D + 1) (.loop (rec .busy none))) := bkPut hka
      have put : ∀ (W : World) (st : LoopState) (pe : Option Code), Kp W (W.putObj (D + 1) (.loop (rec st pe))) := fun W st pe => hKb _ _ _ (by omega)
      refine wpIn_mono (hbody _ pre x a' _ (by omega) ⟨_, bkLoop hkb⟩ (hI.putObj _ ia (by omega) (bkLoop hka) rfl) ((hAx x a').putObj (s := ()) _ ax (by omega) (bkLoop hka) rfl) hpre) ?_
      -- the round's end
      have leave : ∀ (jump : Option Code) (W3 : World), KeepsFrom D (Wa.putObj (D + 1) (.loop (rec .busy none))) W3 →
          (Instr.endRound (D + 1) jump).run P W3 = .ok (.bool jump.isNone) (W3.putObj (D + 1) (.loop (rec (if jump.isNone then .ready else .done) jump))) ∧ Bk .busy none W3 := by
        intro jump W3 k3
        have h3 := bkKeep hkb k3
        have hend := run_endRound (P := P) jump (bkLoop h3)
        rw [hrec] at hend ⊢
        exact ⟨hend, h3⟩
      have out : ∀ (c : Code) (W3 : World), KeepsFrom w.heap.size (Wa.putObj (D + 1) (.loop (rec .busy none))) W3 → Ix c (pre ++ [x]) W3 →
          ∃ v w', (Instr.endRound (D + 1) (some c)).run P W3 = .ok v w' ∧ ((Ending.returned v = .returned (.bool true) ∧ (I (pre ++ [x]) w' ∧ Bk .ready none w') ∧ Kp W w') ∨ (Ending.returned v = .returned (.bool false) ∧ ∃ c, Ix c (pre ++ [x]) w' ∧ Bk .done (some c) w')) := by
        intro c W3 k3 i3
        obtain ⟨hr, h3⟩ := leave (some c) W3 (hD ▸ k3)
        exact ⟨_, _, hr, .inr ⟨rfl, c, (hIx c).putObj _ i3 (by omega) (bkLoop h3) rfl, bkPut h3⟩⟩
      rintro e a3 W3 hp
      cases e with
      | normal =>
        obtain ⟨k3, kp3, i3⟩ := hp
        obtain ⟨hr, h3⟩ := leave none W3 (hD ▸ k3)
        exact ⟨_, _, hr, .inl ⟨rfl, ⟨hI.putObj _ i3 (by omega) (bkLoop h3) rfl, bkPut h3⟩, hKt kpa (hKt (hKt (put _ _ _) kp3) (put _ _ _))⟩⟩
      | ret => exact out _ W3 hp.1 hp.2
      | exit id => exact out _ W3 hp.1 hp.2
      | goto t => exact out _ W3 hp.1 hp.2
      | panic ch => exact hp.elim
      | outgrown => exact hp.elim
    · have fin : ∀ {st pe W2}, Bk st pe W2 → st ≠ .busy → (Instr.endLoop (D + 1)).run P W2 = .ok pe (W2.putObj (D + 1) (.loop (rec .exhausted pe))) ∧ (W2.putObj (D + 1) (.loop (rec .exhausted pe))).heap[D]? = some (.deferred (some [])) := by
        intro st pe W2 h hst
        have he := run_endLoop (P := P) (bkLoop h) (by rw [hrec]; exact hst)
        have h2 := bkPut (st' := .exhausted) (pe' := pe) h
        rw [hBk] at h2
        rw [hrec] at he h2 ⊢
        exact ⟨he, h2.2⟩
      rintro e W2 ⟨⟨v, rfl⟩, (⟨hi, hk⟩ | ⟨pre, hpre, c, hi, hk⟩)⟩
      · obtain ⟨he, hd⟩ := fin hk (by simp)
        exact ⟨none, _, he, hdone D _ (by omega) (hI.putObj _ hi (by omega) (bkLoop hk) rfl) hd⟩
      · obtain ⟨he, hd⟩ := fin hk (by simp)
        exact ⟨some c, _, he, hstop D c pre _ (by omega) hpre ((hIx c).putObj _ hi (by omega) (bkLoop hk) rfl) hd⟩
end Go.Proofs.YtmfnonepcipplaaDoor
