/-
  Tokens rise, and stand within the file.
-/
import Derived.Test.YtjcldgogjgchiaaGreatDoorAlive2
namespace Go.Proofs.YtjcldgogjgchiaaGreatDoor
open Go Go.RowKit Cutting Wording

/-- Places rise from lo to hi. -/
def Rise (hi : Nat) : Nat → List (Tk × Nat) → Prop
  | lo, [] => lo ≤ hi
  | lo, x :: l => lo ≤ x.2 ∧ Rise hi x.2 l
theorem Rise.le {hi : Nat} : ∀ {lo : Nat} {l : List (Tk × Nat)}, Rise hi lo l → lo ≤ hi
  | _, [], h => h
  | _, _ :: _, h => Nat.le_trans h.1 h.2.le
theorem Rise.low {hi lo lo' : Nat} {l : List (Tk × Nat)} (h : Rise hi lo l) (hl : lo' ≤ lo) : Rise hi lo' l := by
  cases l with
  | nil => exact Nat.le_trans hl h
  | cons x l => exact ⟨Nat.le_trans hl h.1, h.2⟩
theorem Rise.append {mid hi : Nat} : ∀ {lo : Nat} {l m : List (Tk × Nat)}, Rise mid lo l → Rise hi mid m → Rise hi lo (l ++ m)
  | _, [], _, h, h2 => h2.low h
  | _, _ :: _, _, h, h2 => ⟨h.1, h.2.append h2⟩
theorem codeT_rise : ∀ (n : Nat) (r : L) (a : Nat), r.length ≤ n → (∀ l, codeT a r = .ok l → Rise (a + r.length) a l) ∧ (∀ x, codeT a r = .error x → x.2 ≤ a + r.length) := by
  intro n
  induction n with
  | zero =>
    intro r a h
    have := List.eq_nil_of_length_eq_zero (Nat.le_zero.1 h)
    subst this
    rw [codeT_step, gapN_nil]
    refine ⟨fun l hl => ?_, fun x hx => ?_⟩
    · simp at hl; subst hl; exact Nat.le_refl _
    · simp at hx
  | succ n ih =>
    intro r a h
    rw [codeT_step]
    have hg := gapN_le r
    split
    · exact ⟨fun l hl => (by cases hl), fun x hx => by injection hx with hx; subst hx; dsimp only; omega⟩
    · split
      · refine ⟨fun l hl => ?_, fun x hx => by cases hx⟩
        injection hl with hl; subst hl; show a ≤ _; omega
      · next h2 =>
        have hne : r.drop (gapN r).1 ≠ [] := by intro h; rw [h] at h2; simp at h2
        have hl := List.length_pos_iff.2 hne
        rw [List.length_drop] at hl
        cases ht : tokT (r.drop (gapN r).1) with
        | error y =>
          have := (tokT_err _ _ ht).2
          rw [List.length_drop] at this
          exact ⟨fun l hl => (by cases hl), fun x hx => by injection hx with hx; subst hx; dsimp only; omega⟩
        | ok y =>
          have hy := tokT_le _ hne y ht
          rw [List.length_drop] at hy
          have hi := ih ((r.drop (gapN r).1).drop y.2) (a + (gapN r).1 + y.2) (by rw [List.length_drop, List.length_drop]; omega)
          rw [List.length_drop, List.length_drop] at hi
          dsimp only
          cases hc : codeT (a + (gapN r).1 + y.2) ((r.drop (gapN r).1).drop y.2) with
          | error z =>
            refine ⟨fun l hl => (by cases hl), fun x hx => ?_⟩
            injection hx with hx; subst hx
            have := hi.2 _ hc
            omega
          | ok z =>
            refine ⟨fun l hl => ?_, fun x hx => by cases hx⟩
            injection hl with hl; subst hl
            have := hi.1 _ hc
            rw [show a + (gapN r).1 + y.2 + (r.length - (gapN r).1 - y.2) = a + r.length by omega] at this
            exact ⟨by dsimp only; omega, this.low (by dsimp only; omega)⟩
theorem endedB_le {f t : L} {x : Nat} (h : endedB f t x = true) : x + t.length ≤ f.length := by
  unfold endedB at h
  rw [Bool.and_eq_true, Bool.and_eq_true] at h
  have h1 := hasPrefix_length h.1.2
  have h2 := of_decide_eq_true h.1.1
  rw [List.length_drop, Int.toNat_natCast] at h1
  omega
theorem pieceT_rise (f : L) (p : Pc) : (∀ l, pieceT f p = .ok l → Rise (p.at_ + p.text.length) p.at_ l) ∧ (∀ x, pieceT f p = .error x → x.2 ≤ p.at_ + p.text.length) := by
  have hc := codeT_rise _ p.text p.at_ (Nat.le_refl _)
  unfold pieceT
  split
  · exact ⟨fun l hl => by injection hl with hl; subst hl; exact ⟨Nat.le_refl _, Nat.le_add_right _ _⟩, fun x hx => by cases hx⟩
  · cases hr : codeT p.at_ p.text with
    | error y => exact ⟨fun l hl => (by simp only [prep] at hl; cases hl), fun x hx => by simp only [prep] at hx; injection hx with hx; subst hx; exact hc.2 _ hr⟩
    | ok m =>
      refine ⟨fun l hl => ?_, fun x hx => by simp only [prep] at hx; cases hx⟩
      simp only [prep] at hl
      injection hl with hl
      subst hl
      refine Rise.append (mid := p.at_ + p.text.length) (Rise.append (mid := p.at_) ?_ (hc.1 _ hr)) ?_
      · split
        · exact ⟨Nat.le_refl _, Nat.le_refl _⟩
        · exact Nat.le_refl _
      · split
        · exact ⟨Nat.le_refl _, Nat.le_refl _⟩
        · exact Nat.le_refl _
theorem piecesT_rise (f : L) : ∀ (l : List Pc) (a : Nat) (h : Bool), a ≤ f.length → Within f a h l → (∀ m, piecesT f l = .ok m → Rise f.length a m) ∧ (∀ x, piecesT f l = .error x → x.2 ≤ f.length) := by
  intro l
  induction l with
  | nil => intro a h ha _; exact ⟨fun m hm => by injection hm with hm; subst hm; exact ha, fun x hx => by cases hx⟩
  | cons p l ih =>
    intro a h ha hw
    obtain ⟨w1, w2, _, _, w5⟩ := hw
    have hp := pieceT_rise f p
    have hi := ih _ _ w2 w5
    rw [piecesT]
    cases hr : pieceT f p with
    | error y => exact ⟨fun m hm => (by cases hm), fun x hx => by injection hx with hx; subst hx; exact Nat.le_trans (hp.2 _ hr) w2⟩
    | ok m =>
      dsimp only
      cases hc : piecesT f l with
      | error y => exact ⟨fun m hm => (by simp only [prep] at hm; cases hm), fun x hx => by simp only [prep] at hx; injection hx with hx; subst hx; exact hi.2 _ hc⟩
      | ok m2 =>
        refine ⟨fun k hk => ?_, fun x hx => by simp only [prep] at hx; cases hx⟩
        simp only [prep] at hk
        injection hk with hk
        subst hk
        exact ((hp.1 _ hr).append (hi.1 _ hc)).low w1
theorem fileT_rise (f : L) : (∀ m, fileT f = .ok m → Rise f.length 0 m) ∧ (∀ x, fileT f = .error x → x.1 ≠ 0 ∧ x.2 ≤ f.length) := by
  have h := piecesT_rise f (pieces f) 0 false (Nat.zero_le _) (within_all f)
  refine ⟨h.1, fun x hx => ⟨?_, h.2 x hx⟩⟩
  have key : ∀ l : List Pc, piecesT f l = .error x → x.1 ≠ 0 := by
    intro l
    induction l with
    | nil => intro h; cases h
    | cons p l ih =>
      intro h
      rw [piecesT] at h
      cases hr : pieceT f p with
      | error y => rw [hr] at h; injection h with h; subst h; exact pieceT_err _ _ _ hr
      | ok m =>
        rw [hr] at h
        dsimp only at h
        cases hc : piecesT f l with
        | error y => rw [hc] at h; simp only [prep] at h; injection h with h; subst h; exact ih hc
        | ok m2 => rw [hc] at h; simp only [prep] at h; cases h
  exact key _ hx
theorem lnN_mono (f : L) {a b : Nat} (h : a ≤ b) : lnN f a ≤ lnN f b := by rw [← ln_add f a b h]; omega
end Go.Proofs.YtjcldgogjgchiaaGreatDoor
