/-
  Plain facts: blanks put in where a token of a file's code begins turn nothing but places.
-/
import Derived.Test.YtjcldgogjgchiaaGreatDoorRises
import Derived.Test.YtjcldgogjgchiaaGreatDoorStayE
namespace Go.Proofs.YtjcldgogjgchiaaGreatDoor
open Go Cutting Wording

/- ---- where code is opened -/
theorem openN_lt : ∀ r : L, (openN r).kind ≠ 0 → r[(openN r).mark]? = some 60 := by
  intro r
  induction r with
  | nil => intro h; exact absurd rfl h
  | cons b r ih =>
    intro h
    simp only [openN] at h ⊢
    split at h
    · next h1 =>
      rw [if_pos h1]
      obtain ⟨t, ht⟩ := hp_eq h1
      injection ht with ht _
      simp [ht]
    · next h1 =>
      rw [if_neg h1]
      split at h
      · next h2 =>
        rw [if_pos h2]
        have hp : isPhp (b :: r) = true := by
          rw [← Bool.not_eq_false]
          intro hp
          simp [phpN, hp] at h2
        simp only [isPhp, beq_iff_eq, List.take_succ_cons, List.map_cons, List.cons.injEq] at hp
        have hb := hp.1
        unfold lowB at hb
        split at hb
        · next hc =>
          exfalso
          simp only [Bool.and_eq_true, decide_eq_true_eq, UInt8.le_iff_toNat_le] at hc
          have := congrArg UInt8.toNat hb
          rw [UInt8.toNat_add] at this
          have e1 : (65 : UInt8).toNat = 65 := rfl
          have e2 : (90 : UInt8).toNat = 90 := rfl
          have e3 : (32 : UInt8).toNat = 32 := rfl
          have e4 : (60 : UInt8).toNat = 60 := rfl
          omega
        · simp [hb]
      · next h2 =>
        rw [if_neg h2]
        split at h
        · exact absurd rfl h
        · next h3 =>
          rw [if_neg h3]
          simp only [List.getElem?_cons_succ]
          exact ih h3
theorem openN_stay (X X' : L) (h10 : ∀ t, X' = 10 :: t → ∃ t2, X = 10 :: t2) : ∀ hd : L, (openN (hd ++ X)).kind ≠ 0 → (openN (hd ++ X)).code = hd.length → (X ≠ [] ∨ (openN (hd ++ X)).kind = 3) → openN (hd ++ X') = openN (hd ++ X) := by
  intro hd
  induction hd with
  | nil =>
    intro hk hc _
    have := (openN_le ([] ++ X)).2.2 hk
    rw [hc, List.length_nil] at this
    omega
  | cons b hd ih =>
    intro hk hc hX
    have h3 : 3 ≤ (b :: hd).length := by
      have := (openN_le (b :: hd ++ X)).2.2 hk
      omega
    have e1 : Lib.hasPrefix (b :: (hd ++ X')) [60, 63, 61] = Lib.hasPrefix (b :: (hd ++ X)) [60, 63, 61] := hp_len (t := b :: hd) X' X h3
    rw [List.cons_append] at hk hc hX ⊢
    rw [List.cons_append]
    simp only [openN] at hk hc hX ⊢
    rw [e1]
    by_cases c1 : Lib.hasPrefix (b :: (hd ++ X)) [60, 63, 61] = true
    · rw [if_pos c1, if_pos c1]
    · rw [if_neg c1] at hk hc hX ⊢
      rw [if_neg c1]
      by_cases c2 : 0 < phpN (b :: (hd ++ X))
      · rw [if_pos c2] at hk hc hX ⊢
        have hXn : X ≠ [] := by
          rcases hX with h | h
          · exact h
          · simp at h
        dsimp only at hc
        have hp : isPhp (b :: (hd ++ X)) = true := by
          rw [← Bool.not_eq_false]
          intro hp
          simp [phpN, hp] at c2
        have hle := phpN_le (b :: (hd ++ X))
        have hbl : (b :: hd).length = hd.length + 1 := rfl
        have h5 : 5 ≤ (b :: hd).length := by omega
        have hp' : isPhp (b :: (hd ++ X')) = true := by
          unfold isPhp at hp ⊢
          have : (b :: (hd ++ X')).take 5 = (b :: (hd ++ X)).take 5 := take_app (u := b :: hd) (v := X) h5 X'
          rw [this]; exact hp
        have d : ∀ Y : L, (b :: (hd ++ Y)).drop 5 = (b :: hd).drop 5 ++ Y := fun Y => List.drop_append_of_le_length (l₁ := b :: hd) h5
        have hph : phpN (b :: (hd ++ X')) = phpN (b :: (hd ++ X)) := by
          unfold phpN at hc ⊢
          rw [hp, if_pos rfl, d] at hc
          rw [hp, hp', if_pos rfl, if_pos rfl, d, d]
          have hl5 : ((b :: hd).drop 5).length = (b :: hd).length - 5 := List.length_drop
          cases hq : (b :: hd).drop 5 with
          | nil =>
            rw [hq] at hc hl5
            obtain ⟨x, t, rfl⟩ := List.exists_cons_of_ne_nil hXn
            dsimp only [List.nil_append] at hc
            simp only [List.length_nil] at hl5
            split at hc
            · omega
            · split at hc <;> omega
          | cons x q =>
            rw [hq] at hc hl5
            dsimp only [List.cons_append] at hc ⊢
            cases q with
            | nil =>
              simp only [List.length_cons, List.length_nil] at hl5
              rw [List.nil_append] at hc
              rw [List.nil_append, List.nil_append]
              have hno : ¬ Lib.hasPrefix (x :: X) [13, 10] = true := by intro h; rw [if_pos h] at hc; omega
              rw [if_neg hno]
              have hno' : ¬ Lib.hasPrefix (x :: X') [13, 10] = true := by
                intro h
                obtain ⟨t, ht⟩ := hp_eq h
                injection ht with ht1 ht2
                obtain ⟨t2, ht3⟩ := h10 t ht2
                exact hno (by rw [ht1, ht3, hp_cons, hp_cons, hp_nil]; rfl)
              rw [if_neg hno']
            | cons y q =>
              have : Lib.hasPrefix (x :: (y :: q ++ X')) [13, 10] = Lib.hasPrefix (x :: (y :: q ++ X)) [13, 10] := hp_len (t := x :: y :: q) X' X (by simp)
              rw [this]
        rw [hph, if_pos c2]
      · rw [if_neg c2] at hk hc hX ⊢
        by_cases c3 : (openN (hd ++ X)).kind = 0
        · rw [if_pos c3] at hk; exact absurd rfl hk
        · rw [if_neg c3] at hk hc hX ⊢
          dsimp only at hc hX
          rw [List.length_cons] at hc
          have hi := ih c3 (by omega) hX
          have hle := (openN_le (hd ++ X)).2.2 c3
          have hlt := openN_lt (hd ++ X) c3
          rw [List.getElem?_append_left (by omega)] at hlt
          have hph : ¬ 0 < phpN (b :: (hd ++ X')) := by
            intro h
            have hp : isPhp (b :: (hd ++ X')) = true := by
              rw [← Bool.not_eq_false]
              intro hp
              simp [phpN, hp] at h
            by_cases h6 : 6 ≤ (b :: hd).length
            · have hp' : isPhp (b :: (hd ++ X)) = true := by
                unfold isPhp at hp ⊢
                have : (b :: (hd ++ X')).take 5 = (b :: (hd ++ X)).take 5 := take_app (u := b :: hd) (v := X) (by omega) X'
                rw [← this]; exact hp
              have d : ∀ Y : L, (b :: (hd ++ Y)).drop 5 = (b :: hd).drop 5 ++ Y := fun Y => List.drop_append_of_le_length (l₁ := b :: hd) (by omega)
              unfold phpN at h c2
              rw [hp, if_pos rfl, d] at h
              rw [hp', if_pos rfl, d] at c2
              cases hq : (b :: hd).drop 5 with
              | nil => have := congrArg List.length hq; rw [List.length_drop, List.length_nil] at this; omega
              | cons x q =>
                rw [hq] at h c2
                dsimp only [List.cons_append] at h c2
                have c4 : ¬ Lib.hasPrefix (x :: (q ++ X)) [13, 10] = true := by intro h4; rw [if_pos h4] at c2; omega
                rw [if_neg c4] at c2
                have c5 : ¬ blankB x = true := by intro h5; rw [if_pos h5] at c2; omega
                have c6 : ¬ Lib.hasPrefix (x :: (q ++ X')) [13, 10] = true := by
                  intro h6
                  obtain ⟨t, ht⟩ := hp_eq h6
                  injection ht with ht1 _
                  exact c5 (by rw [ht1]; rfl)
                rw [if_neg c6, if_neg c5] at h
                omega
            · have hm1 : (openN (hd ++ X)).mark ≤ 1 := by simp only [List.length_cons] at h6; omega
              have hl3 : 3 ≤ hd.length := by omega
              obtain ⟨y0, y1, y2, t, rfl⟩ : ∃ y0 y1 y2 t, hd = y0 :: y1 :: y2 :: t := by
                match hd, hl3 with
                | y0 :: y1 :: y2 :: t, _ => exact ⟨y0, y1, y2, t, rfl⟩
              simp only [isPhp, beq_iff_eq, List.cons_append, List.take_succ_cons, List.map_cons, List.cons.injEq] at hp
              have hb1 := hp.2.1
              have hb2 := hp.2.2.1
              have l60 : lowB 60 = 60 := by decide
              have hm : (openN (y0 :: y1 :: y2 :: t ++ X)).mark = 0 ∨ (openN (y0 :: y1 :: y2 :: t ++ X)).mark = 1 := by omega
              rcases hm with hm | hm
              · rw [hm] at hlt
                have : y0 = 60 := by simpa using hlt
                rw [this, l60] at hb1
                revert hb1; decide
              · rw [hm] at hlt
                have : y1 = 60 := by simpa using hlt
                rw [this, l60] at hb2
                revert hb2; decide
          rw [if_neg hph, hi, if_neg c3]

/- ---- a file's tokens, from a place on -/
theorem code_tail : ∀ (n : Nat) (r : L), r.length ≤ n → r.drop (codeN r) = [] ∨ Lib.hasPrefix (r.drop (codeN r)) [63, 62] = true := by
  intro n
  induction n with
  | zero => intro r h; have := List.eq_nil_of_length_eq_zero (Nat.le_zero.1 h); subst this; exact .inl rfl
  | succ n ih =>
    intro r h
    by_cases hc : (r.isEmpty || Lib.hasPrefix r [63, 62]) = true
    · rw [codeN_eq, if_pos hc, List.drop_zero]
      rw [Bool.or_eq_true, List.isEmpty_iff] at hc
      exact hc
    · have hr : r ≠ [] := by rintro rfl; simp at hc
      have hs := stepN_le r hr
      rw [codeN_eq, if_neg hc, ← List.drop_drop]
      exact ih _ (by rw [List.length_drop]; omega)
theorem close_stop {t : L} (h : Lib.hasPrefix t [63, 62] = true) : Stop t ∧ t.head? ≠ some 10 ∧ codeN t = 0 := by
  obtain ⟨x, rfl⟩ := hp_eq h
  refine ⟨⟨63, 62 :: x, rfl, .inr (.inr (.inr rfl))⟩, by simp, ?_⟩
  rw [codeN_eq, h]; simp
theorem TailOk.of {r : L} : TailOk (r.drop (codeN r)) := by
  rcases code_tail _ r (Nat.le_refl _) with h | h
  · exact .inl h
  · exact .inr (close_stop h).1
def sufF : Nat → Nat → L → R (List (Tk × Nat))
  | 0, _, _ => .ok []
  | f + 1, a, r =>
    if r.isEmpty then .ok [] else
    prep (if 0 < (openN r).mark then [(⟨1, r.take (openN r).mark, 0, []⟩, a)] else [])
      (if (openN r).kind = 0 then .ok [] else
        match codeT (a + (openN r).code) ((r.drop (openN r).code).take (codeN (r.drop (openN r).code))) with
        | .error y => .error y
        | .ok m => prep ((if (openN r).kind = 3 then [(signT [101, 99, 104, 111], a + (openN r).code)] else []) ++ m ++ (if Lib.hasPrefix ((r.drop (openN r).code).drop (codeN (r.drop (openN r).code))) [63, 62] then [(signT [63, 62], a + (openN r).code + codeN (r.drop (openN r).code))] else []))
          (sufF f (a + nextN r) (r.drop (nextN r))))
theorem sufF_fuel : ∀ (f g a : Nat) (r : L), r.length ≤ f → r.length ≤ g → sufF f a r = sufF g a r := by
  intro f
  induction f with
  | zero =>
    intro g a r h _
    have := List.eq_nil_of_length_eq_zero (Nat.le_zero.1 h); subst this
    cases g <;> rfl
  | succ f ih =>
    intro g a r h hg
    cases g with
    | zero => have := List.eq_nil_of_length_eq_zero (Nat.le_zero.1 hg); subst this; rfl
    | succ g =>
      simp only [sufF]
      split
      · rfl
      · congr 1
        split
        · rfl
        · next hk =>
          have hn := nextN_le r hk
          rw [ih g _ _ (by rw [List.length_drop]; omega) (by rw [List.length_drop]; omega)]
def sufT (a : Nat) (r : L) : R (List (Tk × Nat)) := sufF r.length a r
/-- The tokens of the first text outside of code; and those of the first piece of code, the code's own given. -/
def htmlT (a : Nat) (r : L) : List (Tk × Nat) := if 0 < (openN r).mark then [(⟨1, r.take (openN r).mark, 0, []⟩, a)] else []
def echoT (a : Nat) (r : L) : List (Tk × Nat) := if (openN r).kind = 3 then [(signT [101, 99, 104, 111], a + (openN r).code)] else []
def closeT (x : Nat) (t : L) : List (Tk × Nat) := if Lib.hasPrefix t [63, 62] then [(signT [63, 62], x)] else []
theorem sufT_eq (a : Nat) (r : L) (h : r ≠ []) : sufT a r = prep (htmlT a r) (if (openN r).kind = 0 then .ok [] else
    match codeT (a + (openN r).code) ((r.drop (openN r).code).take (codeN (r.drop (openN r).code))) with
    | .error y => .error y
    | .ok m => prep (echoT a r ++ m ++ closeT (a + (openN r).code + codeN (r.drop (openN r).code)) ((r.drop (openN r).code).drop (codeN (r.drop (openN r).code)))) (sufT (a + nextN r) (r.drop (nextN r)))) := by
  unfold sufT
  cases r with
  | nil => exact absurd rfl h
  | cons b r =>
    rw [List.length_cons, sufF, if_neg (by simp)]
    show prep (htmlT a (b :: r)) _ = _
    congr 1
    split
    · rfl
    · next hk =>
      have hn := nextN_le (b :: r) hk
      rw [sufF_fuel r.length (((b :: r).drop (nextN (b :: r))).length) _ _ (by rw [List.length_drop, List.length_cons]; omega) (Nat.le_refl _)]
      rfl
theorem sufT_nil (a : Nat) : sufT a [] = .ok [] := rfl
theorem suf_pieces (f : L) : ∀ (n : Nat) (a : Nat) (r : L), r.length ≤ n → a ≤ f.length → f.drop a = r → piecesT f (piecesN a r) = sufT a r := by
  intro n
  induction n with
  | zero => intro a r h _ _; have := List.eq_nil_of_length_eq_zero (Nat.le_zero.1 h); subst this; rfl
  | succ n ih =>
    intro a r h ha hf
    by_cases hr : r = []
    · subst hr; rfl
    · rw [piecesN_eq a r hr, sufT_eq a r hr]
      have hfl : f.length = a + r.length := by have := congrArg List.length hf; rw [List.length_drop] at this; omega
      have hcode : piecesT f (if (openN r).kind = 0 then [] else codePc a r :: piecesN (a + nextN r) (r.drop (nextN r))) = (if (openN r).kind = 0 then .ok [] else
          match codeT (a + (openN r).code) ((r.drop (openN r).code).take (codeN (r.drop (openN r).code))) with
          | .error y => .error y
          | .ok m => prep (echoT a r ++ m ++ closeT (a + (openN r).code + codeN (r.drop (openN r).code)) ((r.drop (openN r).code).drop (codeN (r.drop (openN r).code)))) (sufT (a + nextN r) (r.drop (nextN r)))) := by
        split
        · rfl
        · next hk =>
          have hn := nextN_le r hk
          have ho := (openN_le r).2.2 hk
          have hcl := codeN_le (r.drop (openN r).code)
          rw [List.length_drop] at hcl
          rw [piecesT]
          have hkk := openN_kind r
          have hpe : pieceT f (codePc a r) = match codeT (a + (openN r).code) ((r.drop (openN r).code).take (codeN (r.drop (openN r).code))) with
              | .error y => .error y
              | .ok m => .ok (echoT a r ++ m ++ closeT (a + (openN r).code + codeN (r.drop (openN r).code)) ((r.drop (openN r).code).drop (codeN (r.drop (openN r).code)))) := by
            unfold pieceT codePc
            dsimp only
            rw [if_neg (by omega)]
            have hen : endedB f ((r.drop (openN r).code).take (codeN (r.drop (openN r).code))) ((a + (openN r).code : Nat) : Int) = Lib.hasPrefix ((r.drop (openN r).code).drop (codeN (r.drop (openN r).code))) [63, 62] := by
              have e1 : f.drop (a + (openN r).code) = r.drop (openN r).code := by rw [← List.drop_drop, hf]
              have e2 : Lib.hasPrefix (r.drop (openN r).code) ((r.drop (openN r).code).take (codeN (r.drop (openN r).code))) = true := List.isPrefixOf_iff_prefix.2 (List.take_prefix _ _)
              have e3 : ((r.drop (openN r).code).take (codeN (r.drop (openN r).code))).length = codeN (r.drop (openN r).code) := by rw [List.length_take, List.length_drop]; omega
              have e4 : f.drop (a + (openN r).code + codeN (r.drop (openN r).code)) = (r.drop (openN r).code).drop (codeN (r.drop (openN r).code)) := by rw [← List.drop_drop, e1]
              unfold endedB
              rw [Int.toNat_natCast, e3, e4, e1, e2, decide_eq_true (by omega), Bool.and_true, Bool.true_and]
            have e3 : ((r.drop (openN r).code).take (codeN (r.drop (openN r).code))).length = codeN (r.drop (openN r).code) := by rw [List.length_take, List.length_drop]; omega
            cases hc : codeT (a + (openN r).code) ((r.drop (openN r).code).take (codeN (r.drop (openN r).code))) with
            | error y => rfl
            | ok m =>
              simp only [prep, hen, e3]
              rfl
          rw [hpe]
          cases hc : codeT (a + (openN r).code) ((r.drop (openN r).code).take (codeN (r.drop (openN r).code))) with
          | error y => rfl
          | ok m =>
            dsimp only
            rw [ih (a + nextN r) (r.drop (nextN r)) (by rw [List.length_drop]; omega) (by omega) (by rw [← List.drop_drop, hf])]
      by_cases hm : 0 < (openN r).mark
      · rw [htmlN, if_pos hm, htmlT, if_pos hm, List.cons_append, List.nil_append, piecesT, hcode]
        rfl
      · rw [htmlN, if_neg hm, htmlT, if_neg hm, List.nil_append, prep_nil, hcode]
theorem fileT_suf (f : L) : fileT f = sufT 0 f := by
  unfold fileT
  rw [pieces_eq]
  exact suf_pieces f _ 0 f (Nat.le_refl _) (Nat.zero_le _) (List.drop_zero ..)
theorem prep_ok {l : List (Tk × Nat)} {r : R (List (Tk × Nat))} {k : List (Tk × Nat)} (h : prep l r = .ok k) : ∃ m, r = .ok m ∧ k = l ++ m := by
  cases r with
  | error y => cases h
  | ok m => injection h with h; exact ⟨m, rfl, h.symm⟩
theorem SameT.append {l l' m m' : List (Tk × Nat)} (h1 : SameT l l') (h2 : SameT m m') : SameT (l ++ m) (l' ++ m') := by
  unfold SameT at *
  rw [List.map_append, List.map_append, h1, h2]
theorem same_html (a a' : Nat) (r : L) : SameT (htmlT a r) (htmlT a' r) := by unfold SameT htmlT; split <;> rfl
theorem same_echo (a a' : Nat) {r r' : L} (h : openN r' = openN r) : SameT (echoT a r) (echoT a' r') := by unfold SameT echoT; rw [h]; split <;> rfl
theorem same_close (x x' : Nat) {t t' : L} (h : Lib.hasPrefix t' [63, 62] = Lib.hasPrefix t [63, 62]) : SameT (closeT x t) (closeT x' t') := by unfold SameT closeT; rw [h]; split <;> rfl
theorem suf_any : ∀ (n : Nat) (r : L), r.length ≤ n → ∀ a a' l, sufT a r = .ok l → ∃ l', sufT a' r = .ok l' ∧ SameT l l' := by
  intro n
  induction n with
  | zero =>
    intro r h a a' l hl
    have := List.eq_nil_of_length_eq_zero (Nat.le_zero.1 h); subst this
    injection hl with hl; subst hl
    exact ⟨[], rfl, rfl⟩
  | succ n ih =>
    intro r h a a' l hl
    by_cases hr : r = []
    · subst hr; injection hl with hl; subst hl; exact ⟨[], rfl, rfl⟩
    · rw [sufT_eq _ _ hr] at hl ⊢
      obtain ⟨k, hk, rfl⟩ := prep_ok hl
      by_cases h0 : (openN r).kind = 0
      · rw [if_pos h0] at hk ⊢
        injection hk with hk; subst hk
        exact ⟨_, rfl, (same_html a a' r).append rfl⟩
      · rw [if_neg h0] at hk ⊢
        have hn := nextN_le r h0
        cases hc : codeT (a + (openN r).code) ((r.drop (openN r).code).take (codeN (r.drop (openN r).code))) with
        | error y => rw [hc] at hk; cases hk
        | ok m =>
          rw [hc] at hk
          dsimp only at hk
          obtain ⟨k2, hk2, rfl⟩ := prep_ok hk
          obtain ⟨m', hm', hsm⟩ := codeT_any _ _ (Nat.le_refl _) _ (a' + (openN r).code) m hc
          obtain ⟨k', hk', hsk⟩ := ih (r.drop (nextN r)) (by rw [List.length_drop]; omega) _ (a' + nextN r) k2 hk2
          rw [hm']
          dsimp only
          rw [hk']
          exact ⟨_, rfl, (same_html a a' r).append ((((same_echo a a' rfl).append hsm).append (same_close _ _ rfl)).append hsk)⟩
theorem codeT_gap (a : Nat) {g : L} (hg : GapL g) (r : L) : codeT a (g ++ r) = codeT (a + g.length) r := by
  have h := gap_blanks r g hg.blanks
  rw [codeT_step a, codeT_step (a + g.length), h]
  dsimp only
  have hd : (g ++ r).drop (g.length + (gapN r).1) = r.drop (gapN r).1 := by rw [← List.drop_drop, List.drop_left]
  rw [hd, show a + (g.length + (gapN r).1) = a + g.length + (gapN r).1 by omega]
theorem closeN_stay {t t' : L} (T x x' : L) (h4 : 4 ≤ T.length) (ht : t = T ++ x) (ht' : t' = T ++ x') : closeN t' = closeN t := by
  have d : ∀ y : L, (T ++ y).drop 2 = T.drop 2 ++ y := fun y => List.drop_append_of_le_length (by omega)
  unfold closeN
  rw [ht, ht', d, d, hp_len (p := [63, 62]) x' x (by simp; omega), hp_len (p := [10]) x' x (by rw [List.length_drop]; simp; omega), hp_len (p := [13, 10]) x' x (by rw [List.length_drop]; simp; omega)]
/-- The parts of the first piece of code, as they are when they are told. -/
theorem sufT_parts (a : Nat) (r : L) (C c n : Nat) (hd text tail rest : L) (k : Nat) (hr : r = hd ++ (text ++ tail)) (hdl : hd.length = C) (ho : (openN r).kind = k) (hk : k ≠ 0) (hC : (openN r).code = C) (hct : codeN (text ++ tail) = c) (htl : text.length = c)
    (hcl : closeN tail = n) (hrest : tail.drop n = rest) : sufT a r = prep (htmlT a r) (match codeT (a + C) text with
      | .error y => .error y
      | .ok m => prep (echoT a r ++ m ++ closeT (a + C + c) tail) (sufT (a + (C + c + n)) rest)) := by
  have hrn : r ≠ [] := by
    rintro rfl
    exact hk ho.symm
  have d1 : r.drop C = text ++ tail := by rw [hr, ← hdl, List.drop_left]
  have d2 : (text ++ tail).take c = text := by rw [← htl, List.take_left]
  have d3 : (text ++ tail).drop c = tail := by rw [← htl, List.drop_left]
  have d4 : r.drop (C + c) = tail := by rw [← List.drop_drop, d1, d3]
  have hn : nextN r = C + c + n := by unfold nextN; rw [hC, d1, hct, d4, hcl]
  have d5 : r.drop (C + c + n) = rest := by rw [← List.drop_drop, d4, hrest]
  rw [sufT_eq a r hrn, if_neg (by rw [ho]; exact hk), hn, hC, d1, hct, d2, d3, d5]
theorem html_stay (a : Nat) {hd X X' : L} (h : openN (hd ++ X') = openN (hd ++ X)) (hm : (openN (hd ++ X)).mark ≤ hd.length) : htmlT a (hd ++ X') = htmlT a (hd ++ X) := by
  unfold htmlT
  rw [h, take_app (v := X) hm X']
theorem suf_ins : ∀ (n : Nat) (r : L), r.length ≤ n → ∀ (a : Nat) l, sufT a r = .ok l → ∀ t q, (t, q) ∈ l → t.kind ≠ 1 → t.text ≠ [63, 62] →
    ∃ U V, r = U ++ V ∧ q = a + U.length ∧ 3 ≤ U.length ∧ ∀ g, GapL g → ∃ l', sufT a (U ++ (g ++ V)) = .ok l' ∧ SameT l l' := by
  intro n
  induction n with
  | zero =>
    intro r h a l hl t q hm
    have := List.eq_nil_of_length_eq_zero (Nat.le_zero.1 h); subst this
    injection hl with hl; subst hl
    cases hm
  | succ n ih =>
    intro r h a l hl t q hmem hk1 htx
    by_cases hr : r = []
    · subst hr; injection hl with hl; subst hl; cases hmem
    · by_cases h0 : (openN r).kind = 0
      · rw [sufT_eq _ _ hr, if_pos h0] at hl
        injection hl with hl
        rw [List.append_nil] at hl
        rw [← hl] at hmem
        unfold htmlT at hmem
        split at hmem
        · rw [List.mem_singleton] at hmem
          injection hmem with hm1 _
          exact absurd (by rw [hm1]) hk1
        · cases hmem
      · -- the parts
        have ho := (openN_le r).2.2 h0
        obtain ⟨C, hC⟩ : ∃ C, C = (openN r).code := ⟨_, rfl⟩
        obtain ⟨hd, hhd⟩ : ∃ hd, hd = r.take C := ⟨_, rfl⟩
        obtain ⟨X, hX⟩ : ∃ X, X = r.drop C := ⟨_, rfl⟩
        obtain ⟨c, hc⟩ : ∃ c, c = codeN X := ⟨_, rfl⟩
        obtain ⟨text, htext⟩ : ∃ text, text = X.take c := ⟨_, rfl⟩
        obtain ⟨tail, htail⟩ : ∃ tail, tail = X.drop c := ⟨_, rfl⟩
        obtain ⟨nn, hnn⟩ : ∃ nn, nn = closeN tail := ⟨_, rfl⟩
        obtain ⟨rest, hrest⟩ : ∃ rest, rest = tail.drop nn := ⟨_, rfl⟩
        rw [← hC] at ho
        have hdl : hd.length = C := by rw [hhd, List.length_take]; omega
        have hrX : r = hd ++ X := by rw [hhd, hX, List.take_append_drop]
        have hcle := codeN_le X
        rw [← hc] at hcle
        have htl : text.length = c := by rw [htext, List.length_take]; omega
        have hXt : X = text ++ tail := by rw [htext, htail, List.take_append_drop]
        have hst : Steps text tail := by
          have := codeN_steps _ X (Nat.le_refl _)
          rw [← hc] at this
          rw [htext, htail]; exact this
        have hto : TailOk tail := by rw [htail, hc]; exact TailOk.of
        have htc : codeN tail = 0 := by
          have := hst.code
          rw [← hXt, htl, ← hc] at this
          omega
        have hcX : codeN (text ++ tail) = c := by rw [← hXt, hc]
        have hparts := sufT_parts a r C c nn hd text tail rest (openN r).kind (by rw [← hXt]; exact hrX) hdl rfl h0 hC.symm hcX htl hnn.symm hrest.symm
        rw [hparts] at hl
        obtain ⟨k, hk, rfl⟩ := prep_ok hl
        have hokind : (openN (hd ++ X)).kind ≠ 0 := by rw [← hrX]; exact h0
        have hocode : (openN (hd ++ X)).code = hd.length := by rw [← hrX, ← hC, hdl]
        have homark : (openN (hd ++ X)).mark ≤ hd.length := by rw [← hrX, hdl]; omega
        cases hct : codeT (a + C) text with
        | error y => rw [hct] at hk; cases hk
        | ok m =>
          rw [hct] at hk
          dsimp only at hk
          obtain ⟨l2, hl2, rfl⟩ := prep_ok hk
          -- what a change of the code itself comes to
          have change : ∀ (text' : L) (m' : List (Tk × Nat)), (X ≠ [] ∨ (openN r).kind = 3) → (∀ t, text' ++ tail = 10 :: t → ∃ t2, X = 10 :: t2) → codeN (text' ++ tail) = text'.length → codeT (a + C) text' = .ok m' → SameT m m' →
              ∃ l', sufT a (hd ++ (text' ++ tail)) = .ok l' ∧ SameT (htmlT a r ++ (echoT a r ++ m ++ closeT (a + C + c) tail ++ l2)) l' := by
            intro text' m' hXn h10 hcn hm' hsm
            have hop : openN (hd ++ (text' ++ tail)) = openN (hd ++ X) := openN_stay X (text' ++ tail) h10 hd hokind hocode (by rw [← hrX]; exact hXn)
            have hp2 := sufT_parts a (hd ++ (text' ++ tail)) C text'.length nn hd text' tail rest (openN r).kind rfl hdl (by rw [hop, ← hrX]) h0 (by rw [hop, ← hrX, hC]) hcn rfl hnn.symm hrest.symm
            rw [hp2, hm']
            dsimp only
            obtain ⟨l2', hl2', hs2⟩ := suf_any _ rest (Nat.le_refl _) _ (a + (C + text'.length + nn)) l2 hl2
            rw [hl2', html_stay a hop homark, ← hrX]
            refine ⟨_, rfl, SameT.append rfl (SameT.append (SameT.append (SameT.append ?_ hsm) (same_close _ _ rfl)) hs2)⟩
            exact same_echo a a (by rw [hop, ← hrX])
          rcases List.mem_append.1 hmem with hmem | hmem
          · exfalso
            unfold htmlT at hmem
            split at hmem
            · rw [List.mem_singleton] at hmem
              injection hmem with hm1 _
              exact hk1 (by rw [hm1])
            · cases hmem
          · rcases List.mem_append.1 hmem with hmem | hmem
            · rcases List.mem_append.1 hmem with hmem | hmem
              · rcases List.mem_append.1 hmem with hmem | hmem
                · -- the call that a short mark stands for
                  unfold echoT at hmem
                  split at hmem
                  · next h3 =>
                    rw [List.mem_singleton] at hmem
                    injection hmem with _ hq
                    refine ⟨hd, X, hrX, by rw [hq, hdl, hC], by omega, fun g hG => ?_⟩
                    obtain ⟨m', hm', hsm⟩ := codeT_any _ text (Nat.le_refl _) _ (a + C + g.length) m hct
                    have hcn : codeN (g ++ text ++ tail) = (g ++ text).length := by
                      rw [List.append_assoc, (Steps.gap (v := text ++ tail) hG.2).code, hcX, List.length_append, htl]
                    have := change (g ++ text) m' (.inr h3) (fun t ht => by
                      obtain ⟨b, g2, rfl⟩ := List.exists_cons_of_ne_nil hG.1
                      injection ht with hb _
                      have := hG.2 b (by simp)
                      rw [hb] at this
                      simp at this) hcn (by rw [codeT_gap _ hG]; exact hm') hsm
                    rw [List.append_assoc, ← hXt] at this
                    exact this
                  · cases hmem
                · -- the code's own
                  obtain ⟨u, y, huy, hq, hnb, s1, s2, hI⟩ := code_split _ text (Nat.le_refl _) (a + C) tail hto hst m hct t q hmem
                  have hyn : y ≠ [] := by obtain ⟨b, t0, rfl, _⟩ := hnb; simp
                  have hXu : X = u ++ (y ++ tail) := by rw [hXt, huy, List.append_assoc]
                  refine ⟨hd ++ u, y ++ tail, by rw [List.append_assoc, ← hXu]; exact hrX, by rw [hq, List.length_append, hdl]; omega, by rw [List.length_append, hdl]; omega, fun g hG => ?_⟩
                  obtain ⟨m', hm', hsm⟩ := hI g hG
                  have hy10 : (y ++ tail).head? ≠ some 10 := by
                    obtain ⟨b, t0, rfl, hb⟩ := hnb
                    intro h10
                    rw [List.cons_append, List.head?_cons] at h10
                    injection h10 with h10
                    rw [h10] at hb
                    revert hb; decide
                  have s3 : Steps u (g ++ (y ++ tail)) := s1.loc (by simp [hyn]) hy10 (hG.blank _).stop (fun hp => by rw [(s2.inv hyn).1] at hp; cases hp)
                  have hcn : codeN (u ++ (g ++ y) ++ tail) = (u ++ (g ++ y)).length := by
                    have e : u ++ (g ++ y) ++ tail = u ++ (g ++ (y ++ tail)) := by simp
                    rw [e, s3.code, (Steps.gap (v := y ++ tail) hG.2).code, s2.code, htc]
                    simp
                  have := change (u ++ (g ++ y)) m' (.inl (by rw [hXu]; simp [hyn])) (fun t ht => by
                    cases u with
                    | nil =>
                      obtain ⟨b, g2, rfl⟩ := List.exists_cons_of_ne_nil hG.1
                      injection ht with hb _
                      have := hG.2 b (by simp)
                      rw [hb] at this
                      simp at this
                    | cons b u =>
                      injection ht with hb _
                      exact ⟨u ++ (y ++ tail), by rw [hXu, hb]; rfl⟩) hcn hm' hsm
                  have e : hd ++ (u ++ (g ++ y) ++ tail) = hd ++ u ++ (g ++ (y ++ tail)) := by simp
                  rw [e] at this
                  exact this
              · exfalso
                unfold closeT at hmem
                split at hmem
                · rw [List.mem_singleton] at hmem
                  injection hmem with hm1 _
                  exact htx (by rw [hm1]; rfl)
                · cases hmem
            · -- what stands behind the piece
              have hnn4 : nn ≤ tail.length := by rw [hnn]; exact (closeN_le tail).1
              have hlr : rest.length < r.length := by
                rw [hrest, List.length_drop, hrX, hXt, List.length_append, List.length_append]; omega
              obtain ⟨U, V, hUV, hq, h3, hI⟩ := ih rest (by omega) (a + (C + c + nn)) l2 hl2 t q hmem hk1 htx
              have hrn : rest ≠ [] := by intro e; rw [e] at hUV; have := congrArg List.length hUV; simp at this; omega
              have htn : tail ≠ [] := by intro e; rw [hrest, e] at hrn; simp at hrn
              have htp : Lib.hasPrefix tail [63, 62] = true := by
                have := code_tail _ X (Nat.le_refl _)
                rw [← hc, ← htail] at this
                rcases this with h | h
                · exact absurd h htn
                · exact h
              have hnn2 : 2 ≤ nn := by
                rw [hnn]; unfold closeN; rw [htp]; simp only [if_true]
                split
                · omega
                · split <;> omega
              have htl2 : tail = (tail.take nn ++ U) ++ V := by rw [List.append_assoc, ← hUV, hrest, List.take_append_drop]
              have hT5 : 4 ≤ (tail.take nn ++ U).length := by rw [List.length_append, List.length_take]; omega
              refine ⟨hd ++ (text ++ (tail.take nn ++ U)), V, ?_, ?_, ?_, fun g hG => ?_⟩
              · rw [List.append_assoc, List.append_assoc, ← htl2, ← hXt]; exact hrX
              · rw [hq]; simp only [List.length_append, List.length_take]; omega
              · simp only [List.length_append]; omega
              · obtain ⟨l2', hl2', hs2⟩ := hI g hG
                obtain ⟨tail', htail'⟩ : ∃ tail', tail' = (tail.take nn ++ U) ++ (g ++ V) := ⟨_, rfl⟩
                have hp' : Lib.hasPrefix tail' [63, 62] = true := by
                  rw [htail', hp_len (p := [63, 62]) (g ++ V) V (by simp only [List.length_cons, List.length_nil]; omega), ← htl2]; exact htp
                have hcs := close_stop hp'
                have hst' : Steps text tail' := hst.loc htn (close_stop htp).2.1 hcs.1 (fun _ => hp')
                have hcn : codeN (text ++ tail') = c := by rw [hst'.code, hcs.2.2, htl]; rfl
                have hcl : closeN tail' = nn := by rw [hnn]; exact closeN_stay (tail.take nn ++ U) V (g ++ V) hT5 htl2 htail'
                have hdr : tail'.drop nn = U ++ (g ++ V) := by
                  have e : (tail.take nn).length = nn := by rw [List.length_take]; omega
                  rw [htail', List.append_assoc]
                  have := List.drop_left (l₁ := tail.take nn) (l₂ := U ++ (g ++ V))
                  rwa [e] at this
                have hop : openN (hd ++ (text ++ tail')) = openN (hd ++ X) := by
                  refine openN_stay X (text ++ tail') (fun t ht => ?_) hd hokind hocode (.inl ?_)
                  · cases htxt : text with
                    | nil =>
                      rw [htxt, List.nil_append] at ht
                      rw [ht] at hcs
                      exact absurd rfl hcs.2.1
                    | cons b tx =>
                      rw [htxt] at ht
                      injection ht with hb _
                      exact ⟨tx ++ tail, by rw [hXt, htxt, hb]; rfl⟩
                  · rw [hXt]; simp [htn]
                have hp2 := sufT_parts a (hd ++ (text ++ tail')) C c nn hd text tail' (U ++ (g ++ V)) (openN r).kind rfl hdl (by rw [hop, ← hrX]) h0 (by rw [hop, ← hrX, hC]) hcn htl hcl hdr
                have e : hd ++ (text ++ (tail.take nn ++ U)) ++ (g ++ V) = hd ++ (text ++ tail') := by rw [htail']; simp
                rw [e, hp2, hct]
                dsimp only
                rw [hl2', html_stay a hop homark, ← hrX]
                refine ⟨_, rfl, SameT.append rfl (SameT.append (SameT.append (SameT.append ?_ rfl) (same_close _ _ (by rw [htp, hp']))) hs2)⟩
                exact same_echo a a (by rw [hop, ← hrX])
/-- Blanks put in where a token of code begins turn nothing but places. -/
theorem file_ins (f : L) (l : List (Tk × Nat)) (h : fileT f = .ok l) (t : Tk) (q : Nat) (hm : (t, q) ∈ l) (hk : t.kind ≠ 1) (ht : t.text ≠ [63, 62]) (g : L) (hg : GapL g) :
    q ≤ f.length ∧ ∃ l', fileT (f.take q ++ (g ++ f.drop q)) = .ok l' ∧ SameT l l' := by
  rw [fileT_suf] at h
  obtain ⟨U, V, hUV, hq, _, hI⟩ := suf_ins _ f (Nat.le_refl _) 0 l h t q hm hk ht
  rw [Nat.zero_add] at hq
  obtain ⟨l', hl', hs⟩ := hI g hg
  refine ⟨by rw [hUV, List.length_append]; omega, l', ?_, hs⟩
  rw [fileT_suf]
  have e1 : f.take q = U := by rw [hUV, hq, List.take_left]
  have e2 : f.drop q = V := by rw [hUV, hq, List.drop_left]
  rw [e1, e2]
  exact hl'
end Go.Proofs.YtjcldgogjgchiaaGreatDoor
