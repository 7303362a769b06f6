/-
  Plain facts: the steps of the cutting stop where tokens begin; blanks that are put in there.
-/
import Derived.Test.YtjcldgogjgchiaaGreatDoorCodeT
import Derived.Test.YtjcldgogjgchiaaGreatDoorStayC
namespace Go.Proofs.YtjcldgogjgchiaaGreatDoor
open Go Cutting Wording

/- ---- what stands between two tokens -/
theorem spanN_lt (p : UInt8 → Bool) (v w : L) : ∀ u : L, spanN p (u ++ v) < u.length → spanN p (u ++ w) = spanN p (u ++ v) := by
  intro u
  induction u with
  | nil => intro h; simp only [List.length_nil] at h; omega
  | cons b u ih =>
    intro h
    by_cases hb : p b = true
    · simp only [spanN, List.cons_append, List.takeWhile_cons, hb, if_true, List.length_cons] at h ih ⊢
      rw [ih (by omega)]
    · simp [spanN, hb]
theorem spanN_next (p : UInt8 → Bool) : ∀ (r : L) (b : UInt8) (t : L), r.drop (spanN p r) = b :: t → p b = false := by
  intro r
  induction r with
  | nil => intro b t h; simp [spanN] at h
  | cons c r ih =>
    intro b t h
    by_cases hc : p c = true
    · simp only [spanN, List.takeWhile_cons, hc, if_true, List.length_cons, List.drop_succ_cons] at h ih
      exact ih b t h
    · simp only [spanN, List.takeWhile_cons, hc] at h
      simp at h
      rw [← h.1]; simpa using hc
theorem comGo_loc (v w : L) : ∀ (u : L) (n : Nat), comGo (u ++ v) = some n → n + 2 ≤ u.length → comGo (u ++ w) = some n := by
  intro u
  induction u with
  | nil => intro n _ h; simp only [List.length_nil] at h; omega
  | cons b u ih =>
    intro n h hle
    rw [List.cons_append, comGo] at h ⊢
    match u with
    | [] =>
      simp only [List.length_cons, List.length_nil] at hle
      omega
    | c :: u =>
      have e : Lib.hasPrefix (b :: (c :: u ++ w)) [42, 47] = Lib.hasPrefix (b :: (c :: u ++ v)) [42, 47] := hp_len (t := b :: c :: u) w v (by simp)
      rw [e]
      split at h
      · next hp => rw [if_pos hp]; exact h
      · next hp =>
        rw [if_neg hp]
        obtain ⟨m, hm, rfl⟩ := Option.map_eq_some_iff.1 h
        rw [ih m hm (by simp only [List.length_cons] at hle ⊢; omega)]
        rfl
theorem comGo_comment : ∀ (r : L) (n : Nat), comGo r = some n → commentGo r = n + 2 := by
  intro r
  induction r with
  | nil => intro n h; simp [comGo] at h
  | cons b r ih =>
    intro n h
    rw [comGo] at h
    rw [commentGo]
    split at h
    · next hp => rw [if_pos hp]; injection h with h; omega
    · next hp =>
      rw [if_neg hp]
      obtain ⟨m, hm, rfl⟩ := Option.map_eq_some_iff.1 h
      rw [ih m hm]; omega
theorem comN_some {r : L} (h : comN r ≠ 0) : ∃ n, comGo (r.drop 2) = some n ∧ comN r = n + 4 := by
  unfold comN at h ⊢
  cases hc : comGo (r.drop 2) with
  | none => rw [hc] at h; exact absurd rfl h
  | some n => exact ⟨n, rfl, rfl⟩
theorem comN_loc {u v : L} (w : L) (h : comN (u ++ v) ≠ 0) (hle : comN (u ++ v) ≤ u.length) : comN (u ++ w) = comN (u ++ v) := by
  obtain ⟨n, hn, he⟩ := comN_some h
  have h2 : 2 ≤ u.length := by omega
  rw [List.drop_append_of_le_length h2] at hn
  have := comGo_loc v w (u.drop 2) n hn (by rw [List.length_drop]; omega)
  rw [he]
  unfold comN
  rw [List.drop_append_of_le_length h2, this]
/-- The first of what stands between two tokens. -/
theorem bit_cases (r : L) (h0 : bitN r ≠ 0) : (Lib.hasPrefix r [47, 42] = true ∧ bitN r = comN r) ∨ (Lib.hasPrefix r [47, 42] = false ∧ (Lib.hasPrefix r [35] || Lib.hasPrefix r [47, 47]) = true ∧ bitN r = spanN notNl r)
    ∨ ((∃ b t, r = b :: t ∧ blankB b = true) ∧ bitN r = spanN blankB r) := by
  unfold bitN at h0 ⊢
  split
  · next h => exact .inl ⟨h, rfl⟩
  · next h =>
    split
    · next h2 => exact .inr (.inl ⟨by simpa using h, h2, rfl⟩)
    · next h2 =>
      rw [if_neg h, if_neg h2] at h0
      refine .inr (.inr ⟨?_, rfl⟩)
      cases r with
      | nil => exact absurd rfl h0
      | cons b t =>
        refine ⟨b, t, rfl, ?_⟩
        rw [← Bool.not_eq_false]
        intro hb
        exact h0 (by simp [spanN, hb])
theorem bit_blank {b : UInt8} {t : L} (hb : blankB b = true) : bitN (b :: t) = spanN blankB (b :: t) := by
  have h : b = 32 ∨ b = 9 ∨ b = 10 ∨ b = 13 := by simpa [blankB, or_assoc] using hb
  unfold bitN
  rcases h with rfl | rfl | rfl | rfl <;> simp [hp_cons]
theorem gap_blanks (w : L) : ∀ g : L, (∀ b ∈ g, blankB b = true) → gapN (g ++ w) = (g.length + (gapN w).1, (gapN w).2) := by
  intro g hg
  cases g with
  | nil => simp
  | cons b g =>
    have hs : spanN blankB (b :: g ++ w) = (b :: g).length + spanN blankB w := by
      unfold spanN
      rw [List.takeWhile_append_of_pos hg, List.length_append]
    have hb := bit_blank (t := g ++ w) (hg b (by simp))
    rw [← List.cons_append, hs] at hb
    rw [gapN_go _ (by simp) (by rw [hb, List.length_cons]; omega), hb]
    have hd : (b :: g ++ w).drop ((b :: g).length + spanN blankB w) = w.drop (spanN blankB w) := by rw [← List.drop_drop, List.drop_left]
    rw [hd]
    by_cases h0 : spanN blankB w = 0
    · rw [h0, List.drop_zero]; simp; omega
    · cases w with
      | nil => exact absurd rfl h0
      | cons c w =>
        have hc : blankB c = true := by
          rw [← Bool.not_eq_false]
          intro hc
          exact h0 (by simp [spanN, hc])
        have hbc := bit_blank (t := w) hc
        rw [gapN_go (c :: w) (by simp) (by rw [hbc]; exact h0), hbc]
        simp only [Prod.mk.injEq]
        exact ⟨by omega, trivial⟩
/-- The bytes ahead of a token: a byte that is no blank stands behind them. -/
def NoBlank (y : L) : Prop := ∃ b t, y = b :: t ∧ blankB b = false
/-- The bits of a gap. -/
theorem bit_loc {gb y : L} (hg : gb ≠ []) (h : gapN (gb ++ y) = (gb.length, false)) :
    bitN (gb ++ y) ≠ 0 ∧ bitN (gb ++ y) ≤ gb.length ∧ gapN (gb.drop (bitN (gb ++ y)) ++ y) = ((gb.drop (bitN (gb ++ y))).length, false) := by
  have hpos : 0 < gb.length := List.length_pos_iff.2 hg
  have h0 : bitN (gb ++ y) ≠ 0 := by
    intro h0
    rw [gapN_stop _ (by simp [hg]) h0] at h
    injection h with h1 _
    omega
  rw [gapN_go _ (by simp [hg]) h0] at h
  injection h with h1 h2
  have hle : bitN (gb ++ y) ≤ gb.length := by omega
  refine ⟨h0, hle, ?_⟩
  rw [List.drop_append_of_le_length hle] at h1 h2
  rw [List.length_drop]
  exact Prod.ext (by dsimp only; omega) h2
theorem remark_lt {gb y : L} (hy : NoBlank y) (hle : spanN notNl (gb ++ y) ≤ gb.length) : spanN notNl (gb ++ y) < gb.length := by
  refine Nat.lt_of_le_of_ne hle fun e => ?_
  obtain ⟨b, t, rfl, hb⟩ := hy
  have := spanN_next notNl (gb ++ b :: t) b t (by rw [e, List.drop_left])
  have hb10 : b = 10 := by simpa [notNl] using this
  rw [hb10] at hb
  revert hb; decide
theorem gap_loc (y w : L) (hy : NoBlank y) : ∀ (n : Nat) (gb : L), gb.length ≤ n → gapN (gb ++ y) = (gb.length, false) → gapN (gb ++ w) = (gb.length + (gapN w).1, (gapN w).2) := by
  intro n
  induction n with
  | zero => intro gb h _; have := List.eq_nil_of_length_eq_zero (Nat.le_zero.1 h); subst this; simp
  | succ n ih =>
    intro gb hn h
    by_cases hg : gb = []
    · subst hg; simp
    · obtain ⟨h0, hle, hr⟩ := bit_loc hg h
      have hi := ih (gb.drop (bitN (gb ++ y))) (by rw [List.length_drop]; omega) hr
      rw [List.length_drop] at hi
      have same : bitN (gb ++ w) = bitN (gb ++ y) → gapN (gb ++ w) = (gb.length + (gapN w).1, (gapN w).2) := by
        intro e
        rw [gapN_go _ (by simp [hg]) (by rw [e]; exact h0), e, List.drop_append_of_le_length hle, hi]
        simp only [Prod.mk.injEq]
        exact ⟨by omega, trivial⟩
      rcases bit_cases _ h0 with ⟨hp, he⟩ | ⟨hp, hp2, he⟩ | ⟨⟨b, t, hbt, hb⟩, he⟩
      · refine same ?_
        have h4 := (comN_le _ hp).2
        rw [he] at h0 hle ⊢
        have h2 : 2 ≤ gb.length := by omega
        unfold bitN
        rw [if_pos (by rw [hp_len (p := [47, 42]) w y h2]; exact hp)]
        exact comN_loc w h0 hle
      · refine same ?_
        rw [he] at hle ⊢
        have hlt := remark_lt hy hle
        have h1 := remark_pos _ hp2
        have h2 : 2 ≤ gb.length := by omega
        unfold bitN
        rw [if_neg (by rw [hp_len (p := [47, 42]) w y h2, hp]; simp), if_pos (by rw [hp_len (p := [35]) w y (by simp; omega), hp_len (p := [47, 47]) w y h2]; exact hp2)]
        exact spanN_lt notNl y w gb hlt
      · obtain ⟨c, g2, rfl⟩ := List.exists_cons_of_ne_nil hg
        have hcb : c = b := by rw [List.cons_append] at hbt; injection hbt
        by_cases hlt : spanN blankB (c :: g2 ++ y) < (c :: g2).length
        · refine same ?_
          rw [he, ← spanN_lt blankB y w (c :: g2) hlt, List.cons_append]
          exact bit_blank (by rw [hcb]; exact hb)
        · refine gap_blanks w (c :: g2) fun x hx => ?_
          have e : (c :: g2).length ≤ spanN blankB (c :: g2 ++ y) := by omega
          have hpre := List.takeWhile_prefix blankB (l := c :: g2 ++ y)
          obtain ⟨t2, ht2⟩ := hpre
          have hx2 : x ∈ (c :: g2 ++ y).takeWhile blankB := by
            have h5 : (c :: g2) = ((c :: g2 ++ y).takeWhile blankB).take (c :: g2).length := by
              have := congrArg (List.take (c :: g2).length) ht2
              rw [List.take_left, List.take_append_of_le_length e] at this
              exact this.symm
            rw [h5] at hx
            exact List.mem_of_mem_take hx
          exact mem_tw _ _ _ hx2

/- ---- steps and tokens -/
theorem word_mild {b : UInt8} (h : wordB b = true) : mildB b = true := by
  rw [← Bool.not_eq_false]
  intro hm
  have hb : b = 39 ∨ b = 34 ∨ b = 47 ∨ b = 35 ∨ b = 60 := by
    simp only [mildB, Bool.and_eq_false_iff, bne_eq_false_iff_eq] at hm
    rcases hm with (((h | h) | h) | h) | h <;> simp [h]
  rcases hb with rfl | rfl | rfl | rfl | rfl <;> (revert h; decide)
theorem hex_word {b : UInt8} (h : hexB b = true) : wordB b = true := by
  simp only [hexB, wordB, Bool.or_eq_true, Bool.and_eq_true, decide_eq_true_eq, UInt8.le_iff_toNat_le] at h ⊢
  have e1 : (97 : UInt8).toNat = 97 := rfl
  have e2 : (102 : UInt8).toNat = 102 := rfl
  have e3 : (65 : UInt8).toNat = 65 := rfl
  have e4 : (70 : UInt8).toNat = 70 := rfl
  have e5 : (122 : UInt8).toNat = 122 := rfl
  have e6 : (90 : UInt8).toNat = 90 := rfl
  rcases h with (h | h) | h
  · exact .inl (.inr h)
  · left; left; left; omega
  · left; left; right; omega
theorem blank_mild {b : UInt8} (h : blankB b = true) : mildB b = true := by
  have h : b = 32 ∨ b = 9 ∨ b = 10 ∨ b = 13 := by simpa [blankB, or_assoc] using h
  rcases h with rfl | rfl | rfl | rfl <;> decide
theorem wordN_mem (s : L) : ∀ b ∈ s.take (wordN s), wordB b = true := by
  intro b hb
  rcases wordN_take s with h | h
  · exact h.word b hb
  · rw [h] at hb; simp at hb
theorem spanN_mem (p : UInt8 → Bool) (s : L) : ∀ b ∈ s.take (spanN p s), p b = true := by
  intro b hb
  have : s.take (spanN p s) = s.takeWhile p := by
    obtain ⟨t, ht⟩ := List.takeWhile_prefix p (l := s)
    have := congrArg (List.take (spanN p s)) ht
    rw [← this]
    exact List.take_left
  rw [this] at hb
  exact mem_tw _ _ _ hb
theorem moreN_mem : ∀ (n : Nat) (r : L), r.length ≤ n → ∀ b ∈ r.take (moreN r).1, wordB b = true ∨ b = 92 := by
  intro n
  induction n with
  | zero => intro r h b hb; have := List.eq_nil_of_length_eq_zero (Nat.le_zero.1 h); subst this; simp at hb
  | succ n ih =>
    intro r h b hb
    cases hp : Lib.hasPrefix r [92] with
    | false => rw [moreN_none _ hp] at hb; simp at hb
    | true =>
      obtain ⟨t, rfl⟩ := hp_eq hp
      by_cases h0 : wordN (([92] ++ t).drop 1) = 0
      · rw [moreN_bad _ hp h0] at hb; simp at hb
      · rw [moreN_go _ hp h0] at hb
        dsimp only at hb
        have e : ([92] ++ t).drop 1 = t := rfl
        have e2 : ([92] ++ t).drop (1 + wordN t) = t.drop (wordN t) := by rw [Nat.add_comm]; rfl
        rw [e, e2] at hb
        rw [show (moreN (t.drop (wordN t))).1 + (1 + wordN t) = (wordN t + (moreN (t.drop (wordN t))).1) + 1 by omega, List.cons_append, List.nil_append, List.take_succ_cons, List.take_add] at hb
        rcases List.mem_cons.1 hb with rfl | hb
        · exact .inr rfl
        · rcases List.mem_append.1 hb with hb | hb
          · exact .inl (wordN_mem _ b hb)
          · exact ih (t.drop (wordN t)) (by rw [List.length_drop]; simp only [List.length_append, List.length_cons, List.length_nil] at h; omega) b hb
theorem nameN_mild (s : L) : ∀ b ∈ s.take (nameN s).1, mildB b = true := by
  intro b hb
  unfold nameN at hb
  dsimp only at hb
  rw [List.take_add] at hb
  rcases List.mem_append.1 hb with hb | hb
  · exact word_mild (wordN_mem _ b hb)
  · rcases moreN_mem _ _ (Nat.le_refl _) b hb with h | rfl
    · exact word_mild h
    · decide
theorem numN_mild (s : L) (h : s.head?.map digB = some true) : ∀ b ∈ s.take (numN s), mildB b = true := by
  intro b hb
  cases s with
  | nil => simp at hb
  | cons c r =>
    have hc : digB c = true := by simpa using h
    have hcw : wordB c = true := by unfold wordB; rw [hc]; simp
    unfold numN at hb
    split at hb
    · next hx =>
      unfold isHex at hx
      rw [Bool.and_eq_true, Bool.or_eq_true] at hx
      rw [List.take_add] at hb
      rcases List.mem_append.1 hb with hb | hb
      · rcases hx.1 with hx | hx
        · obtain ⟨t, ht⟩ := hp_eq hx
          rw [ht] at hb
          simp at hb
          rcases hb with rfl | rfl <;> decide
        · obtain ⟨t, ht⟩ := hp_eq hx
          rw [ht] at hb
          simp at hb
          rcases hb with rfl | rfl <;> decide
      · exact word_mild (hex_word (spanN_mem hexB _ b hb))
    · split at hb
      · simp at hb
        rw [hb]
        exact word_mild hcw
      · have := spanN_mem digB _ b hb
        exact word_mild (by unfold wordB; rw [this]; simp)
theorem sign_mild : ∀ c ∈ signsL, ∀ b ∈ c.drop 1, mildB b = true := by decide
theorem sign_head : ∀ c ∈ signsL, ∀ b ∈ c.take 1, blankB b = false ∧ b ≠ 35 ∧ b ≠ 47 ∧ (mildB b = true ∨ b = 60) := by decide
theorem signN_mem (s : L) (h : signN s ≠ 0) : s.take (signN s) ∈ signsL := by
  have key : ∀ k, isSignB (s.take k) = true → s.take k ∈ signsL := fun k hk => List.contains_iff_mem.1 hk
  unfold signN at h ⊢
  split at h
  · next h3 => rw [Bool.and_eq_true] at h3; rw [if_pos (by rw [Bool.and_eq_true]; exact h3)]; exact key _ h3.2
  · next h3 =>
    rw [if_neg h3]
    split at h
    · next h2 => rw [Bool.and_eq_true] at h2; rw [if_pos (by rw [Bool.and_eq_true]; exact h2)]; exact key _ h2.2
    · next h2 =>
      rw [if_neg h2]
      split at h
      · next h1 => rw [Bool.and_eq_true] at h1; rw [if_pos (by rw [Bool.and_eq_true]; exact h1)]; exact key _ h1.2
      · exact absurd rfl h
/-- What may stand behind a piece of code. -/
def TailOk (t : L) : Prop := t = [] ∨ Stop t
theorem Steps.cons {b : UInt8} {x z tail : L} (hs : stepN (b :: (x ++ (z ++ tail))) = 1) (hm : ∀ c ∈ x, mildB c = true) (h : Steps (b :: x ++ z) tail) : Steps (b :: x) (z ++ tail) ∧ Steps z tail := by
  have hi := h.inv (by simp)
  rw [List.append_assoc, List.cons_append] at hi
  rw [hs, List.cons_append, List.drop_succ_cons, List.drop_zero] at hi
  have h2 := Steps.mild hm hi.2.2
  refine ⟨.step _ _ (by simp) hi.1 (by rw [List.cons_append, hs]; simp) ?_, h2.2⟩
  rw [List.cons_append, hs, List.drop_succ_cons, List.drop_zero]
  exact h2.1
/-- A token's bytes are steps of the cutting, and so is what stands behind it. -/
theorem tok_steps {x z tail : L} (hx0 : x ≠ []) (ht : TailOk tail) (y : Tk × Nat) (hx : tokT (x ++ z) = .ok y) (hle : y.2 = x.length) (h : Steps (x ++ z) tail) : Steps x (z ++ tail) ∧ Steps z tail := by
  obtain ⟨b, x, rfl⟩ := List.exists_cons_of_ne_nil hx0
  have d1 : (b :: x ++ z).drop 1 = x ++ z := rfl
  have hl1 : (b :: x).length = x.length + 1 := rfl
  have hx' : (b :: x ++ z).take (b :: x).length = b :: x := List.take_left
  by_cases h36 : b = 36
  · have hh : (b :: x ++ z).head? = some 36 := by rw [h36]; rfl
    rw [tokT_var _ hh, d1] at hx
    refine Steps.mild ?_ h
    have hm : wordN (x ++ z) = x.length := by
      split at hx
      · cases hx
      · split at hx
        · cases hx
        · injection hx with hx; subst hx; dsimp only at hle; omega
    intro c hc
    rcases List.mem_cons.1 hc with rfl | hc
    · rw [h36]; decide
    · refine word_mild (wordN_mem (x ++ z) c ?_)
      rw [hm, List.take_left]; exact hc
  · cases hdg : digB b
    · by_cases h39 : b = 39
      · have hh : (b :: x ++ z).head? = some 39 := by rw [h39]; rfl
        rw [tokT_plain _ hh, d1] at hx
        cases he : endGo 39 (x ++ z) with
        | none => rw [he] at hx; cases hx
        | some e =>
          rw [he] at hx
          have hlt : e + 1 = x.length := by injection hx with hx; subst hx; dsimp only at hle; omega
          have h2 := endGo_loc 39 z (z ++ tail) _ x (Nat.le_refl _) e he (by omega)
          have h3 := textGo_end 39 _ _ (Nat.le_refl _) _ h2
          refine Steps.one (by simp) ?_ h
          rw [List.cons_append, h39]
          simp only [stepN, textN]
          rw [h3]; simp; omega
      · by_cases h34 : b = 34
        · have hh : (b :: x ++ z).head? = some 34 := by rw [h34]; rfl
          rw [tokT_wide _ hh, d1] at hx
          cases he : endGo 34 (x ++ z) with
          | none =>
            rw [he] at hx
            dsimp only at hx
            cases hwt : wideT (x ++ z) true with
            | error y => rw [hwt] at hx; cases hx
            | ok y => rw [hwt] at hx; cases hx
          | some e =>
            rw [he] at hx
            dsimp only at hx
            have hlt : e + 1 = x.length := by
              cases hwt : wideT ((x ++ z).take e) true with
              | error y => rw [hwt] at hx; cases hx
              | ok y => rw [hwt] at hx; injection hx with hx; subst hx; dsimp only at hle; omega
            have h2 := endGo_loc 34 z (z ++ tail) _ x (Nat.le_refl _) e he (by omega)
            have h3 := textGo_end 34 _ _ (Nat.le_refl _) _ h2
            refine Steps.one (by simp) ?_ h
            rw [List.cons_append, h34]
            simp only [stepN, textN]
            rw [h3]; simp; omega
        · cases hnm : (b == 92 || (wordB b && !digB b))
          · rw [Bool.or_eq_false_iff] at hnm
            have h92 : b ≠ 92 := by simpa using hnm.1
            have hwd : wordB b = false := by have := hnm.2; rw [hdg] at this; simpa using this
            rw [tokT_other _ b rfl h36 hdg h39 h34 h92 hwd] at hx
            split at hx
            · next hlg =>
              obtain ⟨n, hn, hx2⟩ := longT_ok hx
              have hA : headAt (b :: x ++ z) ≤ (b :: x).length := by omega
              unfold isLong at hlg
              rw [Bool.and_eq_true] at hlg
              obtain ⟨_, q, _, _, _, _, hnm, _, hat, _⟩ := head_form _ hlg.2
              have hd := head_loc (b :: x) z (z ++ tail) hlg.2 hA
              have hd2 : (b :: x ++ (z ++ tail)).drop (headAt (b :: x ++ z)) = (b :: x ++ z).drop (headAt (b :: x ++ z)) ++ tail := by
                rw [← List.append_assoc, List.drop_append_of_le_length (by rw [List.length_append]; omega)]
              have hn2 : linesGo (headName (b :: x ++ z)) true ((b :: x ++ z).drop (headAt (b :: x ++ z)) ++ tail) = some n := by
                rcases ht with rfl | hst
                · rw [List.append_nil]; exact hn
                · refine linesGo_loc _ [] tail hnm hst _ _ _ (by rw [List.append_nil]; exact hn) ?_
                  rw [List.length_drop, List.length_append]; omega
              have hg := longGo_lines _ hnm.1 _ _ _ hn2
              have h3 : Lib.hasPrefix (b :: x ++ (z ++ tail)) [60, 60, 60] = true := by
                rw [hp_len (p := [60, 60, 60]) (t := b :: x) (z ++ tail) z (by simp only [List.length_cons, List.length_nil] at *; omega)]; exact hlg.1
              have hb60 : b = 60 := by rw [List.cons_append, hp_cons] at h3; simp at h3; exact h3.1.symm
              refine Steps.one (by simp) ?_ h
              have hL : longN (b :: x ++ (z ++ tail)) = (b :: x).length := by
                unfold longN
                rw [if_pos hd.1, hd.2.1, hd.2.2.1, hd2, hg]; omega
              rw [← hL]
              have hp : ∀ p : L, Lib.hasPrefix (b :: x ++ (z ++ tail)) (47 :: p) = false := fun p => by rw [hb60, List.cons_append, hp_cons]; rfl
              rw [List.cons_append] at h3 hp ⊢
              simp only [stepN, hp, h3]
              rw [hb60]; simp
            · next hlg =>
              split at hx
              · cases hx
              · next h0 =>
                have hn : signN (b :: x ++ z) = (b :: x).length := by injection hx with hx; subst hx; exact hle
                have hmem := signN_mem _ h0
                rw [hn, hx'] at hmem
                have hm := sign_mild _ hmem
                have hhd := sign_head _ hmem b (by simp)
                refine Steps.cons ?_ (fun c hc => hm c (by simpa using hc)) h
                rcases hhd.2.2.2 with hmb | rfl
                · exact stepN_mild b _ hmb
                · -- a sign whose first byte is 60
                  have hno : ¬ isLong (60 :: x ++ (z ++ tail)) = true := by
                    intro hl
                    rcases ht with rfl | hst
                    · rw [List.append_nil] at hl; exact hlg hl
                    · have hl2 : isLong ((60 :: x ++ z) ++ tail) = true := by rw [List.append_assoc]; exact hl
                      have := (isLong_loc (v := []) hst hl2).1
                      rw [List.append_nil] at this
                      exact hlg this
                  have hp : ∀ p : L, Lib.hasPrefix (60 :: (x ++ (z ++ tail))) (47 :: p) = false := fun p => by rw [hp_cons]; rfl
                  simp only [stepN, hp]
                  unfold isLong at hno
                  rw [List.cons_append] at hno
                  by_cases h3 : Lib.hasPrefix (60 :: (x ++ (z ++ tail))) [60, 60, 60] = true
                  · rw [h3, Bool.true_and] at hno
                    rw [h3]
                    simp [longN, hno]
                  · simp [h3]
          · have hh : (b :: x ++ z).head?.map (fun b => b == 92 || (wordB b && !digB b)) = some true := by simpa using hnm
            rw [tokT_name _ hh] at hx
            refine Steps.mild ?_ h
            have hn : (nameN (b :: x ++ z)).1 = (b :: x).length := by
              split at hx
              · cases hx
              · split at hx
                · cases hx
                · split at hx
                  · injection hx with hx; subst hx; exact hle
                  · injection hx with hx; subst hx; exact hle
            have := nameN_mild (b :: x ++ z)
            rw [hn, hx'] at this
            exact this
    · have hh : (b :: x ++ z).head?.map digB = some true := by simpa using hdg
      have hm := numN_mild _ hh
      rw [tokT_num _ hh] at hx
      refine Steps.mild ?_ h
      split at hx
      · cases hx
      · split at hx
        · cases hx
        · injection hx with hx
          have hn : numN (b :: x ++ z) = (b :: x).length := by subst hx; exact hle
          rw [hn, hx'] at hm
          exact hm
/-- How a token begins. -/
theorem tok_head {s : L} (hs : s ≠ []) (y : Tk × Nat) (hx : tokT s = .ok y) : ∃ b t, s = b :: t ∧ blankB b = false ∧ b ≠ 35 ∧ b ≠ 47 := by
  obtain ⟨b, t, rfl⟩ := List.exists_cons_of_ne_nil hs
  refine ⟨b, t, rfl, ?_⟩
  by_cases hm : wordB b = true
  · have : ¬ (b = 32 ∨ b = 9 ∨ b = 10 ∨ b = 13 ∨ b = 35 ∨ b = 47) := by
      intro h; rcases h with rfl | rfl | rfl | rfl | rfl | rfl <;> (revert hm; decide)
    simp only [not_or] at this
    obtain ⟨a1, a2, a3, a4, a5, a6⟩ := this
    exact ⟨by simp [blankB, a1, a2, a3, a4], a5, a6⟩
  · have hwd : wordB b = false := by simpa using hm
    have hdg : digB b = false := by
      rw [← Bool.not_eq_true]; intro h; rw [wordB, h] at hwd; simp at hwd
    by_cases h36 : b = 36
    · subst h36; decide
    · by_cases h39 : b = 39
      · subst h39; decide
      · by_cases h34 : b = 34
        · subst h34; decide
        · by_cases h92 : b = 92
          · subst h92; decide
          · rw [tokT_other _ b rfl h36 hdg h39 h34 h92 hwd] at hx
            split at hx
            · next hlg =>
              unfold isLong at hlg
              rw [Bool.and_eq_true, hp_cons] at hlg
              have : b = 60 := by have := hlg.1; simp at this; exact this.1.symm
              subst this; decide
            · split at hx
              · cases hx
              · next h0 =>
                have h1 := sign_head _ (signN_mem _ h0) b (by
                  obtain ⟨m, hm⟩ : ∃ m, signN (b :: t) = m + 1 := ⟨signN (b :: t) - 1, by omega⟩
                  rw [hm]; simp)
                exact ⟨h1.1, h1.2.1, h1.2.2.1⟩
end Go.Proofs.YtjcldgogjgchiaaGreatDoor
