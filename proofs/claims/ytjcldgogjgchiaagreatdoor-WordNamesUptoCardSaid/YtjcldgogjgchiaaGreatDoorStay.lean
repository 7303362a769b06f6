/-
  Plain facts: what is put in behind a place where a step of the cutting ends has no part in the steps ahead of it.
-/
import Derived.Test.YtjcldgogjgchiaaGreatDoorWording
namespace Go.Proofs.YtjcldgogjgchiaaGreatDoor
open Go Cutting Wording

theorem hp_nil (s : L) : Lib.hasPrefix s [] = true := by cases s <;> rfl
theorem hp_cons (a b : UInt8) (r p : L) : Lib.hasPrefix (a :: r) (b :: p) = ((b == a) && Lib.hasPrefix r p) := rfl
theorem hp_none (b : UInt8) (p : L) : Lib.hasPrefix [] (b :: p) = false := rfl
theorem hp_len {t p : L} (e e' : L) (h : p.length ≤ t.length) : Lib.hasPrefix (t ++ e) p = Lib.hasPrefix (t ++ e') p := by
  induction t generalizing p with
  | nil => have := List.eq_nil_of_length_eq_zero (Nat.le_zero.1 h); subst this; rw [hp_nil, hp_nil]
  | cons b t ih =>
    cases p with
    | nil => rw [hp_nil, hp_nil]
    | cons c p => rw [List.cons_append, List.cons_append, hp_cons, hp_cons, ih (by simpa using h)]
theorem hp_eq {s p : L} (h : Lib.hasPrefix s p = true) : ∃ t, s = p ++ t := by
  obtain ⟨t, ht⟩ := List.isPrefixOf_iff_prefix.1 h
  exact ⟨t, ht.symm⟩
theorem hp_mk (p t : L) : Lib.hasPrefix (p ++ t) p = true := List.isPrefixOf_iff_prefix.2 ⟨t, rfl⟩

/-- A byte that ends a word, a text's head and a gap's beginning: a blank that does not end a line, or a question mark. -/
def stopB (b : UInt8) : Prop := b = 32 ∨ b = 9 ∨ b = 13 ∨ b = 63
def Stop (w : L) : Prop := ∃ b t, w = b :: t ∧ stopB b
theorem stopB.word {b : UInt8} (h : stopB b) : wordB b = false := by
  rcases h with rfl | rfl | rfl | rfl <;> decide
theorem Stop.ne {w : L} (h : Stop w) : w ≠ [] := by obtain ⟨b, t, rfl, _⟩ := h; simp

/- ---- texts and comments -/
theorem textGo_pos (q : UInt8) (v : L) (h : v ≠ []) : 1 ≤ textGo q v := by
  match v, h with
  | [b], _ => simp only [textGo]; split <;> (try split) <;> omega
  | b :: c :: r, _ => simp only [textGo]; split <;> (try split) <;> omega
theorem textGo_loc (q : UInt8) (v w : L) (hv : v ≠ []) : ∀ (n : Nat) (u : L), u.length ≤ n → textGo q (u ++ v) ≤ u.length → textGo q (u ++ w) = textGo q (u ++ v) := by
  intro n
  induction n with
  | zero =>
    intro u h hle
    have := List.eq_nil_of_length_eq_zero (Nat.le_zero.1 h); subst this
    have := textGo_pos q v hv
    simp at hle; omega
  | succ n ih =>
    intro u h hle
    match u with
    | [] => have := textGo_pos q v hv; simp at hle; omega
    | [b] =>
      have := textGo_pos q v hv
      obtain ⟨c, r, rfl⟩ := List.exists_cons_of_ne_nil hv
      simp only [List.cons_append, List.nil_append, List.length_cons, List.length_nil, textGo] at hle ⊢
      by_cases h1 : b == 92
      · rw [if_pos h1] at hle; omega
      · rw [if_neg h1] at hle ⊢
        by_cases h2 : b == q
        · rw [if_pos h2]; cases w with
          | nil => simp [textGo, h1, h2]
          | cons x y => simp [textGo, h1, h2]
        · rw [if_neg h2] at hle; omega
    | b :: c :: u =>
      have e1 := ih u (by simp at h; omega)
      have e2 := ih (c :: u) (by simp at h ⊢; omega)
      simp only [List.cons_append, List.length_cons, textGo] at hle e1 e2 ⊢
      by_cases h1 : b == 92
      · rw [if_pos h1] at hle ⊢; rw [if_pos h1, e1 (by omega)]
      · rw [if_neg h1] at hle ⊢; rw [if_neg h1]
        by_cases h2 : b == q
        · rw [if_pos h2, if_pos h2]
        · rw [if_neg h2] at hle ⊢; rw [if_neg h2, e2 (by omega)]
theorem commentGo_pos (v : L) (h : v ≠ []) : 1 ≤ commentGo v := by
  match v, h with
  | b :: r, _ => simp only [commentGo]; split <;> omega
theorem commentGo_loc (v w : L) (hv : v ≠ []) : ∀ u : L, commentGo (u ++ v) ≤ u.length → commentGo (u ++ w) = commentGo (u ++ v) := by
  intro u
  induction u with
  | nil => intro h; have := commentGo_pos v hv; simp at h; omega
  | cons b u ih =>
    intro h
    rw [List.cons_append, commentGo] at h ⊢
    rw [List.cons_append, commentGo]
    cases u with
    | nil =>
      exfalso
      have := commentGo_pos v hv
      simp only [List.nil_append, List.length_cons, List.length_nil] at h
      split at h <;> omega
    | cons c u =>
      have e : Lib.hasPrefix (b :: (c :: u ++ w)) [42, 47] = Lib.hasPrefix (b :: (c :: u ++ v)) [42, 47] := hp_len (t := b :: c :: u) w v (by simp)
      rw [e]
      split
      · rfl
      · next hp =>
        rw [if_neg hp] at h
        rw [ih (by simp only [List.length_cons] at h ⊢; omega)]
theorem remarkN_loc (v w : L) (hv : v ≠ []) (h10 : v.head? ≠ some 10) (hw : Stop w) (hpq : Lib.hasPrefix v [63, 62] = true → Lib.hasPrefix w [63, 62] = true) :
    ∀ u : L, remarkN (u ++ v) ≤ u.length → (remarkN (u ++ v) < u.length → Lib.hasPrefix ((u ++ v).drop (remarkN (u ++ v))) [63, 62] = false) → (u ≠ [] ∨ Lib.hasPrefix v [63, 62] = true) → (u = [] ∨ remarkN (u ++ v) ≤ u.length) → remarkN (u ++ w) = remarkN (u ++ v) := by
  intro u
  induction u with
  | nil =>
    intro h _ h2 _
    rcases h2 with h2 | h2
    · exact absurd rfl h2
    have a := hp_eq (hpq h2)
    have b := hp_eq h2
    obtain ⟨t, rfl⟩ := a
    obtain ⟨t2, rfl⟩ := b
    simp [remarkN, hp_cons, hp_nil]
  | cons b u ih =>
    intro h hs _ _
    rw [List.cons_append, remarkN] at h hs ⊢
    rw [List.cons_append, remarkN]
    by_cases hc : (b == 10 || Lib.hasPrefix (b :: (u ++ v)) [63, 62]) = true
    · rw [if_pos hc] at hs ⊢
      rw [Bool.or_eq_true] at hc
      rcases hc with hc | hc
      · rw [if_pos (by simp [hc])]
      · have := hs (by simp)
        rw [List.drop_zero] at this
        rw [this] at hc; cases hc
    · rw [if_neg hc] at h hs ⊢
      have hc2 : ¬ (b == 10 || Lib.hasPrefix (b :: (u ++ w)) [63, 62]) = true := by
        cases u with
        | nil =>
          obtain ⟨x, t, rfl, hx⟩ := hw
          rw [Bool.or_eq_true, not_or] at hc ⊢
          refine ⟨hc.1, ?_⟩
          rw [List.nil_append, hp_cons, hp_cons]
          rcases hx with rfl | rfl | rfl | rfl <;> simp
        | cons c u =>
          rw [show Lib.hasPrefix (b :: (c :: u ++ w)) [63, 62] = Lib.hasPrefix (b :: (c :: u ++ v)) [63, 62] from hp_len (t := b :: c :: u) w v (by simp)]
          exact hc
      rw [if_neg hc2]
      have hle : remarkN (u ++ v) ≤ u.length := by simp only [List.length_cons] at h; omega
      have hnext : u ≠ [] ∨ Lib.hasPrefix v [63, 62] = true := by
        rcases List.eq_nil_or_concat u with hu | ⟨_, _, hu⟩
        · subst hu
          right
          rw [List.nil_append] at hle
          obtain ⟨x, t, rfl⟩ := List.exists_cons_of_ne_nil hv
          rw [remarkN] at hle
          split at hle
          · next hx =>
            rw [Bool.or_eq_true] at hx
            rcases hx with hx | hx
            · exact absurd (by simpa using hx) h10
            · exact hx
          · simp at hle
        · exact .inl (by rw [hu]; simp)
      rw [ih hle (fun hlt => by have := hs (by simp only [List.length_cons]; omega); rwa [Nat.add_comm, List.drop_succ_cons] at this) hnext (.inr hle)]

/- ---- words and spans -/
theorem spanN_loc (p : UInt8 → Bool) (v w : L) (hw : ∀ b t, w = b :: t → p b = false) : ∀ u : L, spanN p (u ++ v) ≤ u.length → spanN p (u ++ w) = spanN p (u ++ v) := by
  intro u
  induction u with
  | nil =>
    intro h
    rw [List.nil_append] at h ⊢
    rw [List.length_nil] at h
    rw [List.nil_append]
    have : spanN p w = 0 := by
      cases w with
      | nil => rfl
      | cons b t => simp [spanN, hw b t rfl]
    omega
  | cons b u ih =>
    intro h
    by_cases hb : p b = true
    · simp only [spanN, List.cons_append, List.takeWhile_cons, hb, if_true, List.length_cons] at h ih ⊢
      rw [ih (by omega)]
    · simp [spanN, hb]
theorem wordN_span (b : UInt8) (r : L) : wordN (b :: r) = if digB b then 0 else spanN wordB (b :: r) := rfl
theorem wordN_loc (v w : L) (hw : ∀ b t, w = b :: t → wordB b = false) (u : L) (h : wordN (u ++ v) ≤ u.length) : wordN (u ++ w) = wordN (u ++ v) := by
  cases u with
  | nil =>
    rw [List.nil_append] at h ⊢
    rw [List.nil_append]
    have : wordN w = 0 := by
      cases w with
      | nil => rfl
      | cons b t =>
        rw [wordN_span]
        split
        · rfl
        · simp [spanN, hw b t rfl]
    rw [List.length_nil] at h
    omega
  | cons b u =>
    rw [List.cons_append, wordN_span] at h ⊢
    rw [List.cons_append, wordN_span]
    split
    · rfl
    · next hd =>
      rw [if_neg hd] at h
      exact spanN_loc wordB v w hw (b :: u) h
theorem Stop.noWord {w : L} (h : Stop w) : ∀ b t, w = b :: t → wordB b = false := by
  obtain ⟨b, t, rfl, hb⟩ := h
  intro c r e
  injection e with e1 e2
  subst e1
  exact hb.word

/- ---- the heads of long texts -/
theorem mem_tw (p : UInt8 → Bool) : ∀ (l : L) (b : UInt8), b ∈ l.takeWhile p → p b = true := by
  intro l
  induction l with
  | nil => intro b h; cases h
  | cons c l ih =>
    intro b h
    rw [List.takeWhile_cons] at h
    split at h
    · next hc =>
      rcases List.mem_cons.1 h with rfl | h
      · exact hc
      · exact ih b h
    · cases h
/-- A word's bytes. -/
def NameL (nm : L) : Prop := nm ≠ [] ∧ wordN nm = nm.length
theorem NameL.word {nm : L} (h : NameL nm) : ∀ b ∈ nm, wordB b = true := by
  obtain ⟨h1, h2⟩ := h
  obtain ⟨c, r, rfl⟩ := List.exists_cons_of_ne_nil h1
  rw [wordN_span] at h2
  split at h2
  · simp at h2
  · intro b hb
    have := (List.takeWhile_prefix wordB (l := c :: r))
    have e := List.IsPrefix.eq_of_length this h2
    rw [← e] at hb
    exact mem_tw _ _ _ hb
theorem NameL.wordN {nm : L} (h : NameL nm) (t : L) (ht : ∀ b r, t = b :: r → wordB b = false) : Cutting.wordN (nm ++ t) = nm.length := by
  have h2 := wordN_loc [] t ht nm (by rw [List.append_nil]; exact wordN_le nm)
  rw [h2, List.append_nil, h.2]
theorem wordN_take (r : L) : NameL (r.take (Cutting.wordN r)) ∨ Cutting.wordN r = 0 := by
  rcases Nat.eq_zero_or_pos (Cutting.wordN r) with h | h
  · exact .inr h
  · left
    have hle := wordN_le r
    refine ⟨by intro e; have := congrArg List.length e; rw [List.length_take, List.length_nil] at this; omega, ?_⟩
    have := wordN_loc (r.drop (Cutting.wordN r)) [] (by intro b t e; cases e) (r.take (Cutting.wordN r)) (by rw [List.take_append_drop, List.length_take]; omega)
    rw [List.append_nil, List.take_append_drop] at this
    rw [this, List.length_take]; omega
theorem word_ne {b : UInt8} (h : wordB b = true) : b ≠ 39 ∧ b ≠ 10 := by
  refine ⟨?_, ?_⟩ <;> (rintro rfl; revert h; decide)
/-- A head in parts: the three bytes, the quote, the name, the quote, the line's end. -/
theorem head_form (r : L) (h : headOk r = true) : ∃ a q rest, a = r.take 3 ∧ a.length = 3 ∧ (q = [] ∨ q = [39]) ∧ NameL (headName r) ∧ r = a ++ (q ++ (headName r ++ (q ++ (10 :: rest)))) ∧ headAt r = 3 + q.length + (headName r).length + q.length + 1 ∧ quoteN r = q.length := by
  have h0 : 0 < Cutting.wordN (headRest r) ∧ Lib.hasPrefix ((headRest r).drop (Cutting.wordN (headRest r))) (headFin r) = true := by
    have := h
    unfold headOk at this; simpa using this
  have hnm : headName r = (headRest r).take (Cutting.wordN (headRest r)) := by rw [headName, if_pos h]
  have hat : headAt r = 3 + quoteN r + Cutting.wordN (headRest r) + (headFin r).length := by rw [headAt, if_pos h]
  have hN : NameL (headName r) := by
    rw [hnm]
    rcases wordN_take (headRest r) with h2 | h2
    · exact h2
    · omega
  have hlen : (headName r).length = Cutting.wordN (headRest r) := by rw [hnm, List.length_take]; have := wordN_le (headRest r); omega
  obtain ⟨t, ht⟩ := hp_eq h0.2
  have hrest : headRest r = headName r ++ (headFin r ++ t) := by rw [← ht, hnm, List.take_append_drop]
  have h3 : (r.drop 3).length = r.length - 3 := List.length_drop
  have hge : 3 < r.length := by
    have h4 := wordN_le (headRest r)
    unfold headRest at h4 h0
    rw [List.length_drop, List.length_drop] at h4
    omega
  refine ⟨r.take 3, if Lib.hasPrefix (r.drop 3) [39] then [39] else [], t, rfl, by rw [List.length_take]; omega, by split <;> simp, hN, ?_, ?_, ?_⟩
  · have e3 : r.drop 3 = (if Lib.hasPrefix (r.drop 3) [39] then [39] else []) ++ headRest r := by
      unfold headRest quoteN
      split
      · next hq =>
        obtain ⟨t2, ht2⟩ := hp_eq hq
        rw [ht2]; rfl
      · rfl
    conv => lhs; rw [← List.take_append_drop 3 r, e3, hrest]
    unfold headFin
    split <;> simp
  · rw [hat, hlen]
    unfold quoteN headFin
    split <;> simp
  · unfold quoteN; split <;> rfl
theorem head_mk (a q nm rest : L) (ha : a.length = 3) (hq : q = [] ∨ q = [39]) (hn : NameL nm) (r : L) (hr : r = a ++ (q ++ (nm ++ (q ++ (10 :: rest))))) :
    headOk r = true ∧ headName r = nm ∧ headAt r = 3 + q.length + nm.length + q.length + 1 ∧ quoteN r = q.length := by
  have hd : r.drop 3 = q ++ (nm ++ (q ++ (10 :: rest))) := by rw [hr, ← ha, List.drop_left]
  obtain ⟨c, nr, hc⟩ := List.exists_cons_of_ne_nil hn.1
  have hc39 : c ≠ 39 := (word_ne (hn.word c (by rw [hc]; simp))).1
  have hqp : Lib.hasPrefix (r.drop 3) [39] = decide (q = [39]) := by
    rw [hd]
    rcases hq with rfl | rfl
    · rw [List.nil_append, hc, List.cons_append, hp_cons]
      have : ((39 : UInt8) == c) = false := by rw [beq_eq_false_iff_ne]; exact fun e => hc39 e.symm
      rw [this]; rfl
    · rfl
  have hqn : quoteN r = q.length := by
    unfold quoteN; rw [hqp]
    rcases hq with rfl | rfl <;> rfl
  have hfin : headFin r = q ++ [10] := by
    unfold headFin; rw [hqp]
    rcases hq with rfl | rfl <;> rfl
  have hrest : headRest r = nm ++ (q ++ (10 :: rest)) := by
    unfold headRest; rw [hqn, hd, List.drop_left]
  have hw : Cutting.wordN (headRest r) = nm.length := by
    rw [hrest]
    refine hn.wordN _ ?_
    intro b t e
    rcases hq with rfl | rfl
    · injection e with e; subst e; decide
    · injection e with e; subst e; decide
  have hpos : 0 < nm.length := List.length_pos_iff.2 hn.1
  have hok : headOk r = true := by
    unfold headOk
    rw [hw, hfin, hrest, List.drop_left, show q ++ (10 :: rest) = (q ++ [10]) ++ rest by simp, hp_mk]
    simp [hpos]
  refine ⟨hok, ?_, ?_, hqn⟩
  · rw [headName, if_pos hok, hw, hrest, List.take_left]
  · rw [headAt, if_pos hok, hqn, hw, hfin]; simp; omega
theorem head_loc (u v w : L) (h : headOk (u ++ v) = true) (hle : headAt (u ++ v) ≤ u.length) : headOk (u ++ w) = true ∧ headName (u ++ w) = headName (u ++ v) ∧ headAt (u ++ w) = headAt (u ++ v) ∧ quoteN (u ++ w) = quoteN (u ++ v) := by
  obtain ⟨a, q, rest, _, ha, hq, hn, hr, hat, hqn⟩ := head_form _ h
  have hH : (a ++ (q ++ (headName (u ++ v) ++ (q ++ [10])))).length = headAt (u ++ v) := by
    rw [hat]; simp only [List.length_append, ha, List.length_cons, List.length_nil]; omega
  have hr2 : u ++ v = (a ++ (q ++ (headName (u ++ v) ++ (q ++ [10])))) ++ rest := by
    conv => lhs; rw [hr]
    simp
  have hu : u = (a ++ (q ++ (headName (u ++ v) ++ (q ++ [10])))) ++ u.drop (headAt (u ++ v)) := by
    have := congrArg (List.take (headAt (u ++ v))) hr2
    rw [List.take_append_of_le_length hle, ← hH, List.take_left] at this
    conv => lhs; rw [← List.take_append_drop (headAt (u ++ v)) u]
    rw [← hH, this]
  have hm := head_mk a q (headName (u ++ v)) (u.drop (headAt (u ++ v)) ++ w) ha hq hn (u ++ w) (by
    conv => lhs; rw [hu]
    simp)
  rw [hat, hqn]
  exact hm
theorem head_in (u w : L) (h : headOk (u ++ w) = true) (hw : Stop w) (h3 : 3 ≤ u.length) : headAt (u ++ w) ≤ u.length := by
  obtain ⟨a, q, rest, _, ha, hq, hn, hr, hat, hqn⟩ := head_form _ h
  obtain ⟨b, t, rfl, hb⟩ := hw
  refine Nat.le_of_not_lt fun hlt => ?_
  have hg : (u ++ b :: t)[u.length]? = some b := by simp
  rw [hr, List.getElem?_append_right (by omega)] at hg
  have hmem : b ∈ q ++ (headName (u ++ b :: t) ++ (q ++ [10])) := by
    have e : q ++ (headName (u ++ b :: t) ++ (q ++ (10 :: rest))) = (q ++ (headName (u ++ b :: t) ++ (q ++ [10]))) ++ rest := by simp
    rw [e, List.getElem?_append_left (by rw [hat] at hlt; simp only [List.length_append, List.length_cons, List.length_nil]; omega)] at hg
    exact List.mem_of_getElem? hg
  have hq9 : b ∈ q → b = 39 := by
    rcases hq with rfl | rfl
    · intro hm; cases hm
    · intro hm; simpa using hm
  have hbad : b = 39 ∨ b = 10 ∨ wordB b = true := by
    simp only [List.mem_append, List.mem_singleton] at hmem
    rcases hmem with hm | hm | hm | hm
    · exact .inl (hq9 hm)
    · exact .inr (.inr (hn.word b hm))
    · exact .inl (hq9 hm)
    · exact .inr (.inl hm)
  rw [hb.word] at hbad
  rcases hb with rfl | rfl | rfl | rfl <;> simp at hbad
end Go.Proofs.YtjcldgogjgchiaaGreatDoor
