/-
  Plain facts: what is put in behind a token has no part in the token.
-/
import Derived.Test.YtjcldgogjgchiaaGreatDoorCodeT
import Derived.Test.YtjcldgogjgchiaaGreatDoorStayB
namespace Go.Proofs.YtjcldgogjgchiaaGreatDoor
open Go Cutting Wording

/-- What begins with a blank that does not end a line. -/
def Blank (w : L) : Prop := ∃ b t, w = b :: t ∧ (b = 32 ∨ b = 9 ∨ b = 13)
theorem Blank.stop {w : L} (h : Blank w) : Stop w := by
  obtain ⟨b, t, rfl, hb⟩ := h
  exact ⟨b, t, rfl, by rcases hb with rfl | rfl | rfl <;> simp [stopB]⟩
theorem hexB_stop {b : UInt8} (h : stopB b) : hexB b = false ∧ digB b = false ∧ b ≠ 92 ∧ b ≠ 120 ∧ b ≠ 88 := by
  rcases h with rfl | rfl | rfl | rfl <;> decide
theorem take_app {u v : L} {n : Nat} (h : n ≤ u.length) (w : L) : (u ++ w).take n = (u ++ v).take n := by
  rw [List.take_append_of_le_length h, List.take_append_of_le_length h]

/- ---- texts -/
theorem endGo_loc (q : UInt8) (v w : L) : ∀ (n : Nat) (u : L), u.length ≤ n → ∀ e, endGo q (u ++ v) = some e → e < u.length → endGo q (u ++ w) = some e := by
  intro n
  induction n with
  | zero => intro u h e _ hl; omega
  | succ n ih =>
    intro u h e he hl
    match u with
    | [] => simp at hl
    | b :: u =>
      by_cases h1 : b = 92
      · subst h1
        rw [List.cons_append, endGo_back] at he ⊢
        match u with
        | [] =>
          split at he
          · cases he
          · obtain ⟨e', _, rfl⟩ := Option.map_eq_some_iff.1 he
            simp at hl
        | c :: u =>
          rw [if_neg (by simp)] at he ⊢
          rw [List.cons_append, List.drop_succ_cons, List.drop_zero] at he ⊢
          obtain ⟨e', he', rfl⟩ := Option.map_eq_some_iff.1 he
          rw [ih u (by simp at h; omega) e' he' (by simp at hl; omega)]
          rfl
      · by_cases h2 : b = q
        · subst h2; rw [List.cons_append, endGo_quote _ _ h1] at he ⊢; exact he
        · rw [List.cons_append, endGo_other _ _ _ h1 h2] at he ⊢
          obtain ⟨e', he', rfl⟩ := Option.map_eq_some_iff.1 he
          rw [ih u (by simp at h; omega) e' he' (by simp at hl; omega)]
          rfl
theorem textGo_end (q : UInt8) : ∀ (n : Nat) (r : L), r.length ≤ n → ∀ e, endGo q r = some e → textGo q r = e + 1 := by
  intro n
  induction n with
  | zero => intro r h e he; have := List.eq_nil_of_length_eq_zero (Nat.le_zero.1 h); subst this; simp [endGo] at he
  | succ n ih =>
    intro r h e he
    match r with
    | [] => simp [endGo] at he
    | b :: r =>
      by_cases h1 : b = 92
      · subst h1
        rw [endGo_back] at he
        match r with
        | [] => simp at he
        | c :: r =>
          rw [if_neg (by simp), List.drop_succ_cons, List.drop_zero] at he
          obtain ⟨e', he', rfl⟩ := Option.map_eq_some_iff.1 he
          have := ih r (by simp at h; omega) e' he'
          simp only [textGo, this]
          simp; omega
      · have h1' : (b == 92) = false := by rw [beq_eq_false_iff_ne]; exact h1
        by_cases h2 : b = q
        · subst h2; rw [endGo_quote _ _ h1] at he; injection he with he; subst he
          cases r <;> simp [textGo, h1']
        · have h2' : (b == q) = false := by rw [beq_eq_false_iff_ne]; exact h2
          rw [endGo_other _ _ _ h1 h2] at he
          obtain ⟨e', he', rfl⟩ := Option.map_eq_some_iff.1 he
          have := ih r (by simp at h; omega) e' he'
          cases r with
          | nil => simp [endGo] at he'
          | cons c r => simp only [textGo, h1', h2', Bool.false_eq_true, if_false] at this ⊢; omega

/- ---- long texts -/
theorem linesGo_eq (nm : L) (st : Bool) (b : UInt8) (r : L) : linesGo nm st (b :: r) = if st && lineB nm (b :: r) then some 0 else (linesGo nm (b == 10) r).map (· + 1) := rfl
theorem linesGo_words (nm v : L) : ∀ u : L, (∀ b ∈ u, wordB b = true) → linesGo nm false (u ++ v) = (linesGo nm false v).map (· + u.length) := by
  intro u
  induction u with
  | nil => intro _; rw [List.nil_append]; cases linesGo nm false v <;> rfl
  | cons b u ih =>
    intro h
    have h10 : (b == 10) = false := by rw [beq_eq_false_iff_ne]; exact (word_ne (h b (by simp))).2
    rw [List.cons_append, linesGo_eq, h10, ih (fun c hc => h c (by simp [hc]))]
    cases linesGo nm false v with
    | none => rfl
    | some n => simp; omega
theorem linesGo_loc (nm v w : L) (hn : NameL nm) (hw : Stop w) : ∀ (u : L) (st : Bool) (n : Nat), linesGo nm st (u ++ v) = some n → n + nm.length ≤ u.length → linesGo nm st (u ++ w) = some n := by
  intro u
  have hpos : 0 < nm.length := List.length_pos_iff.2 hn.1
  induction u with
  | nil => intro st n _ h; simp only [List.length_nil] at h; omega
  | cons b u ih =>
    intro st n h hle
    rw [List.cons_append, linesGo_eq] at h ⊢
    by_cases hc : (st && lineB nm (b :: (u ++ v))) = true
    · rw [if_pos hc] at h
      injection h with h
      subst h
      rw [Bool.and_eq_true] at hc
      have := lineB_yes (u := b :: u) (v := v) (w := w) hw hc.2 (by omega)
      rw [if_pos (by rw [Bool.and_eq_true]; exact ⟨hc.1, this⟩)]
    · rw [if_neg hc] at h
      obtain ⟨m, hm, rfl⟩ := Option.map_eq_some_iff.1 h
      have hc2 : ¬ (st && lineB nm (b :: (u ++ w))) = true := by
        intro h2
        rw [Bool.and_eq_true] at h2
        have h3 : lineB nm ((b :: u) ++ v) = false := by
          rw [← Bool.not_eq_true]
          intro h4
          exact hc (by rw [Bool.and_eq_true]; exact ⟨h2.1, h4⟩)
        have h5 := lineB_no (u := b :: u) hn hw h3 h2.2
        have h10 : (b == 10) = false := by rw [beq_eq_false_iff_ne]; exact (word_ne (h5 b (by simp))).2
        rw [h10, linesGo_words nm v u (fun c hc => h5 c (by simp [hc]))] at hm
        obtain ⟨k, _, hk⟩ := Option.map_eq_some_iff.1 hm
        simp only [List.length_cons] at hle
        omega
      rw [if_neg hc2, ih (b == 10) m hm (by simp only [List.length_cons] at hle; omega)]
      rfl
theorem longGo_lines (nm : L) (hn : nm ≠ []) : ∀ (r : L) (st : Bool) (n : Nat), linesGo nm st r = some n → longGo nm st r = n + nm.length := by
  intro r
  induction r with
  | nil =>
    intro st n h
    rw [linesGo] at h
    obtain ⟨b, t, rfl⟩ := List.exists_cons_of_ne_nil hn
    rw [hp_none] at h
    simp at h
  | cons b r ih =>
    intro st n h
    rw [linesGo_eq] at h
    rw [longGo_eq]
    split at h
    · next hc => injection h with h; subst h; rw [if_pos hc]; omega
    · next hc =>
      obtain ⟨m, hm, rfl⟩ := Option.map_eq_some_iff.1 h
      rw [if_neg hc, ih _ _ hm]; omega
theorem isLong_loc {u v w : L} (hw : Stop w) (h : isLong (u ++ w) = true) : isLong (u ++ v) = true ∧ headAt (u ++ w) ≤ u.length := by
  unfold isLong at h ⊢
  rw [Bool.and_eq_true] at h
  have h3 := hp_stop hw no_stop4 h.1
  have h4 := head_in u w h.2 hw h3
  rw [Bool.and_eq_true]
  exact ⟨⟨by rw [hp_len v w h3]; exact h.1, (head_loc u w v h.2 h4).1⟩, h4⟩
theorem longT_ok {s : L} {x : Tk × Nat} (hx : longT s = .ok x) : ∃ n, linesGo (headName s) true (s.drop (headAt s)) = some n ∧ x.2 = headAt s + n + (headName s).length := by
  unfold longT at hx
  cases hl : linesGo (headName s) true (s.drop (headAt s)) with
  | none => rw [hl] at hx; cases hx
  | some n =>
    rw [hl] at hx
    dsimp only at hx
    refine ⟨n, rfl, ?_⟩
    split at hx
    · injection hx with hx; subst hx; rfl
    · split at hx
      · cases hx
      · injection hx with hx; subst hx; rfl
theorem longT_loc {u v w : L} (hw : Stop w) (x : Tk × Nat) (h : isLong (u ++ v) = true) (hx : longT (u ++ v) = .ok x) (hle : x.2 ≤ u.length) : isLong (u ++ w) = true ∧ longT (u ++ w) = .ok x := by
  obtain ⟨n, hn, hx2⟩ := longT_ok hx
  have hA : headAt (u ++ v) ≤ u.length := by omega
  unfold isLong at h ⊢
  rw [Bool.and_eq_true] at h ⊢
  obtain ⟨_, q, _, _, _, _, hnm, _, hat, _⟩ := head_form _ h.2
  have hd := head_loc u v w h.2 hA
  have h3 : 3 ≤ u.length := by omega
  have d1 : (u ++ v).drop (headAt (u ++ v)) = u.drop (headAt (u ++ v)) ++ v := List.drop_append_of_le_length hA
  have d2 : (u ++ w).drop (headAt (u ++ v)) = u.drop (headAt (u ++ v)) ++ w := List.drop_append_of_le_length hA
  have hln : n + (headName (u ++ v)).length ≤ (u.drop (headAt (u ++ v))).length := by rw [List.length_drop]; omega
  have hn2 : linesGo (headName (u ++ v)) true (u.drop (headAt (u ++ v)) ++ w) = some n := linesGo_loc _ v w hnm hw _ _ _ (by rw [← d1]; exact hn) hln
  have ht : (u.drop (headAt (u ++ v)) ++ w).take n = (u.drop (headAt (u ++ v)) ++ v).take n := take_app (by omega) w
  refine ⟨⟨by rw [hp_len (p := [60, 60, 60]) w v h3]; exact h.1, hd.1⟩, ?_⟩
  unfold longT at hx ⊢
  rw [hd.2.1, hd.2.2.1, hd.2.2.2, d2, hn2]
  rw [d1] at hn
  rw [d1, hn] at hx
  dsimp only at hx ⊢
  rw [ht]
  exact hx

/- ---- names -/
theorem moreN_loc (v w : L) (hw : Stop w) : ∀ (n : Nat) (u : L), u.length ≤ n → ∀ k, moreN (u ++ v) = (k, true) → k ≤ u.length → moreN (u ++ w) = (k, true) := by
  intro n
  have hw92 : Lib.hasPrefix w [92] = false := by
    obtain ⟨b, t, rfl, hb⟩ := hw
    rw [hp_cons]
    have : ((92 : UInt8) == b) = false := by rw [beq_eq_false_iff_ne]; exact fun e => (hexB_stop hb).2.2.1 e.symm
    rw [this]; rfl
  have base : ∀ k, moreN v = (k, true) → k ≤ 0 → moreN w = (k, true) := by
    intro k hk h0
    have : k = 0 := by omega
    subst this
    exact moreN_none _ hw92
  induction n with
  | zero =>
    intro u h k hk hl
    have := List.eq_nil_of_length_eq_zero (Nat.le_zero.1 h); subst this
    exact base k hk hl
  | succ n ih =>
    intro u h k hk hl
    match u with
    | [] => exact base k hk hl
    | b :: u =>
      cases hp : Lib.hasPrefix (b :: (u ++ v)) [92] with
      | false =>
        have hp2 : Lib.hasPrefix (b :: (u ++ w)) [92] = false := by rw [← hp]; exact hp_len (t := b :: u) w v (by simp)
        rw [List.cons_append, moreN_none _ hp] at hk
        rw [List.cons_append, moreN_none _ hp2, hk]
      | true =>
        have hp2 : Lib.hasPrefix (b :: (u ++ w)) [92] = true := by rw [← hp]; exact hp_len (t := b :: u) w v (by simp)
        by_cases h0 : wordN ((b :: (u ++ v)).drop 1) = 0
        · rw [List.cons_append, moreN_bad _ hp h0] at hk; cases hk
        · rw [List.cons_append, moreN_go _ hp h0] at hk
          injection hk with hk1 hk2
          rw [List.drop_succ_cons, List.drop_zero] at h0 hk1 hk2
          have hm : wordN (u ++ v) ≤ u.length := by simp only [List.length_cons] at hl; omega
          have hm2 := wordN_loc v w hw.noWord u hm
          have d : ∀ y : L, (b :: (u ++ y)).drop (1 + wordN (u ++ v)) = u.drop (wordN (u ++ v)) ++ y := fun y => by rw [Nat.add_comm, List.drop_succ_cons, List.drop_append_of_le_length hm]
          rw [d] at hk1 hk2
          have hi := ih (u.drop (wordN (u ++ v))) (by rw [List.length_drop]; simp only [List.length_cons] at h; omega) (moreN (u.drop (wordN (u ++ v)) ++ v)).1 (by rw [← hk2]) (by rw [List.length_drop]; simp only [List.length_cons] at hl; omega)
          rw [List.cons_append, moreN_go _ hp2 (by rw [List.drop_succ_cons, List.drop_zero, hm2]; exact h0), List.drop_succ_cons, List.drop_zero, hm2, d, hi, hk1]
theorem nameN_loc {u v w : L} (hw : Stop w) {k : Nat} (h : nameN (u ++ v) = (k, true)) (hle : k ≤ u.length) : nameN (u ++ w) = (k, true) := by
  unfold nameN at h ⊢
  injection h with h1 h2
  have hm : wordN (u ++ v) ≤ u.length := by omega
  have hm2 := wordN_loc v w hw.noWord u hm
  rw [List.drop_append_of_le_length hm] at h1 h2
  have := moreN_loc v w hw _ (u.drop (wordN (u ++ v))) (Nat.le_refl _) (moreN (u.drop (wordN (u ++ v)) ++ v)).1 (by rw [← h2]) (by rw [List.length_drop]; omega)
  rw [hm2, List.drop_append_of_le_length hm, this, h1]

/- ---- numbers -/
theorem isHex_loc {u v w : L} (hu : u ≠ []) (hw : Stop w) (hle : numN (u ++ v) ≤ u.length) : isHex (u ++ w) = isHex (u ++ v) := by
  obtain ⟨b, u, rfl⟩ := List.exists_cons_of_ne_nil hu
  match u with
  | [] =>
    have h1 : isHex ([b] ++ w) = false := by
      obtain ⟨c, t, rfl, hc⟩ := hw
      have h1 := (hexB_stop hc).2.2.2
      unfold isHex
      simp only [List.cons_append, List.nil_append, hp_cons]
      have e1 : ((120 : UInt8) == c) = false := by rw [beq_eq_false_iff_ne]; exact fun e => h1.1 e.symm
      have e2 : ((88 : UInt8) == c) = false := by rw [beq_eq_false_iff_ne]; exact fun e => h1.2 e.symm
      rw [e1, e2]; simp
    rw [h1]
    cases h2 : isHex ([b] ++ v) with
    | false => rfl
    | true =>
      unfold numN at hle
      rw [h2, if_pos rfl] at hle
      simp only [List.length_cons, List.length_nil] at hle
      omega
  | c :: u =>
    have e : ∀ y : L, (b :: c :: u ++ y).drop 2 = u ++ y := fun y => rfl
    have hs : spanN hexB (u ++ v) ≤ u.length ∨ isHex (b :: c :: u ++ v) = false := by
      cases h2 : isHex (b :: c :: u ++ v) with
      | false => exact .inr rfl
      | true =>
        unfold numN at hle
        rw [h2, if_pos rfl, e] at hle
        simp only [List.length_cons] at hle
        exact .inl (by omega)
    have hp : ∀ p : L, p.length = 2 → Lib.hasPrefix (b :: c :: u ++ w) p = Lib.hasPrefix (b :: c :: u ++ v) p := fun p h => hp_len (t := b :: c :: u) w v (by rw [h]; simp)
    have hstop : ∀ x t, w = x :: t → hexB x = false := by
      obtain ⟨x, t, rfl, hx⟩ := hw
      intro y r e; injection e with e; subst e; exact (hexB_stop hx).1
    unfold isHex at hs ⊢
    rw [hp _ rfl, hp _ rfl, e, e]
    rw [e] at hs
    cases hq : (Lib.hasPrefix (b :: c :: u ++ v) [48, 120] || Lib.hasPrefix (b :: c :: u ++ v) [48, 88]) with
    | false => rfl
    | true =>
      rw [hq, Bool.true_and, decide_eq_false_iff_not] at hs
      rw [spanN_loc hexB v w hstop u (by rcases hs with hs | hs <;> omega)]
theorem num_loc {u v w : L} (hu : u ≠ []) (hw : Stop w) (hle : numN (u ++ v) ≤ u.length) : numN (u ++ w) = numN (u ++ v) ∧ numDigits (u ++ w) = numDigits (u ++ v) ∧ numBase (u ++ w) = numBase (u ++ v) := by
  have hx := isHex_loc hu hw hle
  obtain ⟨b, u, rfl⟩ := List.exists_cons_of_ne_nil hu
  have hstop : ∀ x t, w = x :: t → hexB x = false ∧ digB x = false := by
    obtain ⟨x, t, rfl, hxs⟩ := hw
    intro y r e; injection e with e; subst e; exact ⟨(hexB_stop hxs).1, (hexB_stop hxs).2.1⟩
  have hN : numN (b :: u ++ w) = numN (b :: u ++ v) := by
    unfold numN at hle ⊢
    rw [hx]
    split at hle
    · next h =>
      rw [if_pos h, if_pos h]
      have h2 : 2 ≤ (b :: u).length := by omega
      have d : ∀ y : L, (b :: u ++ y).drop 2 = (b :: u).drop 2 ++ y := fun y => List.drop_append_of_le_length h2
      rw [d] at hle
      rw [d, d, spanN_loc hexB v w (fun x t e => (hstop x t e).1) _ (by rw [List.length_drop]; omega)]
    · next h =>
      rw [if_neg h, if_neg h]
      have e : (b :: u ++ w).head? = (b :: u ++ v).head? := rfl
      rw [e]
      split
      · rfl
      · next h4 =>
        rw [if_neg h4] at hle
        exact spanN_loc digB v w (fun x t e => (hstop x t e).2) _ hle
  refine ⟨hN, ?_, by unfold numBase; rw [hx]⟩
  unfold numDigits
  rw [hx, hN]
  split
  · next h =>
    unfold numN at hle
    rw [if_pos h] at hle
    have h2 : 2 ≤ (b :: u).length := by omega
    have d : ∀ y : L, (b :: u ++ y).drop 2 = (b :: u).drop 2 ++ y := fun y => List.drop_append_of_le_length h2
    rw [d] at hle
    rw [d, d, spanN_loc hexB v w (fun x t e => (hstop x t e).1) _ (by rw [List.length_drop]; omega)]
    exact take_app (by rw [List.length_drop]; omega) w
  · exact take_app hle w

/- ---- signs -/
theorem sign_plain : ∀ c ∈ signsL, ∀ b ∈ c, b ≠ 32 ∧ b ≠ 9 ∧ b ≠ 13 := by decide
theorem isSign_blank {s : L} {b : UInt8} (hb : b ∈ s) (h : b = 32 ∨ b = 9 ∨ b = 13) : isSignB s = false := by
  rw [← Bool.not_eq_true]
  intro hs
  have := sign_plain s (List.contains_iff_mem.1 hs) b hb
  rcases h with rfl | rfl | rfl <;> simp at this
theorem signN_loc {u v w : L} (hw : Blank w) (hle : signN (u ++ v) ≤ u.length) : signN (u ++ w) = signN (u ++ v) := by
  have big : ∀ k, u.length < k → k ≤ (u ++ w).length → isSignB ((u ++ w).take k) = false := by
    intro k hk _
    obtain ⟨b, t, rfl, hb⟩ := hw
    refine isSign_blank (b := b) ?_ hb
    have : (u ++ b :: t).take k = u ++ (b :: t).take (k - u.length) := by rw [List.take_append, List.take_of_length_le (by omega)]
    rw [this]
    obtain ⟨m, hm⟩ : ∃ m, k - u.length = m + 1 := ⟨k - u.length - 1, by omega⟩
    rw [hm, List.take_succ_cons]
    simp
  have small : ∀ k, k ≤ u.length → (decide (k ≤ (u ++ w).length) && isSignB ((u ++ w).take k)) = (decide (k ≤ (u ++ v).length) && isSignB ((u ++ v).take k)) := by
    intro k hk
    rw [take_app (v := v) hk w]
    congr 1
    rw [List.length_append, List.length_append, decide_eq_true (by omega), decide_eq_true (by omega)]
  have one : ∀ k, (u.length < k → (decide (k ≤ (u ++ v).length) && isSignB ((u ++ v).take k)) = false) → (decide (k ≤ (u ++ w).length) && isSignB ((u ++ w).take k)) = (decide (k ≤ (u ++ v).length) && isSignB ((u ++ v).take k)) := by
    intro k hk
    by_cases h : k ≤ u.length
    · exact small k h
    · rw [hk (by omega)]
      by_cases h2 : k ≤ (u ++ w).length
      · rw [big k (by omega) h2, Bool.and_false]
      · rw [decide_eq_false h2, Bool.false_and]
  unfold signN at hle ⊢
  have h3 := one 3 (fun h => by
    rw [← Bool.not_eq_true]; intro h2; rw [if_pos h2] at hle; omega)
  rw [h3]
  by_cases c3 : (decide (3 ≤ (u ++ v).length) && isSignB ((u ++ v).take 3)) = true
  · rw [if_pos c3, if_pos c3]
  · rw [if_neg c3] at hle ⊢
    rw [if_neg c3]
    have h2 := one 2 (fun h => by
      rw [← Bool.not_eq_true]; intro h2; rw [if_pos h2] at hle; omega)
    rw [h2]
    by_cases c2 : (decide (2 ≤ (u ++ v).length) && isSignB ((u ++ v).take 2)) = true
    · rw [if_pos c2, if_pos c2]
    · rw [if_neg c2] at hle ⊢
      rw [if_neg c2]
      have h1 := one 1 (fun h => by
        rw [← Bool.not_eq_true]; intro h2; rw [if_pos h2] at hle; omega)
      rw [h1]

/- ---- a token -/
theorem tok_loc {u v w : L} (hu : u ≠ []) (hw : Blank w) (x : Tk × Nat) (hx : tokT (u ++ v) = .ok x) (hle : x.2 ≤ u.length) : tokT (u ++ w) = .ok x := by
  obtain ⟨b, u, rfl⟩ := List.exists_cons_of_ne_nil hu
  have hs := hw.stop
  have d1 : ∀ y : L, (b :: u ++ y).drop 1 = u ++ y := fun y => rfl
  have hl1 : (b :: u).length = u.length + 1 := rfl
  by_cases h36 : b = 36
  · have hh : ∀ y : L, (b :: u ++ y).head? = some 36 := fun y => by rw [h36]; rfl
    rw [tokT_var _ (hh v), d1] at hx
    rw [tokT_var _ (hh w), d1]
    have hm : wordN (u ++ v) ≤ u.length := by
      split at hx
      · cases hx
      · split at hx
        · cases hx
        · injection hx with hx; subst hx; dsimp only at hle; omega
    rw [wordN_loc v w hs.noWord u hm, take_app (v := v) hm w]
    exact hx
  · cases hdg : digB b
    · by_cases h39 : b = 39
      · have hh : ∀ y : L, (b :: u ++ y).head? = some 39 := fun y => by rw [h39]; rfl
        rw [tokT_plain _ (hh v), d1] at hx
        rw [tokT_plain _ (hh w), d1]
        cases he : endGo 39 (u ++ v) with
        | none => rw [he] at hx; cases hx
        | some e =>
          rw [he] at hx
          have hlt : e < u.length := by injection hx with hx; subst hx; dsimp only at hle; omega
          rw [endGo_loc 39 v w _ u (Nat.le_refl _) e he hlt]
          dsimp only at hx ⊢
          rw [take_app (v := v) (by omega) w]
          exact hx
      · by_cases h34 : b = 34
        · have hh : ∀ y : L, (b :: u ++ y).head? = some 34 := fun y => by rw [h34]; rfl
          rw [tokT_wide _ (hh v), d1] at hx
          rw [tokT_wide _ (hh w), d1]
          cases he : endGo 34 (u ++ v) with
          | none =>
            rw [he] at hx
            dsimp only at hx
            cases hwt : wideT (u ++ v) true with
            | error y => rw [hwt] at hx; cases hx
            | ok y => rw [hwt] at hx; cases hx
          | some e =>
            rw [he] at hx
            dsimp only at hx
            have hlt : e < u.length := by
              cases hwt : wideT ((u ++ v).take e) true with
              | error y => rw [hwt] at hx; cases hx
              | ok y => rw [hwt] at hx; injection hx with hx; subst hx; dsimp only at hle; omega
            rw [endGo_loc 34 v w _ u (Nat.le_refl _) e he hlt]
            dsimp only
            rw [take_app (v := v) (by omega) w]
            exact hx
        · cases hnm : (b == 92 || (wordB b && !digB b))
          · rw [Bool.or_eq_false_iff] at hnm
            have h92 : b ≠ 92 := by simpa using hnm.1
            have hwd : wordB b = false := by have := hnm.2; rw [hdg] at this; simpa using this
            rw [tokT_other _ b rfl h36 hdg h39 h34 h92 hwd] at hx
            rw [tokT_other _ b rfl h36 hdg h39 h34 h92 hwd]
            split at hx
            · next hlg =>
              have := longT_loc hs x hlg hx hle
              rw [if_pos this.1, this.2]
            · next hlg =>
              have hlg2 : ¬ isLong (b :: u ++ w) = true := fun h => hlg (isLong_loc hs h).1
              rw [if_neg hlg2]
              split at hx
              · cases hx
              · next h0 =>
                have hn : signN (b :: u ++ v) ≤ (b :: u).length := by injection hx with hx; subst hx; exact hle
                have he := signN_loc hw hn
                rw [he, if_neg h0, take_app (v := v) hn w]
                exact hx
          · have hh : ∀ y : L, (b :: u ++ y).head?.map (fun b => b == 92 || (wordB b && !digB b)) = some true := fun y => by simpa using hnm
            rw [tokT_name _ (hh v)] at hx
            rw [tokT_name _ (hh w)]
            cases hf : (nameN (b :: u ++ v)).2
            · rw [hf] at hx; cases hx
            · have hn : (nameN (b :: u ++ v)).1 ≤ (b :: u).length := by
                rw [hf] at hx
                simp only [Bool.not_true, Bool.false_eq_true, if_false] at hx
                split at hx
                · cases hx
                · split at hx
                  · injection hx with hx; subst hx; exact hle
                  · injection hx with hx; subst hx; exact hle
              have he := nameN_loc (w := w) hs (k := (nameN (b :: u ++ v)).1) (by rw [← hf]) hn
              rw [he]
              dsimp only
              rw [take_app (v := v) hn w]
              rw [hf] at hx
              exact hx
    · have hh : ∀ y : L, (b :: u ++ y).head?.map digB = some true := fun y => by simpa using hdg
      rw [tokT_num _ (hh v)] at hx
      rw [tokT_num _ (hh w)]
      split at hx
      · cases hx
      · next hwd =>
        split at hx
        · cases hx
        · next hv63 =>
          injection hx with hx
          have hn : numN (b :: u ++ v) ≤ (b :: u).length := by subst hx; exact hle
          have he := num_loc (by simp) hs hn
          rw [he.1, he.2.1, he.2.2]
          have hwd2 : ¬ (((b :: u ++ w).drop (numN (b :: u ++ v))).head?.map wordB).getD false = true := by
            rw [List.drop_append_of_le_length hn] at hwd ⊢
            cases hdr : (b :: u).drop (numN (b :: u ++ v)) with
            | nil =>
              obtain ⟨c, t, rfl, hc⟩ := hs
              simp [hc.word]
            | cons c t =>
              rw [hdr] at hwd
              simpa using hwd
          rw [if_neg hwd2, if_neg hv63, ← hx]
end Go.Proofs.YtjcldgogjgchiaaGreatDoor
