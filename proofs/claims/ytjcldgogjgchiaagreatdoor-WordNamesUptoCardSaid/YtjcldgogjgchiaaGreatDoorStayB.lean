/-
  Plain facts: the steps of the cutting, and what is put in behind them.
-/
import Derived.Test.YtjcldgogjgchiaaGreatDoorStay
namespace Go.Proofs.YtjcldgogjgchiaaGreatDoor
open Go Cutting Wording

/- ---- long texts -/
theorem longGo_words (nm v : L) (hv : v ≠ []) : ∀ u : L, (∀ b ∈ u, wordB b = true) → u.length < longGo nm false (u ++ v) := by
  intro u
  induction u with
  | nil =>
    intro _
    obtain ⟨b, r, rfl⟩ := List.exists_cons_of_ne_nil hv
    rw [List.nil_append, longGo]
    simp; omega
  | cons b u ih =>
    intro h
    rw [List.cons_append, longGo]
    have h10 : (b == 10) = false := by rw [beq_eq_false_iff_ne]; exact (word_ne (h b (by simp))).2
    have := ih (fun c hc => h c (by simp [hc]))
    rw [h10]
    simp only [Bool.false_and, Bool.false_eq_true, if_false, List.length_cons]
    omega
/-- Whether a line begins with the name and no longer word. -/
def lineB (nm r : L) : Bool := Lib.hasPrefix r nm && wordN r == nm.length
theorem hp_word {nm u w : L} (hn : NameL nm) (hw : Stop w) (h : Lib.hasPrefix (u ++ w) nm = true) : nm.length ≤ u.length := by
  obtain ⟨t, ht⟩ := hp_eq h
  obtain ⟨b, t2, rfl, hb⟩ := hw
  refine Nat.le_of_not_lt fun hlt => ?_
  have hg : (u ++ b :: t2)[u.length]? = some b := by simp
  rw [ht, List.getElem?_append_left hlt] at hg
  have := hn.word b (List.mem_of_getElem? hg)
  rw [hb.word] at this
  cases this
theorem lineB_yes {nm u v w : L} (hw : Stop w) (h : lineB nm (u ++ v) = true) (hle : nm.length ≤ u.length) : lineB nm (u ++ w) = true := by
  unfold lineB at h ⊢
  rw [Bool.and_eq_true, beq_iff_eq] at h ⊢
  exact ⟨by rw [hp_len w v hle]; exact h.1, by rw [wordN_loc v w hw.noWord u (by omega)]; exact h.2⟩
theorem lineB_no {nm u v w : L} (hn : NameL nm) (hw : Stop w) (h : lineB nm (u ++ v) = false) (h2 : lineB nm (u ++ w) = true) : ∀ b ∈ u, wordB b = true := by
  unfold lineB at h h2
  rw [Bool.and_eq_true, beq_iff_eq] at h2
  have hle := hp_word hn hw h2.1
  have hp : Lib.hasPrefix (u ++ v) nm = true := by rw [hp_len v w hle]; exact h2.1
  rw [hp, Bool.true_and, beq_eq_false_iff_ne] at h
  obtain ⟨t, ht⟩ := hp_eq h2.1
  have hu : u = nm ++ u.drop nm.length := by
    have := congrArg (List.take nm.length) ht
    rw [List.take_append_of_le_length hle, List.take_left] at this
    conv => lhs; rw [← List.take_append_drop nm.length u, this]
  have he : u.drop nm.length = [] := by
    refine Decidable.byContradiction fun hne => h ?_
    obtain ⟨c, r, hc⟩ := List.exists_cons_of_ne_nil hne
    have e1 : u ++ w = nm ++ (c :: r ++ w) := by conv => lhs; rw [hu, hc, List.append_assoc]
    have hcw : wordB c = false := by
      rw [← Bool.not_eq_true]
      intro hcw
      have hall : ∀ b ∈ nm ++ [c], wordB b = true := by
        intro b hb
        rcases List.mem_append.1 hb with hb | hb
        · exact hn.word b hb
        · rw [List.mem_singleton] at hb; rw [hb]; exact hcw
      have h3 := h2.2
      rw [e1] at h3
      obtain ⟨d, nr, hd⟩ := List.exists_cons_of_ne_nil hn.1
      have hdig : digB d = false := by
        have := hn.2
        rw [hd, wordN_span] at this
        rw [← Bool.not_eq_true]
        intro hdd
        rw [if_pos hdd] at this
        simp at this
      rw [hd, List.cons_append, wordN_span, if_neg (by rw [hdig]; simp)] at h3
      have e2 : d :: (nr ++ (c :: r ++ w)) = (nm ++ [c]) ++ (r ++ w) := by rw [hd]; simp
      have h4 : (nm ++ [c]).length ≤ spanN wordB ((nm ++ [c]) ++ (r ++ w)) := by
        unfold spanN
        rw [List.takeWhile_append_of_pos hall]
        have := List.length_append (as := nm ++ [c]) (bs := (r ++ w).takeWhile wordB)
        omega
      rw [e2, hd] at h3
      rw [hd] at h4
      simp only [List.length_append, List.length_cons, List.length_nil] at h3 h4
      omega
    have e3 : u ++ v = nm ++ (c :: r ++ v) := by conv => lhs; rw [hu, hc, List.append_assoc]
    rw [e3]
    exact hn.wordN _ (by intro b t e; injection e with e; rw [← e]; exact hcw)
  rw [hu, he, List.append_nil]
  exact hn.word
theorem longGo_eq (nm : L) (st : Bool) (b : UInt8) (r : L) : longGo nm st (b :: r) = if st && lineB nm (b :: r) then nm.length else 1 + longGo nm (b == 10) r := rfl
theorem longGo_loc (nm v w : L) (hn : NameL nm) (hv : v ≠ []) (hw : Stop w) : ∀ (u : L) (st : Bool), longGo nm st (u ++ v) ≤ u.length → longGo nm st (u ++ w) = longGo nm st (u ++ v) := by
  intro u
  have hpos : 0 < nm.length := List.length_pos_iff.2 hn.1
  induction u with
  | nil =>
    intro st h
    obtain ⟨b, r, rfl⟩ := List.exists_cons_of_ne_nil hv
    rw [List.nil_append, longGo_eq] at h
    rw [List.length_nil] at h
    split at h <;> omega
  | cons b u ih =>
    intro st h
    rw [List.cons_append, longGo_eq] at h ⊢
    rw [List.cons_append, longGo_eq]
    by_cases hc : (st && lineB nm (b :: (u ++ v))) = true
    · rw [if_pos hc] at h ⊢
      rw [Bool.and_eq_true] at hc
      have := lineB_yes (u := b :: u) (v := v) (w := w) hw hc.2 h
      rw [if_pos (by rw [Bool.and_eq_true]; exact ⟨hc.1, this⟩)]
    · rw [if_neg hc] at h ⊢
      have hc2 : ¬ (st && lineB nm (b :: (u ++ w))) = true := by
        intro h2
        rw [Bool.and_eq_true] at h2
        have h3 : lineB nm ((b :: u) ++ v) = false := by
          rw [← Bool.not_eq_true]
          intro h4
          exact hc (by rw [Bool.and_eq_true]; exact ⟨h2.1, h4⟩)
        have h5 := lineB_no (u := b :: u) hn hw h3 h2.2
        have h10 : (b == 10) = false := by rw [beq_eq_false_iff_ne]; exact (word_ne (h5 b (by simp))).2
        have h6 := longGo_words nm v hv u (fun c hc => h5 c (by simp [hc]))
        rw [h10] at h
        simp only [List.length_cons] at h
        omega
      rw [if_neg hc2, ih (b == 10) (by simp only [List.length_cons] at h; omega)]

/- ---- one step -/
theorem hp_stop {u w p : L} (hw : Stop w) (hp : ∀ b ∈ p, ¬ stopB b) (h : Lib.hasPrefix (u ++ w) p = true) : p.length ≤ u.length := by
  obtain ⟨t, ht⟩ := hp_eq h
  obtain ⟨b, t2, rfl, hb⟩ := hw
  refine Nat.le_of_not_lt fun hlt => ?_
  have hg : (u ++ b :: t2)[u.length]? = some b := by simp
  rw [ht, List.getElem?_append_left hlt] at hg
  exact hp b (List.mem_of_getElem? hg) hb
theorem no_stop1 : ∀ b ∈ ([42, 47] : L), ¬ stopB b := by intro b hb; simp at hb; rcases hb with rfl | rfl <;> simp [stopB]
theorem no_stop2 : ∀ b ∈ ([47, 42] : L), ¬ stopB b := by intro b hb; simp at hb; rcases hb with rfl | rfl <;> simp [stopB]
theorem no_stop3 : ∀ b ∈ ([47, 47] : L), ¬ stopB b := by intro b hb; simp at hb; subst hb; simp [stopB]
theorem no_stop4 : ∀ b ∈ ([60, 60, 60] : L), ¬ stopB b := by intro b hb; simp at hb; subst hb; simp [stopB]
theorem longN_le2 (r : L) (h : headOk r = true) : headAt r ≤ longN r := by rw [longN, if_pos h]; omega
theorem stepN_loc (u v w : L) (hu : u ≠ []) (hv : v ≠ []) (h10 : v.head? ≠ some 10) (hw : Stop w) (hpq : Lib.hasPrefix v [63, 62] = true → Lib.hasPrefix w [63, 62] = true)
    (hn : stepN (u ++ v) ≤ u.length) (hs : stepN (u ++ v) < u.length → Lib.hasPrefix ((u ++ v).drop (stepN (u ++ v))) [63, 62] = false) : stepN (u ++ w) = stepN (u ++ v) := by
  obtain ⟨b, u, rfl⟩ := List.exists_cons_of_ne_nil hu
  have hlen : (b :: u).length = u.length + 1 := rfl
  rw [List.cons_append] at hn hs ⊢
  rw [List.cons_append]
  simp only [stepN] at hn hs ⊢
  by_cases hq : (b == 39 || b == 34) = true
  · rw [if_pos hq] at hn ⊢
    rw [if_pos hq]
    simp only [textN] at hn ⊢
    rw [textGo_loc b v w hv _ u (Nat.le_refl _) (by omega)]
  · rw [if_neg hq] at hn hs ⊢
    rw [if_neg hq]
    -- what begins with a bar
    have two : ∀ p : L, p.length = 2 → (∀ b ∈ p, ¬ stopB b) → 2 ≤ (b :: u).length → Lib.hasPrefix (b :: (u ++ w)) p = Lib.hasPrefix (b :: (u ++ v)) p := fun p hp _ h2 => hp_len (t := b :: u) w v (by omega)
    by_cases hc : Lib.hasPrefix (b :: (u ++ v)) [47, 42] = true
    · rw [if_pos hc] at hn ⊢
      have h2 : 2 ≤ (b :: u).length := by unfold commentN at hn; omega
      rw [if_pos (by rw [two _ rfl no_stop2 h2]; exact hc)]
      unfold commentN at hn ⊢
      obtain ⟨c, u, rfl⟩ : ∃ c t, u = c :: t := by cases u with
        | nil => simp at h2
        | cons c t => exact ⟨c, t, rfl⟩
      simp only [List.cons_append, List.drop_succ_cons, List.drop_zero, List.length_cons] at hn ⊢
      rw [commentGo_loc v w hv u (by omega)]
    · rw [if_neg hc] at hn hs ⊢
      have hc2 : ¬ Lib.hasPrefix (b :: (u ++ w)) [47, 42] = true := by
        intro h
        have h2 := hp_stop (u := b :: u) hw no_stop2 h
        rw [two _ rfl no_stop2 h2] at h
        exact hc h
      rw [if_neg hc2]
      by_cases hr : (Lib.hasPrefix (b :: (u ++ v)) [47, 47] || b == 35) = true
      · rw [if_pos hr] at hn hs ⊢
        have hr2 : (Lib.hasPrefix (b :: (u ++ w)) [47, 47] || b == 35) = true := by
          rw [Bool.or_eq_true] at hr ⊢
          rcases hr with hr | hr
          · left
            rcases u with _ | ⟨c, u⟩
            · exfalso
              obtain ⟨t, ht⟩ := hp_eq hr
              obtain ⟨x, y, rfl⟩ := List.exists_cons_of_ne_nil hv
              simp at ht
              obtain ⟨rfl, rfl, rfl⟩ := ht
              simp only [List.nil_append, List.length_cons, List.length_nil, remarkN, hp_cons] at hn
              simp at hn
              omega
            · rw [two _ rfl no_stop3 (by simp)]; exact hr
          · exact .inr hr
        rw [if_pos hr2]
        exact remarkN_loc v w hv h10 hw hpq (b :: u) hn hs (.inl (by simp)) (.inr hn)
      · rw [if_neg hr] at hn hs ⊢
        have hr2 : ¬ (Lib.hasPrefix (b :: (u ++ w)) [47, 47] || b == 35) = true := by
          rw [Bool.or_eq_true, not_or] at hr ⊢
          refine ⟨fun h => hr.1 ?_, hr.2⟩
          have h2 := hp_stop (u := b :: u) hw no_stop3 h
          rw [two _ rfl no_stop3 h2] at h
          exact h
        rw [if_neg hr2]
        by_cases hl : Lib.hasPrefix (b :: (u ++ v)) [60, 60, 60] = true
        · rw [if_pos hl] at hn ⊢
          by_cases h3 : 3 ≤ (b :: u).length
          · rw [if_pos (by rw [show Lib.hasPrefix (b :: (u ++ w)) [60, 60, 60] = Lib.hasPrefix (b :: (u ++ v)) [60, 60, 60] from hp_len (t := b :: u) w v h3]; exact hl)]
            by_cases hok : headOk (b :: (u ++ v)) = true
            · have hle := longN_le2 _ hok
              have hd := head_loc (b :: u) v w hok (Nat.le_trans hle hn)
              obtain ⟨_, _, _, _, _, _, hnm, _, _, _⟩ := head_form _ hok
              have e1 : headOk (b :: (u ++ w)) = true := hd.1
              have e2 : headName (b :: (u ++ w)) = headName (b :: (u ++ v)) := hd.2.1
              have e3 : headAt (b :: (u ++ w)) = headAt (b :: (u ++ v)) := hd.2.2.1
              unfold longN at hn ⊢
              rw [if_pos hok] at hn ⊢
              rw [if_pos e1, e2, e3]
              have hA : headAt (b :: (u ++ v)) ≤ (b :: u).length := by omega
              have d1 : (b :: (u ++ v)).drop (headAt (b :: (u ++ v))) = (b :: u).drop (headAt (b :: (u ++ v))) ++ v := List.drop_append_of_le_length (l₁ := b :: u) hA
              have d2 : (b :: (u ++ w)).drop (headAt (b :: (u ++ v))) = (b :: u).drop (headAt (b :: (u ++ v))) ++ w := List.drop_append_of_le_length (l₁ := b :: u) hA
              rw [d1] at hn ⊢
              rw [d2, longGo_loc _ v w hnm hv hw _ _ (by rw [List.length_drop]; omega)]
            · have hok2 : ¬ headOk (b :: (u ++ w)) = true := by
                intro h
                have h4 := head_in (b :: u) w h hw h3
                exact hok (head_loc (b :: u) w v h h4).1
              rw [longN, longN, if_neg hok, if_neg hok2]
          · have hl2 : ¬ Lib.hasPrefix (b :: (u ++ w)) [60, 60, 60] = true := by
              intro h
              exact h3 (hp_stop (u := b :: u) hw no_stop4 h)
            rw [if_neg hl2]
            rw [longN]
            split
            · next hok =>
              have h4 := longN_le2 _ hok
              obtain ⟨_, q, _, _, _, _, hnm, _, hat, _⟩ := head_form _ hok
              have := List.length_pos_iff.2 hnm.1
              omega
            · rfl
        · rw [if_neg hl]
          have hl2 : ¬ Lib.hasPrefix (b :: (u ++ w)) [60, 60, 60] = true := by
            intro h
            have h3 := hp_stop (u := b :: u) hw no_stop4 h
            rw [show Lib.hasPrefix (b :: (u ++ w)) [60, 60, 60] = Lib.hasPrefix (b :: (u ++ v)) [60, 60, 60] from hp_len (t := b :: u) w v h3] at h
            exact hl h
          rw [if_neg hl2]

/- ---- the steps up to a place -/
/-- The cutting's steps go from the beginning of u just to its end, when v stands behind it. -/
inductive Steps : L → L → Prop
  | nil (v : L) : Steps [] v
  | step (u v : L) : u ≠ [] → Lib.hasPrefix (u ++ v) [63, 62] = false → stepN (u ++ v) ≤ u.length → Steps (u.drop (stepN (u ++ v))) v → Steps u v
theorem Steps.inv {u v : L} (h : Steps u v) (hu : u ≠ []) : Lib.hasPrefix (u ++ v) [63, 62] = false ∧ stepN (u ++ v) ≤ u.length ∧ Steps (u.drop (stepN (u ++ v))) v := by
  cases h with
  | nil => exact absurd rfl hu
  | step _ _ _ h1 h2 h3 => exact ⟨h1, h2, h3⟩
theorem Steps.code {u v : L} (h : Steps u v) : codeN (u ++ v) = u.length + codeN v := by
  induction h with
  | nil v => simp
  | step u v hu h1 h2 h3 ih =>
    rw [codeN_eq, if_neg, List.drop_append_of_le_length h2, ih, List.length_drop]
    · omega
    · rw [h1, Bool.or_false, List.isEmpty_iff]; simp [hu]
theorem codeN_steps : ∀ (n : Nat) (r : L), r.length ≤ n → Steps (r.take (codeN r)) (r.drop (codeN r)) := by
  intro n
  induction n with
  | zero => intro r h; have := List.eq_nil_of_length_eq_zero (Nat.le_zero.1 h); subst this; exact .nil _
  | succ n ih =>
    intro r h
    by_cases hc : (r.isEmpty || Lib.hasPrefix r [63, 62]) = true
    · rw [codeN_eq, if_pos hc]; exact .nil _
    · have hr : r ≠ [] := by rintro rfl; simp at hc
      have hs := stepN_le r hr
      have hcl := codeN_le (r.drop (stepN r))
      have he : codeN r = stepN r + codeN (r.drop (stepN r)) := by rw [codeN_eq r, if_neg hc]
      have hle := codeN_le r
      have hi := ih (r.drop (stepN r)) (by rw [List.length_drop]; omega)
      have hu : r.take (codeN r) ≠ [] := by intro e; have := congrArg List.length e; rw [List.length_take, List.length_nil] at this; omega
      refine .step _ _ hu ?_ ?_ ?_
      · rw [List.take_append_drop]; rw [Bool.or_eq_true, not_or] at hc; simpa using hc.2
      · rw [List.take_append_drop, List.length_take]; omega
      · rw [List.take_append_drop]
        have e1 : (r.take (codeN r)).drop (stepN r) = (r.drop (stepN r)).take (codeN (r.drop (stepN r))) := by rw [he, List.drop_take, Nat.add_sub_cancel_left]
        have e2 : r.drop (codeN r) = (r.drop (stepN r)).drop (codeN (r.drop (stepN r))) := by rw [he, List.drop_drop]
        rw [e1, e2]
        exact hi
theorem Steps.append {a b v : L} (h1 : Steps a (b ++ v)) (h2 : Steps b v) : Steps (a ++ b) v := by
  generalize hw : b ++ v = w at h1
  induction h1 with
  | nil w => exact h2
  | step u w hu e1 e2 e3 ih =>
    subst hw
    refine .step _ _ (by simp [hu]) (by rw [List.append_assoc]; exact e1) (by rw [List.append_assoc, List.length_append]; omega) ?_
    rw [List.append_assoc, List.drop_append_of_le_length e2]
    exact ih rfl
theorem Steps.loc {u v w : L} (h : Steps u v) (hv : v ≠ []) (h10 : v.head? ≠ some 10) (hw : Stop w) (hpq : Lib.hasPrefix v [63, 62] = true → Lib.hasPrefix w [63, 62] = true) : Steps u w := by
  induction h with
  | nil v => exact .nil _
  | step u v hu h1 h2 h3 ih =>
    have hst := stepN_loc u v w hu hv h10 hw hpq h2 (fun hlt => by
      have hne : u.drop (stepN (u ++ v)) ≠ [] := by intro e; have := congrArg List.length e; rw [List.length_drop, List.length_nil] at this; omega
      have := (h3.inv hne).1
      rw [List.drop_append_of_le_length h2]
      exact this)
    refine .step _ _ hu ?_ (by rw [hst]; exact h2) (by rw [hst]; exact ih hv h10 hpq)
    match u, hu with
    | [b], _ =>
      obtain ⟨x, t, rfl, hx⟩ := hw
      rw [List.cons_append, List.nil_append, hp_cons, hp_cons]
      rcases hx with rfl | rfl | rfl | rfl <;> simp
    | b :: c :: u, _ => rw [hp_len w v (by simp)]; exact h1
/-- A byte that is a step of its own. -/
def mildB (b : UInt8) : Bool := b != 39 && b != 34 && b != 47 && b != 35 && b != 60
theorem stepN_mild (b : UInt8) (r : L) (h : mildB b = true) : stepN (b :: r) = 1 := by
  simp only [mildB, Bool.and_eq_true, bne_iff_ne, ne_eq] at h
  obtain ⟨⟨⟨⟨h1, h2⟩, h3⟩, h4⟩, h5⟩ := h
  have e3 : ∀ p : L, Lib.hasPrefix (b :: r) (47 :: p) = false := fun p => by rw [hp_cons]; have : ((47 : UInt8) == b) = false := by rw [beq_eq_false_iff_ne]; exact fun e => h3 e.symm
                                                                             rw [this]; rfl
  have e5 : ∀ p : L, Lib.hasPrefix (b :: r) (60 :: p) = false := fun p => by rw [hp_cons]; have : ((60 : UInt8) == b) = false := by rw [beq_eq_false_iff_ne]; exact fun e => h5 e.symm
                                                                             rw [this]; rfl
  simp [stepN, h1, h2, h4, e3, e5]
/-- The steps over bytes each of which is one. -/
theorem Steps.mild {z tail : L} : ∀ {x : L}, (∀ b ∈ x, mildB b = true) → Steps (x ++ z) tail → Steps x (z ++ tail) ∧ Steps z tail := by
  intro x
  induction x with
  | nil => intro _ h; exact ⟨.nil _, h⟩
  | cons b x ih =>
    intro hm h
    have hi := h.inv (by simp)
    have hs := stepN_mild b (x ++ (z ++ tail)) (hm b (by simp))
    rw [List.append_assoc, List.cons_append] at hi
    rw [hs, List.cons_append, List.drop_succ_cons, List.drop_zero] at hi
    have h2 := ih (fun c hc => hm c (by simp [hc])) hi.2.2
    refine ⟨.step _ _ (by simp) ?_ ?_ ?_, h2.2⟩
    · exact hi.1
    · rw [List.cons_append, hs]; simp
    · rw [List.cons_append, hs, List.drop_succ_cons, List.drop_zero]; exact h2.1
theorem Steps.gap {g v : L} (hg : ∀ b ∈ g, b = 32 ∨ b = 9 ∨ b = 13) : Steps g v := by
  induction g with
  | nil => exact .nil _
  | cons b g ih =>
    have hb := hg b (by simp)
    have hm : mildB b = true := by rcases hb with rfl | rfl | rfl <;> decide
    have hs := stepN_mild b (g ++ v) hm
    refine .step _ _ (by simp) ?_ ?_ ?_
    · rw [List.cons_append, hp_cons]
      rcases hb with rfl | rfl | rfl <;> rfl
    · rw [List.cons_append, hs]; simp
    · rw [List.cons_append, hs, List.drop_succ_cons, List.drop_zero]; exact ih (fun c hc => hg c (by simp [hc]))
/-- A token that is one step. -/
theorem Steps.one {x z tail : L} (hx : x ≠ []) (hs : stepN (x ++ (z ++ tail)) = x.length) (h : Steps (x ++ z) tail) : Steps x (z ++ tail) ∧ Steps z tail := by
  have hi := h.inv (by simp [hx])
  rw [List.append_assoc, hs, List.drop_left] at hi
  exact ⟨.step _ _ hx hi.1 (by rw [hs]; exact Nat.le_refl _) (by rw [hs, List.drop_length]; exact .nil _), hi.2.2⟩
end Go.Proofs.YtjcldgogjgchiaaGreatDoor
