/-
  Plain facts: blanks put in where a token of code begins.
-/
import Derived.Test.YtjcldgogjgchiaaGreatDoorCodeT
import Derived.Test.YtjcldgogjgchiaaGreatDoorStayD
namespace Go.Proofs.YtjcldgogjgchiaaGreatDoor
open Go Cutting Wording

/-- Blanks, one at least, none of which ends a line. -/
def GapL (g : L) : Prop := g ≠ [] ∧ ∀ b ∈ g, b = 32 ∨ b = 9 ∨ b = 13
theorem GapL.blank {g : L} (h : GapL g) (y : L) : Blank (g ++ y) := by
  obtain ⟨b, t, rfl⟩ := List.exists_cons_of_ne_nil h.1
  exact ⟨b, t ++ y, rfl, h.2 b (by simp)⟩
theorem GapL.blanks {g : L} (h : GapL g) : ∀ b ∈ g, blankB b = true := by
  intro b hb
  rcases h.2 b hb with rfl | rfl | rfl <;> decide
theorem bar_step {b : UInt8} {r : L} (h : Lib.hasPrefix (b :: r) [47, 42] = true) : stepN (b :: r) = commentN (b :: r) := by
  have hb : b = 47 := by rw [hp_cons] at h; simp at h; exact h.1.symm
  subst hb
  simp [stepN, h]
theorem remark_step {b : UInt8} {r : L} (h : Lib.hasPrefix (b :: r) [47, 42] = false) (h2 : (Lib.hasPrefix (b :: r) [35] || Lib.hasPrefix (b :: r) [47, 47]) = true) : stepN (b :: r) = remarkN (b :: r) := by
  have hb : b = 35 ∨ (b = 47 ∧ Lib.hasPrefix (b :: r) [47, 47] = true) := by
    rw [Bool.or_eq_true] at h2
    rcases h2 with h2 | h2
    · rw [hp_cons] at h2; simp at h2; exact .inl h2.1.symm
    · have h3 := h2
      rw [hp_cons] at h3; simp at h3; exact .inr ⟨h3.1.symm, h2⟩
  rcases hb with rfl | ⟨rfl, h3⟩
  · simp [stepN, h]
  · simp [stepN, h, h3]
theorem remark_stop : ∀ r : L, remarkN r ≤ spanN notNl r ∧ (remarkN r < spanN notNl r → Lib.hasPrefix (r.drop (remarkN r)) [63, 62] = true) := by
  intro r
  induction r with
  | nil => exact ⟨Nat.le_refl _, fun h => absurd h (Nat.lt_irrefl _)⟩
  | cons b r ih =>
    rw [remarkN]
    by_cases hc : (b == 10 || Lib.hasPrefix (b :: r) [63, 62]) = true
    · rw [if_pos hc]
      refine ⟨Nat.zero_le _, fun h => ?_⟩
      rw [Bool.or_eq_true] at hc
      rcases hc with hc | hc
      · have : b = 10 := by simpa using hc
        subst this
        simp [spanN, notNl] at h
      · exact hc
    · rw [if_neg hc]
      have hb : notNl b = true := by
        rw [Bool.or_eq_true, not_or] at hc
        simpa [notNl] using hc.1
      have hs : spanN notNl (b :: r) = spanN notNl r + 1 := by simp [spanN, hb]
      rw [hs]
      refine ⟨by omega, fun h => ?_⟩
      rw [Nat.add_comm, List.drop_succ_cons]
      exact ih.2 (by omega)
theorem gap_steps (z tail : L) (hz : NoBlank z) : ∀ (n : Nat) (gb : L), gb.length ≤ n → gapN (gb ++ z) = (gb.length, false) → Steps (gb ++ z) tail → Steps gb (z ++ tail) ∧ Steps z tail := by
  intro n
  induction n with
  | zero => intro gb h _ hst; have := List.eq_nil_of_length_eq_zero (Nat.le_zero.1 h); subst this; exact ⟨.nil _, hst⟩
  | succ n ih =>
    intro gb hn h hst
    by_cases hg : gb = []
    · subst hg; exact ⟨.nil _, hst⟩
    · obtain ⟨h0, hle, hr⟩ := bit_loc hg h
      obtain ⟨m, hm⟩ : ∃ m, m = bitN (gb ++ z) := ⟨_, rfl⟩
      rw [← hm] at h0 hle hr
      have hlen : (gb.take m).length = m := by rw [List.length_take]; omega
      have hsplit : gb.take m ++ (gb.drop m ++ z) = gb ++ z := by rw [← List.append_assoc, List.take_append_drop]
      have hne : gb.take m ≠ [] := by intro e; rw [e] at hlen; simp at hlen; omega
      have fin : Steps (gb.take m) ((gb.drop m ++ z) ++ tail) ∧ Steps (gb.drop m ++ z) tail → Steps gb (z ++ tail) ∧ Steps z tail := by
        rintro ⟨h1, h2⟩
        have hi := ih (gb.drop m) (by rw [List.length_drop]; omega) hr h2
        refine ⟨?_, hi.2⟩
        rw [List.append_assoc] at h1
        have := Steps.append h1 hi.1
        rwa [List.take_append_drop] at this
      refine fin ?_
      have hst2 : Steps (gb.take m ++ (gb.drop m ++ z)) tail := by rw [hsplit]; exact hst
      have hall : gb.take m ++ ((gb.drop m ++ z) ++ tail) = (gb ++ z) ++ tail := by rw [← List.append_assoc, hsplit]
      obtain ⟨c, g2, hcg⟩ := List.exists_cons_of_ne_nil hg
      have hcons : (gb ++ z) ++ tail = c :: (g2 ++ z ++ tail) := by rw [hcg]; rfl
      have hcons2 : gb ++ z = c :: (g2 ++ z) := by rw [hcg]; rfl
      rcases bit_cases _ (by rw [← hm]; exact h0) with ⟨hp, he⟩ | ⟨hp, hp2, he⟩ | ⟨⟨b, t, hbt, hb⟩, he⟩
      · refine Steps.one hne ?_ hst2
        rw [hall, hlen]
        obtain ⟨k, hk, hk2⟩ := comN_some (r := gb ++ z) (by rw [← he, ← hm]; exact h0)
        have h2 : 2 ≤ gb.length := by omega
        have hp3 : Lib.hasPrefix (c :: (g2 ++ z ++ tail)) [47, 42] = true := by
          rw [← hcons, List.append_assoc, hp_len (p := [47, 42]) (z ++ tail) z h2]; exact hp
        rw [hcons, bar_step hp3, ← hcons]
        have h3 : ((gb ++ z) ++ tail).drop 2 = (gb ++ z).drop 2 ++ tail := List.drop_append_of_le_length (by rw [List.length_append]; omega)
        have h4 := comGo_loc [] tail ((gb ++ z).drop 2) k (by rw [List.append_nil]; exact hk) (by rw [List.length_drop, List.length_append]; omega)
        unfold commentN
        rw [h3, comGo_comment _ _ h4]
        omega
      · have hm2 : m = spanN notNl (gb ++ z) := by rw [hm, he]
        have hlt := remark_lt hz (by rw [← hm2]; exact hle)
        have h1 := remark_pos _ hp2
        have h2 : 2 ≤ gb.length := by omega
        have hsp : spanN notNl ((gb ++ z) ++ tail) = m := by
          rw [hm2, List.append_assoc]; exact spanN_lt notNl z (z ++ tail) gb hlt
        have hp3 : Lib.hasPrefix (c :: (g2 ++ z ++ tail)) [47, 42] = false := by
          rw [← hcons, List.append_assoc, hp_len (p := [47, 42]) (z ++ tail) z h2]; exact hp
        have hp4 : (Lib.hasPrefix (c :: (g2 ++ z ++ tail)) [35] || Lib.hasPrefix (c :: (g2 ++ z ++ tail)) [47, 47]) = true := by
          rw [← hcons, List.append_assoc, hp_len (p := [35]) (z ++ tail) z (by simp; omega), hp_len (p := [47, 47]) (z ++ tail) z h2]; exact hp2
        have hst3 := hst.inv (by simp [hg])
        rw [hcons, remark_step hp3 hp4, ← hcons] at hst3
        have hrs := remark_stop ((gb ++ z) ++ tail)
        rw [hsp] at hrs
        have hrm : remarkN ((gb ++ z) ++ tail) = m := by
          refine Nat.le_antisymm hrs.1 (Nat.le_of_not_lt fun hlt2 => ?_)
          have hpr := hrs.2 hlt2
          have hnn : (gb ++ z).drop (remarkN ((gb ++ z) ++ tail)) ≠ [] := by
            intro e; have := congrArg List.length e; rw [List.length_drop, List.length_append, List.length_nil] at this; omega
          have := (hst3.2.2.inv hnn).1
          rw [List.drop_append_of_le_length hst3.2.1, this] at hpr
          cases hpr
        refine Steps.one hne ?_ hst2
        rw [hall, hlen, hcons, remark_step hp3 hp4, ← hcons, hrm]
      · refine Steps.mild (fun x hx => ?_) hst2
        have hx2 : x ∈ (gb ++ z).take (spanN blankB (gb ++ z)) := by
          rw [← he, ← hm, List.take_append_of_le_length hle]; exact hx
        exact blank_mild (spanN_mem blankB _ x hx2)
theorem tok_gap {b : UInt8} {t : L} (h1 : blankB b = false) (h2 : b ≠ 35) (h3 : b ≠ 47) : gapN (b :: t) = (0, false) := by
  have e1 : ∀ p : L, Lib.hasPrefix (b :: t) (47 :: p) = false := fun p => by
    rw [hp_cons]; have : ((47 : UInt8) == b) = false := by rw [beq_eq_false_iff_ne]; exact fun e => h3 e.symm
    rw [this]; rfl
  have e2 : Lib.hasPrefix (b :: t) [35] = false := by
    rw [hp_cons]; have : ((35 : UInt8) == b) = false := by rw [beq_eq_false_iff_ne]; exact fun e => h2 e.symm
    rw [this]; rfl
  have h0 : bitN (b :: t) = 0 := by
    unfold bitN
    rw [e1, e1, e2]
    simp [spanN, h1]
  rw [gapN_stop _ (by simp) h0, e1]
/-- The same tokens, whatever their places. -/
def SameT (l m : List (Tk × Nat)) : Prop := m.map (·.1) = l.map (·.1)
theorem codeT_any : ∀ (n : Nat) (r : L), r.length ≤ n → ∀ a a' l, codeT a r = .ok l → ∃ l', codeT a' r = .ok l' ∧ SameT l l' := by
  intro n
  induction n with
  | zero =>
    intro r h a a' l hl
    have := List.eq_nil_of_length_eq_zero (Nat.le_zero.1 h); subst this
    injection hl with hl; subst hl
    exact ⟨[], rfl, rfl⟩
  | succ n ih =>
    intro r h a a' l hl
    rw [codeT_step] at hl ⊢
    split at hl
    · cases hl
    · next hg =>
      rw [if_neg hg]
      split at hl
      · next he => injection hl with hl; subst hl; rw [if_pos he]; exact ⟨[], rfl, rfl⟩
      · next he =>
        rw [if_neg he]
        cases ht : tokT (r.drop (gapN r).1) with
        | error x => rw [ht] at hl; cases hl
        | ok x =>
          rw [ht] at hl
          dsimp only at hl ⊢
          have hne : r.drop (gapN r).1 ≠ [] := by intro h; rw [h] at he; simp at he
          have hx := tokT_le _ hne x ht
          cases hc : codeT (a + (gapN r).1 + x.2) ((r.drop (gapN r).1).drop x.2) with
          | error y => rw [hc] at hl; cases hl
          | ok l2 =>
            rw [hc] at hl
            injection hl with hl
            subst hl
            obtain ⟨l', hl', hs⟩ := ih ((r.drop (gapN r).1).drop x.2) (by rw [List.length_drop, List.length_drop] at *; omega) _ (a' + (gapN r).1 + x.2) l2 hc
            rw [hl']
            exact ⟨_, rfl, by unfold SameT at hs ⊢; rw [List.map_cons, List.map_cons, hs]⟩
/-- Code, parted where a token begins. -/
theorem code_split : ∀ (n : Nat) (r : L), r.length ≤ n → ∀ (a : Nat) (tail : L), TailOk tail → Steps r tail → ∀ l, codeT a r = .ok l → ∀ t q, (t, q) ∈ l →
    ∃ u y, r = u ++ y ∧ q = a + u.length ∧ NoBlank y ∧ Steps u (y ++ tail) ∧ Steps y tail ∧ ∀ g, GapL g → ∃ l', codeT a (u ++ (g ++ y)) = .ok l' ∧ SameT l l' := by
  intro n
  induction n with
  | zero =>
    intro r h a tail _ _ l hl t q hm
    have := List.eq_nil_of_length_eq_zero (Nat.le_zero.1 h); subst this
    injection hl with hl; subst hl
    cases hm
  | succ n ih =>
    intro r h a tail hta hst l hl t q hmem
    rw [codeT_step] at hl
    split at hl
    · cases hl
    · next hg =>
      split at hl
      · next he => injection hl with hl; subst hl; cases hmem
      · next he =>
        obtain ⟨k, hk⟩ : ∃ k, k = (gapN r).1 := ⟨_, rfl⟩
        have hgap : gapN r = (k, false) := Prod.ext hk.symm (by simpa using hg)
        rw [← hk] at hl he
        have hkl : k ≤ r.length := by rw [hk]; exact gapN_le r
        cases ht : tokT (r.drop k) with
        | error x => rw [ht] at hl; cases hl
        | ok x =>
          rw [ht] at hl
          dsimp only at hl
          have hne : r.drop k ≠ [] := by intro h; rw [h] at he; simp at he
          have hx := tokT_le _ hne x ht
          obtain ⟨b, t0, hbt, hb1, hb2, hb3⟩ := tok_head hne x ht
          have hnb : NoBlank (r.drop k) := ⟨b, t0, hbt, hb1⟩
          have hgl : (r.take k).length = k := by rw [List.length_take]; omega
          have hgs := gap_steps (r.drop k) tail hnb _ (r.take k) (Nat.le_refl _) (by rw [List.take_append_drop, hgl]; exact hgap) (by rw [List.take_append_drop]; exact hst)
          have hgap2 : gapN (r.take k ++ r.drop k) = ((r.take k).length, false) := by rw [List.take_append_drop, hgl]; exact hgap
          cases hc : codeT (a + k + x.2) ((r.drop k).drop x.2) with
          | error y => rw [hc] at hl; cases hl
          | ok l2 =>
            rw [hc] at hl
            injection hl with hl
            subst hl
            rcases List.mem_cons.1 hmem with hh | hmem
            · injection hh with hh1 hh2
              refine ⟨r.take k, r.drop k, (List.take_append_drop k r).symm, by rw [hgl]; exact hh2, hnb, hgs.1, hgs.2, fun g hG => ?_⟩
              have g1 := gap_loc (r.drop k) (g ++ r.drop k) hnb _ (r.take k) (Nat.le_refl _) hgap2
              have g2 := gap_blanks (r.drop k) g hG.blanks
              have g3 : gapN (r.drop k) = (0, false) := by rw [hbt]; exact tok_gap hb1 hb2 hb3
              have g4 : gapN (r.take k ++ (g ++ r.drop k)) = (k + g.length, false) := by rw [g1, g2, g3, hgl]; rfl
              have hd : (r.take k ++ (g ++ r.drop k)).drop (k + g.length) = r.drop k := by
                have e1 : (r.take k ++ (g ++ r.drop k)).drop k = g ++ r.drop k := by
                  have := List.drop_left (l₁ := r.take k) (l₂ := g ++ r.drop k)
                  rwa [hgl] at this
                rw [← List.drop_drop, e1, List.drop_left]
              obtain ⟨l', hl', hs⟩ := codeT_any _ _ (Nat.le_refl _) _ (a + (k + g.length) + x.2) l2 hc
              rw [codeT_step, g4]
              dsimp only
              rw [hd, if_neg (by simp), if_neg (by simpa using hne), ht]
              dsimp only
              rw [hl']
              exact ⟨_, rfl, by unfold SameT at hs ⊢; rw [List.map_cons, List.map_cons, hs]⟩
            · obtain ⟨m, hm⟩ : ∃ m, m = x.2 := ⟨_, rfl⟩
              rw [← hm] at hc hx
              have hxl : ((r.drop k).take m).length = m := by rw [List.length_take]; omega
              have hxn : (r.drop k).take m ≠ [] := by intro e; rw [e] at hxl; simp at hxl; omega
              have hst2 := tok_steps (x := (r.drop k).take m) (z := (r.drop k).drop m) hxn hta x (by rw [List.take_append_drop]; exact ht) (by rw [hxl, hm]) (by rw [List.take_append_drop]; exact hgs.2)
              obtain ⟨u, y, hu, hq, hnby, s1, s2, hI⟩ := ih ((r.drop k).drop m) (by rw [List.length_drop, List.length_drop] at *; omega) _ tail hta hst2.2 l2 hc t q hmem
              have hr2 : r.drop k = (r.drop k).take m ++ (u ++ y) := by rw [← hu, List.take_append_drop]
              have hr : r = (r.take k ++ ((r.drop k).take m ++ u)) ++ y := by
                rw [List.append_assoc, List.append_assoc, ← hr2, List.take_append_drop]
              refine ⟨r.take k ++ ((r.drop k).take m ++ u), y, hr, ?_, hnby, ?_, s2, fun g hG => ?_⟩
              · rw [hq, List.length_append, List.length_append, hgl, hxl]; omega
              · refine Steps.append ?_ (Steps.append ?_ s1)
                · rw [List.append_assoc, ← List.append_assoc u, ← List.append_assoc ((r.drop k).take m), ← hr2]; exact hgs.1
                · rw [← List.append_assoc u, ← hu]; exact hst2.1
              · obtain ⟨l', hl', hs⟩ := hI g hG
                have hloc := tok_loc (u := (r.drop k).take m ++ u) (v := y) (w := g ++ y) (by simp [hxn]) (hG.blank y) x (by rw [List.append_assoc, ← hr2]; exact ht) (by rw [List.length_append, hxl]; omega)
                obtain ⟨t1, ht1⟩ : ∃ t1, (r.drop k).take m = b :: t1 := by
                  obtain ⟨j, hj⟩ : ∃ j, m = j + 1 := ⟨m - 1, by omega⟩
                  rw [hbt, hj]; exact ⟨_, List.take_succ_cons⟩
                have g1 := gap_loc (r.drop k) ((r.drop k).take m ++ (u ++ (g ++ y))) hnb _ (r.take k) (Nat.le_refl _) hgap2
                have g3 : gapN ((r.drop k).take m ++ (u ++ (g ++ y))) = (0, false) := by rw [ht1]; exact tok_gap hb1 hb2 hb3
                have g4 : gapN (r.take k ++ ((r.drop k).take m ++ (u ++ (g ++ y)))) = (k, false) := by rw [g1, g3, hgl]; rfl
                have hd : (r.take k ++ ((r.drop k).take m ++ (u ++ (g ++ y)))).drop k = (r.drop k).take m ++ (u ++ (g ++ y)) := by
                  have := List.drop_left (l₁ := r.take k) (l₂ := (r.drop k).take m ++ (u ++ (g ++ y)))
                  rwa [hgl] at this
                have hd2 : ((r.drop k).take m ++ (u ++ (g ++ y))).drop m = u ++ (g ++ y) := by
                  have := List.drop_left (l₁ := (r.drop k).take m) (l₂ := u ++ (g ++ y))
                  rwa [hxl] at this
                have hass : r.take k ++ ((r.drop k).take m ++ u) ++ (g ++ y) = r.take k ++ ((r.drop k).take m ++ (u ++ (g ++ y))) := by simp
                rw [hass, codeT_step, g4]
                dsimp only
                rw [List.append_assoc] at hloc
                rw [hd, if_neg (by simp), if_neg (by simp [hxn]), hloc]
                dsimp only
                rw [← hm, hd2, hl']
                exact ⟨_, rfl, by unfold SameT at hs ⊢; rw [List.map_cons, List.map_cons, hs]⟩
end Go.Proofs.YtjcldgogjgchiaaGreatDoor
