/-
  Two files, one behind the other: the pieces of both, told whole.
-/
import Derived.Test.YtbeglmolgloepaaDoorJoinC
namespace Go.Proofs.YtbeglmolgloepaaDoor.Cutting
open Go

/-- What stands between the two files, and the second one. -/
def midB (b : List UInt8) : List UInt8 := 63 :: 62 :: 60 :: 63 :: 61 :: 49 :: 63 :: 62 :: b
theorem openN_mid (b : List UInt8) : openN (midB b) = ⟨3, 2, 5⟩ := by
  have h0 : ∀ (c : UInt8) (x : List UInt8), lowB c ≠ 60 → phpN (c :: x) = 0 := fun c x h => by
    unfold phpN
    have : isPhp (c :: x) = false := by
      unfold isPhp
      rw [List.take_succ_cons, List.map_cons, List.cons_beq_cons]
      rw [beq_eq_false_iff_ne.2 h]
      rfl
    rw [this]
    rfl
  unfold midB
  rw [openN, hp_head (by decide), h0 63 _ (by decide), openN, hp_head (by decide), h0 62 _ (by decide), openN]
  have h3 : Lib.hasPrefix (60 :: 63 :: 61 :: 49 :: 63 :: 62 :: b) [60, 63, 61] = true := rfl
  rw [if_pos h3]
  rfl
theorem codeN_mid (b : List UInt8) : codeN (49 :: 63 :: 62 :: b) = 1 := by
  have h1 : stepN (49 :: 63 :: 62 :: b) = 1 := by
    rw [stepN, if_neg (by decide), hp_head (by decide), hp_head (by decide), hp_head (by decide)]
    rfl
  rw [codeN_step _ (by simp) (hp_head (by decide)), h1, codeN_eq]
  have h2 : Lib.hasPrefix ((49 :: 63 :: 62 :: b).drop 1) [63, 62] = true := rfl
  rw [if_pos (by rw [h2]; simp)]
theorem closeN_mid (b : List UInt8) (h1 : Lib.hasPrefix b [10] = false) (h2 : Lib.hasPrefix b [13] = false) : closeN (63 :: 62 :: b) = 2 := by
  unfold closeN
  have h3 : Lib.hasPrefix (63 :: 62 :: b) [63, 62] = true := rfl
  have h4 : Lib.hasPrefix b [13, 10] = false := by
    cases h : Lib.hasPrefix b [13, 10]
    · rfl
    · obtain ⟨t, ht⟩ := List.isPrefixOf_iff_prefix.1 h
      rw [← ht] at h2
      cases h2
  rw [if_pos h3]
  show (if Lib.hasPrefix b [10] = true then 3 else if Lib.hasPrefix b [13, 10] = true then 4 else 2) = 2
  rw [h1, h4]
  rfl
theorem joined (b : List UInt8) (hb1 : Lib.hasPrefix b [10] = false) (hb2 : Lib.hasPrefix b [13] = false) : ∀ (n a : Nat) (u : List UInt8), u.length ≤ n →
    (∃ p, (piecesN a (u ++ [120])).getLast? = some p ∧ p.kind = 1) →
    ∃ l' : List Pc, l'.length = (piecesN a (u ++ [120])).length ∧ piecesN a (u ++ 120 :: midB b) = l' ++ ⟨3, [49], a + u.length + 6⟩ :: piecesN (a + u.length + 9) b := by
  intro n
  induction n with
  | zero =>
    intro a u h _
    have := List.eq_nil_of_length_eq_zero (Nat.le_zero.1 h)
    subst this
    have h0 := (openN_last (midB b) []).2 rfl
    rw [openN_mid, if_neg (by decide)] at h0
    simp only [List.nil_append, List.length_nil] at h0
    refine ⟨[⟨1, [120, 63, 62], a⟩], rfl, ?_⟩
    rw [List.nil_append, piecesN_eq _ _ (by simp), h0, if_neg (by decide)]
    unfold htmlN codePc nextN
    rw [h0]
    have d6 : (120 :: midB b).drop (0 + 1 + 5) = 49 :: 63 :: 62 :: b := rfl
    have d7 : (120 :: midB b).drop (0 + 1 + 5 + 1) = 63 :: 62 :: b := rfl
    rw [d6, codeN_mid, d7, closeN_mid b hb1 hb2]
    rfl
  | succ n ih =>
    intro a u h hlast
    have hne : u ++ [120] ≠ [] := by simp
    have hne2 : u ++ 120 :: midB b ≠ [] := by simp
    have happ : u ++ 120 :: midB b = (u ++ [120]) ++ midB b := by simp
    have hul : (u ++ [120]).length = u.length + 1 := by simp
    by_cases hk : (openN (u ++ [120])).kind = 0
    · have h0 : openN (u ++ 120 :: midB b) = ⟨3, u.length + 1 + 2, u.length + 1 + 5⟩ := by
        have h := (openN_last (midB b) u).2 hk
        rw [openN_mid, if_neg (by decide)] at h
        exact h
      have hm := (openN_le (u ++ [120])).2.1 hk
      refine ⟨[⟨1, (u ++ 120 :: midB b).take (u.length + 1 + 2), a⟩], ?_, ?_⟩
      · rw [piecesN_eq _ _ hne, if_pos hk]
        unfold htmlN
        rw [hm, if_pos (by omega)]
        rfl
      · rw [piecesN_eq _ _ hne2, h0, if_neg (by simp)]
        unfold htmlN codePc nextN
        rw [h0, if_pos (by simp)]
        have d6 : (u ++ 120 :: midB b).drop (u.length + 1 + 5) = 49 :: 63 :: 62 :: b := by
          rw [show u.length + 1 + 5 = u.length + 6 from by omega, List.drop_append, List.drop_eq_nil_of_le (by omega), Nat.add_sub_cancel_left]
          rfl
        have d7 : (u ++ 120 :: midB b).drop (u.length + 1 + 5 + 1) = 63 :: 62 :: b := by
          rw [← List.drop_drop, d6]; rfl
        have d9 : (u ++ 120 :: midB b).drop (u.length + 1 + 5 + 1 + 2) = b := by
          rw [← List.drop_drop, d7]; rfl
        rw [d6, codeN_mid, d7, closeN_mid b hb1 hb2, d9]
        simp only [List.cons_append, List.nil_append]
        rw [show a + (u.length + 1 + 5) = a + u.length + 6 from by omega, show a + (u.length + 1 + 5 + 1 + 2) = a + u.length + 9 from by omega]
        rfl
    · obtain ⟨h0, hc⟩ := (openN_last (midB b) u).1 hk
      obtain ⟨hm1, _, hm2⟩ := openN_le (u ++ [120])
      have hm2 := hm2 hk
      have hdc : (u ++ [120]).drop (openN (u ++ [120])).code = u.drop (openN (u ++ [120])).code ++ [120] := List.drop_append_of_le_length (by omega)
      have hkind := openN_kind (u ++ [120])
      rcases code_end _ ((u ++ [120]).drop (openN (u ++ [120])).code) (Nat.le_refl _) with hend | hend
      · -- code to the end: the last piece is code
        exfalso
        obtain ⟨p, hp, hp1⟩ := hlast
        rw [piecesN_eq _ _ hne, if_neg hk] at hp
        have hnx : (u ++ [120]).drop (nextN (u ++ [120])) = [] := by
          have : (u ++ [120]).length ≤ nextN (u ++ [120]) := by
            have h5 := congrArg List.length hend
            rw [List.length_drop, List.length_drop, List.length_nil] at h5
            unfold nextN
            omega
          exact List.drop_eq_nil_of_le this
        rw [hnx, piecesN_nil, List.getLast?_append, List.getLast?_singleton] at hp
        simp only [Option.some_or, Option.some.injEq] at hp
        rw [← hp] at hp1
        simp only [codePc] at hp1
        omega
      · have hca := codeN_app (midB b) _ _ (Nat.le_refl _) hend
        obtain ⟨hat, hatl⟩ := at_of_close hend
        have hcl := codeN_le ((u ++ [120]).drop (openN (u ++ [120])).code)
        rw [List.length_drop] at hatl hcl
        have hn := nextN_le (u ++ [120]) hk
        -- the file's last byte is no part of the close
        have hdc2 : ((u ++ [120]).drop (openN (u ++ [120])).code).drop (codeN ((u ++ [120]).drop (openN (u ++ [120])).code)) = u.drop ((openN (u ++ [120])).code + codeN ((u ++ [120]).drop (openN (u ++ [120])).code)) ++ [120] := by
          rw [List.drop_drop]
          exact List.drop_append_of_le_length (by omega)
        obtain ⟨v, hv⟩ : ∃ v, v = u.drop ((openN (u ++ [120])).code + codeN ((u ++ [120]).drop (openN (u ++ [120])).code)) := ⟨_, rfl⟩
        rw [← hv] at hdc2
        have hvl : v.length = u.length - ((openN (u ++ [120])).code + codeN ((u ++ [120]).drop (openN (u ++ [120])).code)) := by rw [hv, List.length_drop]
        have hclose : closeN ((v ++ [120]) ++ midB b) = closeN (v ++ [120]) ∧ closeN (v ++ [120]) ≤ v.length := by
          rw [hdc2] at hend
          have hl2 := hasPrefix_length hend
          match v, hend, hl2 with
          | [], hend, _ => cases hend
          | [x], hend, _ =>
            have := hp_at (i := 1) hend rfl
            simp at this
          | [x, y], hend, _ =>
            have e1 : ∀ t : List UInt8, Lib.hasPrefix (([x, y] ++ [120]) ++ t) [63, 62] = true := fun t => by rw [hp_app t (by simp)]; exact hend
            have e0 := e1 []
            rw [List.append_nil] at e0
            unfold closeN
            rw [e1, e0, if_pos rfl, if_pos rfl]
            show (if Lib.hasPrefix (120 :: midB b) [10] = true then 3 else if Lib.hasPrefix (120 :: midB b) [13, 10] = true then 4 else 2) = (if Lib.hasPrefix [120] [10] = true then 3 else if Lib.hasPrefix [120] [13, 10] = true then 4 else 2) ∧ (if Lib.hasPrefix [120] [10] = true then 3 else if Lib.hasPrefix [120] [13, 10] = true then 4 else 2) ≤ 2
            rw [hp_head (by decide), hp_head (by decide), hp_head (by decide), hp_head (by decide)]
            exact ⟨rfl, by decide⟩
          | x :: y :: z :: v, hend, _ =>
            have e1 : ∀ t : List UInt8, Lib.hasPrefix (((x :: y :: z :: v) ++ [120]) ++ t) [63, 62] = true := fun t => by rw [hp_app t (by simp)]; exact hend
            have e0 := e1 []
            rw [List.append_nil] at e0
            have e2 : ∀ (p : List UInt8), p.length ≤ 2 → Lib.hasPrefix (((z :: v) ++ [120]) ++ midB b) p = Lib.hasPrefix ((z :: v) ++ [120]) p := fun p hp => hp_app _ (by simp; omega)
            unfold closeN
            rw [e1, e0, if_pos rfl, if_pos rfl]
            show (if Lib.hasPrefix (((z :: v) ++ [120]) ++ midB b) [10] = true then 3 else if Lib.hasPrefix (((z :: v) ++ [120]) ++ midB b) [13, 10] = true then 4 else 2) = (if Lib.hasPrefix ((z :: v) ++ [120]) [10] = true then 3 else if Lib.hasPrefix ((z :: v) ++ [120]) [13, 10] = true then 4 else 2) ∧ (if Lib.hasPrefix ((z :: v) ++ [120]) [10] = true then 3 else if Lib.hasPrefix ((z :: v) ++ [120]) [13, 10] = true then 4 else 2) ≤ v.length + 1 + 1 + 1
            rw [e2 _ (by simp), e2 _ (by simp)]
            refine ⟨rfl, ?_⟩
            split
            · omega
            · split
              · next h13 =>
                match v, h13 with
                | [], h13 =>
                  have := hp_at (i := 1) h13 rfl
                  simp at this
                | _ :: _, _ => simp only [List.length_cons]; omega
              · omega
        have hnext : nextN (u ++ [120]) = (openN (u ++ [120])).code + codeN ((u ++ [120]).drop (openN (u ++ [120])).code) + closeN (v ++ [120]) := by
          unfold nextN
          rw [← List.drop_drop, hdc2]
        have hdrop : (u ++ 120 :: midB b).drop (openN (u ++ [120])).code = (u ++ [120]).drop (openN (u ++ [120])).code ++ midB b := by
          rw [happ]; exact drop_app _ _ _ (by omega)
        have hdd : ((u ++ [120]).drop (openN (u ++ [120])).code ++ midB b).drop (codeN ((u ++ [120]).drop (openN (u ++ [120])).code)) = (v ++ [120]) ++ midB b := by
          rw [← hdc2]
          exact drop_app _ _ _ (by rw [List.length_drop]; omega)
        have hnext2 : nextN (u ++ 120 :: midB b) = nextN (u ++ [120]) := by
          rw [hnext]
          unfold nextN
          rw [h0, hdrop, hca, ← List.drop_drop, hdrop, hdd, hclose.1]
        have hnu : nextN (u ++ [120]) ≤ u.length := by omega
        have hd1 : (u ++ [120]).drop (nextN (u ++ [120])) = u.drop (nextN (u ++ [120])) ++ [120] := List.drop_append_of_le_length hnu
        have hd2 : (u ++ 120 :: midB b).drop (nextN (u ++ [120])) = u.drop (nextN (u ++ [120])) ++ 120 :: midB b := List.drop_append_of_le_length hnu
        have hnel : piecesN (a + nextN (u ++ [120])) (u.drop (nextN (u ++ [120])) ++ [120]) ≠ [] := by
          rw [piecesN_eq _ _ (by simp)]
          by_cases hk2 : (openN (u.drop (nextN (u ++ [120])) ++ [120])).kind = 0
          · have hm3 := (openN_le (u.drop (nextN (u ++ [120])) ++ [120])).2.1 hk2
            unfold htmlN
            rw [hm3, if_pos (by simp)]
            simp
          · rw [if_neg hk2]; simp
        obtain ⟨l', hl', hp'⟩ := ih (a + nextN (u ++ [120])) (u.drop (nextN (u ++ [120]))) (by rw [List.length_drop]; omega) (by
          obtain ⟨p, hp, hp1⟩ := hlast
          refine ⟨p, ?_, hp1⟩
          rw [piecesN_eq _ _ hne, if_neg hk, hd1, List.getLast?_append, List.getLast?_cons_of_ne_nil hnel] at hp
          cases hg : (piecesN (a + nextN (u ++ [120])) (u.drop (nextN (u ++ [120])) ++ [120])).getLast? with
          | none => exact absurd (List.getLast?_eq_none_iff.1 hg) hnel
          | some q => rw [hg] at hp; exact hp)
        have hcode : codePc a (u ++ 120 :: midB b) = codePc a (u ++ [120]) := by
          unfold codePc
          rw [h0, hdrop, hca, List.take_append_of_le_length (by rw [List.length_drop]; omega)]
        have hhtml : htmlN a (u ++ 120 :: midB b) = htmlN a (u ++ [120]) := by
          unfold htmlN
          rw [h0, happ, List.take_append_of_le_length hm1]
        refine ⟨htmlN a (u ++ [120]) ++ codePc a (u ++ [120]) :: l', ?_, ?_⟩
        · rw [piecesN_eq _ _ hne, if_neg hk, hd1, List.length_append, List.length_cons, hl', List.length_append, List.length_cons]
        · have hlen : (u.drop (nextN (u ++ [120]))).length = u.length - nextN (u ++ [120]) := List.length_drop ..
          rw [piecesN_eq _ _ hne2, h0, if_neg hk, hcode, hhtml, hnext2, hd2, hp', hlen,
            show a + nextN (u ++ [120]) + (u.length - nextN (u ++ [120])) + 6 = a + u.length + 6 from by omega,
            show a + nextN (u ++ [120]) + (u.length - nextN (u ++ [120])) + 9 = a + u.length + 9 from by omega]
          simp
end Go.Proofs.YtbeglmolgloepaaDoor.Cutting
