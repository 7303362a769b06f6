/-
  The contract of package word's wideText.
-/
import Derived.Test.YtjcldgogjgchiaaGreatDoorWide
namespace Go.Proofs.YtjcldgogjgchiaaGreatDoor
open Go Go.RowKit Cutting Wording

def PartsT (B : Nat) (r : R (Tk × Nat)) (pv : Value) (w' : World) : Prop := match r with
  | .ok x => w'.ownsRow B 44 3 pv x.1.parts.length (encPs x.1.parts)
  | .error _ => True
def TokPost (r : R (Tk × Nat)) (w : World) (e : Ending) (w' : World) : Prop := ∃ pv, e = .returned (resV r pv) ∧ PartsT w.heap.size r pv w' ∧ Below w.heap.size w w'
theorem partsT_err {B : Nat} {r : R (Tk × Nat)} {x : Nat × Nat} (pv : Value) (w : World) (h : r = .error x) : PartsT B r pv w := by subst h; exact trivial
theorem partsT_ok {B : Nat} {r : R (Tk × Nat)} {t : Tk} {n : Nat} {pv : Value} {w : World} (h : r = .ok (t, n)) (hp : w.ownsRow B 44 3 pv t.parts.length (encPs t.parts)) : PartsT B r pv w := by subst h; exact hp
theorem own_two {w : World} {B C : Nat} {e : TypeId} {size n : Nat} {v : Value} {xs : List Value} (h : w.ownsRow C e size v n xs) (hBC : B + 1 < C) (a0 a1 a2 a3 a4 a5 b0 b1 : Value) :
    ((((((((w.setCell ⟨B, 0, none⟩ a0).setCell ⟨B, 1, none⟩ a1).setCell ⟨B, 2, none⟩ a2).setCell ⟨B, 3, none⟩ a3).setCell ⟨B, 4, none⟩ a4).setCell ⟨B, 5, none⟩ a5).setCell ⟨B + 1, 0, none⟩ b0).setCell ⟨B + 1, 1, none⟩ b1).ownsRow B e size v n xs :=
  ownsRow_base (ownsRow_setCell (ownsRow_setCell (ownsRow_setCell (ownsRow_setCell (ownsRow_setCell (ownsRow_setCell (ownsRow_setCell (ownsRow_setCell h (by omega) _ _) (by omega) _ _) (by omega) _ _) (by omega) _ _) (by omega) _ _) (by omega) _ _) (by omega) _ _) (by omega) _ _) (by omega)

theorem tokT_wide (s : L) (h : s.head? = some 34) : tokT s = (match endGo 34 (s.drop 1) with
       | none => (match wideT (s.drop 1) true with | .error x => .error (x.1, 1 + x.2) | .ok _ => .error (10, 0))
       | some e => (match wideT ((s.drop 1).take e) true with | .error x => .error (x.1, 1 + x.2) | .ok t => .ok (t, e + 2))) := by
  cases s with
  | nil => cases h
  | cons b r =>
    have hb : b = 34 := by simpa using h
    subst hb
    simp [tokT, digB]
    rfl
theorem wideT_err (s : L) (q : Bool) (x : Nat × Nat) (h : wideT s q = .error x) : x.1 ≠ 0 ∧ x.2 ≤ s.length := by
  have key : ∀ (n : Nat) (r : L) (ps : List Prt) (bs : L) (a : Nat), r.length ≤ n → wideN q ps bs a r = .error x → x.1 ≠ 0 ∧ x.2 ≤ a + r.length := by
    intro n
    induction n with
    | zero =>
      intro r ps bs a hr hw
      have := List.eq_nil_of_length_eq_zero (Nat.le_zero.1 hr); subst this
      rw [wideN_nil] at hw; cases hw
    | succ n ih =>
      intro r ps bs a hr hw
      cases r with
      | nil => rw [wideN_nil] at hw; cases hw
      | cons b t =>
        have he := escN_le (b :: t) q (by simp)
        rw [wideN_cons] at hw
        simp only [List.length_cons] at hr he ⊢
        by_cases c1 : b = 92
        · rw [if_pos c1] at hw
          have := ih _ _ _ _ (by rw [List.length_drop, List.length_cons]; omega) hw
          rw [List.length_drop, List.length_cons] at this
          exact ⟨this.1, by omega⟩
        · rw [if_neg c1] at hw
          by_cases c2 : b ≠ 36 ∨ wordN t = 0
          · rw [if_pos c2] at hw
            have := ih _ _ _ _ (by omega) hw
            exact ⟨this.1, by omega⟩
          · rw [if_neg c2] at hw
            cases hv : varPart (b :: t) with
            | error y =>
              rw [hv] at hw
              injection hw with hw
              subst hw
              have := varPart_err (b :: t) (by simp) y hv
              rw [List.length_cons] at this
              exact ⟨this.1, by dsimp only; omega⟩
            | ok y =>
              rw [hv] at hw
              have hy := varPart_le (b :: t) (by simp) y hv
              rw [List.length_cons] at hy
              have := ih _ _ _ _ (by rw [List.length_drop, List.length_cons]; omega) hw
              rw [List.length_drop, List.length_cons] at this
              exact ⟨this.1, by omega⟩
  rw [wideT_eq] at h
  unfold wideEnd at h
  cases hw : wideN q [] [] 0 s with
  | error y =>
    rw [hw] at h
    injection h with h
    subst h
    have := key _ s [] [] 0 (Nat.le_refl _) hw
    exact ⟨this.1, by omega⟩
  | ok y =>
    rw [hw] at h
    dsimp only at h
    split at h <;> cases h

theorem resW_err (a b : Nat) (pv : Value) : resW (.error (a, b)) pv = .tuple #[.agg #[.int .i64 0, .string ⟨#[]⟩, .int .i64 0, .slice none 0 0, .int .i64 0, .int .i64 0], .agg #[.int .i64 a, .int .i64 b]] := rfl
theorem resW_ok (t : Tk) (pv : Value) : resW (.ok t) pv = .tuple #[.agg #[.int .i64 t.kind, .string ⟨t.text.toArray⟩, .int .i64 t.int, pv, .int .i64 0, .int .i64 0], .agg #[.int .i64 0, .int .i64 0]] := rfl
theorem retT {r : R (Tk × Nat)} {w w' : World} {e : Ending} (x : Nat × Nat) (h : r = .error x) (he : e = .returned (resV (.error x) (.slice none 0 0))) (hb : Below w.heap.size w w') : TokPost r w e w' := by
  subst h; exact ⟨_, he, trivial, hb⟩

set_option maxHeartbeats 4000000 in
set_option maxRecDepth 100000 in
theorem wideText_any (s : ByteArray) (w : World) (h0 : 0 < s.size) (hs : s.size ≤ 2147483640) (hm : HasMax w) (h34 : s[0] = 34) :
    Calls Tryz.prog 75 #[.string s] w (TokPost (tokT s.data.toList) w) := by
  have hml := hm.lt
  have hR := Lib.hid (tokT_wide s.data.toList (by rw [head_at s h0, h34]))
  have HTE : Hid (∀ W : World, Calls Tryz.prog 94 #[.string s] W fun e w' => e = .returned (.int .i64 (endOut (endGo 34 (s.data.toList.drop 1)))) ∧ Below W.heap.size W w') := fun W => textEnd_any s 34 W h0 h34 (by decide) (by decide) (by omega)
  obtain ⟨B, W0, hB, hW0, h2, hb0⟩ := two_start w
  have HB := Lib.hid hB
  rw [← hB] at hb0 hml
  clear h34
  -- what stands inside, and where the text ends
  obtain ⟨u, E, hin⟩ : ∃ (u : ByteArray) (E : Int), (endGo 34 (s.data.toList.drop 1) = none ∧ u = s.extract 1 s.size ∧ u.data.toList = s.data.toList.drop 1 ∧ E = -1 ∧ u.size ≤ s.size) ∨
      (∃ n, endGo 34 (s.data.toList.drop 1) = some n ∧ u = s.extract 1 (1 + n) ∧ u.data.toList = (s.data.toList.drop 1).take n ∧ E = 1 + n ∧ n + 1 < s.size ∧ u.size ≤ s.size) := by
    cases he : endGo 34 (s.data.toList.drop 1) with
    | none => exact ⟨s.extract 1 s.size, -1, .inl ⟨rfl, rfl, tail_list s 1, rfl, by rw [Lib.size_eq, tail_list, List.length_drop, ← Lib.size_eq]; omega⟩⟩
    | some n =>
      have hn := endGo_lt 34 _ _ (Nat.le_refl _) n he
      rw [List.length_drop, ← Lib.size_eq] at hn
      refine ⟨s.extract 1 (1 + n), 1 + n, .inr ⟨n, rfl, rfl, by rw [extract_list, show 1 + n - 1 = n from by omega], rfl, by omega, ?_⟩⟩
      rw [Lib.size_eq, extract_list, List.length_take, List.length_drop, ← Lib.size_eq]; omega
  go_enter Tryz.func75, Tryz.ntmps75
  go_wp2_with fail
  rw [← hB, ← hW0]
  clear hB hW0
  refine (unhide HTE _).mono ?_
  rintro e w1 ⟨rfl, hb1⟩
  have h21 := h2.below hb1
  have hb2 := hb0.trans (hb1.mono (by have := h2.flt.lt; omega))
  have hm1 := hm.below hb2 hml
  have hl1 := h21.flt.lt
  clear h2 hb0 hb1
  rcases hin with ⟨he, hu, hul, hE, hus⟩ | ⟨n, he, hu, hul, hE, hn, hus⟩
  · rw [he]
    have hR2 : Hid (tokT s.data.toList = (match wideT u.data.toList true with | .error x => .error (x.1, 1 + x.2) | .ok _ => .error (10, 0))) := by show _ = _; rw [hR.out, he, hul]
    have HU := Lib.hid hu
    clear hR he hu hul hE
    unfold endOut
    dsimp only
    go_wp2_with fail
    rw [← HU.out]
    refine (wide_any u true _ (by omega) hm1).mono ?_
    rintro e w2 ⟨pv, rfl, hp, hbw⟩
    cases hw : wideT u.data.toList true with
    | error x =>
      obtain ⟨why, at_⟩ := x
      have hx := wideT_err _ _ _ hw
      rw [← Lib.size_eq] at hx
      obtain ⟨hwhy, hat⟩ := hx
      dsimp only at hwhy hat
      have HR : Hid (tokT s.data.toList = .error (why, 1 + at_)) := by show _ = _; rw [hR2.out, hw]
      have hw1 : ((why : Int) != 0) = true := by rw [bne_iff_ne]; omega
      rw [resW_err]
      have h22 := h21.below hbw
      have hbr2 := hb2.trans (hbw.mono (by omega))
      clear hR2 hp hw h21 hb2 hm1 hbw
      have hF := Blk.new (w2.alloc (.cells tokZ 32)) #[.int .i64 why, .int .i64 at_] 27
      have hb3 : Below w2.heap.size w2 ((w2.alloc (.cells tokZ 32)).alloc (.cells #[.int .i64 why, .int .i64 at_] 27)) := ((Below.refl _ _).alloc (Nat.le_refl _) _).alloc (by simp) _
      have hQ := h22.below hb3
      have hbQ := hbr2.trans (hb3.mono (by have := h22.flt.lt; omega))
      clear h22 hbr2 hb3 hF
      go_wp2_with fail
      refine (wfail_any why (1 + at_) _).mono ?_
      rintro e w9 ⟨rfl, hb9⟩
      rw [resV_err]
      have h29 := hQ.below hb9
      have hbb9 := hbQ.trans (hb9.mono (Nat.le_of_lt (Nat.lt_of_succ_lt hQ.flt.lt)))
      clear hQ hbQ hb9
      obtain ⟨⟨c0, c1, c2, c3, c4, c5⟩, ⟨f0, f1, f2, f3, f4, f5⟩, ⟨d0, d1, g0, g1⟩, hl⟩ := h29.facts
      go_wp2_with fail
      refine bodyPost_ret (v := resV (.error (why, (1 + at_))) (.slice none 0 0)) (by simp [results, Tryz.results75, go_sem, resV_err, c0, c1, c2, c3, c4, c5, d0, d1]) rfl ?_
      refine retT _ HR.out rfl ?_
      rw [← HB.out]
      exact below_two hbb9 (Nat.le_refl _) _ _ _ _ _ _ _ _
    | ok t =>
      have HR : Hid (tokT s.data.toList = .error (10, 0)) := by show _ = _; rw [hR2.out, hw]
      rw [hw] at hp
      rw [resW_ok]
      have h22 := h21.below hbw
      have hbr2 := hb2.trans (hbw.mono (by omega))
      obtain ⟨A, cap, rfl⟩ := own_form hp
      clear hR2 hp hw h21 hb2 hm1 hbw
      have hb3 : Below w2.heap.size w2 ((w2.alloc (.cells #[.int .i64 t.kind, .string ⟨t.text.toArray⟩, .int .i64 t.int, .slice A t.parts.length cap, .int .i64 0, .int .i64 0] 32)).alloc (.cells fltZ 27)) := ((Below.refl _ _).alloc (Nat.le_refl _) _).alloc (by simp) _
      have hQ := h22.below hb3
      have hbQ := hbr2.trans (hb3.mono (by have := h22.flt.lt; omega))
      clear h22 hbr2 hb3
      go_wp2_with fail
      refine (wfail_any 10 0 _).mono ?_
      rintro e w9 ⟨rfl, hb9⟩
      rw [resV_err]
      have h29 := hQ.below hb9
      have hbb9 := hbQ.trans (hb9.mono (Nat.le_of_lt (Nat.lt_of_succ_lt hQ.flt.lt)))
      clear hQ hbQ hb9
      obtain ⟨⟨c0, c1, c2, c3, c4, c5⟩, ⟨f0, f1, f2, f3, f4, f5⟩, ⟨d0, d1, g0, g1⟩, hl⟩ := h29.facts
      go_wp2_with fail
      refine bodyPost_ret (v := resV (.error (10, 0)) (.slice none 0 0)) (by simp [results, Tryz.results75, go_sem, resV_err, c0, c1, c2, c3, c4, c5, d0, d1]) rfl ?_
      refine retT _ HR.out rfl ?_
      rw [← HB.out]
      exact below_two hbb9 (Nat.le_refl _) _ _ _ _ _ _ _ _
  · rw [he]
    have hR2 : Hid (tokT s.data.toList = (match wideT u.data.toList true with | .error x => .error (x.1, 1 + x.2) | .ok t => .ok (t, n + 2))) := by show _ = _; rw [hR.out, he, hul]
    have HU := Lib.hid hu
    clear hR he hu hul hE
    unfold endOut
    dsimp only
    go_wp2_with fail
    rw [← HU.out]
    refine (wide_any u true _ (by omega) hm1).mono ?_
    rintro e w2 ⟨pv, rfl, hp, hbw⟩
    cases hw : wideT u.data.toList true with
    | error x =>
      obtain ⟨why, at_⟩ := x
      have hx := wideT_err _ _ _ hw
      rw [← Lib.size_eq] at hx
      obtain ⟨hwhy, hat⟩ := hx
      dsimp only at hwhy hat
      have HR : Hid (tokT s.data.toList = .error (why, 1 + at_)) := by show _ = _; rw [hR2.out, hw]
      have hw1 : ((why : Int) != 0) = true := by rw [bne_iff_ne]; omega
      rw [resW_err]
      have h22 := h21.below hbw
      have hbr2 := hb2.trans (hbw.mono (by omega))
      clear hR2 hp hw h21 hb2 hm1 hbw
      have hF := Blk.new (w2.alloc (.cells tokZ 32)) #[.int .i64 why, .int .i64 at_] 27
      have hb3 : Below w2.heap.size w2 ((w2.alloc (.cells tokZ 32)).alloc (.cells #[.int .i64 why, .int .i64 at_] 27)) := ((Below.refl _ _).alloc (Nat.le_refl _) _).alloc (by simp) _
      have hQ := h22.below hb3
      have hbQ := hbr2.trans (hb3.mono (by have := h22.flt.lt; omega))
      clear h22 hbr2 hb3 hF
      go_wp2_with fail
      refine (wfail_any why (1 + at_) _).mono ?_
      rintro e w9 ⟨rfl, hb9⟩
      rw [resV_err]
      have h29 := hQ.below hb9
      have hbb9 := hbQ.trans (hb9.mono (Nat.le_of_lt (Nat.lt_of_succ_lt hQ.flt.lt)))
      clear hQ hbQ hb9
      obtain ⟨⟨c0, c1, c2, c3, c4, c5⟩, ⟨f0, f1, f2, f3, f4, f5⟩, ⟨d0, d1, g0, g1⟩, hl⟩ := h29.facts
      go_wp2_with fail
      refine bodyPost_ret (v := resV (.error (why, (1 + at_))) (.slice none 0 0)) (by simp [results, Tryz.results75, go_sem, resV_err, c0, c1, c2, c3, c4, c5, d0, d1]) rfl ?_
      refine retT _ HR.out rfl ?_
      rw [← HB.out]
      exact below_two hbb9 (Nat.le_refl _) _ _ _ _ _ _ _ _
    | ok t =>
      obtain ⟨T, hT⟩ := bytes_of t.text
      have HR : Hid (tokT s.data.toList = .ok (⟨t.kind, T.data.toList, t.int, t.parts⟩, n + 2)) := by show _ = _; rw [hR2.out, hw, hT]
      have HTT : Hid ((⟨t.text.toArray⟩ : ByteArray) = T) := by show _ = _; rw [← hT, Lib.mk_data]
      rw [hw] at hp
      rw [resW_ok, HTT.out]
      have h22 := h21.below hbw
      have hbr2 := hb2.trans (hbw.mono (by omega))
      have hl22 := h22.flt.lt
      obtain ⟨A, cap, rfl⟩ := own_form hp
      have hp' : w2.ownsRow w1.heap.size 44 3 (.slice A t.parts.length cap) t.parts.length (encPs t.parts) := hp
      have hb3 : Below w2.heap.size w2 ((w2.alloc (.cells #[.int .i64 t.kind, .string T, .int .i64 t.int, .slice A t.parts.length cap, .int .i64 0, .int .i64 0] 32)).alloc (.cells fltZ 27)) := ((Below.refl _ _).alloc (Nat.le_refl _) _).alloc (by simp) _
      have hp3 := hide (ownsRow_below hp' hb3)
      have hQ := h22.below hb3
      have hbQ := hbr2.trans (hb3.mono (by have := h22.flt.lt; omega))
      clear hR2 hp hp' hw h21 hb2 hm1 hbw h22 hbr2 hb3 hT
      obtain ⟨⟨c0, c1, c2, c3, c4, c5⟩, ⟨f0, f1, f2, f3, f4, f5⟩, ⟨d0, d1, g0, g1⟩, hl⟩ := hQ.facts
      clear hQ
      have hl9 : B + 1 < w2.heap.size := hl22
      go_wp2_with fail
      refine bodyPost_ret (v := okV t.kind T t.int (.slice A t.parts.length cap) (1 + n + 1)) (by simp [results, Tryz.results75, go_sem, c0, c1, c2, c3, c4, c5, d0, d1]) rfl ?_
      refine ⟨_, ret_ok _ HR.out (by omega), partsT_ok HR.out ?_, ?_⟩
      · rw [← HB.out]
        exact own_two (unhide hp3) hl1 _ _ _ _ _ _ _ _
      · rw [← HB.out]
        exact below_two hbQ (Nat.le_refl _) _ _ _ _ _ _ _ _
end Go.Proofs.YtjcldgogjgchiaaGreatDoor
