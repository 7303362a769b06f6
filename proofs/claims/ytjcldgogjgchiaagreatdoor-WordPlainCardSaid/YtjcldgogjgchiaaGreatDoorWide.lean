/-
  The contract of package word's wide.
-/
import Derived.Test.YtjcldgogjgchiaaGreatDoorWideA
import Derived.Deep.AppendLies
import Derived.Deep.RegionHeld3
namespace Go.Proofs.YtjcldgogjgchiaaGreatDoor
open Go Go.RowKit Cutting Wording

/- ---- a wide text, step by step -/
theorem varPart_le (s : L) (h : s ≠ []) (x : Prt × Nat) (hx : varPart s = .ok x) : 1 ≤ x.2 ∧ x.2 ≤ s.length := by
  have h0 : 1 ≤ s.length := List.length_pos_iff.2 h
  have h1 := wordN_le (s.drop 1)
  rw [List.length_drop] at h1
  have h2 := elemN_le (s.drop (1 + wordN (s.drop 1)))
  rw [List.length_drop] at h2
  have h3 := wordN_le ((s.drop (1 + wordN (s.drop 1))).drop 2)
  rw [List.length_drop, List.length_drop] at h3
  unfold varPart at hx
  dsimp only at hx
  by_cases c1 : 64 < wordN (s.drop 1)
  · rw [if_pos c1] at hx; cases hx
  · rw [if_neg c1] at hx
    by_cases c2 : Lib.hasPrefix (s.drop (1 + wordN (s.drop 1))) [91] = true
    · rw [if_pos c2] at hx
      by_cases c3 : (elemN (s.drop (1 + wordN (s.drop 1)))).2.2 = 0
      · rw [if_pos c3] at hx; cases hx
      · rw [if_neg c3] at hx
        by_cases c4 : (elemN (s.drop (1 + wordN (s.drop 1)))).1 ≠ 2 ∧ 64 < (elemN (s.drop (1 + wordN (s.drop 1)))).2.1.length
        · rw [if_pos c4] at hx; cases hx
        · rw [if_neg c4] at hx
          injection hx with hx
          subst hx
          dsimp only
          omega
    · rw [if_neg c2] at hx
      by_cases c3 : Lib.hasPrefix (s.drop (1 + wordN (s.drop 1))) [45, 62] = true
      · rw [if_pos c3] at hx
        have hp := hasPrefix_length c3
        simp only [List.length_cons, List.length_nil, List.length_drop] at hp
        by_cases c4 : wordN ((s.drop (1 + wordN (s.drop 1))).drop 2) = 0
        · rw [if_pos c4] at hx; injection hx with hx; subst hx; dsimp only; omega
        · rw [if_neg c4] at hx
          by_cases c5 : 64 < wordN ((s.drop (1 + wordN (s.drop 1))).drop 2)
          · rw [if_pos c5] at hx; cases hx
          · rw [if_neg c5] at hx; injection hx with hx; subst hx; dsimp only; omega
      · rw [if_neg c3] at hx; injection hx with hx; subst hx; dsimp only; omega

theorem varPart_err (s : L) (h : s ≠ []) (x : Nat × Nat) (hx : varPart s = .error x) : x.1 ≠ 0 ∧ x.2 ≤ s.length := by
  have h0 : 1 ≤ s.length := List.length_pos_iff.2 h
  have h1 := wordN_le (s.drop 1)
  rw [List.length_drop] at h1
  unfold varPart at hx
  dsimp only at hx
  by_cases c1 : 64 < wordN (s.drop 1)
  · rw [if_pos c1] at hx; injection hx with hx; subst hx; exact ⟨by decide, Nat.zero_le _⟩
  · rw [if_neg c1] at hx
    by_cases c2 : Lib.hasPrefix (s.drop (1 + wordN (s.drop 1))) [91] = true
    · rw [if_pos c2] at hx
      have hp := hasPrefix_length c2
      simp only [List.length_cons, List.length_nil, List.length_drop] at hp
      by_cases c3 : (elemN (s.drop (1 + wordN (s.drop 1)))).2.2 = 0
      · rw [if_pos c3] at hx; injection hx with hx; subst hx; exact ⟨by simp, by dsimp only; omega⟩
      · rw [if_neg c3] at hx
        by_cases c4 : (elemN (s.drop (1 + wordN (s.drop 1)))).1 ≠ 2 ∧ 64 < (elemN (s.drop (1 + wordN (s.drop 1)))).2.1.length
        · rw [if_pos c4] at hx; injection hx with hx; subst hx; exact ⟨by simp, by dsimp only; omega⟩
        · rw [if_neg c4] at hx; cases hx
    · rw [if_neg c2] at hx
      by_cases c3 : Lib.hasPrefix (s.drop (1 + wordN (s.drop 1))) [45, 62] = true
      · rw [if_pos c3] at hx
        have hp := hasPrefix_length c3
        simp only [List.length_cons, List.length_nil, List.length_drop] at hp
        by_cases c4 : wordN ((s.drop (1 + wordN (s.drop 1))).drop 2) = 0
        · rw [if_pos c4] at hx; cases hx
        · rw [if_neg c4] at hx
          by_cases c5 : 64 < wordN ((s.drop (1 + wordN (s.drop 1))).drop 2)
          · rw [if_pos c5] at hx; injection hx with hx; subst hx; exact ⟨by simp, by dsimp only; omega⟩
          · rw [if_neg c5] at hx; cases hx
      · rw [if_neg c3] at hx; cases hx
theorem wideF_fuel : ∀ (f g : Nat) (q : Bool) (ps : List Prt) (bs : L) (a : Nat) (r : L), r.length ≤ f → r.length ≤ g → wideF f q ps bs a r = wideF g q ps bs a r := by
  intro f
  induction f with
  | zero =>
    intro g q ps bs a r h _
    have := List.eq_nil_of_length_eq_zero (Nat.le_zero.1 h); subst this
    cases g <;> rfl
  | succ f ih =>
    intro g q ps bs a r h hg
    cases g with
    | zero => have := List.eq_nil_of_length_eq_zero (Nat.le_zero.1 hg); subst this; rfl
    | succ g =>
      cases r with
      | nil => rfl
      | cons b t =>
        simp only [List.length_cons] at h hg
        have he := escN_le (b :: t) q (by simp)
        simp only [wideF]
        rw [ih g q ps (bs ++ [(escN (b :: t) q).1]) (a + (escN (b :: t) q).2) ((b :: t).drop (escN (b :: t) q).2) (by rw [List.length_drop, List.length_cons]; omega) (by rw [List.length_drop, List.length_cons]; omega),
          ih g q ps (bs ++ [b]) (a + 1) t (by omega) (by omega)]
        cases hv : varPart (b :: t) with
        | error x => rfl
        | ok x =>
          have hx := varPart_le (b :: t) (by simp) x hv
          dsimp only
          rw [ih g q (withText ps bs ++ [x.1]) [] (a + x.2) ((b :: t).drop x.2) (by rw [List.length_drop, List.length_cons]; omega) (by rw [List.length_drop, List.length_cons]; omega)]
def wideN (q : Bool) (ps : List Prt) (bs : L) (a : Nat) (r : L) : R (List Prt × L) := wideF r.length q ps bs a r
theorem wideN_nil (q : Bool) (ps : List Prt) (bs : L) (a : Nat) : wideN q ps bs a [] = .ok (ps, bs) := rfl
theorem wideN_cons (q : Bool) (ps : List Prt) (bs : L) (a : Nat) (b : UInt8) (t : L) :
    wideN q ps bs a (b :: t) = if b = 92 then wideN q ps (bs ++ [(escN (b :: t) q).1]) (a + (escN (b :: t) q).2) ((b :: t).drop (escN (b :: t) q).2)
      else if b ≠ 36 ∨ wordN t = 0 then wideN q ps (bs ++ [b]) (a + 1) t
      else match varPart (b :: t) with
        | .error x => .error (x.1, a + x.2)
        | .ok x => wideN q (withText ps bs ++ [x.1]) [] (a + x.2) ((b :: t).drop x.2) := by
  have he := escN_le (b :: t) q (by simp)
  simp only [List.length_cons] at he
  unfold wideN
  rw [List.length_cons]
  simp only [wideF]
  rw [wideF_fuel t.length ((b :: t).drop (escN (b :: t) q).2).length q ps (bs ++ [(escN (b :: t) q).1]) (a + (escN (b :: t) q).2) ((b :: t).drop (escN (b :: t) q).2) (by rw [List.length_drop, List.length_cons]; omega) (Nat.le_refl _)]
  cases hv : varPart (b :: t) with
  | error x => rfl
  | ok x =>
    have hx := varPart_le (b :: t) (by simp) x hv
    dsimp only
    rw [wideF_fuel t.length ((b :: t).drop x.2).length q (withText ps bs ++ [x.1]) [] (a + x.2) ((b :: t).drop x.2) (by rw [List.length_drop, List.length_cons]; omega) (Nat.le_refl _)]
/-- From a place on. -/
theorem wide_esc (s : ByteArray) (q : Bool) (ps : List Prt) (bs : L) (k : Nat) (hk : k < s.size) (h : s[k] = 92) :
    wideN q ps bs k (s.data.toList.drop k) = wideN q ps (bs ++ [(escN (s.data.toList.drop k) q).1]) (k + (escN (s.data.toList.drop k) q).2) (s.data.toList.drop (k + (escN (s.data.toList.drop k) q).2)) := by
  have hd := drop_at s k hk
  conv => lhs; rw [hd]
  rw [wideN_cons, if_pos h, ← hd, List.drop_drop]
theorem wide_byte (s : ByteArray) (q : Bool) (ps : List Prt) (bs : L) (k : Nat) (hk : k < s.size) (h : s[k] ≠ 92) (h2 : s[k] ≠ 36 ∨ wordN (s.data.toList.drop (k + 1)) = 0) :
    wideN q ps bs k (s.data.toList.drop k) = wideN q ps (bs ++ [s[k]]) (k + 1) (s.data.toList.drop (k + 1)) := by
  rw [drop_at s k hk, wideN_cons, if_neg h, if_pos h2]
theorem wide_var (s : ByteArray) (q : Bool) (ps : List Prt) (bs : L) (k : Nat) (hk : k < s.size) (h : s[k] = 36) (h2 : wordN (s.data.toList.drop (k + 1)) ≠ 0) :
    wideN q ps bs k (s.data.toList.drop k) = match varPart (s.data.toList.drop k) with
        | .error x => .error (x.1, k + x.2)
        | .ok x => wideN q (withText ps bs ++ [x.1]) [] (k + x.2) (s.data.toList.drop (k + x.2)) := by
  have hd := drop_at s k hk
  conv => lhs; rw [hd]
  rw [wideN_cons, if_neg (by rw [h]; decide), if_neg (by rw [h]; simpa using h2), ← hd]
  cases varPart (s.data.toList.drop k) with
  | error x => rfl
  | ok x => dsimp only; rw [List.drop_drop]
def wideEnd (r : R (List Prt × L)) : R Tk := match r with
  | .error x => .error x
  | .ok x => if x.1 = [] then .ok (textT x.2) else .ok ⟨6, [], 0, withText x.1 x.2⟩
theorem wideT_eq (s : L) (q : Bool) : wideT s q = wideEnd (wideN q [] [] 0 s) := by
  unfold wideT wideN wideEnd
  cases wideF s.length q [] [] 0 s with
  | error x => rfl
  | ok x => cases x; rfl

def resW (r : R Tk) (pv : Value) : Value := match r with
  | .ok t => .tuple #[tokV t pv 0 0, faultV 0 0]
  | .error x => .tuple #[tokV noTk (.slice none 0 0) 0 0, faultV x.1 x.2]
def PartsIn (B : Nat) (r : R Tk) (pv : Value) (w' : World) : Prop := match r with
  | .ok t => w'.ownsRow B 44 3 pv t.parts.length (encPs t.parts)
  | .error _ => True
def WidePost (r : R Tk) (w : World) (e : Ending) (w' : World) : Prop := ∃ pv, e = .returned (resW r pv) ∧ PartsIn w.heap.size r pv w' ∧ Below w.heap.size w w'

theorem ret_errW {r : R Tk} {why at_ : Nat} {z : Int} (pv : Value) (h : r = .error (why, at_)) (hz : z = at_) : Ending.returned (.tuple #[.agg tokZ, .agg #[.int .i64 why, .int .i64 z]]) = .returned (resW r pv) := by
  subst h; subst hz; rfl
theorem ret_okW {r : R Tk} {k : Nat} {s : ByteArray} {i : Int} {ps : List Prt} (pv : Value) (h : r = .ok ⟨k, s.data.toList, i, ps⟩) : Ending.returned (.tuple #[.agg #[.int .i64 k, .string s, .int .i64 i, pv, .int .i64 0, .int .i64 0], .agg #[.int .i64 0, .int .i64 0]]) = .returned (resW r pv) := by
  subst h; rfl
theorem partsIn_err {B : Nat} {r : R Tk} {x : Nat × Nat} (pv : Value) (w : World) (h : r = .error x) : PartsIn B r pv w := by subst h; exact trivial
theorem partsIn_ok {B : Nat} {r : R Tk} {t : Tk} {pv : Value} {w : World} (h : r = .ok t) (hp : w.ownsRow B 44 3 pv t.parts.length (encPs t.parts)) : PartsIn B r pv w := by subst h; exact hp
theorem ownsRow_base {w : World} {B C : Nat} {e : TypeId} {size n : Nat} {v : Value} {xs : List Value} (h : w.ownsRow C e size v n xs) (hBC : B ≤ C) : w.ownsRow B e size v n xs := by
  refine ⟨h.1, ?_⟩
  rcases h.2 with h0 | ⟨g, cap, cur, h1, h2, h3⟩
  · exact .inl h0
  · exact .inr ⟨g, cap, cur, h1, Nat.le_trans hBC h2, h3⟩
theorem ownsRow_setCell {w : World} {B : Nat} {e : TypeId} {size n : Nat} {v : Value} {xs : List Value} (h : w.ownsRow B e size v n xs) {P : Nat} (hP : P < B) (i : Nat) (u : Value) : (w.setCell ⟨P, i, none⟩ u).ownsRow B e size v n xs := by
  refine ⟨h.1, ?_⟩
  rcases h.2 with h0 | ⟨g, cap, cur, h1, h2, h3, h4⟩
  · exact .inl h0
  · refine .inr ⟨g, cap, cur, h1, h2, ?_, h4⟩
    rw [Below.heap_setCell w ⟨P, i, none⟩ u g (fun e => by dsimp only at e; omega)]
    exact h3

set_option maxHeartbeats 16000000 in
set_option maxRecDepth 100000 in
theorem wide_any (s : ByteArray) (q : Bool) (w : World) (hs : s.size ≤ 2147483640) (hm : HasMax w) :
    Calls Tryz.prog 96 #[.string s, .bool q] w (WidePost (wideT s.data.toList q) w) := by
  obtain ⟨i0, hi, hz0, hz1, hz2⟩ := info_parts byteInfo
  obtain ⟨p0, hj, hy0, hy1, hy2⟩ := info_parts partInfo
  have HI := Lib.hid hi
  have HZ0 := Lib.hid hz0
  have HZ1 := Lib.hid hz1
  have HZ2 := Lib.hid hz2
  have HJ := Lib.hid hj
  have HY0 := Lib.hid hy0
  have HY1 := Lib.hid hy1
  have HY2 := Lib.hid hy2
  clear hi hz0 hz1 hz2 hj hy0 hy1 hy2
  have hml := hm.lt
  have hR := Lib.hid (wideT_eq s.data.toList q)
  obtain ⟨B, W0, hB, hW0, h2, hb0⟩ := two_start w
  have HB := Lib.hid hB
  rw [← hB] at hb0 hml
  go_enter Tryz.func96, Tryz.ntmps96
  go_wp2_with fail
  rw [← hB, ← hW0]
  clear hB hW0
  have hBl := h2.flt.lt
  obtain ⟨BASE, hBASE⟩ : ∃ BASE, BASE = W0.heap.size := ⟨_, rfl⟩
  have hst0 : WideS BASE W0 W0 (.slice none 0 0) [] (.slice none 0 0) [] := by rw [hBASE]; exact ⟨World.ownsRow_nil _ _ _ _, World.ownsRow_nil _ _ _ _, Below.refl _ _, Nat.le_refl _⟩
  have hBB : B + 1 < BASE := by omega
  have HBASE := Lib.hid hBASE
  clear hBASE
  go_loopw [6, 7, 8] (fun vp vb i wr => ∃ (k : Nat) (ps : List Prt) (bs : L) (xp xb : Value), xp = vp ∧ xb = vb ∧ i = .int .i64 k ∧ k ≤ s.size ∧ WideS BASE W0 wr xp ps xb bs ∧ ps.length ≤ 2 * k ∧ bs.length ≤ k ∧ Hid (wideN q [] [] 0 s.data.toList = wideN q ps bs k (s.data.toList.drop k))) (fun _ _ i _ => s.size - (intOf i).toNat)
  case atStart => exact ⟨0, [], [], _, _, rfl, rfl, rfl, Nat.zero_le _, hst0, Nat.le_refl _, Nat.le_refl _, by show _ = _; rw [List.drop_zero]⟩
  case round =>
    obtain ⟨k, ps, bs, vp, vb, rfl, rfl, rfl, hk, hst, hpl, hbl, hrel⟩ := hrel
    have h2r : Two B wr := h2.below (by rw [← HBASE.out]; exact hst.below)
    have hbr : Below B w wr := hb0.trans (hst.below.mono (by omega))
    have hBr := hst.base
    by_cases hlt : k < s.size
    · have h8 : s[k].toNat < 256 := s[k].toNat_lt
      have ht := Lib.hid (tail_list s k)
      have hsz : Hid ((s.extract k s.size).size ≤ 4294967280 ∧ 0 < (s.extract k s.size).size) := by show _ ∧ _; rw [Lib.size_eq, tail_list, List.length_drop, ← Lib.size_eq]; omega
      have hE0 : (s.extract k s.size)[0]'hsz.out.2 = s[k] := by
        have h1 := head_at (s.extract k s.size) hsz.out.2
        rw [tail_list, drop_at s k hlt] at h1
        exact (Option.some.inj h1).symm
      by_cases h92 : s[k] = 92
      · have t1 : ((((s.extract k s.size)[0]'hsz.out.2).toNat : Int) == 92) = true := by rw [hE0, h92]; rfl
        obtain ⟨p, hp⟩ : ∃ p, p = escN (s.data.toList.drop k) q := ⟨_, rfl⟩
        have hel := escN_le (s.data.toList.drop k) q (by rw [drop_at s k hlt]; simp)
        rw [← hp, List.length_drop, ← Lib.size_eq] at hel
        have HS : Hid (wideN q ps bs k (s.data.toList.drop k) = wideN q ps (bs ++ [p.1]) (k + p.2) (s.data.toList.drop (k + p.2))) := by show _ = _; rw [wide_esc s q ps bs k hlt h92, ← hp]
        have HP := Lib.hid hp
        obtain ⟨b, n⟩ := p
        dsimp only at hel HS
        clear h92 hp hE0 h8
        go_wp2_with fail
        refine (escaped_any _ q _ hsz.out.2 hsz.out.1).mono ?_
        rintro e w1 ⟨rfl, hb1⟩
        rw [ht.out, ← HP.out]
        unfold pairV
        dsimp only
        have hst1 := hst.step hb1
        clear hb1 hst hbr h2r
        go_wp2_with (at_builtin; refine wpList_append_own _ rfl _ _ 55 rfl BASE 5 i0 _ 1 1 Tryz.underlying55 HI.out HZ0.out HZ1.out HZ2.out rfl (by decide) _ _ _ rfl (hst1.alloc _).byt ⟨w1.heap.size, 0, none⟩ 1 1 [.int .u8 b.toNat] rfl rfl (one_cell _ _ _) (by intro x hx; simp at hx; subst hx; rfl) (by unfold maxLen; omega) (by omega) (hst1.alloc _).base ?_)
        intro v1 w3 hown1 hg1 _
        have hst3 : WideS BASE W0 w3 vp ps v1 (bs ++ [b]) := (hst1.alloc _).byte hown1 hg1
        clear hown1 hg1 hst1
        go_wp2_with fail
        go_roundw
        case rel => exact ⟨k + n, ps, bs ++ [b], vp, v1, rfl, rfl, by go_num, by omega, hst3, by omega, by simp; omega, by show _ = _; rw [hrel.out, HS.out]⟩
        case measure => simp [intOf]; omega
      · have t1 : ((((s.extract k s.size)[0]'hsz.out.2).toNat : Int) == 92) = false := by rw [hE0, beq_eq_false_iff_ne]; intro h; exact h92 (u8_of _ 92 h)
        by_cases h36 : s[k] = 36
        · have t2 : ((((s.extract k s.size)[0]'hsz.out.2).toNat : Int) != 36) = false := by rw [hE0, h36]; rfl
          have ht1 : Hid (((s.extract k s.size).extract 1 (s.size - k)).data.toList = s.data.toList.drop (k + 1)) := by
            show _ = _
            rw [extract_list, tail_list, List.drop_drop, List.take_of_length_le (by rw [List.length_drop, ← Lib.size_eq]; omega)]
          have hsz1 : Hid (((s.extract k s.size).extract 1 (s.size - k)).size ≤ 4294967280) := by show _ ≤ _; rw [Lib.size_eq, ht1.out, List.length_drop, ← Lib.size_eq]; omega
          by_cases h0 : wordN (s.data.toList.drop (k + 1)) = 0
          · have HS := Lib.hid (wide_byte s q ps bs k hlt h92 (.inr h0))
            have H0 := Lib.hid h0
            have HE0 := Lib.hid hE0
            clear h92 h36 h0 hE0 h8
            go_wp2_with fail
            refine (wwordLen_any _ _ hsz1.out).mono ?_
            rintro e w1 ⟨rfl, hb1⟩
            rw [ht1.out, H0.out]
            have hst1 := hst.step hb1
            clear hb1 hst hbr h2r
            go_wp2_with (at_builtin; refine wpList_append_own _ rfl _ _ 55 rfl BASE 5 i0 _ 1 1 Tryz.underlying55 HI.out HZ0.out HZ1.out HZ2.out rfl (by decide) _ _ _ rfl (hst1.alloc _).byt ⟨w1.heap.size, 0, none⟩ 1 1 [.int .u8 ((s.extract k s.size)[0]'hsz.out.2).toNat] rfl rfl (one_cell _ _ _) (by intro x hx; simp at hx; subst hx; rfl) (by unfold maxLen; omega) (by omega) (hst1.alloc _).base ?_)
            intro v1 w3 hown1 hg1 _
            have hst3 : WideS BASE W0 w3 vp ps v1 (bs ++ [s[k]]) := by rw [← HE0.out]; exact (hst1.alloc _).byte hown1 hg1
            clear hown1 hg1 hst1
            go_wp2_with fail
            go_roundw
            case rel => exact ⟨k + 1, ps, bs ++ [s[k]], vp, v1, rfl, rfl, by go_num, by omega, hst3, by omega, by simp; omega, by show _ = _; rw [hrel.out, HS.out]⟩
            case measure => simp [intOf]; omega
          · obtain ⟨r, hr⟩ : ∃ r, r = varPart (s.data.toList.drop k) := ⟨_, rfl⟩
            have HS := wide_var s q ps bs k hlt h36 h0
            rw [← hr] at HS
            have HS := Lib.hid HS
            have hvl := varPart_le (s.data.toList.drop k) (by rw [drop_at s k hlt]; simp)
            rw [← hr, List.length_drop, ← Lib.size_eq] at hvl
            have hve := varPart_err (s.data.toList.drop k) (by rw [drop_at s k hlt]; simp)
            rw [← hr, List.length_drop, ← Lib.size_eq] at hve
            obtain ⟨m, hm0⟩ : ∃ m, m = wordN (s.data.toList.drop (k + 1)) := ⟨_, rfl⟩
            have hm1 : ((m : Int) == 0) = false := by rw [beq_eq_false_iff_ne]; omega
            have Hm := Lib.hid hm0.symm
            have HR := Lib.hid hr.symm
            have hmr := hm.below hbr hml
            clear h92 h36 h0 hE0 h8 hm0 hr
            go_wp2_with fail
            refine (wwordLen_any _ _ hsz1.out).mono ?_
            rintro e w1 ⟨rfl, hb1⟩
            rw [ht1.out, Hm.out]
            have hst1 := hst.step hb1
            have h21 := h2r.below hb1
            have hbr1 := hbr.trans (hb1.mono (by omega))
            have hmr1 := hm.below hbr1 hml
            clear hb1 hst hbr h2r hmr
            go_wp2_with fail
            refine (variablePart_any _ _ hsz.out.2 hsz.out.1 hmr1).mono ?_
            rintro e w2 ⟨rfl, hb2⟩
            rw [ht.out, HR.out]
            have hst2 := hst1.step hb2
            have h22 := h21.below hb2
            have hbr2 := hbr1.trans (hb2.mono (by have := h21.flt.lt; omega))
            clear hb2 hst1 hbr1 h21 hmr1 HR hm1
            cases r with
            | error x =>
              obtain ⟨why, at_⟩ := x
              obtain ⟨hwhy, hat⟩ := hve _ rfl
              dsimp only at hwhy hat HS
              rw [resP_err]
              have hw1 : ((why : Int) != 0) = true := by rw [bne_iff_ne]; omega
              have hF := Blk.new (w2.alloc (.cells prtZ 44)) #[.int .i64 why, .int .i64 at_] 27
              have hb3 : Below w2.heap.size w2 ((w2.alloc (.cells prtZ 44)).alloc (.cells #[.int .i64 why, .int .i64 at_] 27)) := ((Below.refl _ _).alloc (Nat.le_refl _) _).alloc (by simp) _
              have HRR : Hid (wideT s.data.toList q = .error (why, k + at_)) := by show _ = _; rw [hR.out, hrel.out, HS.out]; rfl
              clear hvl hve HS hst2
              go_wp2_with fail
              obtain ⟨w3, hw3⟩ : ∃ w3, w3 = (w2.alloc (.cells prtZ 44)).alloc (.cells #[.int .i64 why, .int .i64 at_] 27) := ⟨_, rfl⟩
              have h23 : Two B w3 := by rw [hw3]; exact h22.below hb3
              have hbr3 : Below B w w3 := by rw [hw3]; exact hbr2.trans (hb3.mono (by have := h22.flt.lt; omega))
              have hFl : Blk (w2.heap.size + 1) w3 #[.int .i64 why, .int .i64 at_] 27 := by rw [hw3]; simpa using hF
              have hl22 := h22.flt.lt
              rw [← hw3]
              clear hF hb3 hw3 h22 hbr2
              obtain ⟨Q, hQ⟩ : ∃ Q, Q = w2.heap.size + 1 := ⟨_, rfl⟩
              rw [← hQ] at hFl
              rw [← hQ]
              have hQB : B + 1 < Q := by omega
              clear hQ hl22
              have q0 := hFl.cell 0 rfl; have q1 := hFl.cell 1 rfl
              obtain ⟨⟨c0, c1, c2, c3, c4, c5⟩, ⟨f0, f1, f2, f3, f4, f5⟩, ⟨d0, d1, g0, g1⟩, hl⟩ := h23.facts
              have s1 : IntKind.i64.wrap ((k : Int) + (at_ : Int)) = (k : Int) + (at_ : Int) := IntWalk.i64_in _ (by omega)
              clear h23 hFl
              go_region
              go_wp2_with fail
              refine bodyPost_ret (v := .tuple #[.agg tokZ, .agg #[.int .i64 why, .int .i64 (k + at_)]]) (by simp [results, Tryz.results96, go_sem, c0, c1, c2, c3, c4, c5, d0, d1]) rfl ?_
              refine ⟨.slice none 0 0, ret_errW _ HRR.out (by omega), partsIn_err _ _ HRR.out, ?_⟩
              rw [← HB.out]
              exact (below_two hbr3 (Nat.le_refl _) _ _ _ _ _ _ _ _).drew
            | ok x =>
              obtain ⟨⟨kd, tx, ky⟩, n⟩ := x
              have hn := hvl _ rfl
              dsimp only at hn HS
              clear hve hvl
              obtain ⟨TX, hTX⟩ := bytes_of tx
              obtain ⟨KY, hKY⟩ := bytes_of ky
              have HRP : Hid (resP (.ok (⟨kd, tx, ky⟩, n)) = .tuple #[.agg #[.int .i64 kd, .string TX, .string KY], .int .i64 n, .agg #[.int .i64 0, .int .i64 0]]) := by
                show _ = _; rw [← hTX, ← hKY]; rfl
              have HEN : Hid (encPrt ⟨kd, tx, ky⟩ = [.int .i64 kd, .string TX, .string KY]) := by show _ = _; rw [← hTX, ← hKY]; rfl
              rw [HRP.out]
              clear hTX hKY
              have hF := Blk.new w2 #[.int .i64 kd, .string TX, .string KY] 44
              have hb3 : Below w2.heap.size w2 ((w2.alloc (.cells #[.int .i64 kd, .string TX, .string KY] 44)).alloc (.cells fltZ 27)) := ((Below.refl _ _).alloc (Nat.le_refl _) _).alloc (by simp) _
              go_wp2_with fail
              obtain ⟨w3, hw3⟩ : ∃ w3, w3 = (w2.alloc (.cells #[.int .i64 kd, .string TX, .string KY] 44)).alloc (.cells fltZ 27) := ⟨_, rfl⟩
              have hst3 : WideS BASE W0 w3 vp ps vb bs := by rw [hw3]; exact hst2.step hb3
              have hFl : Blk w2.heap.size w3 #[.int .i64 kd, .string TX, .string KY] 44 := by rw [hw3]; exact hF.alloc _
              have hsz3 : w2.heap.size + 2 = w3.heap.size := by rw [hw3]; simp
              rw [← hw3]
              clear hF hb3 hw3 h22 hbr2
              obtain ⟨Q, hQ⟩ : ∃ Q, Q = w2.heap.size := ⟨_, rfl⟩
              have hvq : vp.ownBlock ≠ some Q := by
                intro e
                have := (hst2.prt.lt Q e).2
                omega
              rw [← hQ] at hFl hsz3
              rw [← hQ]
              clear hQ hst2
              have q0 := hFl.cell 0 rfl; have q1 := hFl.cell 1 rfl; have q2 := hFl.cell 2 rfl
              clear hFl
              have H3 := hide hst3
              have hl3 := hst3.base
              have hvs3 : ∀ g, vp.ownBlock = some g → g < w3.heap.size := fun g hg => (hst3.prt.lt g hg).2
              have hwl : (withText ps bs).length ≤ ps.length + 1 := by unfold withText; split <;> simp
              clear hst3
              go_region_held3 (fun w' => w'.cell? ⟨Q, 0, none⟩ = some (.int .i64 kd) ∧ w'.cell? ⟨Q, 1, none⟩ = some (.string TX) ∧ w'.cell? ⟨Q, 2, none⟩ = some (.string KY))
                (first
                  | exact ⟨by assumption, by assumption, by assumption⟩
                  | (go_split_ands
                     refine ⟨?_, ?_, ?_⟩ <;> (rw [hg1.cell_far _ (by simp; omega) (Ne.symm hvq)]; assumption))
                  | (go_split_ands
                     refine ⟨?_, ?_, ?_⟩ <;> (rw [hgr2.cell_far _ (by simp; omega) (Ne.symm hvq2)]; assumption))
                  | go_keep)
                (first
                  | (go_at_call 109; refine (withText_any BASE W0 _ vp ps vb bs ((unhide H3).drew_) (by omega) (by omega)).mono ?_; rintro e V1 ⟨v', rfl, hw1, hg1, ho1⟩; have hsV := hg1.size; simp at hsV; have hvq2 : v'.ownBlock ≠ some Q := (by rcases ho1 with h | ⟨g, h, hge⟩ <;> rw [h]; exact hvq; simp at hge; intro he; injection he with he; omega))
                  | (go_at_call 109; refine (withText_any BASE W0 _ vp ps vb bs (((unhide H3).alloc _).drew_) (by omega) (by omega)).mono ?_; rintro e V1 ⟨v', rfl, hw1, hg1, ho1⟩; have hsV := hg1.size; simp at hsV; have hvq2 : v'.ownBlock ≠ some Q := (by rcases ho1 with h | ⟨g, h, hge⟩ <;> rw [h]; exact hvq; simp at hge; intro he; injection he with he; omega); have hnew : V1.heap[w3.heap.size]? = some (.cells #[.int .i64 kd, .string TX, .string KY] 44 (0, 0)) := (hg1.block w3.heap.size (by simp) (fun he => by have := hvs3 _ he.symm; omega)).trans (heap_alloc_new w3 _))
                  | (refine step_append_lies _ (by rfl) _ _ _ (by rfl) BASE 44 p0 _ 3 40 Tryz.underlying30 HJ.out HY0.out HY1.out HY2.out rfl (by decide) v' (withText ps bs).length (encPs (withText ps bs)) (by rfl) (hw1.alloc _).prt ⟨V1.heap.size, 0, none⟩ 1 1 [.int .i64 kd, .string TX, .string KY] (by rfl) (by rfl) (World.news_of_block (cs := #[.int .i64 kd, .string TX, .string KY]) (t := 44) (fr := (0, 0)) (heap_alloc_new V1 _)) (by simp [Value.oneCell']) (by decide) (by unfold maxLen; omega) (by omega) (hw1.alloc _).base (V1.heap.size + 1) (by simp) ?_; intro gg cap2 V2 hown2 hgr2 hat2 hlt2)
                  | (refine step_append_lies _ (by rfl) _ _ _ (by rfl) BASE 44 p0 _ 3 40 Tryz.underlying30 HJ.out HY0.out HY1.out HY2.out rfl (by decide) v' (withText ps bs).length (encPs (withText ps bs)) (by rfl) hw1.prt ⟨w3.heap.size, 0, none⟩ 1 1 [.int .i64 kd, .string TX, .string KY] (by rfl) (by rfl) (World.news_of_block (cs := #[.int .i64 kd, .string TX, .string KY]) (t := 44) (fr := (0, 0)) hnew) (by simp [Value.oneCell']) (by decide) (by unfold maxLen; omega) (by omega) hw1.base (V1.heap.size) (by simp) ?_; intro gg cap2 V2 hown2 hgr2 hat2 hlt2))
              all_goals
                have hst4 : WideS BASE W0 V2 (.slice (some ⟨gg, 0, none⟩) ((withText ps bs).length + 1) cap2) (withText ps bs ++ [⟨kd, tx, ky⟩]) vb bs := by
                  first
                    | exact (hw1.alloc _).part (by rw [HEN.out]; exact hown2) hgr2
                    | exact hw1.part (by rw [HEN.out]; exact hown2) hgr2
                have H4 := hide hst4.fresh
                clear hst4 hw1 hg1 ho1 hown2 hgr2 hat2
                go_split_ands
                go_wp2_with fail
                go_roundw
                case rel => exact ⟨k + n, _, [], _, _, rfl, rfl, by go_num, by omega, unhide H4, by simp; omega, by simp, by show _ = _; rw [hrel.out, HS.out]⟩
                case measure => simp [intOf]; omega
        · have t2 : ((((s.extract k s.size)[0]'hsz.out.2).toNat : Int) != 36) = true := by rw [hE0, bne_iff_ne]; intro h; exact h36 (u8_of _ 36 h)
          have HS := Lib.hid (wide_byte s q ps bs k hlt h92 (.inl h36))
          have hst1 := hst
          have HE0 := Lib.hid hE0
          clear h92 h36 hst hbr h2r hE0 h8
          go_wp2_with (at_builtin; refine wpList_append_own _ rfl _ _ 55 rfl BASE 5 i0 _ 1 1 Tryz.underlying55 HI.out HZ0.out HZ1.out HZ2.out rfl (by decide) _ _ _ rfl (hst1.alloc _).byt ⟨wr.heap.size, 0, none⟩ 1 1 [.int .u8 ((s.extract k s.size)[0]'hsz.out.2).toNat] rfl rfl (one_cell _ _ _) (by intro x hx; simp at hx; subst hx; rfl) (by unfold maxLen; omega) (by omega) (hst1.alloc _).base ?_)
          intro v1 w3 hown1 hg1 _
          have hst3 : WideS BASE W0 w3 vp ps v1 (bs ++ [s[k]]) := by rw [← HE0.out]; exact (hst1.alloc _).byte hown1 hg1
          clear hown1 hg1 hst1
          go_wp2_with fail
          go_roundw
          case rel => exact ⟨k + 1, ps, bs ++ [s[k]], vp, v1, rfl, rfl, by go_num, by omega, hst3, by omega, by simp; omega, by show _ = _; rw [hrel.out, HS.out]⟩
          case measure => simp [intOf]; omega
    · have hdk : Hid (wideN q [] [] 0 s.data.toList = .ok (ps, bs)) := by show _ = _; rw [hrel.out, drop_nil s k (by omega), wideN_nil]
      obtain ⟨A, cap, hvp⟩ := own_form hst.prt
      rw [hvp] at hst
      rw [hvp]
      clear hvp
      by_cases hp0 : ps = []
      · have HRR : Hid (wideT s.data.toList q = .ok ⟨5, (⟨bs.toArray⟩ : ByteArray).data.toList, 0, []⟩) := by show _ = _; rw [hR.out, hdk.out, wideEnd, if_pos hp0]; rfl
        have hl0 : ps.length = 0 := by rw [hp0]; rfl
        have hl' : ((ps.length : Int) == 0) = true := by rw [hl0]; rfl
        have hcv := hst.str
        clear hp0 hl0 hst
        go_wp2_with fail
        refine (wtext_any _ _).mono ?_
        rintro e w4 ⟨rfl, hb5⟩
        have h24 := h2r.below hb5
        have hbr4 := hbr.trans (hb5.mono (by have := h2r.flt.lt; omega))
        clear h2r hbr hb5 hcv
        unfold tokV textT
        obtain ⟨⟨c0, c1, c2, c3, c4, c5⟩, ⟨f0, f1, f2, f3, f4, f5⟩, ⟨d0, d1, g0, g1⟩, hl⟩ := h24.facts
        go_wp2_with fail
        refine bodyPost_ret (v := .tuple #[.agg #[.int .i64 5, .string ⟨bs.toArray⟩, .int .i64 0, .slice none 0 0, .int .i64 0, .int .i64 0], .agg fltZ]) (by simp [results, Tryz.results96, go_sem, c0, c1, c2, c3, c4, c5, d0, d1]) rfl ?_
        refine ⟨.slice none 0 0, ret_okW _ HRR.out, partsIn_ok HRR.out (World.ownsRow_nil _ _ _ _), ?_⟩
        rw [← HB.out]
        exact below_two hbr4 (Nat.le_refl _) _ _ _ _ _ _ _ _
      · have hl0 : 0 < ps.length := List.length_pos_iff.2 hp0
        have HRR : Hid (wideT s.data.toList q = .ok ⟨6, (⟨#[]⟩ : ByteArray).data.toList, 0, withText ps bs⟩) := by show _ = _; rw [hR.out, hdk.out, wideEnd, if_neg hp0]
        have hl' : ((ps.length : Int) == 0) = false := by rw [beq_eq_false_iff_ne]; omega
        clear hp0
        go_wp2_with fail
        refine (withText_any BASE W0 _ _ ps vb bs hst (by omega) (by omega)).mono ?_
        rintro e w4 ⟨pv, rfl, hst4, hg4, hb4⟩
        have h24 : Two B w4 := h2.below (by rw [← HBASE.out]; exact hst4.below)
        have hbr4 : Below B w w4 := hb0.trans (hst4.below.mono (by omega))
        obtain ⟨A2, cap2, rfl⟩ := own_form hst4.prt
        have hprt := hst4.prt
        clear hst hst4 hg4 hb4 h2r hbr
        obtain ⟨⟨c0, c1, c2, c3, c4, c5⟩, ⟨f0, f1, f2, f3, f4, f5⟩, ⟨d0, d1, g0, g1⟩, hl⟩ := h24.facts
        have HPRT := hide hprt
        clear hprt h24
        go_wp2_with fail
        refine bodyPost_ret (v := .tuple #[.agg #[.int .i64 6, .string ⟨#[]⟩, .int .i64 0, .slice A2 (withText ps bs).length cap2, .int .i64 0, .int .i64 0], .agg fltZ]) (by simp [results, Tryz.results96, go_sem, c0, c1, c2, c3, c4, c5, d0, d1]) rfl ?_
        refine ⟨_, ret_okW _ HRR.out, partsIn_ok HRR.out ?_, ?_⟩
        · rw [← HB.out]
          refine ownsRow_base (C := BASE) ?_ (by omega)
          exact ownsRow_setCell (ownsRow_setCell (ownsRow_setCell (ownsRow_setCell (ownsRow_setCell (ownsRow_setCell (ownsRow_setCell (ownsRow_setCell (unhide HPRT) (by omega) _ _) (by omega) _ _) (by omega) _ _) (by omega) _ _) (by omega) _ _) (by omega) _ _) (by omega) _ _) (by omega) _ _
        · rw [← HB.out]
          exact below_two hbr4 (Nat.le_refl _) _ _ _ _ _ _ _ _
end Go.Proofs.YtjcldgogjgchiaaGreatDoor
