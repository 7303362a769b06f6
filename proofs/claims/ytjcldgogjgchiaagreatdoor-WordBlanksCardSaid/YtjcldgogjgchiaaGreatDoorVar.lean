/-
  Contracts of package word's failPart, elementPart and variablePart.
-/
import Derived.Test.YtjcldgogjgchiaaGreatDoorEsc
import Derived.RegionTactic
import Derived.BigRegion
namespace Go.Proofs.YtjcldgogjgchiaaGreatDoor
open Go Go.RowKit Cutting Wording

def encPrt (p : Prt) : List Value := [.int .i64 p.kind, .string ⟨p.text.toArray⟩, .string ⟨p.key.toArray⟩]
abbrev prtZ : Array Value := #[.int .i64 0, .string ⟨#[]⟩, .string ⟨#[]⟩]
theorem Blk.setCell {P : Nat} {w : World} {cs : Array Value} {T : TypeId} (h : Blk P w cs T) {Q : Nat} (hne : P ≠ Q) (i : Nat) (v : Value) : Blk P (w.setCell ⟨Q, i, none⟩ v) cs T :=
  ⟨(Below.heap_setCell w ⟨Q, i, none⟩ v P (fun e => hne e)).trans h.blk⟩
/-- The cells of a part and a fault, the results of two functions. -/
structure Twp (B : Nat) (w : World) : Prop where
  prt : Blk B w prtZ 44
  flt : Blk (B + 1) w fltZ 27
theorem Twp.below {B : Nat} {w w' : World} (h : Twp B w) (hb : Below w.heap.size w w') : Twp B w' := ⟨h.prt.below hb, h.flt.below hb⟩
theorem Twp.setCell {B : Nat} {w : World} (h : Twp B w) {Q : Nat} (hne : B + 1 < Q) (i : Nat) (v : Value) : Twp B (w.setCell ⟨Q, i, none⟩ v) := ⟨h.prt.setCell (by omega) i v, h.flt.setCell (by omega) i v⟩
theorem Twp.facts {B : Nat} {w : World} (h : Twp B w) :
    (w.cell? ⟨B, 0, none⟩ = some (.int .i64 0) ∧ w.cell? ⟨B, 1, none⟩ = some (.string ⟨#[]⟩) ∧ w.cell? ⟨B, 2, none⟩ = some (.string ⟨#[]⟩)) ∧
    (w.frozen? ⟨B, 0, none⟩ = false ∧ w.frozen? ⟨B, 1, none⟩ = false ∧ w.frozen? ⟨B, 2, none⟩ = false) ∧
    (w.cell? ⟨B + 1, 0, none⟩ = some (.int .i64 0) ∧ w.cell? ⟨B + 1, 1, none⟩ = some (.int .i64 0) ∧ w.frozen? ⟨B + 1, 0, none⟩ = false ∧ w.frozen? ⟨B + 1, 1, none⟩ = false) ∧ B + 1 < w.heap.size :=
  ⟨⟨h.prt.cell 0 rfl, h.prt.cell 1 rfl, h.prt.cell 2 rfl⟩, ⟨h.prt.free 0, h.prt.free 1, h.prt.free 2⟩, ⟨h.flt.cell 0 rfl, h.flt.cell 1 rfl, h.flt.free 0, h.flt.free 1⟩, h.flt.lt⟩
theorem twp_start (w : World) : ∃ B W0, B = w.heap.size ∧ W0 = (w.alloc (.cells prtZ 44)).alloc (.cells fltZ 27) ∧ Twp B W0 ∧ Below w.heap.size w W0 :=
  ⟨_, _, rfl, rfl, ⟨(Blk.new w _ _).alloc _, by have := Blk.new (w.alloc (.cells prtZ 44)) fltZ 27; simpa using this⟩, ((Below.refl _ _).alloc (Nat.le_refl _) _).alloc (by simp) _⟩
theorem below_twp {C B : Nat} {w w' : World} (h : Below C w w') (hB : C ≤ B) (a0 a1 a2 b0 b1 : Value) :
    Below C w (((((w'.setCell ⟨B, 0, none⟩ a0).setCell ⟨B, 1, none⟩ a1).setCell ⟨B, 2, none⟩ a2).setCell ⟨B + 1, 0, none⟩ b0).setCell ⟨B + 1, 1, none⟩ b1) :=
  ((((h.setCell hB _).setCell hB _).setCell hB _).setCell (show C ≤ B + 1 by omega) _).setCell (show C ≤ B + 1 by omega) _
def resP (r : R (Prt × Nat)) : Value := match r with
  | .ok x => .tuple #[.agg #[.int .i64 x.1.kind, .string ⟨x.1.text.toArray⟩, .string ⟨x.1.key.toArray⟩], .int .i64 x.2, .agg #[.int .i64 0, .int .i64 0]]
  | .error x => .tuple #[.agg prtZ, .int .i64 0, .agg #[.int .i64 x.1, .int .i64 x.2]]
theorem resP_err (a b : Nat) : resP (.error (a, b)) = .tuple #[.agg #[.int .i64 0, .string ⟨#[]⟩, .string ⟨#[]⟩], .int .i64 0, .agg #[.int .i64 a, .int .i64 b]] := rfl
abbrev okP (k : Nat) (t key : ByteArray) (n : Int) : Value := .tuple #[.agg #[.int .i64 k, .string t, .string key], .int .i64 n, .agg #[.int .i64 0, .int .i64 0]]
theorem ret_okP {r : R (Prt × Nat)} {k : Nat} {t key : ByteArray} {n : Nat} {z : Int} (h : r = .ok (⟨k, t.data.toList, key.data.toList⟩, n)) (hz : z = n) : Ending.returned (okP k t key z) = .returned (resP r) := by
  subst h; subst hz; rfl

theorem failPart_any (why at_ : Nat) (w : World) :
    Calls Tryz.prog 120 #[.int .i64 why, .int .i64 at_] w fun e w' => e = .returned (resP (.error (why, at_))) ∧ Below w.heap.size w w' := by
  go_enter Tryz.func120, Tryz.ntmps120
  go_wp2_with fail
  exact bodyPost_ret (v := .tuple #[.agg #[.int .i64 0, .string ⟨#[]⟩, .string ⟨#[]⟩], .int .i64 0, .agg #[.int .i64 why, .int .i64 at_]]) (by simp [results, Tryz.results120, go_sem]) rfl ⟨rfl, ((Below.refl _ _).alloc (Nat.le_refl _) _).alloc (by simp) _⟩

/- ---- what stands in brackets -/
theorem cut_byte (q : UInt8) (r : L) : Lib.cut r [q] = match upto q r with | some n => (r.take n, r.drop (n + 1), true) | none => (r, [], false) := by
  have key : ∀ r : L, (Lib.index r [q] = -1 ∧ upto q r = none) ∨ (0 ≤ Lib.index r [q] ∧ upto q r = some (Lib.index r [q]).toNat) := by
    intro r
    induction r with
    | nil => left; exact ⟨rfl, rfl⟩
    | cons b r ih =>
      by_cases hb : b = q
      · right
        subst hb
        have h1 : Lib.index (b :: r) [b] = 0 := by simp [Lib.index]
        rw [h1]
        exact ⟨Int.le_refl _, by simp [upto]⟩
      · have h1 : Lib.index (b :: r) [q] = if Lib.index r [q] == -1 then -1 else Lib.index r [q] + 1 := by rw [Lib.index]; exact if_neg (by simpa using Ne.symm hb)
        rw [h1]
        simp only [upto, hb, if_false]
        rcases ih with ⟨h2, h3⟩ | ⟨h2, h3⟩
        · left; rw [h2, h3]; exact ⟨rfl, rfl⟩
        · right
          have h4 : ¬ (Lib.index r [q] == -1) = true := by simp; omega
          rw [if_neg h4, h3]
          refine ⟨by omega, ?_⟩
          simp only [Option.map_some, Option.some.injEq]
          omega
  unfold Lib.cut
  rcases key r with ⟨h1, h2⟩ | ⟨h1, h2⟩
  · rw [if_neg (by omega), h2]
  · rw [if_pos h1, h2]; rfl
theorem upto_lt (q : UInt8) : ∀ (r : L) (n : Nat), upto q r = some n → n < r.length := by
  intro r
  induction r with
  | nil => intro n h; cases h
  | cons b r ih =>
    intro n h
    simp only [upto] at h
    split at h
    · injection h with h; subst h; simp
    · obtain ⟨m, hm, rfl⟩ := Option.map_eq_some_iff.1 h
      have := ih m hm
      simp; omega
def elemV (x : Nat × L × Nat) : Value := .tuple #[.agg #[.int .i64 x.1, .string ⟨#[]⟩, .string ⟨x.2.1.toArray⟩], .int .i64 x.2.2]
/-- What stands in brackets, told by the bytes within. -/
def elemIn (ins : L) : Nat × L × Nat :=
  if keyNumB ins then (2, ins, ins.length + 2)
  else if isWordB (if Lib.hasPrefix ins [36] then ins.drop 1 else ins) = false then (0, [], 0)
  else if Lib.hasPrefix ins [36] then (4, ins.drop 1, ins.length + 2) else (3, ins, ins.length + 2)
theorem elemN_some (s : L) (n : Nat) (h : upto 93 (s.drop 1) = some n) : elemN s = elemIn ((s.drop 1).take n) := by
  have := upto_lt 93 _ n h
  have hl : ((s.drop 1).take n).length = n := by rw [List.length_take]; omega
  unfold elemN elemIn
  rw [h]
  dsimp only
  rw [hl]
  by_cases h1 : keyNumB ((s.drop 1).take n) = true
  · rw [if_pos h1, if_pos h1]
  · rw [if_neg h1, if_neg h1]
    by_cases h2 : Lib.hasPrefix ((s.drop 1).take n) [36] = true
    · simp only [h2, if_true]
      cases isWordB (((s.drop 1).take n).drop 1) <;> rfl
    · simp only [h2]
      cases isWordB ((s.drop 1).take n) <;> simp
theorem elemIn_le (ins : L) : (elemIn ins).2.2 = 0 ∨ ((elemIn ins).2.2 = ins.length + 2 ∧ (elemIn ins).2.1.length ≤ ins.length) := by
  unfold elemIn
  by_cases h1 : keyNumB ins = true
  · rw [if_pos h1]; right; exact ⟨rfl, Nat.le_refl _⟩
  · rw [if_neg h1]
    by_cases h2 : isWordB (if Lib.hasPrefix ins [36] then ins.drop 1 else ins) = false
    · rw [if_pos h2]; left; rfl
    · rw [if_neg h2]
      by_cases h3 : Lib.hasPrefix ins [36] = true
      · rw [if_pos h3]; right; exact ⟨rfl, by rw [List.length_drop]; omega⟩
      · rw [if_neg h3]; right; exact ⟨rfl, Nat.le_refl _⟩
theorem elemN_le (s : L) : (elemN s).2.2 = 0 ∨ (2 ≤ (elemN s).2.2 ∧ (elemN s).2.2 ≤ s.length ∧ (elemN s).2.1.length ≤ s.length) := by
  cases h : upto 93 (s.drop 1) with
  | none => left; unfold elemN; rw [h]
  | some n =>
    rw [elemN_some s n h]
    have := upto_lt 93 _ n h
    rw [List.length_drop] at this
    have hl : ((s.drop 1).take n).length = n := by rw [List.length_take, List.length_drop]; omega
    have := elemIn_le ((s.drop 1).take n)
    omega

set_option maxHeartbeats 4000000 in
set_option maxRecDepth 100000 in
theorem elementPart_any (s : ByteArray) (w : World) (h0 : 0 < s.size) (hs : s.size ≤ 4294967280) (hm : HasMax w) :
    Calls Tryz.prog 121 #[.string s] w fun e w' => e = .returned (elemV (elemN s.data.toList)) ∧ Below w.heap.size w w' := by
  have hml := hm.lt
  have hB := Blk.new w prtZ 44
  have hb0 : Below w.heap.size w (w.alloc (.cells prtZ 44)) := (Below.refl _ _).alloc (Nat.le_refl _) _
  obtain ⟨W0, hW0⟩ : ∃ W0, W0 = w.alloc (.cells prtZ 44) := ⟨_, rfl⟩
  obtain ⟨B, hBB⟩ : ∃ B, B = w.heap.size := ⟨_, rfl⟩
  rw [← hW0, ← hBB] at hB hb0
  have HB := Lib.hid hBB
  have HS : Hid ((s.extract 1 s.size).size < 4294967281) := by show _ < _; rw [Lib.size_eq, tail_list, List.length_drop, ← Lib.size_eq]; omega
  have hm0 := hm.below hb0 (by rw [hBB]; exact hml)
  have ht := Lib.hid (tail_list s 1)
  cases hu : upto 93 (s.data.toList.drop 1) with
  | none =>
    have HR : Hid (elemN s.data.toList = (0, [], 0)) := by show _ = _; rw [elemN, hu]
    obtain ⟨a, ha⟩ := bytes_of (s.data.toList.drop 1)
    have HC : Hid (Lib.cut (s.extract 1 s.size).data.toList [93] = (a.data.toList, (⟨#[]⟩ : ByteArray).data.toList, false)) := by
      show _ = _; rw [ht.out, cut_byte, hu, ha]
    clear hu ha
    go_enter Tryz.func121, Tryz.ntmps121
    go_wp2_with fail
    rw [← hBB, ← hW0]
    clear hBB hW0
    refine (cut_b _ ⟨#[93]⟩ a ⟨#[]⟩ false _ HS.out hm0 HC.out).mono ?_
    rintro e w1 ⟨rfl, n, rfl⟩
    have c0 := hB.cell 0 rfl; have c1 := hB.cell 1 rfl; have c2 := hB.cell 2 rfl
    have f0 := hB.free 0; have f1 := hB.free 1; have f2 := hB.free 2
    have hl := hB.lt
    have hbb := below_drewN hb0 n
    go_wp2_with fail
    exact bodyPost_ret (v := .tuple #[.agg #[.int .i64 0, .string ⟨#[]⟩, .string ⟨#[]⟩], .int .i64 0]) (by simp [results, Tryz.results121, go_sem, c0, c1, c2]) rfl ⟨by rw [HR.out]; rfl, by rw [← HB.out]; exact ((hbb.setCell (Nat.le_refl _) _).setCell (Nat.le_refl _) _).setCell (Nat.le_refl _) _⟩
  | some n =>
    have hn := upto_lt 93 _ n hu
    rw [List.length_drop, ← Lib.size_eq] at hn
    obtain ⟨a, ha⟩ := bytes_of ((s.data.toList.drop 1).take n)
    obtain ⟨b, hb⟩ := bytes_of ((s.data.toList.drop 1).drop (n + 1))
    have HC : Hid (Lib.cut (s.extract 1 s.size).data.toList [93] = (a.data.toList, b.data.toList, true)) := by
      show _ = _; rw [ht.out, cut_byte, hu, ha, hb]
    have has : a.size = n := by rw [Lib.size_eq, ha, List.length_take, List.length_drop, ← Lib.size_eq]; omega
    have HE : Hid (elemN s.data.toList = elemIn a.data.toList) := by show _ = _; rw [elemN_some _ n hu, ha]
    obtain ⟨D, hD⟩ := bytes_of (Lib.trimPrefix a.data.toList [36])
    have hDd : D.data.toList = if Lib.hasPrefix a.data.toList [36] then a.data.toList.drop 1 else a.data.toList := hD
    have hDs : D.size ≤ a.size := by rw [Lib.size_eq, hDd, Lib.size_eq]; split <;> simp
    have HT : Hid ((⟨(Lib.trimPrefix a.data.toList [36]).toArray⟩ : ByteArray) = D) := by show _ = _; rw [← hD, Lib.mk_data]
    have haS : a.size ≤ s.size := by omega
    have HX : Hid (elemIn a.data.toList = if keyNumB a.data.toList then (2, a.data.toList, a.size + 2)
        else if isWordB D.data.toList = false then (0, [], 0)
        else if Lib.hasPrefix a.data.toList [36] then (4, D.data.toList, a.size + 2) else (3, D.data.toList, a.size + 2)) := by
      show _ = _
      rw [elemIn, ← hDd, Lib.size_eq]
      by_cases hp : Lib.hasPrefix a.data.toList [36] = true
      · simp only [hp, if_true] at hDd ⊢; rw [hDd]
      · simp only [hp] at hDd ⊢; rw [hDd]; simp
    clear hu ha hb has hD hDd hn
    go_enter Tryz.func121, Tryz.ntmps121
    go_wp2_with fail
    rw [← hBB, ← hW0]
    clear hBB hW0
    refine (cut_b _ ⟨#[93]⟩ a b true _ HS.out hm0 HC.out).mono ?_
    rintro e w1 ⟨rfl, m, rfl⟩
    have hbb := below_drewN hb0 m
    have hB1 : Blk B (W0.drewN m) prtZ 44 := hB.below (below_drewN (Below.refl _ _) m)
    generalize W0.drewN m = W1 at hbb hB1
    clear hb0 hB hm0
    go_wp2_with fail
    refine (Tryz.strings_CutPrefix a ⟨#[36]⟩ _).mono ?_
    rintro e w' ⟨rfl, rfl⟩
    rw [HT.out]
    go_wp2_with fail
    refine (isKeyNumber_any a _ (by omega)).mono ?_
    rintro e w2 ⟨rfl, hb2⟩
    have hB2 := hB1.below hb2
    have hbb2 := hbb.trans (hb2.mono (by have := hB1.lt; omega))
    clear hb2 hB1 hbb
    cases hk : keyNumB a.data.toList
    · have HX2 : Hid (elemN s.data.toList = if isWordB D.data.toList = false then (0, [], 0) else if Lib.hasPrefix a.data.toList [36] then (4, D.data.toList, a.size + 2) else (3, D.data.toList, a.size + 2)) := by
        show _ = _; rw [HE.out, HX.out, hk]; rfl
      clear HX hk
      go_wp2_with fail
      refine (wisWord_any D _ (by omega)).mono ?_
      rintro e w3 ⟨rfl, hb3⟩
      have hB3 := hB2.below hb3
      have hbb := hbb2.trans (hb3.mono (by have := hB2.lt; omega))
      clear hb3 hB2 hbb2
      have c0 := hB3.cell 0 rfl; have c1 := hB3.cell 1 rfl; have c2 := hB3.cell 2 rfl
      have f0 := hB3.free 0; have f1 := hB3.free 1; have f2 := hB3.free 2
      have hl := hB3.lt
      cases hw : isWordB D.data.toList
      · have HR : Hid (elemN s.data.toList = (0, [], 0)) := by show _ = _; rw [HX2.out, hw]; rfl
        clear HX2 hw
        go_wp2_with fail
        exact bodyPost_ret (v := .tuple #[.agg #[.int .i64 0, .string ⟨#[]⟩, .string ⟨#[]⟩], .int .i64 0]) (by simp [results, Tryz.results121, go_sem, c0, c1, c2]) rfl ⟨by rw [HR.out]; rfl, by rw [← HB.out]; exact ((hbb.setCell (Nat.le_refl _) _).setCell (Nat.le_refl _) _).setCell (Nat.le_refl _) _⟩
      · cases hp : Lib.hasPrefix a.data.toList [36]
        · have HR : Hid (elemN s.data.toList = (3, D.data.toList, a.size + 2)) := by show _ = _; rw [HX2.out, hw, hp]; rfl
          have HP := Lib.hid hp
          clear HX2 hw hp
          go_wp2_with fail
          exact bodyPost_ret (v := .tuple #[.agg #[.int .i64 3, .string ⟨#[]⟩, .string D], .int .i64 (a.size + 2)]) (by simp [results, Tryz.results121, go_sem, c0, c1, c2]) rfl ⟨by rw [HR.out]; rfl, by rw [← HB.out]; exact ((hbb.setCell (Nat.le_refl _) _).setCell (Nat.le_refl _) _).setCell (Nat.le_refl _) _⟩
        · have HR : Hid (elemN s.data.toList = (4, D.data.toList, a.size + 2)) := by show _ = _; rw [HX2.out, hw, hp]; rfl
          have HP := Lib.hid hp
          clear HX2 hw hp
          go_wp2_with fail
          exact bodyPost_ret (v := .tuple #[.agg #[.int .i64 4, .string ⟨#[]⟩, .string D], .int .i64 (a.size + 2)]) (by simp [results, Tryz.results121, go_sem, c0, c1, c2]) rfl ⟨by rw [HR.out]; rfl, by rw [← HB.out]; exact ((hbb.setCell (Nat.le_refl _) _).setCell (Nat.le_refl _) _).setCell (Nat.le_refl _) _⟩
    · have HR : Hid (elemN s.data.toList = (2, a.data.toList, a.size + 2)) := by
        show _ = _; rw [HE.out, HX.out, hk]; rfl
      clear HX hk
      have hbb := hbb2
      have c0 := hB2.cell 0 rfl; have c1 := hB2.cell 1 rfl; have c2 := hB2.cell 2 rfl
      have f0 := hB2.free 0; have f1 := hB2.free 1; have f2 := hB2.free 2
      have hl := hB2.lt
      go_wp2_with fail
      exact bodyPost_ret (v := .tuple #[.agg #[.int .i64 2, .string ⟨#[]⟩, .string a], .int .i64 (a.size + 2)]) (by simp [results, Tryz.results121, go_sem, c0, c1, c2]) rfl ⟨by rw [HR.out]; rfl, by rw [← HB.out]; exact ((hbb.setCell (Nat.le_refl _) _).setCell (Nat.le_refl _) _).setCell (Nat.le_refl _) _⟩

set_option maxHeartbeats 8000000 in
set_option maxRecDepth 100000 in
theorem variablePart_any (s : ByteArray) (w : World) (h0 : 0 < s.size) (hs : s.size ≤ 4294967280) (hm : HasMax w) :
    Calls Tryz.prog 108 #[.string s] w fun e w' => e = .returned (resP (varPart s.data.toList)) ∧ Below w.heap.size w w' := by
  have hml := hm.lt
  obtain ⟨n, hn⟩ : ∃ n, n = wordN (s.data.toList.drop 1) := ⟨_, rfl⟩
  have hnl := wordN_le (s.data.toList.drop 1)
  rw [← hn, List.length_drop, ← Lib.size_eq] at hnl
  obtain ⟨T, hT⟩ : ∃ T, T = s.extract 1 (1 + n) := ⟨_, rfl⟩
  have hTl : T.data.toList = (s.data.toList.drop 1).take n := by rw [hT, extract_list, show 1 + n - 1 = n from by omega]
  have hTs : T.size = n := by rw [Lib.size_eq, hTl, List.length_take, List.length_drop, ← Lib.size_eq]; omega
  obtain ⟨Y, hY⟩ : ∃ Y, Y = s.extract (1 + n) s.size := ⟨_, rfl⟩
  have hYl : Y.data.toList = s.data.toList.drop (1 + n) := by rw [hY, tail_list]
  have hYs : Y.size ≤ s.size := by rw [Lib.size_eq, hYl, List.length_drop, ← Lib.size_eq]; omega
  have hYs2 : 1 + n + Y.size = s.size := by rw [Lib.size_eq, hYl, List.length_drop, ← Lib.size_eq]; omega
  have HV : Hid (varPart s.data.toList = if 64 < n then .error (2, 0) else
      if Lib.hasPrefix Y.data.toList [91] then (if (elemN Y.data.toList).2.2 = 0 then .error (7, 1 + n) else if (elemN Y.data.toList).1 ≠ 2 ∧ 64 < (elemN Y.data.toList).2.1.length then .error (2, 1 + n + 1) else .ok (⟨(elemN Y.data.toList).1, T.data.toList, (elemN Y.data.toList).2.1⟩, 1 + n + (elemN Y.data.toList).2.2))
      else if Lib.hasPrefix Y.data.toList [45, 62] then
        (if wordN (Y.data.toList.drop 2) = 0 then .ok (⟨1, T.data.toList, []⟩, 1 + n) else if 64 < wordN (Y.data.toList.drop 2) then .error (2, 1 + n + 2) else .ok (⟨5, T.data.toList, (Y.data.toList.drop 2).take (wordN (Y.data.toList.drop 2))⟩, 1 + n + 2 + wordN (Y.data.toList.drop 2)))
      else .ok (⟨1, T.data.toList, []⟩, 1 + n)) := by
    show _ = _
    unfold varPart
    simp only [← hn, hTl, hYl]
  have hsz : Hid ((s.extract 1 s.size).size ≤ 4294967280) := by show _ ≤ _; rw [Lib.size_eq, tail_list, List.length_drop, ← Lib.size_eq]; omega
  have ht := Lib.hid (tail_list s 1)
  have Hn := Lib.hid hn.symm
  have HT := Lib.hid hT
  have HTS := Lib.hid hTs
  have HY := Lib.hid hY
  have hTs2 : T.size ≤ n := by omega
  have hTs3 : n ≤ T.size := by omega
  obtain ⟨B, W0, hB, hW0, h2, hb0⟩ := twp_start w
  have HB := Lib.hid hB
  have hmlB := hml
  rw [← hB] at hmlB
  rw [← hB] at hb0
  clear hn hT hTl hTs hY hYl
  go_enter Tryz.func108, Tryz.ntmps108
  go_wp2_with fail
  rw [← hB, ← hW0]
  clear hB hW0
  refine (wwordLen_any _ _ hsz.out).mono ?_
  rintro e w1 ⟨rfl, hb1⟩
  rw [ht.out, Hn.out]
  have h21 := h2.below hb1
  have hb2 := hb0.trans (hb1.mono (by have := h2.flt.lt; omega))
  clear h2 hb0 hb1
  have hl1 := h21.flt.lt
  -- the part in its cells
  have hP := Blk.new w1 #[.int .i64 1, .string T, .string ⟨#[]⟩] 44
  have hbP : Below w1.heap.size w1 (w1.alloc (.cells #[.int .i64 1, .string T, .string ⟨#[]⟩] 44)) := (Below.refl _ _).alloc (Nat.le_refl _) _
  by_cases hbig : 64 < n
  · have HR : Hid (varPart s.data.toList = .error (2, 0)) := by show _ = _; rw [HV.out, if_pos hbig]
    go_wp2_with fail
    rw [← HT.out]
    have hQ := h21.below hbP
    have hbQ := hb2.trans (hbP.mono (by omega))
    clear hP hbP h21 hb2 HV
    refine (failPart_any 2 0 _).mono ?_
    rintro e w9 ⟨rfl, hb9⟩
    rw [resP_err]
    have h29 := hQ.below hb9
    have hbb9 := hbQ.trans (hb9.mono (by have := hQ.flt.lt; omega))
    clear hQ hbQ hb9
    obtain ⟨⟨c0, c1, c2⟩, ⟨f0, f1, f2⟩, ⟨d0, d1, g0, g1⟩, hl⟩ := h29.facts
    go_wp2_with fail
    exact bodyPost_ret (v := resP (.error (2, 0))) (by simp [results, Tryz.results108, go_sem, resP_err, c0, c1, c2, d0, d1]) rfl ⟨by rw [HR.out], by rw [← HB.out]; exact below_twp hbb9 (Nat.le_refl _) _ _ _ _ _⟩
  · have HV2 : Hid (varPart s.data.toList = if Lib.hasPrefix Y.data.toList [91] then (if (elemN Y.data.toList).2.2 = 0 then .error (7, 1 + n) else if (elemN Y.data.toList).1 ≠ 2 ∧ 64 < (elemN Y.data.toList).2.1.length then .error (2, 1 + n + 1) else .ok (⟨(elemN Y.data.toList).1, T.data.toList, (elemN Y.data.toList).2.1⟩, 1 + n + (elemN Y.data.toList).2.2))
      else if Lib.hasPrefix Y.data.toList [45, 62] then
        (if wordN (Y.data.toList.drop 2) = 0 then .ok (⟨1, T.data.toList, []⟩, 1 + n) else if 64 < wordN (Y.data.toList.drop 2) then .error (2, 1 + n + 2) else .ok (⟨5, T.data.toList, (Y.data.toList.drop 2).take (wordN (Y.data.toList.drop 2))⟩, 1 + n + 2 + wordN (Y.data.toList.drop 2)))
      else .ok (⟨1, T.data.toList, []⟩, 1 + n)) := by show _ = _; rw [HV.out, if_neg hbig]
    clear HV
    go_wp2_with fail
    rw [← HT.out, ← HY.out]
    have hQ := h21.below hbP
    have hbQ := hb2.trans (hbP.mono (by omega))
    obtain ⟨P, hPP⟩ : ∃ P, P = w1.heap.size := ⟨_, rfl⟩
    obtain ⟨w2, hw2⟩ : ∃ w2, w2 = w1.alloc (.cells #[.int .i64 1, .string T, .string ⟨#[]⟩] 44) := ⟨_, rfl⟩
    rw [← hw2] at hP hQ hbQ
    rw [← hPP] at hP hl1
    rw [← hw2, ← hPP]
    clear hbP h21 hb2 hw2 hPP
    have hPl := hP.lt
    have hm2 := hm.below hbQ hmlB
    cases hp : Lib.hasPrefix Y.data.toList [91]
    · refine (hasPrefix_b Y ⟨#[91]⟩ false _ hp).mono ?_
      rintro e w' ⟨rfl, rfl⟩
      have HV3 : Hid (varPart s.data.toList = if Lib.hasPrefix Y.data.toList [45, 62] then
        (if wordN (Y.data.toList.drop 2) = 0 then .ok (⟨1, T.data.toList, []⟩, 1 + n) else if 64 < wordN (Y.data.toList.drop 2) then .error (2, 1 + n + 2) else .ok (⟨5, T.data.toList, (Y.data.toList.drop 2).take (wordN (Y.data.toList.drop 2))⟩, 1 + n + 2 + wordN (Y.data.toList.drop 2)))
        else .ok (⟨1, T.data.toList, []⟩, 1 + n)) := by show _ = _; rw [HV2.out, hp]; simp
      clear HV2 hp
      have c0 := hP.cell 0 rfl; have c1 := hP.cell 1 rfl; have c2 := hP.cell 2 rfl
      have f0 := hP.free 0; have f1 := hP.free 1; have f2 := hP.free 2
      cases hp : Lib.hasPrefix Y.data.toList [45, 62]
      · have HR : Hid (varPart s.data.toList = .ok (⟨1, T.data.toList, (⟨#[]⟩ : ByteArray).data.toList⟩, 1 + n)) := by show _ = _; rw [HV3.out, hp]; rfl
        clear HV3
        go_wp2_with fail
        refine (hasPrefix_b Y ⟨#[45, 62]⟩ false _ hp).mono ?_
        rintro e w' ⟨rfl, rfl⟩
        have e0 := c0; have e1 := c1; have e2 := c2
        clear c0 c1 c2 hp
        obtain ⟨⟨c0, c1, c2⟩, ⟨f0, f1, f2⟩, ⟨d0, d1, g0, g1⟩, hl⟩ := hQ.facts
        go_wp2_with fail
        exact bodyPost_ret (v := okP 1 T ⟨#[]⟩ (1 + n)) (by simp [results, Tryz.results108, go_sem, c0, c1, c2, d0, d1]) rfl ⟨ret_okP HR.out (by omega), by rw [← HB.out]; exact below_twp hbQ (Nat.le_refl _) _ _ _ _ _⟩
      · have hY2 : 2 ≤ Y.size := by
          have := hasPrefix_length hp
          rw [Lib.size_eq]; exact this
        obtain ⟨m, hmm⟩ : ∃ m, m = wordN (Y.data.toList.drop 2) := ⟨_, rfl⟩
        have hml2 := wordN_le (Y.data.toList.drop 2)
        rw [← hmm, List.length_drop, ← Lib.size_eq] at hml2
        have hY2s : Hid ((Y.extract 2 Y.size).size ≤ 4294967280) := by show _ ≤ _; rw [Lib.size_eq, tail_list, List.length_drop, ← Lib.size_eq]; omega
        have hYt := Lib.hid (tail_list Y 2)
        have Hm := Lib.hid hmm.symm
        have HV4 : Hid (varPart s.data.toList = if m = 0 then .ok (⟨1, T.data.toList, []⟩, 1 + n) else if 64 < m then .error (2, 1 + n + 2) else .ok (⟨5, T.data.toList, (Y.data.toList.drop 2).take m⟩, 1 + n + 2 + m)) := by show _ = _; rw [HV3.out, hp, ← hmm, if_pos rfl]
        clear HV3 hmm
        have HP := Lib.hid hp
        clear hp
        go_wp2_with fail
        refine (hasPrefix_b Y ⟨#[45, 62]⟩ true _ HP.out).mono ?_
        rintro e w' ⟨rfl, rfl⟩
        go_wp2_with fail
        refine (wwordLen_any _ _ hY2s.out).mono ?_
        rintro e w3 ⟨rfl, hb3⟩
        rw [hYt.out, Hm.out]
        have hP3 := hP.below hb3
        have hQ3 := hQ.below hb3
        have hbQ3 := hbQ.trans (hb3.mono (by have := hQ.flt.lt; omega))
        clear hP hQ hbQ hb3 hm2 c0 c1 c2 f0 f1 f2
        have hPl3 := hP3.lt
        have c0 := hP3.cell 0 rfl; have c1 := hP3.cell 1 rfl; have c2 := hP3.cell 2 rfl
        have f0 := hP3.free 0; have f1 := hP3.free 1; have f2 := hP3.free 2
        by_cases hm0 : m = 0
        · have HR : Hid (varPart s.data.toList = .ok (⟨1, T.data.toList, (⟨#[]⟩ : ByteArray).data.toList⟩, 1 + n)) := by show _ = _; rw [HV4.out, if_pos hm0]
          subst hm0
          clear HV4
          have hQ := hQ3
          have hbQ := hbQ3
          clear hQ3 hbQ3
          have e0 := c0; have e1 := c1; have e2 := c2
          clear c0 c1 c2
          obtain ⟨⟨c0, c1, c2⟩, ⟨f0, f1, f2⟩, ⟨d0, d1, g0, g1⟩, hl⟩ := hQ.facts
          go_wp2_with fail
          exact bodyPost_ret (v := okP 1 T ⟨#[]⟩ (1 + n)) (by simp [results, Tryz.results108, go_sem, c0, c1, c2, d0, d1]) rfl ⟨ret_okP HR.out (by omega), by rw [← HB.out]; exact below_twp hbQ (Nat.le_refl _) _ _ _ _ _⟩
        · have hmp : 0 < (m : Int) := by omega
          have s1 : IntKind.i64.wrap (2 + (m : Int)) = 2 + (m : Int) := IntWalk.i64_in _ (by omega)
          have s2 : 0 ≤ 2 + (m : Int) := by omega
          have s3 : (2 + (m : Int)).toNat = 2 + m := by omega
          have s4 : (2 + (m : Int)) ≤ (Y.size : Int) := by omega
          have S1 := Lib.hid s1
          have S3 := Lib.hid s3
          clear s1 s3
          obtain ⟨key, hkey⟩ : ∃ key, key = Y.extract 2 (2 + m) := ⟨_, rfl⟩
          have hkl : key.data.toList = (Y.data.toList.drop 2).take m := by rw [hkey, extract_list, show 2 + m - 2 = m from by omega]
          have hks : key.size = m := by rw [Lib.size_eq, hkl, List.length_take, List.length_drop, ← Lib.size_eq]; omega
          have HV5 : Hid (varPart s.data.toList = if 64 < m then .error (2, 1 + n + 2) else .ok (⟨5, T.data.toList, key.data.toList⟩, 1 + n + 2 + m)) := by show _ = _; rw [HV4.out, if_neg hm0, hkl]
          have hks1 : key.size ≤ m := by omega
          have hks2 : m ≤ key.size := by omega
          have HKEY := Lib.hid hkey
          clear HV4 hkey hkl hks
          go_wp2_with fail
          have s1 := S1.out
          have s3 := S3.out
          go_region
          obtain ⟨w5, hw5⟩ : ∃ w5, w5 = ((w3.setCell ⟨P, 0, none⟩ (.int .i64 5)).setCell ⟨P, 2, none⟩ (.string key)).drew := ⟨_, rfl⟩
          rw [← HKEY.out, ← hw5]
          have e0 : w5.cell? ⟨P, 0, none⟩ = some (.int .i64 5) := by rw [hw5]; simp [go_sem, c0]
          have e1 : w5.cell? ⟨P, 1, none⟩ = some (.string T) := by rw [hw5]; simp [go_sem, c1]
          have e2 : w5.cell? ⟨P, 2, none⟩ = some (.string key) := by rw [hw5]; simp [go_sem, c2]
          have hQ : Twp B w5 := by rw [hw5]; exact ((hQ3.setCell hl1 0 _).setCell hl1 2 _).below ((Below.refl _ _).drew)
          have hbQ : Below B w w5 := by rw [hw5]; exact ((hbQ3.setCell (by show B ≤ P; omega) _).setCell (by show B ≤ P; omega) _).drew
          clear hP3 hQ3 hbQ3 c0 c1 c2 f0 f1 f2 hw5 s1 s3
          by_cases hk : 64 < m
          · have HR : Hid (varPart s.data.toList = .error (2, 1 + n + 2)) := by show _ = _; rw [HV5.out, if_pos hk]
            clear HV5
            go_wp2_with fail
            refine (failPart_any 2 (1 + n + 2) _).mono ?_
            rintro e w9 ⟨rfl, hb9⟩
            rw [resP_err]
            have h29 := hQ.below hb9
            have hbb9 := hbQ.trans (hb9.mono (by have := hQ.flt.lt; omega))
            clear hQ hbQ hb9
            obtain ⟨⟨c0, c1, c2⟩, ⟨f0, f1, f2⟩, ⟨d0, d1, g0, g1⟩, hl⟩ := h29.facts
            go_wp2_with fail
            exact bodyPost_ret (v := resP (.error (2, (1 + n + 2)))) (by simp [results, Tryz.results108, go_sem, resP_err, c0, c1, c2, d0, d1]) rfl ⟨by rw [HR.out], by rw [← HB.out]; exact below_twp hbb9 (Nat.le_refl _) _ _ _ _ _⟩
          · have HR : Hid (varPart s.data.toList = .ok (⟨5, T.data.toList, key.data.toList⟩, 1 + n + 2 + m)) := by show _ = _; rw [HV5.out, if_neg hk]
            clear HV5
            obtain ⟨⟨c0, c1, c2⟩, ⟨f0, f1, f2⟩, ⟨d0, d1, g0, g1⟩, hl⟩ := hQ.facts
            go_wp2_with fail
            exact bodyPost_ret (v := okP 5 T key (1 + n + 2 + m)) (by simp [results, Tryz.results108, go_sem, c0, c1, c2, d0, d1]) rfl ⟨ret_okP HR.out (by omega), by rw [← HB.out]; exact below_twp hbQ (Nat.le_refl _) _ _ _ _ _⟩
    · refine (hasPrefix_b Y ⟨#[91]⟩ true _ hp).mono ?_
      rintro e w' ⟨rfl, rfl⟩
      have hY0 : 0 < Y.size := by
        have := hasPrefix_length hp
        rw [Lib.size_eq]; exact this
      have HV3 : Hid (varPart s.data.toList = if (elemN Y.data.toList).2.2 = 0 then .error (7, 1 + n) else if (elemN Y.data.toList).1 ≠ 2 ∧ 64 < (elemN Y.data.toList).2.1.length then .error (2, 1 + n + 1) else .ok (⟨(elemN Y.data.toList).1, T.data.toList, (elemN Y.data.toList).2.1⟩, 1 + n + (elemN Y.data.toList).2.2)) := by show _ = _; rw [HV2.out, hp, if_pos rfl]
      clear HV2 hp
      have hel := elemN_le Y.data.toList
      rw [← Lib.size_eq] at hel
      obtain ⟨K, hK⟩ : ∃ K, K = (elemN Y.data.toList).1 := ⟨_, rfl⟩
      obtain ⟨key, hkey⟩ := bytes_of (elemN Y.data.toList).2.1
      obtain ⟨m, hmm⟩ : ∃ m, m = (elemN Y.data.toList).2.2 := ⟨_, rfl⟩
      rw [← hmm, ← hkey, ← Lib.size_eq] at hel
      have HV4 : Hid (varPart s.data.toList = if m = 0 then .error (7, 1 + n) else if K ≠ 2 ∧ 64 < key.size then .error (2, 1 + n + 1) else .ok (⟨K, T.data.toList, key.data.toList⟩, 1 + n + m)) := by show _ = _; rw [HV3.out, ← hmm, ← hK, ← hkey, ← Lib.size_eq]
      have HE : Hid (elemV (elemN Y.data.toList) = .tuple #[.agg #[.int .i64 K, .string ⟨#[]⟩, .string key], .int .i64 m]) := by show _ = _; rw [elemV, ← hmm, ← hK, ← hkey, Lib.mk_data]
      clear HV3 hK hkey hmm
      go_wp2_with fail
      refine (elementPart_any Y _ hY0 (by omega) hm2).mono ?_
      rintro e w3 ⟨rfl, hb3⟩
      rw [HE.out]
      have hP3 := hP.below hb3
      have hQ3 := hQ.below hb3
      have hbQ3 := hbQ.trans (hb3.mono (by have := hQ.flt.lt; omega))
      clear hP hQ hbQ hb3 hm2
      have hPl3 := hP3.lt
      -- the element in cells of its own
      have hE9 := Blk.new w3 #[.int .i64 K, .string ⟨#[]⟩, .string key] 44
      have hb9 : Below w3.heap.size w3 (w3.alloc (.cells #[.int .i64 K, .string ⟨#[]⟩, .string key] 44)) := (Below.refl _ _).alloc (Nat.le_refl _) _
      by_cases hm0 : m = 0
      · have HR : Hid (varPart s.data.toList = .error (7, 1 + n)) := by show _ = _; rw [HV4.out, if_pos hm0]
        subst hm0
        go_wp2_with fail
        have hQ := hQ3.below hb9
        have hbQ := hbQ3.trans (hb9.mono (by have := hQ3.flt.lt; omega))
        clear hP3 hQ3 hbQ3 hb9 hE9 HV4
        refine (failPart_any 7 (1 + n) _).mono ?_
        rintro e w9 ⟨rfl, hb9⟩
        rw [resP_err]
        have h29 := hQ.below hb9
        have hbb9 := hbQ.trans (hb9.mono (by have := hQ.flt.lt; omega))
        clear hQ hbQ hb9
        obtain ⟨⟨c0, c1, c2⟩, ⟨f0, f1, f2⟩, ⟨d0, d1, g0, g1⟩, hl⟩ := h29.facts
        go_wp2_with fail
        exact bodyPost_ret (v := resP (.error (7, (1 + n)))) (by simp [results, Tryz.results108, go_sem, resP_err, c0, c1, c2, d0, d1]) rfl ⟨by rw [HR.out], by rw [← HB.out]; exact below_twp hbb9 (Nat.le_refl _) _ _ _ _ _⟩
      · have hm0' : ((m : Int) == 0) = false := by rw [beq_eq_false_iff_ne]; omega
        go_wp2_with fail
        obtain ⟨E9, hE9'⟩ : ∃ E9, E9 = w3.heap.size := ⟨_, rfl⟩
        have hP4 := hP3.below hb9
        have hQ4 := hQ3.below hb9
        have hbQ4 := hbQ3.trans (hb9.mono (by have := hQ3.flt.lt; omega))
        obtain ⟨w4, hw4⟩ : ∃ w4, w4 = w3.alloc (.cells #[.int .i64 K, .string ⟨#[]⟩, .string key] 44) := ⟨_, rfl⟩
        rw [← hw4] at hE9 hP4 hQ4 hbQ4
        rw [← hE9'] at hE9 hPl3
        rw [← hw4, ← hE9']
        clear hb9 hP3 hQ3 hbQ3 hw4 hE9'
        have c0 := hP4.cell 0 rfl; have c1 := hP4.cell 1 rfl; have c2 := hP4.cell 2 rfl
        have f0 := hP4.free 0; have f1 := hP4.free 1; have f2 := hP4.free 2
        have d0 := hE9.cell 0 rfl; have d1 := hE9.cell 1 rfl; have d2 := hE9.cell 2 rfl
        have hPl4 := hP4.lt
        have hEl4 := hE9.lt
        have hne : E9 ≠ P := by omega
        have hne2 : P ≠ E9 := by omega
        go_region
        obtain ⟨w5, hw5⟩ : ∃ w5, w5 = ((w4.setCell ⟨P, 0, none⟩ (.int .i64 K)).setCell ⟨P, 2, none⟩ (.string key)).drew := ⟨_, rfl⟩
        rw [← hw5]
        have e0 : w5.cell? ⟨P, 0, none⟩ = some (.int .i64 K) := by rw [hw5]; simp [go_sem, c0]
        have e1 : w5.cell? ⟨P, 1, none⟩ = some (.string T) := by rw [hw5]; simp [go_sem, c1]
        have e2 : w5.cell? ⟨P, 2, none⟩ = some (.string key) := by rw [hw5]; simp [go_sem, c2]
        have hQ : Twp B w5 := by rw [hw5]; exact ((hQ4.setCell hl1 0 _).setCell hl1 2 _).below ((Below.refl _ _).drew)
        have hbQ : Below B w w5 := by rw [hw5]; exact ((hbQ4.setCell (by show B ≤ P; omega) _).setCell (by show B ≤ P; omega) _).drew
        clear hP4 hQ4 hbQ4 hE9 c0 c1 c2 f0 f1 f2 d0 d1 d2 hw5
        by_cases hK2 : K = 2
        · have HR : Hid (varPart s.data.toList = .ok (⟨2, T.data.toList, key.data.toList⟩, 1 + n + m)) := by show _ = _; rw [HV4.out, if_neg hm0, if_neg (fun h => h.1 hK2), hK2]
          subst hK2
          clear HV4
          obtain ⟨⟨c0, c1, c2⟩, ⟨f0, f1, f2⟩, ⟨d0, d1, g0, g1⟩, hl⟩ := hQ.facts
          go_wp2_with fail
          exact bodyPost_ret (v := okP 2 T key (1 + n + m)) (by simp [results, Tryz.results108, go_sem, c0, c1, c2, d0, d1]) rfl ⟨ret_okP HR.out (by omega), by rw [← HB.out]; exact below_twp hbQ (Nat.le_refl _) _ _ _ _ _⟩
        · have hK' : ((K : Int) != 2) = true := by rw [bne_iff_ne]; omega
          by_cases hk : 64 < key.size
          · have HR : Hid (varPart s.data.toList = .error (2, 1 + n + 1)) := by show _ = _; rw [HV4.out, if_neg hm0, if_pos ⟨hK2, hk⟩]
            clear HV4
            go_wp2_with fail
            refine (failPart_any 2 (1 + n + 1) _).mono ?_
            rintro e w9 ⟨rfl, hb9⟩
            rw [resP_err]
            have h29 := hQ.below hb9
            have hbb9 := hbQ.trans (hb9.mono (by have := hQ.flt.lt; omega))
            clear hQ hbQ hb9
            obtain ⟨⟨c0, c1, c2⟩, ⟨f0, f1, f2⟩, ⟨d0, d1, g0, g1⟩, hl⟩ := h29.facts
            go_wp2_with fail
            exact bodyPost_ret (v := resP (.error (2, (1 + n + 1)))) (by simp [results, Tryz.results108, go_sem, resP_err, c0, c1, c2, d0, d1]) rfl ⟨by rw [HR.out], by rw [← HB.out]; exact below_twp hbb9 (Nat.le_refl _) _ _ _ _ _⟩
          · have HR : Hid (varPart s.data.toList = .ok (⟨K, T.data.toList, key.data.toList⟩, 1 + n + m)) := by show _ = _; rw [HV4.out, if_neg hm0, if_neg (fun h => hk h.2)]
            clear HV4
            obtain ⟨⟨c0, c1, c2⟩, ⟨f0, f1, f2⟩, ⟨d0, d1, g0, g1⟩, hl⟩ := hQ.facts
            go_wp2_with fail
            exact bodyPost_ret (v := okP K T key (1 + n + m)) (by simp [results, Tryz.results108, go_sem, c0, c1, c2, d0, d1]) rfl ⟨ret_okP HR.out (by omega), by rw [← HB.out]; exact below_twp hbQ (Nat.le_refl _) _ _ _ _ _⟩
end Go.Proofs.YtjcldgogjgchiaaGreatDoor
