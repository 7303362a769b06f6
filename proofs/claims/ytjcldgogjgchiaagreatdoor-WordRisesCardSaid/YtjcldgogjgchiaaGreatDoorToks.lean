/-
  Contracts of package word's small makers of tokens: fail, sign, text, variable, name, signLen.
-/
import Derived.Test.YtjcldgogjgchiaaGreatDoorLower
import Derived.Test.YtjcldgogjgchiaaGreatDoorGap
import Derived.Test.YtjcldgogjgchiaaGreatDoorParse
namespace Go.Proofs.YtjcldgogjgchiaaGreatDoor
open Go Go.RowKit Cutting Wording

/-- A token's value: its parts' slice, its place and its line beside what it is. -/
def tokV (t : Tk) (pv : Value) (at_ line : Int) : Value := .agg #[.int .i64 t.kind, .string ⟨t.text.toArray⟩, .int .i64 t.int, pv, .int .i64 at_, .int .i64 line]
def noTk : Tk := ⟨0, [], 0, []⟩
def faultV (why at_ : Nat) : Value := .agg #[.int .i64 why, .int .i64 at_]
def resV (r : R (Tk × Nat)) (pv : Value) : Value := match r with
  | .ok x => .tuple #[tokV x.1 pv 0 0, .int .i64 x.2, faultV 0 0]
  | .error x => .tuple #[tokV noTk (.slice none 0 0) 0 0, .int .i64 0, faultV x.1 x.2]

/-- A block of the call's own, cell by cell. -/
structure Blk (P : Nat) (w : World) (cs : Array Value) (T : TypeId) : Prop where
  blk : w.heap[P]? = some (.cells cs T (0, 0))
theorem Blk.lt {P : Nat} {w : World} {cs : Array Value} {T : TypeId} (h : Blk P w cs T) : P < w.heap.size := by
  rcases Nat.lt_or_ge P w.heap.size with hlt | hge
  · exact hlt
  · have := h.blk; rw [Array.getElem?_eq_none hge] at this; cases this
theorem Blk.cell {P : Nat} {w : World} {cs : Array Value} {T : TypeId} (h : Blk P w cs T) (i : Nat) {v : Value} (hv : cs[i]? = some v) : w.cell? ⟨P, i, none⟩ = some v := by
  simp [World.cell?, h.blk, hv]
theorem Blk.free {P : Nat} {w : World} {cs : Array Value} {T : TypeId} (h : Blk P w cs T) (i : Nat) : w.frozen? ⟨P, i, none⟩ = false := frozen_of_row w P i cs T h.blk
theorem Blk.new (w : World) (cs : Array Value) (T : TypeId) : Blk w.heap.size (w.alloc (.cells cs T)) cs T := ⟨heap_alloc_new w _⟩
theorem Blk.below {P : Nat} {w w' : World} {cs : Array Value} {T : TypeId} (h : Blk P w cs T) (hb : Below w.heap.size w w') : Blk P w' cs T := ⟨(hb.block P h.lt).trans h.blk⟩
theorem Blk.alloc {P : Nat} {w : World} {cs : Array Value} {T : TypeId} (h : Blk P w cs T) (o : Obj) : Blk P (w.alloc o) cs T := h.below ((Below.refl _ _).alloc (Nat.le_refl _) _)
abbrev tokZ : Array Value := #[.int .i64 0, .string ⟨#[]⟩, .int .i64 0, .slice none 0 0, .int .i64 0, .int .i64 0]
abbrev fltZ : Array Value := #[.int .i64 0, .int .i64 0]
/-- The cells of the two results that most of these functions have in memory. -/
structure Two (B : Nat) (w : World) : Prop where
  tok : Blk B w tokZ 32
  flt : Blk (B + 1) w fltZ 27
theorem Two.new (w : World) : Two w.heap.size ((w.alloc (.cells tokZ 32)).alloc (.cells fltZ 27)) :=
  ⟨(Blk.new w _ _).alloc _, by have := Blk.new (w.alloc (.cells tokZ 32)) fltZ 27; simpa using this⟩
theorem Two.below {B : Nat} {w w' : World} (h : Two B w) (hb : Below w.heap.size w w') : Two B w' := ⟨h.tok.below hb, h.flt.below hb⟩
theorem Two.facts {B : Nat} {w : World} (h : Two B w) :
    (w.cell? ⟨B, 0, none⟩ = some (.int .i64 0) ∧ w.cell? ⟨B, 1, none⟩ = some (.string ⟨#[]⟩) ∧ w.cell? ⟨B, 2, none⟩ = some (.int .i64 0) ∧ w.cell? ⟨B, 3, none⟩ = some (.slice none 0 0) ∧ w.cell? ⟨B, 4, none⟩ = some (.int .i64 0) ∧ w.cell? ⟨B, 5, none⟩ = some (.int .i64 0)) ∧
    (w.frozen? ⟨B, 0, none⟩ = false ∧ w.frozen? ⟨B, 1, none⟩ = false ∧ w.frozen? ⟨B, 2, none⟩ = false ∧ w.frozen? ⟨B, 3, none⟩ = false ∧ w.frozen? ⟨B, 4, none⟩ = false ∧ w.frozen? ⟨B, 5, none⟩ = false) ∧
    (w.cell? ⟨B + 1, 0, none⟩ = some (.int .i64 0) ∧ w.cell? ⟨B + 1, 1, none⟩ = some (.int .i64 0) ∧ w.frozen? ⟨B + 1, 0, none⟩ = false ∧ w.frozen? ⟨B + 1, 1, none⟩ = false) ∧ B + 1 < w.heap.size :=
  ⟨⟨h.tok.cell 0 rfl, h.tok.cell 1 rfl, h.tok.cell 2 rfl, h.tok.cell 3 rfl, h.tok.cell 4 rfl, h.tok.cell 5 rfl⟩,
   ⟨h.tok.free 0, h.tok.free 1, h.tok.free 2, h.tok.free 3, h.tok.free 4, h.tok.free 5⟩, ⟨h.flt.cell 0 rfl, h.flt.cell 1 rfl, h.flt.free 0, h.flt.free 1⟩, h.flt.lt⟩
theorem below_tok {C B : Nat} {w w' : World} (h : Below C w w') (hB : C ≤ B) (a0 a1 a2 a3 a4 a5 : Value) :
    Below C w ((((((w'.setCell ⟨B, 0, none⟩ a0).setCell ⟨B, 1, none⟩ a1).setCell ⟨B, 2, none⟩ a2).setCell ⟨B, 3, none⟩ a3).setCell ⟨B, 4, none⟩ a4).setCell ⟨B, 5, none⟩ a5) :=
  (((((h.setCell hB _).setCell hB _).setCell hB _).setCell hB _).setCell hB _).setCell hB _
theorem below_two {C B : Nat} {w w' : World} (h : Below C w w') (hB : C ≤ B) (a0 a1 a2 a3 a4 a5 b0 b1 : Value) :
    Below C w ((((((((w'.setCell ⟨B, 0, none⟩ a0).setCell ⟨B, 1, none⟩ a1).setCell ⟨B, 2, none⟩ a2).setCell ⟨B, 3, none⟩ a3).setCell ⟨B, 4, none⟩ a4).setCell ⟨B, 5, none⟩ a5).setCell ⟨B + 1, 0, none⟩ b0).setCell ⟨B + 1, 1, none⟩ b1) :=
  ((below_tok h hB a0 a1 a2 a3 a4 a5).setCell (show C ≤ B + 1 by omega) _).setCell (show C ≤ B + 1 by omega) _

theorem wfail_any (why at_ : Nat) (w : World) :
    Calls Tryz.prog 80 #[.int .i64 why, .int .i64 at_] w fun e w' => e = .returned (resV (.error (why, at_)) (.slice none 0 0)) ∧ Below w.heap.size w w' := by
  go_enter Tryz.func80, Tryz.ntmps80
  go_wp2_with fail
  exact bodyPost_ret (v := .tuple #[.agg #[.int .i64 0, .string ⟨#[]⟩, .int .i64 0, .slice none 0 0, .int .i64 0, .int .i64 0], .int .i64 0, .agg #[.int .i64 why, .int .i64 at_]]) (by simp [results, Tryz.results80, go_sem]) rfl ⟨rfl, ((Below.refl _ _).alloc (Nat.le_refl _) _).alloc (by simp) _⟩
theorem wsign_any (s : ByteArray) (w : World) :
    Calls Tryz.prog 33 #[.string s] w fun e w' => e = .returned (tokV (signT s.data.toList) (.slice none 0 0) 0 0) ∧ Below w.heap.size w w' := by
  go_enter Tryz.func33, Tryz.ntmps33
  go_wp2_with fail
  exact bodyPost_ret (v := .agg #[.int .i64 7, .string s, .int .i64 0, .slice none 0 0, .int .i64 0, .int .i64 0]) (by simp [results, Tryz.results33, go_sem]) rfl ⟨by unfold tokV signT; rw [Lib.mk_data]; rfl, (Below.refl _ _).alloc (Nat.le_refl _) _⟩

theorem resV_err (a b : Nat) (pv : Value) : resV (.error (a, b)) pv = .tuple #[.agg #[.int .i64 0, .string ⟨#[]⟩, .int .i64 0, .slice none 0 0, .int .i64 0, .int .i64 0], .int .i64 0, .agg #[.int .i64 a, .int .i64 b]] := rfl
theorem resV_ok (t : Tk) (n : Nat) (pv : Value) : resV (.ok (t, n)) pv = .tuple #[.agg #[.int .i64 t.kind, .string ⟨t.text.toArray⟩, .int .i64 t.int, pv, .int .i64 0, .int .i64 0], .int .i64 n, .agg #[.int .i64 0, .int .i64 0]] := rfl
/-- The three results where a token stands, told by its fields. -/
abbrev okV (k : Nat) (s : ByteArray) (i : Int) (pv : Value) (n : Int) : Value := .tuple #[.agg #[.int .i64 k, .string s, .int .i64 i, pv, .int .i64 0, .int .i64 0], .int .i64 n, .agg #[.int .i64 0, .int .i64 0]]
theorem ret_ok {r : R (Tk × Nat)} {k : Nat} {s : ByteArray} {i : Int} {ps : List Prt} {n : Nat} {z : Int} (pv : Value) (h : r = .ok (⟨k, s.data.toList, i, ps⟩, n)) (hz : z = n) : Ending.returned (okV k s i pv z) = .returned (resV r pv) := by
  subst h; subst hz; rfl
theorem two_start (w : World) : ∃ B W0, B = w.heap.size ∧ W0 = (w.alloc (.cells tokZ 32)).alloc (.cells fltZ 27) ∧ Two B W0 ∧ Below w.heap.size w W0 :=
  ⟨_, _, rfl, rfl, Two.new w, ((Below.refl _ _).alloc (Nat.le_refl _) _).alloc (by simp) _⟩

theorem head_at (s : ByteArray) (h : 0 < s.size) : s.data.toList.head? = some s[0] := by
  have hd := drop_at s 0 h
  rw [List.drop_zero] at hd
  rw [hd]; rfl
theorem tokT_var (s : L) (h : s.head? = some 36) : tokT s = if wordN (s.drop 1) = 0 then .error (7, 0) else if 64 < wordN (s.drop 1) then .error (2, 0) else .ok (⟨2, (s.drop 1).take (wordN (s.drop 1)), 0, []⟩, 1 + wordN (s.drop 1)) := by
  cases s with
  | nil => cases h
  | cons b r =>
    have hb : b = 36 := by simpa using h
    subst hb
    simp [tokT]

theorem extract_list (s : ByteArray) (a b : Nat) : (s.extract a b).data.toList = (s.data.toList.drop a).take (b - a) := Lib.extract_data s a b

set_option maxHeartbeats 1000000 in
theorem variable_any (s : ByteArray) (w : World) (h0 : 0 < s.size) (hs : s.size ≤ 4294967280) (h36 : s[0] = 36) :
    Calls Tryz.prog 72 #[.string s] w fun e w' => e = .returned (resV (tokT s.data.toList) (.slice none 0 0)) ∧ Below w.heap.size w w' := by
  have hsz : Hid ((s.extract 1 s.size).size ≤ 4294967280) := by show _ ≤ _; rw [Lib.size_eq, tail_list, List.length_drop, ← Lib.size_eq]; omega
  have ht := Lib.hid (tail_list s 1)
  obtain ⟨n, hn⟩ : ∃ n, n = wordN (s.data.toList.drop 1) := ⟨_, rfl⟩
  have hnl := wordN_le (s.data.toList.drop 1)
  rw [← hn, List.length_drop, ← Lib.size_eq] at hnl
  have hT : Hid (tokT s.data.toList = if n = 0 then .error (7, 0) else if 64 < n then .error (2, 0) else .ok (⟨2, (s.data.toList.drop 1).take n, 0, []⟩, 1 + n)) := by
    show _ = _
    rw [tokT_var _ (by rw [head_at s h0, h36]), ← hn]
  have Hn := Lib.hid hn.symm
  clear hn h36
  obtain ⟨B, W0, hB, hW0, h2, hb0⟩ := two_start w
  have HB := Lib.hid hB
  go_enter Tryz.func72, Tryz.ntmps72
  go_wp2_with fail
  rw [← hB, ← hW0]
  rw [← hB] at hb0
  clear hB hW0
  refine (wwordLen_any _ _ hsz.out).mono ?_
  rintro e w1 ⟨rfl, hb1⟩
  rw [ht.out, Hn.out]
  have h21 := h2.below hb1
  have hb2 := hb0.trans (hb1.mono (by have := h2.flt.lt; omega))
  clear h2 hb0 hb1
  by_cases hz : n = 0
  · have HR : Hid (tokT s.data.toList = .error (7, 0)) := by show _ = _; rw [hT.out, if_pos hz]
    subst hz
    clear hT
    go_wp2_with fail
    refine (wfail_any 7 0 _).mono ?_
    rintro e w2 ⟨rfl, hb3⟩
    rw [resV_err]
    have h22 := h21.below hb3
    have hb4 := hb2.trans (hb3.mono (by have := h21.flt.lt; omega))
    clear h21 hb2 hb3
    obtain ⟨⟨c0, c1, c2, c3, c4, c5⟩, ⟨f0, f1, f2, f3, f4, f5⟩, ⟨d0, d1, g0, g1⟩, hl⟩ := h22.facts
    go_wp2_with fail
    exact bodyPost_ret (v := resV (.error (7, 0)) (.slice none 0 0)) (by simp [results, Tryz.results72, go_sem, resV_err, c0, c1, c2, c3, c4, c5, d0, d1]) rfl ⟨by rw [HR.out], by rw [← HB.out]; exact below_two hb4 (Nat.le_refl _) _ _ _ _ _ _ _ _⟩
  · have hz' : ((n : Int) == 0) = false := by rw [beq_eq_false_iff_ne]; omega
    by_cases hm : 64 < n
    · have HR : Hid (tokT s.data.toList = .error (2, 0)) := by show _ = _; rw [hT.out, if_neg hz, if_pos hm]
      clear hT hz
      go_wp2_with fail
      refine (wfail_any 2 0 _).mono ?_
      rintro e w2 ⟨rfl, hb3⟩
      rw [resV_err]
      have h22 := h21.below hb3
      have hb4 := hb2.trans (hb3.mono (by have := h21.flt.lt; omega))
      clear h21 hb2 hb3
      obtain ⟨⟨c0, c1, c2, c3, c4, c5⟩, ⟨f0, f1, f2, f3, f4, f5⟩, ⟨d0, d1, g0, g1⟩, hl⟩ := h22.facts
      go_wp2_with fail
      exact bodyPost_ret (v := resV (.error (2, 0)) (.slice none 0 0)) (by simp [results, Tryz.results72, go_sem, resV_err, c0, c1, c2, c3, c4, c5, d0, d1]) rfl ⟨by rw [HR.out], by rw [← HB.out]; exact below_two hb4 (Nat.le_refl _) _ _ _ _ _ _ _ _⟩
    · have HR : Hid (tokT s.data.toList = .ok (⟨2, (s.extract 1 (1 + n)).data.toList, 0, []⟩, 1 + n)) := by show _ = _; rw [hT.out, if_neg hz, if_neg hm, extract_list, show 1 + n - 1 = n from by omega]
      clear hT hz
      obtain ⟨⟨c0, c1, c2, c3, c4, c5⟩, ⟨f0, f1, f2, f3, f4, f5⟩, ⟨d0, d1, g0, g1⟩, hl⟩ := h21.facts
      go_wp2_with fail
      exact bodyPost_ret (v := okV 2 (s.extract 1 (1 + n)) 0 (.slice none 0 0) (1 + n)) (by simp [results, Tryz.results72, go_sem, c0, c1, c2, c3, c4, c5, d0, d1]) rfl ⟨ret_ok _ HR.out (by omega), by rw [← HB.out]; exact below_two hb2 (Nat.le_refl _) _ _ _ _ _ _ _ _⟩

theorem extract_pre (s : ByteArray) (n : Nat) : (s.extract 0 n).data.toList = s.data.toList.take n := by rw [extract_list, List.drop_zero, Nat.sub_zero]
theorem nameN_ascii (s : L) : ∀ b ∈ s.take (nameN s).1, b.toNat < 128 := by
  have hword : ∀ b : UInt8, wordB b = true → b.toNat < 128 := by
    intro b hb
    rw [← wordR_b] at hb
    simp [wordR, digR] at hb
    omega
  have hw : ∀ r : L, ∀ b ∈ r.take (wordN r), b.toNat < 128 := by
    intro r b hb
    cases r with
    | nil => simp at hb
    | cons c r =>
      simp only [wordN] at hb
      split at hb
      · simp at hb
      · rw [← List.prefix_iff_eq_take.1 (List.takeWhile_prefix wordB)] at hb
        exact hword b (List.all_eq_true.1 List.all_takeWhile b hb)
  have hm : ∀ (n : Nat) (r : L), r.length ≤ n → ∀ b ∈ r.take (moreN r).1, b.toNat < 128 := by
    intro n
    induction n with
    | zero => intro r h b hb; have := List.eq_nil_of_length_eq_zero (Nat.le_zero.1 h); subst this; simp at hb
    | succ n ih =>
      intro r h b hb
      cases hp : Lib.hasPrefix r [92]
      · rw [moreN_none r hp] at hb; simp at hb
      · by_cases h0 : wordN (r.drop 1) = 0
        · rw [moreN_bad r hp h0] at hb; simp at hb
        · rw [moreN_go r hp h0] at hb
          obtain ⟨t, ht⟩ := List.isPrefixOf_iff_prefix.1 hp
          have h1 := hasPrefix_length hp
          simp only [List.length_cons, List.length_nil] at h1
          rw [Nat.add_comm, List.take_add, List.mem_append] at hb
          rcases hb with hb | hb
          · rw [List.take_add, List.mem_append] at hb
            rcases hb with hb | hb
            · rw [← ht] at hb
              simp at hb
              subst hb
              decide
            · exact hw (r.drop 1) b hb
          · exact ih (r.drop (1 + wordN (r.drop 1))) (by rw [List.length_drop]; omega) b hb
  intro b hb
  unfold nameN at hb
  dsimp only at hb
  rw [List.take_add, List.mem_append] at hb
  rcases hb with hb | hb
  · exact hw s b hb
  · exact hm _ _ (Nat.le_refl _) b hb
theorem tokT_name (s : L) (h : s.head?.map (fun b => b == 92 || (wordB b && !digB b)) = some true) : tokT s = if !(nameN s).2 then .error (7, (nameN s).1) else if 64 < (nameN s).1 then .error (2, 0)
       else if keyB (s.take (nameN s).1) then .ok (signT ((s.take (nameN s).1).map low), (nameN s).1) else .ok (⟨3, s.take (nameN s).1, 0, []⟩, (nameN s).1) := by
  cases s with
  | nil => cases h
  | cons b r =>
    have hb : b = 92 ∨ (wordB b = true ∧ digB b = false) := by simpa using h
    have h1 : b ≠ 36 := by
      rcases hb with rfl | ⟨h, _⟩
      · decide
      · rintro rfl; revert h; decide
    have h2 : digB b = false := by
      rcases hb with rfl | ⟨_, h⟩
      · decide
      · exact h
    have h3 : b ≠ 39 := by
      rcases hb with rfl | ⟨h, _⟩
      · decide
      · rintro rfl; revert h; decide
    have h4 : b ≠ 34 := by
      rcases hb with rfl | ⟨h, _⟩
      · decide
      · rintro rfl; revert h; decide
    have h5' : b = 92 ∨ wordB b = true := by
      rcases hb with h | ⟨h, _⟩
      · exact .inl h
      · exact .inr h
    simp [tokT, h1, h2, h3, h4, h5']

set_option maxHeartbeats 2000000 in
theorem name_any (s : ByteArray) (w : World) (hs : s.size ≤ 4294967280) (hT : Tabs w) (hTB : ∀ w', Below w.heap.size w w' → Tabs w')
    (h : s.data.toList.head?.map (fun b => b == 92 || (wordB b && !digB b)) = some true) :
    Calls Tryz.prog 76 #[.string s] w fun e w' => e = .returned (resV (tokT s.data.toList) (.slice none 0 0)) ∧ Below w.heap.size w w' := by
  obtain ⟨n, hn⟩ : ∃ n, n = (nameN s.data.toList).1 := ⟨_, rfl⟩
  obtain ⟨f, hf⟩ : ∃ f, f = (nameN s.data.toList).2 := ⟨_, rfl⟩
  have hnl := nameN_le s.data.toList
  rw [← hn, ← Lib.size_eq] at hnl
  have hpre : Hid ((s.extract 0 n).data.toList = s.data.toList.take n) := extract_pre s n
  have hsz : Hid ((s.extract 0 n).size ≤ 4294967280) := by show _ ≤ _; rw [Lib.size_eq, extract_pre, List.length_take]; omega
  have hlow : Hid (Lib.mapD lowZ (s.data.toList.take n) = (s.data.toList.take n).map low) := by
    show _ = _
    exact mapD_low _ (by rw [hn]; exact nameN_ascii s.data.toList)
  have hR : Hid (tokT s.data.toList = if !f then .error (7, n) else if 64 < n then .error (2, 0) else if keyB (s.data.toList.take n) then .ok (signT ((s.data.toList.take n).map low), n) else .ok (⟨3, s.data.toList.take n, 0, []⟩, n)) := by
    show _ = _
    rw [tokT_name _ h, ← hn, ← hf]
  have HNF : Hid ((nameN s.data.toList).1 = n ∧ (nameN s.data.toList).2 = f) := ⟨hn.symm, hf.symm⟩
  clear h hn hf
  have HT := Lib.hid hT
  have HTB := hide hTB
  clear hT hTB
  obtain ⟨B, W0, hB, hW0, h2, hb0⟩ := two_start w
  have HB := Lib.hid hB
  go_enter Tryz.func76, Tryz.ntmps76
  go_wp2_with fail
  rw [← hB, ← hW0]
  rw [← hB] at hb0
  clear hB hW0
  refine (nameLen_any _ _ hs).mono ?_
  rintro e w1 ⟨rfl, hb1⟩
  rw [HNF.out.1, HNF.out.2]
  have h21 := h2.below hb1
  have hb2 := hb0.trans (hb1.mono (by have := h2.flt.lt; omega))
  clear h2 hb0 hb1
  cases f
  · have HR : Hid (tokT s.data.toList = .error (7, n)) := by show _ = _; rw [hR.out]; rfl
    clear hR
    go_wp2_with fail
    refine (wfail_any 7 n _).mono ?_
    rintro e w2 ⟨rfl, hb3⟩
    rw [resV_err]
    have h22 := h21.below hb3
    have hb4 := hb2.trans (hb3.mono (by have := h21.flt.lt; omega))
    clear h21 hb2 hb3
    obtain ⟨⟨c0, c1, c2, c3, c4, c5⟩, ⟨f0, f1, f2, f3, f4, f5⟩, ⟨d0, d1, g0, g1⟩, hl⟩ := h22.facts
    go_wp2_with fail
    exact bodyPost_ret (v := resV (.error (7, n)) (.slice none 0 0)) (by simp [results, Tryz.results76, go_sem, resV_err, c0, c1, c2, c3, c4, c5, d0, d1]) rfl ⟨by rw [HR.out], by rw [← HB.out]; exact below_two hb4 (Nat.le_refl _) _ _ _ _ _ _ _ _⟩
  · by_cases hm : 64 < n
    · have HR : Hid (tokT s.data.toList = .error (2, 0)) := by show _ = _; rw [hR.out]; simp [hm]
      clear hR
      go_wp2_with fail
      refine (wfail_any 2 0 _).mono ?_
      rintro e w2 ⟨rfl, hb3⟩
      rw [resV_err]
      have h22 := h21.below hb3
      have hb4 := hb2.trans (hb3.mono (by have := h21.flt.lt; omega))
      clear h21 hb2 hb3
      obtain ⟨⟨c0, c1, c2, c3, c4, c5⟩, ⟨f0, f1, f2, f3, f4, f5⟩, ⟨d0, d1, g0, g1⟩, hl⟩ := h22.facts
      go_wp2_with fail
      exact bodyPost_ret (v := resV (.error (2, 0)) (.slice none 0 0)) (by simp [results, Tryz.results76, go_sem, resV_err, c0, c1, c2, c3, c4, c5, d0, d1]) rfl ⟨by rw [HR.out], by rw [← HB.out]; exact below_two hb4 (Nat.le_refl _) _ _ _ _ _ _ _ _⟩
    · have HT1 : Tabs w1 := unhide HTB w1 (by rw [← HB.out]; exact hb2)
      have HT1' := hide HT1
      clear HT1
      go_wp2_with fail
      refine (Key_any _ _ hsz.out (unhide HT1')).mono ?_
      rintro e w2 ⟨rfl, hb3⟩
      rw [hpre.out]
      have h22 := h21.below hb3
      have hb4 := hb2.trans (hb3.mono (by have := h21.flt.lt; omega))
      clear h21 hb2 hb3
      cases hk : keyB (s.data.toList.take n)
      · have HR : Hid (tokT s.data.toList = .ok (⟨3, (s.extract 0 n).data.toList, 0, []⟩, n)) := by show _ = _; rw [hR.out, hk, hpre.out]; simp [hm]
        clear hR hk
        have h21 := h22
        have hb2 := hb4
        clear h22 hb4
        obtain ⟨⟨c0, c1, c2, c3, c4, c5⟩, ⟨f0, f1, f2, f3, f4, f5⟩, ⟨d0, d1, g0, g1⟩, hl⟩ := h21.facts
        go_wp2_with fail
        exact bodyPost_ret (v := okV 3 (s.extract 0 n) 0 (.slice none 0 0) n) (by simp [results, Tryz.results76, go_sem, c0, c1, c2, c3, c4, c5, d0, d1]) rfl ⟨ret_ok _ HR.out (by omega), by rw [← HB.out]; exact below_two hb2 (Nat.le_refl _) _ _ _ _ _ _ _ _⟩
      · have HR : Hid (tokT s.data.toList = .ok (signT ((s.data.toList.take n).map low), n)) := by show _ = _; rw [hR.out, hk]; simp [hm]
        clear hR hk
        have HT2 : Tabs w2 := unhide HTB w2 (by rw [← HB.out]; exact hb4)
        have HT2' := hide HT2
        clear HT2
        go_wp2_with fail
        refine (small_any _ _ hsz.out (unhide HT2')).mono ?_
        rintro e w3 ⟨rfl, hb5⟩
        rw [hpre.out, hlow.out]
        have h23 := h22.below hb5
        have hb6 := hb4.trans (hb5.mono (by have := h22.flt.lt; omega))
        clear h22 hb4 hb5
        go_wp2_with fail
        refine (wsign_any _ _).mono ?_
        rintro e w4 ⟨rfl, hb7⟩
        have h21 := h23.below hb7
        have hb2 := hb6.trans (hb7.mono (by have := h23.flt.lt; omega))
        clear h23 hb6 hb7
        unfold tokV signT
        obtain ⟨⟨c0, c1, c2, c3, c4, c5⟩, ⟨f0, f1, f2, f3, f4, f5⟩, ⟨d0, d1, g0, g1⟩, hl⟩ := h21.facts
        go_wp2_with fail
        exact bodyPost_ret (v := okV 7 ⟨((s.data.toList.take n).map low).toArray⟩ 0 (.slice none 0 0) n) (by simp [results, Tryz.results76, go_sem, c0, c1, c2, c3, c4, c5, d0, d1]) rfl ⟨ret_ok (ps := []) _ HR.out rfl, by rw [← HB.out]; exact below_two hb2 (Nat.le_refl _) _ _ _ _ _ _ _ _⟩
end Go.Proofs.YtjcldgogjgchiaaGreatDoor
