/-
  The contract of package word's longText.
-/
import Derived.Test.YtjcldgogjgchiaaGreatDoorLines
namespace Go.Proofs.YtjcldgogjgchiaaGreatDoor
open Go Go.RowKit Cutting Wording

theorem linesGo_le (name : L) : ∀ (r : L) (st : Bool) (n : Nat), linesGo name st r = some n → n + name.length ≤ r.length := by
  intro r
  induction r with
  | nil =>
    intro st n h
    simp only [linesGo] at h
    split at h
    · next hc =>
      injection h with h
      subst h
      simp only [Bool.and_eq_true] at hc
      have := hasPrefix_length hc.2.1
      simp at this ⊢
      exact this
    · cases h
  | cons b r ih =>
    intro st n h
    simp only [linesGo] at h
    split at h
    · next hc =>
      injection h with h
      subst h
      simp only [Bool.and_eq_true] at hc
      have := hasPrefix_length hc.2.1
      omega
    · obtain ⟨m, hm, rfl⟩ := Option.map_eq_some_iff.1 h
      have := ih _ m hm
      simp only [List.length_cons]
      omega
theorem trimNl_eq (s : L) : Lib.trimSuffix s [10] = trimNl s := rfl

set_option maxHeartbeats 8000000 in
set_option maxRecDepth 100000 in
theorem longText_any (s nm : ByteArray) (pl : Bool) (H : Nat) (w : World) (hs : s.size ≤ 2147483640) (hm : HasMax w)
    (hok : headOk s.data.toList = true) (hnm : nm.data.toList = headName s.data.toList) (hpl : pl = (quoteN s.data.toList == 1)) (hH : H = headAt s.data.toList) :
    Calls Tryz.prog 78 #[.string s, .agg #[.string nm, .bool pl, .int .i64 H]] w (TokPost (longT s.data.toList) w) := by
  have hml := hm.lt
  have hle := headAt_le _ hok
  rw [← hH, ← hnm, ← Lib.size_eq, ← Lib.size_eq] at hle
  obtain ⟨hle1, hle2, hle3, hle4⟩ := hle
  have hL : Hid (longT s.data.toList = match linesGo nm.data.toList true (s.data.toList.drop H) with
      | none => .error (10, 0)
      | some n => if pl = true then .ok (textT (trimNl ((s.data.toList.drop H).take n)), H + n + nm.size) else
        match wideT (trimNl ((s.data.toList.drop H).take n)) false with
        | .error x => .error (x.1, H + x.2)
        | .ok t => .ok (t, H + n + nm.size)) := by
    show _ = _
    unfold longT
    rw [← hnm, ← hH, ← Lib.size_eq, hpl]
    simp only [beq_iff_eq]
    cases linesGo nm.data.toList true (s.data.toList.drop H) with
    | none => rfl
    | some n =>
      dsimp only
      by_cases hq : quoteN s.data.toList = 1
      · rw [if_pos hq, if_pos hq]
      · rw [if_neg hq, if_neg hq]
        cases wideT (trimNl ((s.data.toList.drop H).take n)) false <;> rfl
  have hne : nm.data.toList ≠ [] := by
    intro h
    rw [Lib.size_eq, h] at hle2
    simp at hle2
  obtain ⟨X, hX⟩ : ∃ X, X = s.extract H s.size := ⟨_, rfl⟩
  have hXl : X.data.toList = s.data.toList.drop H := by rw [hX, tail_list]
  have hXs : X.size = s.size - H := by rw [Lib.size_eq, hXl, List.length_drop, ← Lib.size_eq]
  -- the head in cells of its own, and the results' cells behind it
  obtain ⟨C, hC⟩ : ∃ C, C = w.heap.size := ⟨_, rfl⟩
  obtain ⟨w0, hw0⟩ : ∃ w0, w0 = w.alloc (.cells #[.string nm, .bool pl, .int .i64 H] 97) := ⟨_, rfl⟩
  have hD := Blk.new w #[.string nm, .bool pl, .int .i64 H] 97
  have hb00 : Below w.heap.size w w0 := by rw [hw0]; exact (Below.refl _ _).alloc (Nat.le_refl _) _
  have hCs : w0.heap.size = C + 1 := by rw [hw0, hC]; simp
  rw [← hw0, ← hC] at hD
  rw [← hC] at hb00 hml
  have HC := Lib.hid hC
  obtain ⟨B, W0, hB, hW0, h2, hb0⟩ := two_start w0
  have hBC : B = C + 1 := by rw [hB, hCs]
  have hCB : C < B := by omega
  have hDW := hD.below hb0
  have hbW : Below C w W0 := hb00.trans (hb0.mono (by omega))
  rw [← hB] at hb0
  have hmW := hm.below hbW hml
  have c0 := hDW.cell 0 rfl; have c1 := hDW.cell 1 rfl; have c2 := hDW.cell 2 rfl
  have HX := Lib.hid hX
  have HXL := Lib.hid hXl
  have hBX : B = w0.heap.size := hB
  have HW0 : Hid (W0 = ((w.alloc (.cells #[.string nm, .bool pl, .int .i64 H] 97)).alloc (.cells tokZ 32)).alloc (.cells fltZ 27)) := by show _ = _; rw [hW0, hw0]
  have HBC : Hid (C + 1 = B) := by show _ = _; rw [hBC]
  clear hX hXl hnm hpl hH hok hD hb00 hb0 hC hw0 hCs hB hW0 hBX hBC
  have hXb : X.size ≤ 4294967280 := by omega
  have HNE := Lib.hid hne
  clear hne
  go_enter Tryz.func78, Tryz.ntmps78
  go_wp2_with fail
  rw [← HW0.out, ← HC.out, HBC.out]
  cases hli : linesGo nm.data.toList true X.data.toList with
  | none =>
    have HR : Hid (longT s.data.toList = .error (10, 0)) := by show _ = _; rw [hL.out, ← HXL.out, hli]
    have hLC : Hid (∀ W : World, Calls Tryz.prog 97 #[.string X, .string nm] W fun e w' => e = .returned (.int .i64 (-1)) ∧ Below W.heap.size W w') := fun W => by
      have := linesLen_any X nm W hXb HNE.out (by omega)
      rw [hli] at this
      exact this
    clear hli hL
    have hQ0 := hide h2
    have hbQ0 := hide hbW
    have hDW0 := hide hDW
    have hl2 := h2.flt.lt
    clear h2 hbW hDW hmW
    go_region_held3 (fun w' => w'.cell? ⟨C, 0, none⟩ = some (.string nm) ∧ w'.cell? ⟨C, 2, none⟩ = some (.int .i64 H))
      (first
        | exact ⟨by assumption, by assumption⟩
        | (go_split_ands
           refine ⟨?_, ?_⟩ <;> (rw [hb1.cell (by simp; omega)]; assumption))
        | go_keep)
      (first
        | (go_at_call 97; rw [← HX.out]; refine (unhide hLC _).mono ?_; rintro e w1 ⟨rfl, hb1⟩))
    go_split_ands
    have hb1' : Below W0.heap.size W0 w1 := ((Below.refl _ _).drew).trans hb1
    have hQ := (unhide hQ0).below hb1'
    have hD1 := (unhide hDW0).below hb1'
    have hbQ := (unhide hbQ0).trans (hb1'.mono (by omega))
    clear hb1 hb1' hQ0 hbQ0 hDW0 c0 c1 c2
    go_wp2_with fail
    refine (wfail_any 10 0 _).mono ?_
    rintro e w9 ⟨rfl, hb9⟩
    rw [resV_err]
    have h29 := hQ.below hb9
    have hbb9 := hbQ.trans (hb9.mono (Nat.le_of_lt (Nat.lt_trans hCB (Nat.lt_of_succ_lt hQ.flt.lt))))
    clear hQ hbQ hb9
    obtain ⟨⟨c0, c1, c2, c3, c4, c5⟩, ⟨f0, f1, f2, f3, f4, f5⟩, ⟨d0, d1, g0, g1⟩, hl⟩ := h29.facts
    go_wp2_with fail
    refine bodyPost_ret (v := resV (.error (10, 0)) (.slice none 0 0)) (by simp [results, Tryz.results78, go_sem, resV_err, c0, c1, c2, c3, c4, c5, d0, d1]) rfl ?_
    refine retT _ HR.out rfl ?_
    rw [← HC.out]
    exact below_two hbb9 (Nat.le_of_lt hCB) _ _ _ _ _ _ _ _
  | some n =>
    have hnl := linesGo_le _ _ _ _ hli
    rw [← Lib.size_eq, ← Lib.size_eq] at hnl
    have hLC : Hid (∀ W : World, Calls Tryz.prog 97 #[.string X, .string nm] W fun e w' => e = .returned (.int .i64 n) ∧ Below W.heap.size W w') := fun W => by
      have := linesLen_any X nm W hXb HNE.out (by omega)
      rw [hli] at this
      exact this
    have hHn : H + n ≤ s.size := by omega
    obtain ⟨Y, hY⟩ : ∃ Y, Y = s.extract H (H + n) := ⟨_, rfl⟩
    have hYl : Y.data.toList = (s.data.toList.drop H).take n := by rw [hY, extract_list, show H + n - H = n from by omega]
    obtain ⟨Z, hZ⟩ := bytes_of (trimNl Y.data.toList)
    have HZ : Hid ((⟨(Lib.trimSuffix Y.data.toList [10]).toArray⟩ : ByteArray) = Z) := by show _ = _; rw [trimNl_eq, ← hZ, Lib.mk_data]
    have hYs : Y.size ≤ s.size := by rw [Lib.size_eq, hYl, List.length_take, List.length_drop, ← Lib.size_eq]; omega
    have hZs : Z.size ≤ Y.size := by
      rw [Lib.size_eq, hZ, Lib.size_eq]
      unfold trimNl
      split
      · rw [List.length_take]; omega
      · exact Nat.le_refl _
    have hR1 : Hid (longT s.data.toList = if pl = true then .ok (textT Z.data.toList, H + n + nm.size) else
        match wideT Z.data.toList false with
        | .error x => .error (x.1, H + x.2)
        | .ok t => .ok (t, H + n + nm.size)) := by
      show _ = _
      rw [hL.out, ← HXL.out, hli, HXL.out, hZ, hYl]
    have HY := Lib.hid hY
    clear hli hL hY hYl hZ
    have hQ0 := hide h2
    have hbQ0 := hide hbW
    have hDW0 := hide hDW
    have hl2 := h2.flt.lt
    clear h2 hbW hDW hmW
    go_region_held3 (fun w' => w'.cell? ⟨C, 0, none⟩ = some (.string nm) ∧ w'.cell? ⟨C, 2, none⟩ = some (.int .i64 H))
      (first
        | exact ⟨by assumption, by assumption⟩
        | (go_split_ands
           refine ⟨?_, ?_⟩ <;> (rw [hb1.cell (by simp; omega)]; assumption))
        | go_keep)
      (first
        | (go_at_call 97; rw [← HX.out]; refine (unhide hLC _).mono ?_; rintro e w1 ⟨rfl, hb1⟩))
    go_split_ands
    have hb1' : Below W0.heap.size W0 w1 := ((Below.refl _ _).drew).trans hb1
    have hQ := (unhide hQ0).below hb1'
    have hD1 := (unhide hDW0).below hb1'
    have hbQ := (unhide hbQ0).trans (hb1'.mono (by omega))
    clear hb1 hb1' hQ0 hbQ0 hDW0 c0 c1 c2
    have hbm := hm.below hbQ hml
    have c0 := hD1.cell 0 rfl; have c1 := hD1.cell 1 rfl; have c2 := hD1.cell 2 rfl
    go_wp2_with fail
    rw [← HY.out]
    refine (Tryz.strings_TrimSuffix Y ⟨#[10]⟩ _ (by omega)).mono ?_
    rintro e w' ⟨rfl, rfl⟩
    rw [HZ.out]
    cases pl
    · have hR2 : Hid (longT s.data.toList = match wideT Z.data.toList false with
        | .error x => .error (x.1, H + x.2)
        | .ok t => .ok (t, H + n + nm.size)) := by show _ = _; rw [hR1.out]; rfl
      clear hR1
      go_wp2_with fail
      refine (wide_any Z false _ (by omega) hbm).mono ?_
      rintro e w2 ⟨pv, rfl, hp, hbw⟩
      have hQ2 := hQ.below hbw
      have hD2 := hD1.below hbw
      have hbQ2 := hbQ.trans (hbw.mono (by have := hQ.flt.lt; omega))
      have hlb := hQ.flt.lt
      clear hQ hD1 hbQ hbm hbw c0 c1 c2
      cases hw : wideT Z.data.toList false with
      | error x =>
        obtain ⟨why, at_⟩ := x
        have hx := wideT_err _ _ _ hw
        rw [← Lib.size_eq] at hx
        obtain ⟨hwhy, hat⟩ := hx
        dsimp only at hwhy hat
        have HR : Hid (longT s.data.toList = .error (why, H + at_)) := by show _ = _; rw [hR2.out, hw]
        have hw1 : ((why : Int) != 0) = true := by rw [bne_iff_ne]; omega
        rw [resW_err]
        clear hR2 hp hw
        have hF := Blk.new (w2.alloc (.cells tokZ 32)) #[.int .i64 why, .int .i64 at_] 27
        have hb3 : Below w2.heap.size w2 ((w2.alloc (.cells tokZ 32)).alloc (.cells #[.int .i64 why, .int .i64 at_] 27)) := ((Below.refl _ _).alloc (Nat.le_refl _) _).alloc (by simp) _
        have hQ := hQ2.below hb3
        have hbQ := hbQ2.trans (hb3.mono (by have := hQ2.flt.lt; omega))
        have hl22 := hQ2.flt.lt
        have e2 := hD2.cell 2 rfl
        have e2l := hD2.lt
        clear hQ2 hbQ2 hb3 hF
        go_wp2_with fail
        refine (wfail_any why (H + at_) _).mono ?_
        rintro e w9 ⟨rfl, hb9⟩
        rw [resV_err]
        have h29 := hQ.below hb9
        have hbb9 := hbQ.trans (hb9.mono (Nat.le_of_lt (Nat.lt_trans hCB (Nat.lt_of_succ_lt hQ.flt.lt))))
        clear hQ hbQ hb9
        obtain ⟨⟨c0, c1, c2, c3, c4, c5⟩, ⟨f0, f1, f2, f3, f4, f5⟩, ⟨d0, d1, g0, g1⟩, hl⟩ := h29.facts
        go_wp2_with fail
        refine bodyPost_ret (v := resV (.error (why, (H + at_))) (.slice none 0 0)) (by simp [results, Tryz.results78, go_sem, resV_err, c0, c1, c2, c3, c4, c5, d0, d1]) rfl ?_
        refine retT _ HR.out rfl ?_
        rw [← HC.out]
        exact below_two hbb9 (Nat.le_of_lt hCB) _ _ _ _ _ _ _ _
      | ok t =>
        obtain ⟨T, hT⟩ := bytes_of t.text
        have HR : Hid (longT s.data.toList = .ok (⟨t.kind, T.data.toList, t.int, t.parts⟩, H + n + nm.size)) := by show _ = _; rw [hR2.out, hw, hT]
        have HTT : Hid ((⟨t.text.toArray⟩ : ByteArray) = T) := by show _ = _; rw [← hT, Lib.mk_data]
        rw [hw] at hp
        rw [resW_ok, HTT.out]
        obtain ⟨A, cap, rfl⟩ := own_form hp
        have hp' : w2.ownsRow w'.heap.size 44 3 (.slice A t.parts.length cap) t.parts.length (encPs t.parts) := hp
        have hb3 : Below w2.heap.size w2 ((w2.alloc (.cells #[.int .i64 t.kind, .string T, .int .i64 t.int, .slice A t.parts.length cap, .int .i64 0, .int .i64 0] 32)).alloc (.cells fltZ 27)) := ((Below.refl _ _).alloc (Nat.le_refl _) _).alloc (by simp) _
        have hp3 := hide (ownsRow_below hp' hb3)
        have hQ := hQ2.below hb3
        have hbQ := hbQ2.trans (hb3.mono (by have := hQ2.flt.lt; omega))
        have hl9 := hQ2.flt.lt
        clear hR2 hp hp' hw hQ2 hbQ2 hb3 hT hD2
        obtain ⟨⟨c0, c1, c2, c3, c4, c5⟩, ⟨f0, f1, f2, f3, f4, f5⟩, ⟨d0, d1, g0, g1⟩, hl⟩ := hQ.facts
        clear hQ
        go_wp2_with fail
        refine bodyPost_ret (v := okV t.kind T t.int (.slice A t.parts.length cap) (H + n + nm.size)) (by simp [results, Tryz.results78, go_sem, c0, c1, c2, c3, c4, c5, d0, d1]) rfl ?_
        refine ⟨_, ret_ok _ HR.out (by omega), partsT_ok HR.out ?_, ?_⟩
        · rw [← HC.out]
          exact ownsRow_base (own_two (unhide hp3) hlb _ _ _ _ _ _ _ _) (Nat.le_of_lt hCB)
        · rw [← HC.out]
          exact below_two hbQ (Nat.le_of_lt hCB) _ _ _ _ _ _ _ _
    · have HR : Hid (longT s.data.toList = .ok (⟨5, Z.data.toList, 0, []⟩, H + n + nm.size)) := by show _ = _; rw [hR1.out]; rfl
      clear hR1 hbm
      go_wp2_with fail
      refine (wtext_any _ _).mono ?_
      rintro e w4 ⟨rfl, hb5⟩
      have h24 := hQ.below hb5
      have hbr4 := hbQ.trans (hb5.mono (by have := hQ.flt.lt; omega))
      clear hQ hbQ hb5 hD1 c0 c1 c2
      unfold tokV textT
      obtain ⟨⟨c0, c1, c2, c3, c4, c5⟩, ⟨f0, f1, f2, f3, f4, f5⟩, ⟨d0, d1, g0, g1⟩, hl⟩ := h24.facts
      go_wp2_with fail
      refine bodyPost_ret (v := okV 5 Z 0 (.slice none 0 0) (H + n + nm.size)) (by simp [results, Tryz.results78, go_sem, c0, c1, c2, c3, c4, c5, d0, d1]) rfl ?_
      refine ⟨_, ret_ok (ps := []) _ HR.out (by omega), partsT_ok (t := ⟨5, Z.data.toList, 0, []⟩) HR.out (World.ownsRow_nil _ _ _ _), ?_⟩
      rw [← HC.out]
      exact below_two hbr4 (Nat.le_of_lt hCB) _ _ _ _ _ _ _ _
end Go.Proofs.YtjcldgogjgchiaaGreatDoor
