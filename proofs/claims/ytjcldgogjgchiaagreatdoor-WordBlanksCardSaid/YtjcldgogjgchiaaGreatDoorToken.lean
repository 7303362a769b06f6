/-
  The contract of package word's token.
-/
import Derived.Test.YtjcldgogjgchiaaGreatDoorLongText
namespace Go.Proofs.YtjcldgogjgchiaaGreatDoor
open Go Go.RowKit Cutting Wording

theorem post_of {r : R (Tk × Nat)} {w : World} {e : Ending} {w' : World} (he : e = .returned (resV r (.slice none 0 0))) (hb : Below w.heap.size w w') (hp : ∀ t n, r = .ok (t, n) → t.parts = []) : TokPost r w e w' := by
  refine ⟨_, he, ?_, hb⟩
  cases r with
  | error x => exact trivial
  | ok x =>
    have := hp x.1 x.2 rfl
    show World.ownsRow _ _ _ _ _ x.1.parts.length _
    rw [this]
    exact World.ownsRow_nil _ _ _ _
theorem variable_post (s : ByteArray) (w : World) (h0 : 0 < s.size) (hs : s.size ≤ 4294967280) (h36 : s[0] = 36) : Calls Tryz.prog 72 #[.string s] w (TokPost (tokT s.data.toList) w) := by
  refine (variable_any s w h0 hs h36).mono fun e w' ⟨he, hb⟩ => post_of he hb fun t n h => ?_
  rw [tokT_var _ (by rw [head_at s h0, h36])] at h
  split at h
  · cases h
  · split at h
    · cases h
    · injection h with h; rw [Prod.mk.injEq] at h; rw [← h.1]
theorem number_post (s : ByteArray) (w : World) (h0 : 0 < s.size) (hs : s.size ≤ 4294967280) (hM : Met w) (h : digB s[0] = true) : Calls Tryz.prog 73 #[.string s] w (TokPost (tokT s.data.toList) w) := by
  refine (number_any s w h0 hs hM h).mono fun e w' ⟨he, hb⟩ => post_of he hb fun t n h1 => ?_
  rw [tokT_num _ (by rw [head_at s h0]; simp [h])] at h1
  split at h1
  · cases h1
  · split at h1
    · cases h1
    · injection h1 with h1; rw [Prod.mk.injEq] at h1; rw [← h1.1]
theorem plain_post (s : ByteArray) (w : World) (h0 : 0 < s.size) (hs : s.size ≤ 4294967280) (h39 : s[0] = 39) : Calls Tryz.prog 74 #[.string s] w (TokPost (tokT s.data.toList) w) := by
  refine (plainText_any s w h0 hs h39).mono fun e w' ⟨he, hb⟩ => post_of he hb fun t n h1 => ?_
  rw [tokT_plain _ (by rw [head_at s h0, h39])] at h1
  split at h1
  · cases h1
  · injection h1 with h1; rw [Prod.mk.injEq] at h1; rw [← h1.1]; rfl
theorem name_post (s : ByteArray) (w : World) (hs : s.size ≤ 4294967280) (hM : Met w) (h : s.data.toList.head?.map (fun b => b == 92 || (wordB b && !digB b)) = some true) : Calls Tryz.prog 76 #[.string s] w (TokPost (tokT s.data.toList) w) := by
  have hlt := hM.lt
  refine (name_any s w hs hM.hT (fun w' hb => (hM.below hb hlt).hT) h).mono fun e w' ⟨he, hb⟩ => post_of he hb fun t n h1 => ?_
  rw [tokT_name _ h] at h1
  split at h1
  · cases h1
  · split at h1
    · cases h1
    · split at h1
      · injection h1 with h1; rw [Prod.mk.injEq] at h1; rw [← h1.1]; rfl
      · injection h1 with h1; rw [Prod.mk.injEq] at h1; rw [← h1.1]
theorem tokT_other (s : L) (b : UInt8) (h : s.head? = some b) (h1 : b ≠ 36) (h2 : digB b = false) (h3 : b ≠ 39) (h4 : b ≠ 34) (h5 : b ≠ 92) (h6 : wordB b = false) :
    tokT s = if isLong s then longT s else if signN s = 0 then .error (7, 0) else .ok (signT (s.take (signN s)), signN s) := by
  cases s with
  | nil => cases h
  | cons c r =>
    have hb : c = b := by simpa using h
    subst hb
    simp [tokT, h1, h2, h3, h4, h5, h6]

set_option maxHeartbeats 16000000 in
set_option maxRecDepth 100000 in
theorem token_any (s : ByteArray) (w : World) (h0 : 0 < s.size) (hs : s.size ≤ 2147483640) (hM : Met w) :
    Calls Tryz.prog 56 #[.string s] w (TokPost (tokT s.data.toList) w) := by
  have hml := hM.lt
  have hen := isEmpty_of s h0
  have h8 : s[0].toNat < 256 := s[0].toNat_lt
  obtain ⟨B, W0, hB, hW0, h2, hb0⟩ := two_start w
  have HB := Lib.hid hB
  rw [← hB] at hb0 hml
  have hM0 := hM.below hb0 hml
  by_cases h36 : s[0] = 36
  · have t1 : ((s[0].toNat : Int) == 36) = true := by rw [h36]; rfl
    have HC := hide (fun W : World => variable_post s W h0 (by omega) h36)
    clear h36
    go_enter Tryz.func56, Tryz.ntmps56
    go_wp2_with fail
    rw [← hB, ← hW0]
    clear hB hW0
    refine (unhide HC _).mono ?_
    rintro e w1 ⟨pv, rfl, hp, hbc⟩
    have hQ := h2.below hbc
    have hbQ := hb0.trans (hbc.mono (by have := h2.flt.lt; omega))
    have hlW := h2.flt.lt
    clear h2 hb0 hbc
    obtain ⟨⟨c0, c1, c2, c3, c4, c5⟩, ⟨f0, f1, f2, f3, f4, f5⟩, ⟨d0, d1, g0, g1⟩, hl⟩ := hQ.facts
    clear hQ
    cases hr : tokT s.data.toList with
    | error x =>
      obtain ⟨a, b⟩ := x
      have HR : Hid (tokT s.data.toList = .error (a, b)) := by show _ = _; rw [hr]
      rw [resV_err]
      clear hr hp 
      go_wp2_with fail
      refine bodyPost_ret (v := resV (.error (a, b)) (.slice none 0 0)) (by simp [results, Tryz.results56, go_sem, resV_err, c0, c1, c2, c3, c4, c5, d0, d1]) rfl ?_
      refine retT _ HR.out rfl ?_
      rw [← HB.out]
      exact below_two hbQ (Nat.le_refl _) _ _ _ _ _ _ _ _
    | ok x =>
      obtain ⟨t, n⟩ := x
      obtain ⟨T, hT⟩ := bytes_of t.text
      have HR : Hid (tokT s.data.toList = .ok (⟨t.kind, T.data.toList, t.int, t.parts⟩, n)) := by show _ = _; rw [hr, hT]
      have HTT : Hid ((⟨t.text.toArray⟩ : ByteArray) = T) := by show _ = _; rw [← hT, Lib.mk_data]
      rw [hr] at hp
      rw [resV_ok, HTT.out]
      obtain ⟨A, cap, rfl⟩ := own_form hp
      have hp3 := hide hp
      clear hr hp hT 
      go_wp2_with fail
      refine bodyPost_ret (v := okV t.kind T t.int (.slice A t.parts.length cap) n) (by simp [results, Tryz.results56, go_sem, c0, c1, c2, c3, c4, c5, d0, d1]) rfl ?_
      refine ⟨_, ret_ok _ HR.out rfl, partsT_ok HR.out ?_, ?_⟩
      · rw [← HB.out]
        exact own_two (unhide hp3) (by omega) _ _ _ _ _ _ _ _
      · rw [← HB.out]
        exact below_two hbQ (Nat.le_refl _) _ _ _ _ _ _ _ _
  · have t1 : ((s[0].toNat : Int) == 36) = false := by rw [beq_eq_false_iff_ne]; intro h; exact h36 (u8_of _ 36 h)
    cases hdg : digB s[0]
    · have hR : Hid (digR s[0].toNat = false) := by show _ = _; rw [digR_b]; exact hdg
      by_cases h39 : s[0] = 39
      · have t3 : ((s[0].toNat : Int) == 39) = true := by rw [h39]; rfl
        have HC := hide (fun W : World => plain_post s W h0 (by omega) h39)
        clear h36 h39 hdg
        go_enter Tryz.func56, Tryz.ntmps56
        go_wp2_with (go_at_call 44; refine (wisDigit_b _ false _ hR.out).mono ?_; rintro e w' ⟨rfl, rfl⟩)
        rw [← hB, ← hW0]
        clear hB hW0
        refine (unhide HC _).mono ?_
        rintro e w1 ⟨pv, rfl, hp, hbc⟩
        have hQ := h2.below hbc
        have hbQ := hb0.trans (hbc.mono (by have := h2.flt.lt; omega))
        have hlW := h2.flt.lt
        clear h2 hb0 hbc
        obtain ⟨⟨c0, c1, c2, c3, c4, c5⟩, ⟨f0, f1, f2, f3, f4, f5⟩, ⟨d0, d1, g0, g1⟩, hl⟩ := hQ.facts
        clear hQ
        cases hr : tokT s.data.toList with
        | error x =>
          obtain ⟨a, b⟩ := x
          have HR : Hid (tokT s.data.toList = .error (a, b)) := by show _ = _; rw [hr]
          rw [resV_err]
          clear hr hp 
          go_wp2_with fail
          refine bodyPost_ret (v := resV (.error (a, b)) (.slice none 0 0)) (by simp [results, Tryz.results56, go_sem, resV_err, c0, c1, c2, c3, c4, c5, d0, d1]) rfl ?_
          refine retT _ HR.out rfl ?_
          rw [← HB.out]
          exact below_two hbQ (Nat.le_refl _) _ _ _ _ _ _ _ _
        | ok x =>
          obtain ⟨t, n⟩ := x
          obtain ⟨T, hT⟩ := bytes_of t.text
          have HR : Hid (tokT s.data.toList = .ok (⟨t.kind, T.data.toList, t.int, t.parts⟩, n)) := by show _ = _; rw [hr, hT]
          have HTT : Hid ((⟨t.text.toArray⟩ : ByteArray) = T) := by show _ = _; rw [← hT, Lib.mk_data]
          rw [hr] at hp
          rw [resV_ok, HTT.out]
          obtain ⟨A, cap, rfl⟩ := own_form hp
          have hp3 := hide hp
          clear hr hp hT 
          go_wp2_with fail
          refine bodyPost_ret (v := okV t.kind T t.int (.slice A t.parts.length cap) n) (by simp [results, Tryz.results56, go_sem, c0, c1, c2, c3, c4, c5, d0, d1]) rfl ?_
          refine ⟨_, ret_ok _ HR.out rfl, partsT_ok HR.out ?_, ?_⟩
          · rw [← HB.out]
            exact own_two (unhide hp3) (by omega) _ _ _ _ _ _ _ _
          · rw [← HB.out]
            exact below_two hbQ (Nat.le_refl _) _ _ _ _ _ _ _ _
      · have t3 : ((s[0].toNat : Int) == 39) = false := by rw [beq_eq_false_iff_ne]; intro h; exact h39 (u8_of _ 39 h)
        by_cases h34 : s[0] = 34
        · have t4 : ((s[0].toNat : Int) == 34) = true := by rw [h34]; rfl
          have HC := hide (fun (W : World) (hm : HasMax W) => wideText_any s W h0 hs hm h34)
          clear h36 h39 hdg h34
          go_enter Tryz.func56, Tryz.ntmps56
          go_wp2_with (go_at_call 44; refine (wisDigit_b _ false _ hR.out).mono ?_; rintro e w' ⟨rfl, rfl⟩)
          rw [← hB, ← hW0]
          clear hB hW0
          refine (unhide HC _ hM0.hm).mono ?_
          rintro e w1 ⟨pv, rfl, hp, hbc⟩
          have hQ := h2.below hbc
          have hbQ := hb0.trans (hbc.mono (by have := h2.flt.lt; omega))
          have hlW := h2.flt.lt
          clear h2 hb0 hbc
          obtain ⟨⟨c0, c1, c2, c3, c4, c5⟩, ⟨f0, f1, f2, f3, f4, f5⟩, ⟨d0, d1, g0, g1⟩, hl⟩ := hQ.facts
          clear hQ
          cases hr : tokT s.data.toList with
          | error x =>
            obtain ⟨a, b⟩ := x
            have HR : Hid (tokT s.data.toList = .error (a, b)) := by show _ = _; rw [hr]
            rw [resV_err]
            clear hr hp 
            go_wp2_with fail
            refine bodyPost_ret (v := resV (.error (a, b)) (.slice none 0 0)) (by simp [results, Tryz.results56, go_sem, resV_err, c0, c1, c2, c3, c4, c5, d0, d1]) rfl ?_
            refine retT _ HR.out rfl ?_
            rw [← HB.out]
            exact below_two hbQ (Nat.le_refl _) _ _ _ _ _ _ _ _
          | ok x =>
            obtain ⟨t, n⟩ := x
            obtain ⟨T, hT⟩ := bytes_of t.text
            have HR : Hid (tokT s.data.toList = .ok (⟨t.kind, T.data.toList, t.int, t.parts⟩, n)) := by show _ = _; rw [hr, hT]
            have HTT : Hid ((⟨t.text.toArray⟩ : ByteArray) = T) := by show _ = _; rw [← hT, Lib.mk_data]
            rw [hr] at hp
            rw [resV_ok, HTT.out]
            obtain ⟨A, cap, rfl⟩ := own_form hp
            have hp3 := hide hp
            clear hr hp hT 
            go_wp2_with fail
            refine bodyPost_ret (v := okV t.kind T t.int (.slice A t.parts.length cap) n) (by simp [results, Tryz.results56, go_sem, c0, c1, c2, c3, c4, c5, d0, d1]) rfl ?_
            refine ⟨_, ret_ok _ HR.out rfl, partsT_ok HR.out ?_, ?_⟩
            · rw [← HB.out]
              exact own_two (unhide hp3) (by omega) _ _ _ _ _ _ _ _
            · rw [← HB.out]
              exact below_two hbQ (Nat.le_refl _) _ _ _ _ _ _ _ _
        · have t4 : ((s[0].toNat : Int) == 34) = false := by rw [beq_eq_false_iff_ne]; intro h; exact h34 (u8_of _ 34 h)
          cases hnm : (s[0] == 92 || (wordB s[0] && !digB s[0]))
          · rw [Bool.or_eq_false_iff] at hnm
            have h92 : s[0] ≠ 92 := by simpa using hnm.1
            have hwd : wordB s[0] = false := by have := hnm.2; rw [hdg] at this; simpa using this
            have t5 : ((s[0].toNat : Int) == 92) = false := by rw [beq_eq_false_iff_ne]; intro h; exact h92 (u8_of _ 92 h)
            have hWR : Hid (wordR s[0].toNat = false) := by show _ = _; rw [wordR_b]; exact hwd
            have hTT : Hid (tokT s.data.toList = if isLong s.data.toList then longT s.data.toList else if signN s.data.toList = 0 then .error (7, 0) else .ok (signT (s.data.toList.take (signN s.data.toList)), signN s.data.toList)) :=
              tokT_other _ _ (head_at s h0) h36 hdg h39 h34 h92 hwd
            clear h36 h39 h34 hdg hnm h92 hwd
            go_enter Tryz.func56, Tryz.ntmps56
            go_wp2_with (first
              | (go_at_call 44; refine (wisDigit_b _ false _ hR.out).mono ?_; rintro e w' ⟨rfl, rfl⟩)
              | (go_at_call 46; refine (winWord_b _ false _ hWR.out).mono ?_; rintro e w' ⟨rfl, rfl⟩))
            rw [← hB, ← hW0]
            clear hB hW0
            refine (wlongHead_any s _ (by omega)).mono ?_
            rintro e w1 ⟨rfl, hb1⟩
            have h21 := h2.below hb1
            have hb2 := hb0.trans (hb1.mono (by have := h2.flt.lt; omega))
            have hM1 := hM.below hb2 hml
            clear h2 hb0 hb1 hM0
            cases hlg : isLong s.data.toList
            · rw [headV_no _ hlg]
              have hT2 : Hid (tokT s.data.toList = if signN s.data.toList = 0 then .error (7, 0) else .ok (signT (s.data.toList.take (signN s.data.toList)), signN s.data.toList)) := by show _ = _; rw [hTT.out, hlg]; rfl
              have hsl := (signN_le s.data.toList).2
              rw [← Lib.size_eq] at hsl
              obtain ⟨n, hn⟩ : ∃ n, n = signN s.data.toList := ⟨_, rfl⟩
              have Hn := Lib.hid hn.symm
              have hT3 : Hid (tokT s.data.toList = if n = 0 then .error (7, 0) else .ok (signT (s.data.toList.take n), n)) := by show _ = _; rw [hT2.out, hn]
              rw [← hn] at hsl
              have hbA : Below w1.heap.size w1 (w1.alloc (.cells hdZ 97)) := (Below.refl _ _).alloc (Nat.le_refl _) _
              have hQ := h21.below hbA
              have hbQ := hb2.trans (hbA.mono (by have := h21.flt.lt; omega))
              clear hTT hT2 hlg hn h21 hb2 hbA
              go_wp2_with fail
              refine (signLen_any s _ (by omega)).mono ?_
              rintro e w' ⟨rfl, hww⟩
              rw [← hww, Hn.out]
              clear hww
              by_cases hz : n = 0
              · have HR : Hid (tokT s.data.toList = .error (7, 0)) := by show _ = _; rw [hT3.out, if_pos hz]
                subst hz
                clear hT3
                go_wp2_with fail
                refine (wfail_any 7 0 _).mono ?_
                rintro e w9 ⟨rfl, hb9⟩
                rw [resV_err]
                have h29 := hQ.below hb9
                have hbb9 := hbQ.trans (hb9.mono (Nat.le_of_lt (Nat.lt_of_succ_lt hQ.flt.lt)))
                clear hQ hbQ hb9
                obtain ⟨⟨c0, c1, c2, c3, c4, c5⟩, ⟨f0, f1, f2, f3, f4, f5⟩, ⟨d0, d1, g0, g1⟩, hl⟩ := h29.facts
                go_wp2_with fail
                refine bodyPost_ret (v := resV (.error (7, 0)) (.slice none 0 0)) (by simp [results, Tryz.results56, go_sem, resV_err, c0, c1, c2, c3, c4, c5, d0, d1]) rfl ?_
                refine retT _ HR.out rfl ?_
                rw [← HB.out]
                exact below_two hbb9 (Nat.le_refl _) _ _ _ _ _ _ _ _
              · have hz' : ((n : Int) == 0) = false := by rw [beq_eq_false_iff_ne]; omega
                have HR : Hid (tokT s.data.toList = .ok (⟨7, (s.extract 0 n).data.toList, 0, []⟩, n)) := by show _ = _; rw [hT3.out, if_neg hz, extract_pre]; rfl
                clear hT3
                go_wp2_with fail
                refine (wsign_any _ _).mono ?_
                rintro e w9 ⟨rfl, hb9⟩
                have h29 := hQ.below hb9
                have hbb9 := hbQ.trans (hb9.mono (Nat.le_of_lt (Nat.lt_of_succ_lt hQ.flt.lt)))
                clear hQ hbQ hb9
                unfold tokV signT
                dsimp only
                rw [Lib.mk_data]
                obtain ⟨⟨c0, c1, c2, c3, c4, c5⟩, ⟨f0, f1, f2, f3, f4, f5⟩, ⟨d0, d1, g0, g1⟩, hl⟩ := h29.facts
                go_wp2_with fail
                refine bodyPost_ret (v := okV 7 (s.extract 0 n) 0 (.slice none 0 0) n) (by simp [results, Tryz.results56, go_sem, c0, c1, c2, c3, c4, c5, d0, d1]) rfl ?_
                refine ⟨_, ret_ok (ps := []) _ HR.out rfl, partsT_ok (t := ⟨7, (s.extract 0 n).data.toList, 0, []⟩) HR.out (World.ownsRow_nil _ _ _ _), ?_⟩
                rw [← HB.out]
                exact below_two hbb9 (Nat.le_refl _) _ _ _ _ _ _ _ _
            · have hok : headOk s.data.toList = true := by unfold isLong at hlg; rw [Bool.and_eq_true] at hlg; exact hlg.2
              obtain ⟨nm, hnm⟩ := bytes_of (headName s.data.toList)
              obtain ⟨pl, hpl⟩ : ∃ pl, pl = (quoteN s.data.toList == 1) := ⟨_, rfl⟩
              obtain ⟨H, hH⟩ : ∃ H, H = headAt s.data.toList := ⟨_, rfl⟩
              have hHV : headV s.data.toList = .agg #[.string nm, .bool pl, .int .i64 H] := by rw [headV, hlg, ← hnm, ← hpl, ← hH, Lib.mk_data]; rfl
              rw [hHV]
              have hne : nm.toList.isEmpty = false := by
                have hle := headAt_le _ hok
                rw [← hnm] at hle
                rw [Lib.toList_data]
                cases e : nm.data.toList with
                | nil => rw [e] at hle; simp at hle
                | cons => rfl
              have hne2 : nm.toList ≠ [] := fun h => by rw [h] at hne; cases hne
              have hT2 : Hid (tokT s.data.toList = longT s.data.toList) := by show _ = _; rw [hTT.out, hlg]; rfl
              have HC := hide (fun (W : World) (hm : HasMax W) => longText_any s nm pl H W hs hm hok hnm hpl hH)
              have hbA : Below w1.heap.size w1 (w1.alloc (.cells #[.string nm, .bool pl, .int .i64 H] 97)) := (Below.refl _ _).alloc (Nat.le_refl _) _
              have hm2 : HasMax (w1.alloc (.cells #[.string nm, .bool pl, .int .i64 H] 97)) := (hM.below (hb2.trans (hbA.mono (by have := h21.flt.lt; omega))) hml).hm
              have h2' := h21.below hbA
              have hb0' := hb2.trans (hbA.mono (by have := h21.flt.lt; omega))
              have h2 := h2'
              have hb0 := hb0'
              clear hTT hlg hok hnm hpl hH hHV hbA h21 hb2 h2' hb0'
              go_wp2_with fail
              refine (unhide HC _ hm2).mono ?_
              rintro e w2 ⟨pv, rfl, hp, hbc⟩
              have hlW := h2.flt.lt
              have hQ := h2.below hbc
              have hbQ := hb0.trans (hbc.mono (Nat.le_of_lt (Nat.lt_of_succ_lt h2.flt.lt)))
              clear h2 hb0 hbc hm2
              obtain ⟨⟨c0, c1, c2, c3, c4, c5⟩, ⟨f0, f1, f2, f3, f4, f5⟩, ⟨d0, d1, g0, g1⟩, hl⟩ := hQ.facts
              clear hQ
              cases hr : longT s.data.toList with
              | error x =>
                obtain ⟨a, b⟩ := x
                have HR : Hid (tokT s.data.toList = .error (a, b)) := by show _ = _; rw [hT2.out, hr]
                rw [resV_err]
                clear hr hp 
                go_wp2_with fail
                refine bodyPost_ret (v := resV (.error (a, b)) (.slice none 0 0)) (by simp [results, Tryz.results56, go_sem, resV_err, c0, c1, c2, c3, c4, c5, d0, d1]) rfl ?_
                refine retT _ HR.out rfl ?_
                rw [← HB.out]
                exact below_two hbQ (Nat.le_refl _) _ _ _ _ _ _ _ _
              | ok x =>
                obtain ⟨t, n⟩ := x
                obtain ⟨T, hT⟩ := bytes_of t.text
                have HR : Hid (tokT s.data.toList = .ok (⟨t.kind, T.data.toList, t.int, t.parts⟩, n)) := by show _ = _; rw [hT2.out, hr, hT]
                have HTT : Hid ((⟨t.text.toArray⟩ : ByteArray) = T) := by show _ = _; rw [← hT, Lib.mk_data]
                rw [hr] at hp
                rw [resV_ok, HTT.out]
                obtain ⟨A, cap, rfl⟩ := own_form hp
                have hp3 := hide hp
                clear hr hp hT 
                go_wp2_with fail
                refine bodyPost_ret (v := okV t.kind T t.int (.slice A t.parts.length cap) n) (by simp [results, Tryz.results56, go_sem, c0, c1, c2, c3, c4, c5, d0, d1]) rfl ?_
                refine ⟨_, ret_ok _ HR.out rfl, partsT_ok HR.out ?_, ?_⟩
                · rw [← HB.out]
                  exact own_two (unhide hp3) (by omega) _ _ _ _ _ _ _ _
                · rw [← HB.out]
                  exact below_two hbQ (Nat.le_refl _) _ _ _ _ _ _ _ _
          · have hn92 : s[0] = 92 ∨ (s[0] ≠ 92 ∧ wordB s[0] = true) := by
              by_cases h92 : s[0] = 92
              · exact .inl h92
              · right
                rw [hdg] at hnm
                refine ⟨h92, ?_⟩
                have h92' : (s[0] == 92) = false := by simpa using h92
                rw [h92'] at hnm
                simpa using hnm
            have HC := hide (fun (W : World) (hm : Met W) => name_post s W (by omega) hm (by rw [head_at s h0]; simpa using hnm))
            clear h36 h39 h34 hdg hnm
            rcases hn92 with h92 | ⟨h92, hwd⟩
            · have t5 : ((s[0].toNat : Int) == 92) = true := by rw [h92]; rfl
              clear h92
              go_enter Tryz.func56, Tryz.ntmps56
              go_wp2_with (go_at_call 44; refine (wisDigit_b _ false _ hR.out).mono ?_; rintro e w' ⟨rfl, rfl⟩)
              rw [← hB, ← hW0]
              clear hB hW0
              refine (unhide HC _ hM0).mono ?_
              rintro e w1 ⟨pv, rfl, hp, hbc⟩
              have hQ := h2.below hbc
              have hbQ := hb0.trans (hbc.mono (by have := h2.flt.lt; omega))
              have hlW := h2.flt.lt
              clear h2 hb0 hbc
              obtain ⟨⟨c0, c1, c2, c3, c4, c5⟩, ⟨f0, f1, f2, f3, f4, f5⟩, ⟨d0, d1, g0, g1⟩, hl⟩ := hQ.facts
              clear hQ
              cases hr : tokT s.data.toList with
              | error x =>
                obtain ⟨a, b⟩ := x
                have HR : Hid (tokT s.data.toList = .error (a, b)) := by show _ = _; rw [hr]
                rw [resV_err]
                clear hr hp 
                go_wp2_with fail
                refine bodyPost_ret (v := resV (.error (a, b)) (.slice none 0 0)) (by simp [results, Tryz.results56, go_sem, resV_err, c0, c1, c2, c3, c4, c5, d0, d1]) rfl ?_
                refine retT _ HR.out rfl ?_
                rw [← HB.out]
                exact below_two hbQ (Nat.le_refl _) _ _ _ _ _ _ _ _
              | ok x =>
                obtain ⟨t, n⟩ := x
                obtain ⟨T, hT⟩ := bytes_of t.text
                have HR : Hid (tokT s.data.toList = .ok (⟨t.kind, T.data.toList, t.int, t.parts⟩, n)) := by show _ = _; rw [hr, hT]
                have HTT : Hid ((⟨t.text.toArray⟩ : ByteArray) = T) := by show _ = _; rw [← hT, Lib.mk_data]
                rw [hr] at hp
                rw [resV_ok, HTT.out]
                obtain ⟨A, cap, rfl⟩ := own_form hp
                have hp3 := hide hp
                clear hr hp hT 
                go_wp2_with fail
                refine bodyPost_ret (v := okV t.kind T t.int (.slice A t.parts.length cap) n) (by simp [results, Tryz.results56, go_sem, c0, c1, c2, c3, c4, c5, d0, d1]) rfl ?_
                refine ⟨_, ret_ok _ HR.out rfl, partsT_ok HR.out ?_, ?_⟩
                · rw [← HB.out]
                  exact own_two (unhide hp3) (by omega) _ _ _ _ _ _ _ _
                · rw [← HB.out]
                  exact below_two hbQ (Nat.le_refl _) _ _ _ _ _ _ _ _
            · have t5 : ((s[0].toNat : Int) == 92) = false := by rw [beq_eq_false_iff_ne]; intro h; exact h92 (u8_of _ 92 h)
              have hWR : Hid (wordR s[0].toNat = true) := by show _ = _; rw [wordR_b]; exact hwd
              clear h92 hwd
              go_enter Tryz.func56, Tryz.ntmps56
              go_wp2_with (first
                | (go_at_call 44; refine (wisDigit_b _ false _ hR.out).mono ?_; rintro e w' ⟨rfl, rfl⟩)
                | (go_at_call 46; refine (winWord_b _ true _ hWR.out).mono ?_; rintro e w' ⟨rfl, rfl⟩))
              rw [← hB, ← hW0]
              clear hB hW0
              refine (unhide HC _ hM0).mono ?_
              rintro e w1 ⟨pv, rfl, hp, hbc⟩
              have hQ := h2.below hbc
              have hbQ := hb0.trans (hbc.mono (by have := h2.flt.lt; omega))
              have hlW := h2.flt.lt
              clear h2 hb0 hbc
              obtain ⟨⟨c0, c1, c2, c3, c4, c5⟩, ⟨f0, f1, f2, f3, f4, f5⟩, ⟨d0, d1, g0, g1⟩, hl⟩ := hQ.facts
              clear hQ
              cases hr : tokT s.data.toList with
              | error x =>
                obtain ⟨a, b⟩ := x
                have HR : Hid (tokT s.data.toList = .error (a, b)) := by show _ = _; rw [hr]
                rw [resV_err]
                clear hr hp 
                go_wp2_with fail
                refine bodyPost_ret (v := resV (.error (a, b)) (.slice none 0 0)) (by simp [results, Tryz.results56, go_sem, resV_err, c0, c1, c2, c3, c4, c5, d0, d1]) rfl ?_
                refine retT _ HR.out rfl ?_
                rw [← HB.out]
                exact below_two hbQ (Nat.le_refl _) _ _ _ _ _ _ _ _
              | ok x =>
                obtain ⟨t, n⟩ := x
                obtain ⟨T, hT⟩ := bytes_of t.text
                have HR : Hid (tokT s.data.toList = .ok (⟨t.kind, T.data.toList, t.int, t.parts⟩, n)) := by show _ = _; rw [hr, hT]
                have HTT : Hid ((⟨t.text.toArray⟩ : ByteArray) = T) := by show _ = _; rw [← hT, Lib.mk_data]
                rw [hr] at hp
                rw [resV_ok, HTT.out]
                obtain ⟨A, cap, rfl⟩ := own_form hp
                have hp3 := hide hp
                clear hr hp hT 
                go_wp2_with fail
                refine bodyPost_ret (v := okV t.kind T t.int (.slice A t.parts.length cap) n) (by simp [results, Tryz.results56, go_sem, c0, c1, c2, c3, c4, c5, d0, d1]) rfl ?_
                refine ⟨_, ret_ok _ HR.out rfl, partsT_ok HR.out ?_, ?_⟩
                · rw [← HB.out]
                  exact own_two (unhide hp3) (by omega) _ _ _ _ _ _ _ _
                · rw [← HB.out]
                  exact below_two hbQ (Nat.le_refl _) _ _ _ _ _ _ _ _
    · have hR : Hid (digR s[0].toNat = true) := by show _ = _; rw [digR_b]; exact hdg
      have HC := hide (fun (W : World) (hm : Met W) => number_post s W h0 (by omega) hm hdg)
      clear h36 hdg
      go_enter Tryz.func56, Tryz.ntmps56
      go_wp2_with (go_at_call 44; refine (wisDigit_b _ true _ hR.out).mono ?_; rintro e w' ⟨rfl, rfl⟩)
      rw [← hB, ← hW0]
      clear hB hW0
      refine (unhide HC _ hM0).mono ?_
      rintro e w1 ⟨pv, rfl, hp, hbc⟩
      have hQ := h2.below hbc
      have hbQ := hb0.trans (hbc.mono (by have := h2.flt.lt; omega))
      have hlW := h2.flt.lt
      clear h2 hb0 hbc
      obtain ⟨⟨c0, c1, c2, c3, c4, c5⟩, ⟨f0, f1, f2, f3, f4, f5⟩, ⟨d0, d1, g0, g1⟩, hl⟩ := hQ.facts
      clear hQ
      cases hr : tokT s.data.toList with
      | error x =>
        obtain ⟨a, b⟩ := x
        have HR : Hid (tokT s.data.toList = .error (a, b)) := by show _ = _; rw [hr]
        rw [resV_err]
        clear hr hp 
        go_wp2_with fail
        refine bodyPost_ret (v := resV (.error (a, b)) (.slice none 0 0)) (by simp [results, Tryz.results56, go_sem, resV_err, c0, c1, c2, c3, c4, c5, d0, d1]) rfl ?_
        refine retT _ HR.out rfl ?_
        rw [← HB.out]
        exact below_two hbQ (Nat.le_refl _) _ _ _ _ _ _ _ _
      | ok x =>
        obtain ⟨t, n⟩ := x
        obtain ⟨T, hT⟩ := bytes_of t.text
        have HR : Hid (tokT s.data.toList = .ok (⟨t.kind, T.data.toList, t.int, t.parts⟩, n)) := by show _ = _; rw [hr, hT]
        have HTT : Hid ((⟨t.text.toArray⟩ : ByteArray) = T) := by show _ = _; rw [← hT, Lib.mk_data]
        rw [hr] at hp
        rw [resV_ok, HTT.out]
        obtain ⟨A, cap, rfl⟩ := own_form hp
        have hp3 := hide hp
        clear hr hp hT 
        go_wp2_with fail
        refine bodyPost_ret (v := okV t.kind T t.int (.slice A t.parts.length cap) n) (by simp [results, Tryz.results56, go_sem, c0, c1, c2, c3, c4, c5, d0, d1]) rfl ?_
        refine ⟨_, ret_ok _ HR.out rfl, partsT_ok HR.out ?_, ?_⟩
        · rw [← HB.out]
          exact own_two (unhide hp3) (by omega) _ _ _ _ _ _ _ _
        · rw [← HB.out]
          exact below_two hbQ (Nat.le_refl _) _ _ _ _ _ _ _ _
end Go.Proofs.YtjcldgogjgchiaaGreatDoor
