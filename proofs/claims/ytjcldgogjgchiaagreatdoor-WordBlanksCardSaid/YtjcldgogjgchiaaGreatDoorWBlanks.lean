/-
  The walk of the law WordBlanks.
-/
import Derived.Test.YtjcldgogjgchiaaGreatDoorSame
import Derived.Test.YtjcldgogjgchiaaGreatDoorStayF
namespace Go.Proofs.YtjcldgogjgchiaaGreatDoor
open Go Go.RowKit Cutting Wording

theorem own_block {w : World} {C Q : Nat} {e : TypeId} {size n : Nat} {v : Value} {xs : List Value} (h : w.ownsRow C e size v n xs) (hQ : Q < C) : v.ownBlock ≠ some Q := by
  rcases h.2 with ⟨rfl, _⟩ | ⟨g, cap, cur, rfl, hb, _⟩
  · intro h; cases h
  · intro h
    simp only [Value.ownBlock, Option.some.injEq] at h
    omega
theorem Toks.setLow {C Q : Nat} {w wr : World} {file : L} {v : Value} {l : List TkV} (h : Toks C w wr file v l) (hQ : Q < C) (i : Nat) (u : Value) : Toks C (wr.setCell ⟨Q, i, none⟩ u) (wr.setCell ⟨Q, i, none⟩ u) file v l :=
  ⟨own_setOther h.own (own_block h.own hQ) i u, fun x hx => own_setOther (h.prt x hx) (own_block (h.prt x hx) hQ) i u, Below.refl _ _, by rw [World.size_setCell]; exact h.base⟩
theorem at_of (x : Int) (n : Nat) (h0 : 0 < n) (hn : n ≤ 1073741820) : ∃ k : Nat, (wrap64 (x.tmod (n : Int) + (n : Int))).tmod (n : Int) = k ∧ k < n := by
  have h1 := Int.tmod_lt_of_pos x (show (0 : Int) < n by omega)
  have h2 := Int.lt_tmod_of_pos x (show (0 : Int) < n by omega)
  rw [IntWalk.wrap64_in _ ⟨by omega, by omega⟩]
  have h3 := Int.tmod_lt_of_pos (x.tmod n + n) (show (0 : Int) < n by omega)
  have h4 := Int.tmod_nonneg (n : Int) (show (0 : Int) ≤ x.tmod n + n by omega)
  exact ⟨((x.tmod n + n).tmod n).toNat, by omega, by omega⟩
theorem gap_of (y : Int) (h : 0 ≤ y) : ∃ (c : Nat) (G : ByteArray), y.tmod 4 = c ∧ c < 4 ∧ (#[.string ⟨#[32]⟩, .string ⟨#[9]⟩, .string ⟨#[32, 13, 32]⟩, .string ⟨#[32, 32]⟩] : Array Value)[c]? = some (.string G) ∧ G.size ≤ 3 ∧ GapL G.data.toList := by
  have h1 := Int.tmod_nonneg 4 h
  have h2 := Int.tmod_lt_of_pos y (show (0 : Int) < 4 by decide)
  have hc : y.tmod 4 = 0 ∨ y.tmod 4 = 1 ∨ y.tmod 4 = 2 ∨ y.tmod 4 = 3 := by omega
  rcases hc with hc | hc | hc | hc
  · exact ⟨0, ⟨#[32]⟩, hc, by decide, rfl, by decide, by unfold GapL; decide⟩
  · exact ⟨1, ⟨#[9]⟩, hc, by decide, rfl, by decide, by unfold GapL; decide⟩
  · exact ⟨2, ⟨#[32, 13, 32]⟩, hc, by decide, rfl, by decide, by unfold GapL; decide⟩
  · exact ⟨3, ⟨#[32, 32]⟩, hc, by decide, rfl, by decide, by unfold GapL; decide⟩
set_option maxHeartbeats 8000000 in
set_option maxRecDepth 100000 in
theorem WordBlanks_any (s : ByteArray) (x y : Int) (w : World) (hs : s.size ≤ 140737488351232) (hx : -9223372036854775808 ≤ x ∧ x ≤ 9223372036854775807) (hy : 0 ≤ y ∧ y ≤ 255) (hM : Met w) :
    Calls Tryz.prog 5 #[.string s, .int .i64 x, .int .u8 y] w fun e w' => e = .returned (.bool true) ∧ Below w.heap.size w w' := by
  have hml := hM.lt
  by_cases hbig : 65536 < s.size
  · go_enter Tryz.func5, Tryz.ntmps5
    go_wp2_with fail
    refine (Tokens_long s _ hbig).mono ?_
    rintro e w1 ⟨rfl, hb1⟩
    have hM1 := hM.below hb1 hml
    unfold faultV
    go_wp2_with fail
    refine (alive2_any _ (hM1.below ((Below.refl _ _).alloc (Nat.le_refl _) _) hM1.lt)).mono ?_
    rintro e w2 ⟨rfl, hb2⟩
    have hb3 : Below w.heap.size w w2 := (hb1.alloc hb1.size _).trans (hb2.mono (Nat.le_trans hb1.size (by simp)))
    go_wp2_with fail
    go_ret
    exact ⟨rfl, hb3⟩
  · cases hf : fileT s.data.toList with
    | error x =>
      obtain ⟨y, z⟩ := x
      have hx := (fileT_rise _).2 _ hf
      dsimp only at hx
      rw [← Lib.size_eq] at hx
      have HF := Lib.hid hf
      have hy : ((y : Int) == 0) = false := by rw [beq_eq_false_iff_ne]; omega
      clear hf
      go_enter Tryz.func5, Tryz.ntmps5
      go_wp2_with fail
      refine (Tokens_any s _ (by omega) hM).mono ?_
      rintro e w1 ⟨hb1, hp1⟩
      rw [HF.out] at hp1
      obtain rfl := hp1
      have hM1 := hM.below hb1 hml
      unfold faultV
      go_wp2_with fail
      refine (alive2_any _ (hM1.below ((Below.refl _ _).alloc (Nat.le_refl _) _) hM1.lt)).mono ?_
      rintro e w2 ⟨rfl, hb2⟩
      have hb3 : Below w.heap.size w w2 := (hb1.alloc hb1.size _).trans (hb2.mono (Nat.le_trans hb1.size (by simp)))
      go_wp2_with fail
      go_ret
      exact ⟨rfl, hb3⟩
    | ok ts =>
      have HINS := Lib.hid (file_ins _ _ hf)
      have HF := Lib.hid hf
      clear hf
      go_enter Tryz.func5, Tryz.ntmps5
      go_wp2_with fail
      refine (Tokens_any s _ (by omega) hM).mono ?_
      rintro e w1 ⟨hb1, hp1⟩
      rw [HF.out] at hp1
      obtain ⟨v, l, rfl, ht, hmap, hln⟩ := hp1
      obtain ⟨A, cap, rfl⟩ := own_form ht.own
      have HMAP := Lib.hid hmap
      have hM1 := hM.below hb1 hml
      obtain ⟨f, hf⟩ : ∃ f, f = s.data.toList := ⟨_, rfl⟩
      rw [← hf] at ht
      have hl0 : l.length ≤ 1073741820 := by omega
      have HT1 := hide ht
      have HFF := Lib.hid hf
      clear hmap HF hf ht hln
      unfold faultV
      by_cases hll : l.length = 0
      · go_wp2_with fail
        refine (alive2_any _ (hM1.below ((Below.refl _ _).alloc (Nat.le_refl _) _) hM1.lt)).mono ?_
        rintro e w2 ⟨rfl, hb2⟩
        have hb3 : Below w.heap.size w w2 := (hb1.alloc hb1.size _).trans (hb2.mono (Nat.le_trans hb1.size (by simp)))
        go_wp2_with fail
        go_ret
        exact ⟨rfl, hb3⟩
      · by_cases hs8 : 65536 < s.size + 8
        · go_wp2_with fail
          refine (alive2_any _ (hM1.below ((Below.refl _ _).alloc (Nat.le_refl _) _) hM1.lt)).mono ?_
          rintro e w2 ⟨rfl, hb2⟩
          have hb3 : Below w.heap.size w w2 := (hb1.alloc hb1.size _).trans (hb2.mono (Nat.le_trans hb1.size (by simp)))
          go_wp2_with fail
          go_ret
          exact ⟨rfl, hb3⟩
        · have dll : ((l.length : Int) == 0) = false := by rw [beq_eq_false_iff_ne]; omega
          have d8 : decide ((65536 : Int) < (s.size : Int) + 8) = false := by simpa using (by omega : (s.size : Int) + 8 ≤ 65536)
          obtain ⟨k, hkx, hlt⟩ : ∃ k : Nat, (wrap64 (x.tmod (l.length : Int) + (l.length : Int))).tmod (l.length : Int) = k ∧ k < l.length := at_of x l.length (by omega) (by omega)
          have ht := unhide HT1
          obtain ⟨g, cap2, hv2, hcap⟩ := ht.form (by omega)
          obtain ⟨a, ha⟩ : ∃ a, a = l[k].2.1 := ⟨_, rfl⟩
          obtain ⟨K, hK⟩ : ∃ a, a = l[k].1.kind := ⟨_, rfl⟩
          obtain ⟨T, hT⟩ := bytes_of l[k].1.text
          obtain ⟨I, hI⟩ : ∃ a, a = l[k].1.int := ⟨_, rfl⟩
          obtain ⟨A2, q2, hpf⟩ := own_form (ht.prt l[k] (List.getElem_mem _))
          obtain ⟨np, hnp⟩ : ∃ np, np = l[k].1.parts.length := ⟨_, rfl⟩
          rw [← hnp] at hpf
          obtain ⟨n2, hn2⟩ : ∃ b, b = lnN f a := ⟨_, rfl⟩
          have henc : encT f l[k] = [.int .i64 K, .string T, .int .i64 I, .slice A2 np q2, .int .i64 a, .int .i64 n2] := by
            rw [encT, ← ha, ← hK, ← hI, hpf, hn2, ← hT, Lib.mk_data]
          have c0 := ht.cell hv2 k 0 hlt (by decide) (u := .int .i64 K) (by rw [henc]; rfl)
          have c1 := ht.cell hv2 k 1 hlt (by decide) (u := .string T) (by rw [henc]; rfl)
          have c2 := ht.cell hv2 k 2 hlt (by decide) (u := .int .i64 I) (by rw [henc]; rfl)
          have c3 := ht.cell hv2 k 3 hlt (by decide) (u := .slice A2 np q2) (by rw [henc]; rfl)
          have c4 := ht.cell hv2 k 4 hlt (by decide) (u := .int .i64 a) (by rw [henc]; rfl)
          have c5 := ht.cell hv2 k 5 hlt (by decide) (u := .int .i64 n2) (by rw [henc]; rfl)
          rw [Nat.add_zero] at c0
          have hA : A = some ⟨g, 0, none⟩ ∧ cap = cap2 := by
            injection hv2 with h1 h2 h3
            exact ⟨h1, h3⟩
          obtain ⟨rfl, rfl⟩ := hA
          have hgl := World.block_lt_of_cell? w1 _ c0
          have HTX := Lib.hid hT
          have HKX := Lib.hid hK
          have HAX := Lib.hid ha
          clear ht ha hK hT hI hpf hnp hn2 henc hcap
          go_wp2_with fail
          have hq := Blk.new (w1.alloc (.cells #[.int .i64 0, .int .i64 0] 27)) #[.int .i64 K, .string T, .int .i64 I, .slice A2 np q2, .int .i64 a, .int .i64 n2] 32
          rw [show (w1.alloc (.cells #[.int .i64 0, .int .i64 0] 27)).heap.size = w1.heap.size + 1 from by simp] at hq
          have hbq : Below w1.heap.size w1 ((w1.alloc (.cells #[.int .i64 0, .int .i64 0] 27)).alloc (.cells #[.int .i64 K, .string T, .int .i64 I, .slice A2 np q2, .int .i64 a, .int .i64 n2] 32)) := ((Below.refl _ _).alloc (Nat.le_refl _) _).alloc (by simp) _
          obtain ⟨W2, hW2⟩ : ∃ W, W = (w1.alloc (.cells #[.int .i64 0, .int .i64 0] 27)).alloc (.cells #[.int .i64 K, .string T, .int .i64 I, .slice A2 np q2, .int .i64 a, .int .i64 n2] 32) := ⟨_, rfl⟩
          rw [← hW2] at hq hbq ⊢
          have hT2 := (unhide HT1).step hbq
          have HT2 := hide hT2
          have hM2 := hM1.below hbq hM1.lt
          have HB2 := hide (hb1.trans (hbq.mono hb1.size))
          obtain ⟨P, hP⟩ : ∃ P, P = w1.heap.size + 1 := ⟨_, rfl⟩
          rw [← hP] at hq ⊢
          have q0 := hq.cell 0 (v := .int .i64 K) rfl
          have q1 := hq.cell 1 (v := .string T) rfl
          have q4 := hq.cell 4 (v := .int .i64 a) rfl
          have hPl := hq.lt
          have hGl : g < W2.heap.size := Nat.lt_of_lt_of_le hgl hbq.size
          clear c0 c1 c2 c3 c4 c5 hq hbq hW2 hb1 hM1 hgl hP HT1
          by_cases hk0 : k = 0
          · have dk : ((k : Int) == 0) = true := by rw [hk0]; rfl
            clear hT2 hk0 hkx
            go_quiet (fail)
            go_wp2_with fail
            refine (alive2_any _ (hM2.below (below_drewN (Below.refl _ _) _) hM2.lt)).mono ?_
            rintro e w3 ⟨rfl, hb2⟩
            have hb3 : Below w.heap.size w w3 := (below_drewN (unhide HB2) _).trans (hb2.mono (below_drewN (unhide HB2) _).size)
            go_wp2_with fail
            go_ret
            exact ⟨rfl, hb3⟩
          · have dk : ((k : Int) == 0) = false := by rw [beq_eq_false_iff_ne]; omega
            obtain ⟨j, hj⟩ : ∃ j, j = k - 1 := ⟨_, rfl⟩
            have hjk : (k : Int) - 1 = (j : Int) := by omega
            have hjl : j < l.length := by omega
            obtain ⟨Kp, hKp⟩ : ∃ a, a = l[j].1.kind := ⟨_, rfl⟩
            obtain ⟨ap, hap⟩ : ∃ a, a = l[j].2.1 := ⟨_, rfl⟩
            have e0 := hT2.cell rfl j 0 hjl (by decide) (u := .int .i64 Kp) (by rw [encT, hKp]; rfl)
            have e4 := hT2.cell rfl j 4 hjl (by decide) (u := .int .i64 ap) (by rw [encT, hap]; rfl)
            rw [Nat.add_zero] at e0
            clear hT2 hk0 hkx hKp hap hj
            cases h1 : ((K : Int) == 1)
            · cases h2 : ((Kp : Int) == 1)
              · cases h3 : ((ap : Int) == (a : Int))
                · cases h4 : (T.toList == [63, 62])
                  · have hmem : (l[k].1, l[k].2.1) ∈ ts := by rw [← HMAP.out]; exact List.mem_map.2 ⟨l[k], List.getElem_mem _, rfl⟩
                    have hkd : l[k].1.kind ≠ 1 := by
                      rw [← HKX.out]; intro h; rw [h] at h1; simp at h1
                    have htx : l[k].1.text ≠ [63, 62] := by
                      rw [← HTX.out, ← Lib.toList_data]; intro h; rw [h] at h4; simp at h4
                    obtain ⟨c, G, hyc, hc4, hGc, hGs, hGL⟩ := gap_of y hy.1
                    obtain ⟨has, l', hfl, hsame⟩ := HINS.out _ _ hmem hkd htx G.data.toList hGL
                    rw [← HAX.out, ← Lib.size_eq] at has
                    rw [← HAX.out] at hfl
                    clear hmem hkd htx
                    obtain ⟨u1, hu1⟩ : ∃ u, s.extract 0 a ++ G = u := ⟨_, rfl⟩
                    obtain ⟨u2, hu2⟩ : ∃ u, u1 ++ s.extract a s.size = u := ⟨_, rfl⟩
                    have z0 : (s.extract 0 a).size = a := by simp; omega
                    have z1 : (s.extract a s.size).size = s.size - a := by simp
                    have su1 : u1.size = a + G.size := by rw [← hu1, ByteArray.size_append', z0]
                    have su2 : u2.size = s.size + G.size := by rw [← hu2, ByteArray.size_append', su1, z1]; omega
                    have bu2 : u2.data.toList = s.data.toList.take a ++ (G.data.toList ++ s.data.toList.drop a) := by
                      have e1 : (s.extract a s.size).data.toList = s.data.toList.drop a := by
                        rw [extract_list, List.take_of_length_le (by rw [List.length_drop, ← Lib.size_eq]; exact Nat.le_refl _)]
                      have e0 : (s.extract 0 a).data.toList = s.data.toList.take a := extract_pre s a
                      rw [← hu2, ← hu1, ByteArray.data_append, ByteArray.data_append, Array.toList_append, Array.toList_append, e0, e1, List.append_assoc]
                    have add1 : ∀ W, (Op.stringOp .add (s.extract 0 a) G).run Tryz.prog W = .ok (.string u1) W := fun W => by
                      have h := run_string_add_sum (P := Tryz.prog) (w := W) (s.extract 0 a) G (by rw [z0]; omega)
                      rw [hu1] at h
                      exact h
                    have add2 : ∀ W, (Op.stringOp .add u1 (s.extract a s.size)).run Tryz.prog W = .ok (.string u2) W := fun W => by
                      have h := run_string_add_sum (P := Tryz.prog) (w := W) u1 (s.extract a s.size) (by rw [su1, z1]; omega)
                      rw [hu2] at h
                      exact h
                    have HF2 : Hid (fileT u2.data.toList = .ok l') := by show _ = _; rw [bu2]; exact hfl
                    have HS2 : Hid (u2.size ≤ 65536) := by show _ ≤ _; omega
                    have HSAME := Lib.hid hsame
                    clear hfl hsame z0 z1 su1 su2 bu2 hu1 hu2 hGL
                    go_quiet (fail)
                    have hgq := Blk.new (W2.drewN nq) #[.string ⟨#[32]⟩, .string ⟨#[9]⟩, .string ⟨#[32, 13, 32]⟩, .string ⟨#[32, 32]⟩] 9
                    have hgc : ((W2.drewN nq).alloc (.cells #[.string ⟨#[32]⟩, .string ⟨#[9]⟩, .string ⟨#[32, 13, 32]⟩, .string ⟨#[32, 32]⟩] 9)).cell? ⟨W2.heap.size, c, none⟩ = some (.string G) := hgq.cell c hGc
                    clear hgq
                    go_wp2_with fail
                    have hb23 : Below W2.heap.size W2 ((W2.drewN nq).alloc (.cells #[.string ⟨#[32]⟩, .string ⟨#[9]⟩, .string ⟨#[32, 13, 32]⟩, .string ⟨#[32, 32]⟩] 9)) := (below_drewN (Below.refl _ _) nq).alloc (Nat.le_refl _) _
                    obtain ⟨W3, hW3⟩ : ∃ W, W = (W2.drewN nq).alloc (.cells #[.string ⟨#[32]⟩, .string ⟨#[9]⟩, .string ⟨#[32, 13, 32]⟩, .string ⟨#[32, 32]⟩] 9) := ⟨_, rfl⟩
                    rw [← hW3] at hb23 ⊢
                    have r4 : W3.cell? ⟨P, 4, none⟩ = some (.int .i64 a) := (hb23.cell (p := ⟨P, 4, none⟩) hPl).trans q4
                    have HT3 := hide ((unhide HT2).step hb23)
                    have hM3 := hM2.below hb23 hM2.lt
                    have HB3 := hide ((unhide HB2).trans (hb23.mono (unhide HB2).size))
                    have hP3 : P < W3.heap.size := Nat.lt_of_lt_of_le hPl hb23.size
                    clear hgc q0 q1 q4 e0 e4 hb23 hW3 HT2 HB2 hM2 hPl hGl
                    have hnP : W3.heap.size ≠ P := by omega
                    go_region_held3 (fun w' => w'.cell? ⟨P, 4, none⟩ = some (.int .i64 a))
                      (first
                        | go_keep
                        | (exact (hbt.cell (p := ⟨P, 4, none⟩) (by show P < _; simp <;> omega)).trans (by assumption)))
                      (first
                        | (go_at_call 12; refine (Tokens_any u2 _ HS2.out (hM3.below ((Below.refl _ _).drew) hM3.lt)).mono ?_; rintro e w4 ⟨hbt, hpt⟩; rw [HF2.out] at hpt; obtain ⟨v2, l2, rfl, ht2, hmap2, hln2⟩ := hpt; obtain ⟨B2, cb2, rfl⟩ := own_form ht2.own; unfold faultV; have hnQ : w4.heap.size ≠ P := (by have := hbt.size; simp at this; omega))
                        | (go_at_call 12; refine (Tokens_any u2 _ HS2.out (hM3.below (((Below.refl _ _).drew).alloc (Nat.le_refl _) _) hM3.lt)).mono ?_; rintro e w4 ⟨hbt, hpt⟩; rw [HF2.out] at hpt; obtain ⟨v2, l2, rfl, ht2, hmap2, hln2⟩ := hpt; obtain ⟨B2, cb2, rfl⟩ := own_form ht2.own; unfold faultV
                           have hz0 := (hbt.cell (p := ⟨W3.heap.size, 0, none⟩) (by simp)).trans ((Blk.new W3.drew #[.int .i64 0, .int .i64 0] 27).cell 0 (v := .int .i64 0) rfl)
                           have hz1 := (hbt.cell (p := ⟨W3.heap.size, 1, none⟩) (by simp)).trans ((Blk.new W3.drew #[.int .i64 0, .int .i64 0] 27).cell 1 (v := .int .i64 0) rfl)
                           have hy0 := (hbt.frozen (p := ⟨W3.heap.size, 0, none⟩) (by simp)).trans ((Blk.new W3.drew #[.int .i64 0, .int .i64 0] 27).free 0)
                           have hy1 := (hbt.frozen (p := ⟨W3.heap.size, 1, none⟩) (by simp)).trans ((Blk.new W3.drew #[.int .i64 0, .int .i64 0] 27).free 1)))
                    all_goals go_split_ands
                    · go_wp2_with fail
                      have b5 : Below W3.heap.size W3 (w4.alloc (.cells #[.int .i64 0, .int .i64 0] 27)) := (((Below.refl _ _).drew).trans hbt).alloc hbt.size _
                      have t1 := (unhide HT3).step b5
                      have t2 := ht2.step ((Below.refl _ _).alloc (Nat.le_refl _) (.cells #[.int .i64 0, .int .i64 0] 27))
                      have hs2 : l2.map (·.1) = l.map (·.1) := by
                        have e1 : l2.map (·.1) = (l2.map (fun x => (x.1, x.2.1))).map (·.1) := by rw [List.map_map]; rfl
                        have e2 : l.map (·.1) = (l.map (fun x => (x.1, x.2.1))).map (·.1) := by rw [List.map_map]; rfl
                        rw [e1, e2, hmap2, HMAP.out]
                        exact HSAME.out
                      refine (Same_any t1 t2 hs2 hl0).mono ?_
                      rintro e w6 ⟨rfl, hb6⟩
                      have hM6 := (hM3.below b5 hM3.lt).below hb6 (hM3.below b5 hM3.lt).lt
                      have hb7 := (unhide HB3).trans ((b5.trans (hb6.mono b5.size)).mono (unhide HB3).size)
                      clear t1 t2 b5 hb6 hs2
                      go_wp2_with fail
                      refine (alive2_any _ hM6).mono ?_
                      rintro e w7 ⟨rfl, hb8⟩
                      have hb9 := hb7.trans (hb8.mono hb7.size)
                      go_wp2_with fail
                      go_ret
                      exact ⟨rfl, hb9⟩
                    · go_wp2_with fail
                      have b5 : Below W3.heap.size W3 ((w4.setCell ⟨W3.heap.size, 0, none⟩ (.int .i64 0)).setCell ⟨W3.heap.size, 1, none⟩ (.int .i64 0)) := ((((((Below.refl _ _).drew).alloc (Nat.le_refl _) _).trans (hbt.mono (by simp))).setCell (Nat.le_refl _) _).setCell (Nat.le_refl _) _)
                      have t1 := (unhide HT3).step b5
                      have t2 := (ht2.setLow (Q := W3.heap.size) (by simp) 0 (.int .i64 0)).setLow (Q := W3.heap.size) (by simp) 1 (.int .i64 0)
                      have hs2 : l2.map (·.1) = l.map (·.1) := by
                        have e1 : l2.map (·.1) = (l2.map (fun x => (x.1, x.2.1))).map (·.1) := by rw [List.map_map]; rfl
                        have e2 : l.map (·.1) = (l.map (fun x => (x.1, x.2.1))).map (·.1) := by rw [List.map_map]; rfl
                        rw [e1, e2, hmap2, HMAP.out]
                        exact HSAME.out
                      refine (Same_any t1 t2 hs2 hl0).mono ?_
                      rintro e w6 ⟨rfl, hb6⟩
                      have hM6 := (hM3.below b5 hM3.lt).below hb6 (hM3.below b5 hM3.lt).lt
                      have hb7 := (unhide HB3).trans ((b5.trans (hb6.mono b5.size)).mono (unhide HB3).size)
                      clear t1 t2 b5 hb6 hs2
                      go_wp2_with fail
                      refine (alive2_any _ hM6).mono ?_
                      rintro e w7 ⟨rfl, hb8⟩
                      have hb9 := hb7.trans (hb8.mono hb7.size)
                      go_wp2_with fail
                      go_ret
                      exact ⟨rfl, hb9⟩
                  · go_quiet (fail)
                    go_wp2_with fail
                    refine (alive2_any _ (hM2.below (below_drewN (Below.refl _ _) _) hM2.lt)).mono ?_
                    rintro e w3 ⟨rfl, hb2⟩
                    have hb3 : Below w.heap.size w w3 := (below_drewN (unhide HB2) _).trans (hb2.mono (below_drewN (unhide HB2) _).size)
                    go_wp2_with fail
                    go_ret
                    exact ⟨rfl, hb3⟩
                · go_quiet (fail)
                  go_wp2_with fail
                  refine (alive2_any _ (hM2.below (below_drewN (Below.refl _ _) _) hM2.lt)).mono ?_
                  rintro e w3 ⟨rfl, hb2⟩
                  have hb3 : Below w.heap.size w w3 := (below_drewN (unhide HB2) _).trans (hb2.mono (below_drewN (unhide HB2) _).size)
                  go_wp2_with fail
                  go_ret
                  exact ⟨rfl, hb3⟩
              · go_quiet (fail)
                go_wp2_with fail
                refine (alive2_any _ (hM2.below (below_drewN (Below.refl _ _) _) hM2.lt)).mono ?_
                rintro e w3 ⟨rfl, hb2⟩
                have hb3 : Below w.heap.size w w3 := (below_drewN (unhide HB2) _).trans (hb2.mono (below_drewN (unhide HB2) _).size)
                go_wp2_with fail
                go_ret
                exact ⟨rfl, hb3⟩
            · go_quiet (fail)
              go_wp2_with fail
              refine (alive2_any _ (hM2.below (below_drewN (Below.refl _ _) _) hM2.lt)).mono ?_
              rintro e w3 ⟨rfl, hb2⟩
              have hb3 : Below w.heap.size w w3 := (below_drewN (unhide HB2) _).trans (hb2.mono (below_drewN (unhide HB2) _).size)
              go_wp2_with fail
              go_ret
              exact ⟨rfl, hb3⟩
end Go.Proofs.YtjcldgogjgchiaaGreatDoor
