/-
  The walk of the law WordRises.
-/
import Derived.Test.YtjcldgogjgchiaaGreatDoorRises
namespace Go.Proofs.YtjcldgogjgchiaaGreatDoor
open Go Go.RowKit Cutting Wording

set_option maxHeartbeats 8000000 in
set_option maxRecDepth 100000 in
theorem WordRises_any (s : ByteArray) (w : World) (hs : s.size ≤ 140737488351232) (hM : Met w) :
    Calls Tryz.prog 4 #[.string s] w fun e w' => e = .returned (.bool true) ∧ Below w.heap.size w w' := by
  have hml := hM.lt
  by_cases hbig : 65536 < s.size
  · go_enter Tryz.func4, Tryz.ntmps4
    go_wp2_with fail
    refine (Tokens_long s _ hbig).mono ?_
    rintro e w1 ⟨rfl, hb1⟩
    have hM1 := hM.below hb1 hml
    unfold faultV
    go_wp2_with fail
    refine (alive2_any _ (hM1.below ((Below.refl _ _).alloc (Nat.le_refl _) _) hM1.lt)).mono ?_
    rintro e w2 ⟨rfl, hb2⟩
    have hb3 : Below w.heap.size w w2 := (hb1.alloc hb1.size _).trans (hb2.mono (Nat.le_trans hb1.size (by simp)))
    go_wp2_with fail
    go_ret
    exact ⟨rfl, hb3⟩
  · cases hf : fileT s.data.toList with
    | error x =>
      obtain ⟨y, z⟩ := x
      have hx := (fileT_rise _).2 _ hf
      dsimp only at hx
      rw [← Lib.size_eq] at hx
      have HF := Lib.hid hf
      have hy : ((y : Int) == 0) = false := by rw [beq_eq_false_iff_ne]; omega
      clear hf
      go_enter Tryz.func4, Tryz.ntmps4
      go_wp2_with fail
      refine (Tokens_any s _ (by omega) hM).mono ?_
      rintro e w1 ⟨hb1, hp1⟩
      rw [HF.out] at hp1
      obtain rfl := hp1
      have hM1 := hM.below hb1 hml
      unfold faultV
      go_wp2_with fail
      refine (alive2_any _ (hM1.below ((Below.refl _ _).alloc (Nat.le_refl _) _) hM1.lt)).mono ?_
      rintro e w2 ⟨rfl, hb2⟩
      have hb3 : Below w.heap.size w w2 := (hb1.alloc hb1.size _).trans (hb2.mono (Nat.le_trans hb1.size (by simp)))
      go_wp2_with fail
      go_ret
      exact ⟨rfl, hb3⟩
    | ok ts =>
      have HRI := Lib.hid ((fileT_rise _).1 _ hf)
      have HF := Lib.hid hf
      clear hf
      go_enter Tryz.func4, Tryz.ntmps4
      go_wp2_with fail
      refine (Tokens_any s _ (by omega) hM).mono ?_
      rintro e w1 ⟨hb1, hp1⟩
      rw [HF.out] at hp1
      obtain ⟨v, l, rfl, ht, hmap, hln⟩ := hp1
      obtain ⟨A, cap, rfl⟩ := own_form ht.own
      have HR : Hid (Rise s.size 0 (l.map (fun x => (x.1, x.2.1)))) := by show Rise _ _ _; rw [hmap, Lib.size_eq]; exact HRI.out
      have hM1 := hM.below hb1 hml
      clear hmap HRI HF
      unfold faultV
      go_wp2_with fail
      obtain ⟨f, hf⟩ : ∃ f, f = s.data.toList := ⟨_, rfl⟩
      rw [← hf] at ht
      have hl0 : l.length ≤ 1073741820 := by omega
      have ht1 := ht.step ((Below.refl _ _).alloc (Nat.le_refl _) (.cells fltZ 27))
      have HT1 := hide ht1
      clear ht ht1 hf hln
      go_loopw [37, 5, 6] (fun i a b wr => ∃ (k m n : Nat), i = .int .i64 k ∧ a = .int .i64 m ∧ b = .int .i64 n ∧ k ≤ l.length ∧ Hid (n = lnN f m ∧ Rise s.size m ((l.drop k).map (fun x => (x.1, x.2.1)))) ∧ Hid (Toks w.heap.size w wr f (.slice A l.length cap) l)) (fun i _ _ _ => l.length - (intOf i).toNat)
      case atStart => exact ⟨0, 0, 1, rfl, rfl, rfl, Nat.zero_le _, ⟨by simp [lnN], by rw [List.drop_zero]; exact HR.out⟩, HT1⟩
      case round =>
        obtain ⟨k, m, n, rfl, rfl, rfl, hk, hrel, htr⟩ := hrel
        by_cases hlt : k < l.length
        · have ht := unhide htr
          obtain ⟨g, cap2, hv2, hcap⟩ := ht.form (by omega)
          obtain ⟨a, ha⟩ : ∃ a, a = l[k].2.1 := ⟨_, rfl⟩
          obtain ⟨K, hK⟩ : ∃ a, a = l[k].1.kind := ⟨_, rfl⟩
          obtain ⟨T, hT⟩ := bytes_of l[k].1.text
          obtain ⟨I, hI⟩ : ∃ a, a = l[k].1.int := ⟨_, rfl⟩
          obtain ⟨A2, q2, hpf⟩ := own_form (ht.prt l[k] (List.getElem_mem _))
          obtain ⟨np, hnp⟩ : ∃ np, np = l[k].1.parts.length := ⟨_, rfl⟩
          rw [← hnp] at hpf
          obtain ⟨n2, hn2⟩ : ∃ b, b = lnN f a := ⟨_, rfl⟩
          have henc : encT f l[k] = [.int .i64 K, .string T, .int .i64 I, .slice A2 np q2, .int .i64 a, .int .i64 n2] := by
            rw [encT, ← ha, ← hK, ← hI, hpf, hn2, ← hT, Lib.mk_data]
          have c0 := ht.cell hv2 k 0 hlt (by decide) (u := .int .i64 K) (by rw [henc]; rfl)
          have c1 := ht.cell hv2 k 1 hlt (by decide) (u := .string T) (by rw [henc]; rfl)
          have c2 := ht.cell hv2 k 2 hlt (by decide) (u := .int .i64 I) (by rw [henc]; rfl)
          have c3 := ht.cell hv2 k 3 hlt (by decide) (u := .slice A2 np q2) (by rw [henc]; rfl)
          have c4 := ht.cell hv2 k 4 hlt (by decide) (u := .int .i64 a) (by rw [henc]; rfl)
          have c5 := ht.cell hv2 k 5 hlt (by decide) (u := .int .i64 n2) (by rw [henc]; rfl)
          rw [Nat.add_zero] at c0
          have hrise := hrel.out.2
          rw [List.drop_eq_getElem_cons hlt, List.map_cons] at hrise
          have h1 : m ≤ a := by rw [ha]; exact hrise.1
          have h2 : n ≤ n2 := by rw [hrel.out.1, hn2]; exact lnN_mono f h1
          have h3 : a ≤ s.size := by rw [ha]; exact hrise.2.le
          have H4 : Hid (Rise s.size a ((l.drop (k + 1)).map (fun x => (x.1, x.2.1)))) := by show Rise _ _ _; rw [ha]; exact hrise.2
          have H5 := Lib.hid hn2
          have hA : A = some ⟨g, 0, none⟩ ∧ cap = cap2 := by
            injection hv2 with h1 h2 h3
            exact ⟨h1, h3⟩
          obtain ⟨rfl, rfl⟩ := hA
          have d1 : decide ((a : Int) < (m : Int)) = false := by simpa using (by omega : (m : Int) ≤ (a : Int))
          have d2 : decide ((n2 : Int) < (n : Int)) = false := by simpa using (by omega : (n : Int) ≤ (n2 : Int))
          have d3 : decide ((s.size : Int) < (a : Int)) = false := by simpa using (by omega : (a : Int) ≤ (s.size : Int))
          have hgl := World.block_lt_of_cell? wr _ c0
          clear ht ha hK hT hI hpf hnp hn2 henc hrise hv2
          go_wp2_with fail
          have hq := Blk.new wr #[.int .i64 K, .string T, .int .i64 I, .slice A2 np q2, .int .i64 a, .int .i64 n2] 32
          have q4 := hq.cell 4 rfl; have q5 := hq.cell 5 rfl
          have HW := hide ((Below.refl wr.heap.size wr).alloc (Nat.le_refl _) (.cells #[.int .i64 K, .string T, .int .i64 I, .slice A2 np q2, .int .i64 a, .int .i64 n2] 32))
          clear hq
          go_quiet (fail)
          go_wp2_with fail
          exact ⟨⟨k + 1, a, n2, rfl, rfl, rfl, by omega, ⟨H5.out, H4.out⟩, (unhide htr).step (below_drewN (unhide HW) _)⟩, by simp [intOf]; omega⟩
        · have hkl : k = l.length := by omega
          have htb := (unhide htr).below
          have hmr := hM.below htb hml
          go_wp2_with fail
          refine (alive2_any _ hmr).mono ?_
          rintro e w2 ⟨rfl, hb2⟩
          have hb3 := htb.trans (hb2.mono htb.size)
          go_wp2_with fail
          go_ret
          exact ⟨rfl, hb3⟩
end Go.Proofs.YtjcldgogjgchiaaGreatDoor
