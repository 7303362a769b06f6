/-
  ListKeys: for every two keys, the law's function returns true, and nothing below its own memory turns.
-/
import Derived.Test.YtbbmfpffanhgnaaDoorLAlive
import Derived.Test.YtbbmfpffanhgnaaDoorRNorm
namespace Go.Proofs.YtbbmfpffanhgnaaDoor
open Go Go.RowKit Convs Lists

/-- The list behind the law's two settings. -/
theorem keys_lists (a b : K) : ∃ l1 l2 : Ls, (⟨[], 0⟩ : Ls).set a 1 = (l1, false) ∧ l1.set b 2 = (l2, false) ∧ (a = b → getN l2.items a = (2, true) ∧ l2.items.length = 1) ∧ (a ≠ b → getN l2.items a = (1, true) ∧ l2.items.length = 2) := by
  have h1 : (⟨[], 0⟩ : Ls).set a 1 = (⟨[(a, 1)], nextT 0 a⟩, false) := by unfold Ls.set; simp [hasI, getI, maxItems]
  by_cases h : a = b
  · subst h
    refine ⟨_, ⟨[(a, 2)], nextT 0 a⟩, h1, ?_, fun _ => ⟨by simp [getN, getI, hasI], rfl⟩, fun h => absurd rfl h⟩
    unfold Ls.set; simp [hasI, getI, putI]
  · refine ⟨_, ⟨[(a, 1), (b, 2)], nextT (nextT 0 a) b⟩, h1, ?_, fun h' => absurd h' h, fun _ => ⟨by simp [getN, getI, hasI], rfl⟩⟩
    unfold Ls.set; simp [hasI, getI, maxItems, h]

theorem normT_len (k : K) : (normT k).s.length ≤ k.s.length := by
  rw [normT_keyNum]
  split
  · split
    · simp
    · simp
  · simp

set_option maxRecDepth 100000 in
set_option maxHeartbeats 4000000 in
theorem ListKeys_any (t1 : Bool) (n1 : Int) (s1 : ByteArray) (t2 : Bool) (n2 : Int) (s2 : ByteArray) (w : World) (hM : Met w) (k1 : Kok ⟨t1, n1, s1.data.toList⟩) (z1 : s1.size ≤ 281474976710656) (k2 : Kok ⟨t2, n2, s2.data.toList⟩) (z2 : s2.size ≤ 281474976710656) :
    Calls Tryd.prog 6 #[.agg #[.bool t1, .int .i64 n1, .string s1], .agg #[.bool t2, .int .i64 n2, .string s2]] w fun e w' => e = .returned (.bool true) ∧ Below w.heap.size w w' := by
  obtain ⟨ta, na, sa, hna, hka⟩ := norm_cells ⟨t1, n1, s1.data.toList⟩
  obtain ⟨tb, nb, sb, hnb, hkb⟩ := norm_cells ⟨t2, n2, s2.data.toList⟩
  have ka : Kok ⟨ta, na, sa.data.toList⟩ := by rw [← hna]; exact normT_ok k1
  have za : sa.size ≤ 281474976710656 := by
    have h1 := normT_len ⟨t1, n1, s1.data.toList⟩
    rw [hna] at h1
    simp only at h1
    rw [← Lib.size_eq, ← Lib.size_eq] at h1
    omega
  have hN1 := fun W => fun (hM : Met W) => Norm_any t1 n1 s1 W hM z1
  have hN2 := fun W => fun (hM : Met W) => Norm_any t2 n2 s2 W hM z2
  have hNa := fun W => fun (hM : Met W) => Norm_any ta na sa W hM za
  have hR1 := fun W => RNorm_any t1 n1 s1 W z1
  have hnn := normT_normed hna
  rw [hka] at hN1 hR1
  rw [hkb] at hN2
  rw [hnn] at hNa
  obtain ⟨l1, l2, hl1, hl2, hyes, hno⟩ := keys_lists ⟨ta, na, sa.data.toList⟩ ⟨tb, nb, sb.data.toList⟩
  have hb0 := below_box2 w (.cells #[.bool t1, .int .i64 n1, .string s1] 30) (.cells #[.bool t2, .int .i64 n2, .string s2] 30)
  have hk := boxes_at (Below.refl _ ((w.alloc (.cells #[.bool t1, .int .i64 n1, .string s1] 30)).alloc (.cells #[.bool t2, .int .i64 n2, .string s2] 30)))
  obtain ⟨W0, hW0⟩ : ∃ W0, (w.alloc (.cells #[.bool t1, .int .i64 n1, .string s1] 30)).alloc (.cells #[.bool t2, .int .i64 n2, .string s2] 30) = W0 := ⟨_, rfl⟩
  rw [hW0] at hb0 hk
  obtain ⟨kb1, kb2⟩ := hk
  have HW0 := hide hW0
  have HM0 := hide (hM.below hb0)
  have HB0 := hide hb0
  have KB1 := hide kb1
  have KB2 := hide kb2
  obtain ⟨c0, c1, c2, f0, f1, f2⟩ := kb1.three
  obtain ⟨d0, d1, d2, g0, g1, g2⟩ := kb2.three
  have HN1 := hide hN1
  have HN2 := hide hN2
  have HNA := hide hNa
  have HR1 := hide hR1
  have HL1 := hide hl1
  have HL2 := hide hl2
  have HYES := hide hyes
  have HNO := hide hno
  have KA := hide ka
  have kb : Kok ⟨tb, nb, sb.data.toList⟩ := by rw [← hnb]; exact normT_ok k2
  have HEQ : Hid (∀ W, _) := hide (fun W => key_equal W ⟨tb, nb, sb.data.toList⟩ ⟨ta, na, sa.data.toList⟩ kb ka)
  have HMW := hide hM
  have HNNA := hide hnn
  have ZA := hide za
  have HNA' := hide hna
  have HNB' := hide hnb
  have K1 := hide k1
  have K2 := hide k2
  clear kb za hM hW0 hb0 kb1 kb2 hN1 hN2 hNa hR1 hl1 hl2 hyes hno ka hna hnb hka hkb hnn k1 k2
  go_enter Tryd.func6, Tryd.ntmps6
  go_upto_region 1 with fail
  rw [HW0.out]
  go_wp2_with fail
  refine (HN1.out _ HM0.out).mono ?_
  rintro e w1 ⟨rfl, hb1⟩
  go_wp2_with fail
  have hb2 := hb1.alloc hb1.size (.cells #[.bool ta, .int .i64 na, .string sa] 30)
  have kn := Blk.new w1 #[.bool ta, .int .i64 na, .string sa] 30
  obtain ⟨w2, hw2⟩ : ∃ w2, w1.alloc (.cells #[.bool ta, .int .i64 na, .string sa] 30) = w2 := ⟨_, rfl⟩
  rw [hw2] at hb2 kn ⊢
  refine (New_any w2).mono ?_
  rintro e w3 ⟨rfl, hl3, hb3⟩
  have HBW2 : Hid (w.heap.size ≤ w2.heap.size) := Nat.le_trans HB0.out.size hb2.size
  have hb23 : Below W0.heap.size W0 w3 := hb2.trans (hb3.mono hb2.size)
  have kn3 := kn.below hb3 kn.lt
  have k13 := KB1.out.below hb23 KB1.out.lt
  have k23 := KB2.out.below hb23 KB2.out.lt
  have HM3 := hide (HM0.out.below hb23)
  have HRR : Hid (∀ u, Below w3.heap.size w3 u → _) := hide (fun u hu => from_ hu (HR1.out u))
  have HNN : Hid (∀ u, Below w3.heap.size w3 u → _) := hide (fun u hu => from_ hu (HNA.out u (HM3.out.below hu)))
  have HAL : Hid (∀ u, Below w3.heap.size w3 u → _) := hide (fun u hu => from_ hu (alive_any u (HM3.out.below hu)))
  rw [kv_of] at HNN
  have HS : Hid (∀ u, Below w3.heap.size w3 u → (Below w3.heap.size w3 u ∧ u.cell? ⟨w.heap.size, 0, none⟩ = some (.bool t1) ∧ u.cell? ⟨w.heap.size, 1, none⟩ = some (.int .i64 n1) ∧ u.cell? ⟨w.heap.size, 2, none⟩ = some (.string s1) ∧
      u.cell? ⟨w1.heap.size, 0, none⟩ = some (.bool ta) ∧ u.cell? ⟨w1.heap.size, 1, none⟩ = some (.int .i64 na) ∧ u.cell? ⟨w1.heap.size, 2, none⟩ = some (.string sa))) := by
    intro u hu
    have a := (k13.below hu k13.lt).three
    have b := (kn3.below hu kn3.lt).three
    exact ⟨hu, a.1, a.2.1, a.2.2.1, b.1, b.2.1, b.2.2.1⟩
  have HL3 := hide hl3
  have HB23 := hide (HB0.out.trans (hb23.mono HB0.out.size))
  have KN3 := hide kn3
  have K13 := hide k13
  have K23 := hide k23
  clear hl3 hb3 hb23 hb2 hb1 kn kn3 k13 k23 hw2
  go_wp2_with fail
  go_region_held3 (fun u => Below w3.heap.size w3 u ∧ u.cell? ⟨w.heap.size, 0, none⟩ = some (.bool t1) ∧ u.cell? ⟨w.heap.size, 1, none⟩ = some (.int .i64 n1) ∧ u.cell? ⟨w.heap.size, 2, none⟩ = some (.string s1) ∧
      u.cell? ⟨w1.heap.size, 0, none⟩ = some (.bool ta) ∧ u.cell? ⟨w1.heap.size, 1, none⟩ = some (.int .i64 na) ∧ u.cell? ⟨w1.heap.size, 2, none⟩ = some (.string sa))
    (first | exact HS.out _ (by assumption) | exact HS.out _ (Below.refl _ _).drew)
    (first
      | (go_at_call 16; with_reducible refine (HRR.out _ (by first | assumption | exact (Below.refl _ _).drew)).mono ?_; rintro e w4 ⟨rfl, hb4⟩)
      | (go_at_call 15; with_reducible refine (HNN.out _ (by first | assumption | exact (Below.refl _ _).drew)).mono ?_; rintro e w5 ⟨rfl, hb5⟩)
      | (go_at_call 10; with_reducible refine (HAL.out _ (by first | assumption | exact (Below.refl _ _).drew)).mono ?_; rintro e w6 ⟨rfl, hb6⟩))
  go_split_ands
  have hl6 := HL3.out.below hb6
  have hb06 := HB23.out.trans (hb6.mono HB23.out.size)
  have hset := Set_any hl6 (HM3.out.below hb6) t1 n1 s1 1 K1.out z1
  rw [HNA'.out, HL1.out] at hset
  have k26 := K23.out.below hb6 K23.out.lt
  have kn6 := KN3.out.below hb6 KN3.out.lt
  have HSET := hide hset
  have HL6 := hide hl6
  have HB06 := hide hb06
  have K26 := hide k26
  have KN6 := hide kn6
  have HM6 := hide (HM3.out.below hb6)
  clear hset hl6 hb06 k26 kn6 hb4 hb5 hb6
  go_wp2_with fail
  refine HSET.out.mono ?_
  rintro e w7 ⟨mb7, iv7, lent7, rfl, hl7, hs7⟩
  have hb7 := hs7.below HL6.out
  have k27 := hs7.blk HL6.out K26.out (by decide) (by decide)
  have kn7 := hs7.blk HL6.out KN6.out (by decide) (by decide)
  have hw2 : w.heap.size ≤ w2.heap.size := HBW2.out
  have hb07 := HB06.out.trans (hb7.mono hw2)
  have hset2 := Set_any hl7 (HMW.out.below hb07) t2 n2 s2 2 K2.out z2
  rw [HNB'.out, HL2.out] at hset2
  obtain ⟨d0, d1, d2, g0, g1, g2⟩ := k27.three
  have HSET2 := hide hset2
  have HL7 := hide hl7
  have HB07 := hide hb07
  have K27 := hide k27
  have KN7 := hide kn7
  clear hset2 hl7 hs7 hb7 hb07 k27 kn7
  go_wp2_with fail
  refine HSET2.out.mono ?_
  rintro e w8 ⟨mb8, iv8, lent8, rfl, hl8, hs8⟩
  have hb8 := HB07.out.trans ((hs8.below HL7.out).mono hw2)
  have k28 := hs8.blk HL7.out K27.out (by decide) (by decide)
  have kn8 := hs8.blk HL7.out KN7.out (by decide) (by decide)
  have hget := Get_any hl8 (HMW.out.below hb8) ta na sa KA.out ZA.out
  rw [HNNA.out] at hget
  obtain ⟨d0, d1, d2, g0, g1, g2⟩ := k28.three
  obtain ⟨h0, h1, h2, i0, i1, i2⟩ := kn8.three
  have HM8 := hide (HMW.out.below hb8)
  by_cases hab : (⟨ta, na, sa.data.toList⟩ : K) = ⟨tb, nb, sb.data.toList⟩
  · obtain ⟨hy1, hy2⟩ := HYES.out hab
    rw [hy1] at hget
    rw [← hab] at HEQ
    simp only [decide_true] at HEQ
    rw [kv_of] at HEQ
    have e1 : ta = tb := congrArg K.t hab
    have e2 : na = nb := congrArg K.n hab
    have e3 : sa = sb := bytes_eq (congrArg K.s hab)
    subst e1 e2 e3
    have HGET := hide hget
    have HL8 := hide hl8
    have HB8 := hide hb8
    have HY2 := hide hy2
    have K28 := hide k28
    have KN8 := hide kn8
    clear hget hl8 hs8 hb8 k28 kn8 hab hy1 hy2
    go_wp2_with fail
    refine HGET.out.mono ?_
    rintro e w9 ⟨rfl, hb9⟩
    have k29 := K28.out.below hb9 K28.out.lt
    have kn9 := KN8.out.below hb9 KN8.out.lt
    have hl9 := HL8.out.below hb9
    have hN2 : Hid (∀ u, Below w9.heap.size w9 u → _) := hide (fun u hu => from_ hu (HN2.out u ((HM8.out.below hb9).below hu)))
    have HLEN : Hid (∀ u, Below w9.heap.size w9 u → _) := hide (fun u hu => Len_any (hl9.below hu))
    rw [HY2.out] at HLEN
    have HS : Hid (∀ u, Below w9.heap.size w9 u → (Below w9.heap.size w9 u ∧ u.cell? ⟨w.heap.size + 1, 0, none⟩ = some (.bool t2) ∧ u.cell? ⟨w.heap.size + 1, 1, none⟩ = some (.int .i64 n2) ∧ u.cell? ⟨w.heap.size + 1, 2, none⟩ = some (.string s2) ∧
        u.cell? ⟨w1.heap.size, 0, none⟩ = some (.bool ta) ∧ u.cell? ⟨w1.heap.size, 1, none⟩ = some (.int .i64 na) ∧ u.cell? ⟨w1.heap.size, 2, none⟩ = some (.string sa))) := by
      intro u hu
      have a := (k29.below hu k29.lt).three
      have b := (kn9.below hu kn9.lt).three
      exact ⟨hu, a.1, a.2.1, a.2.2.1, b.1, b.2.1, b.2.2.1⟩
    have HB9 := hide (HB8.out.trans (hb9.mono HB8.out.size))
    clear k29 kn9 hl9 hb9
    go_wp2_with fail
    have hq := HEQ.out
    have hwr : IntKind.i64.wrap 1 = 1 := by decide
    go_region_held3 (fun u => Below w9.heap.size w9 u ∧ u.cell? ⟨w.heap.size + 1, 0, none⟩ = some (.bool t2) ∧ u.cell? ⟨w.heap.size + 1, 1, none⟩ = some (.int .i64 n2) ∧ u.cell? ⟨w.heap.size + 1, 2, none⟩ = some (.string s2) ∧
        u.cell? ⟨w1.heap.size, 0, none⟩ = some (.bool ta) ∧ u.cell? ⟨w1.heap.size, 1, none⟩ = some (.int .i64 na) ∧ u.cell? ⟨w1.heap.size, 2, none⟩ = some (.string sa))
      (first | exact HS.out _ (by assumption) | exact HS.out _ (Below.refl _ _).drew)
      (first
        | (go_at_call 15; with_reducible refine (hN2.out _ (by first | assumption | exact (Below.refl _ _).drew)).mono ?_; rintro e w10 ⟨rfl, hb10⟩)
        | (go_at_call 19; with_reducible refine (HLEN.out _ (by first | assumption | exact (Below.refl _ _).drew)).mono ?_; rintro e w11 ⟨rfl, rfl⟩))
    go_split_ands
    go_wp2_with fail
    go_ret
    exact ⟨rfl, HB9.out.trans ((by assumption : Below w9.heap.size w9 _).mono HB9.out.size)⟩
  · obtain ⟨hy1, hy2⟩ := HNO.out hab
    rw [hy1] at hget
    have hab' : ¬ (⟨tb, nb, sb.data.toList⟩ : K) = ⟨ta, na, sa.data.toList⟩ := fun h => hab h.symm
    simp only [hab', decide_false] at HEQ
    rw [kv_of, kv_of] at HEQ
    clear hab'
    have HGET := hide hget
    have HL8 := hide hl8
    have HB8 := hide hb8
    have HY2 := hide hy2
    have K28 := hide k28
    have KN8 := hide kn8
    clear hget hl8 hs8 hb8 k28 kn8 hab hy1 hy2
    go_wp2_with fail
    refine HGET.out.mono ?_
    rintro e w9 ⟨rfl, hb9⟩
    have k29 := K28.out.below hb9 K28.out.lt
    have kn9 := KN8.out.below hb9 KN8.out.lt
    have hl9 := HL8.out.below hb9
    have hN2 : Hid (∀ u, Below w9.heap.size w9 u → _) := hide (fun u hu => from_ hu (HN2.out u ((HM8.out.below hb9).below hu)))
    have HLEN : Hid (∀ u, Below w9.heap.size w9 u → _) := hide (fun u hu => Len_any (hl9.below hu))
    rw [HY2.out] at HLEN
    have HS : Hid (∀ u, Below w9.heap.size w9 u → (Below w9.heap.size w9 u ∧ u.cell? ⟨w.heap.size + 1, 0, none⟩ = some (.bool t2) ∧ u.cell? ⟨w.heap.size + 1, 1, none⟩ = some (.int .i64 n2) ∧ u.cell? ⟨w.heap.size + 1, 2, none⟩ = some (.string s2) ∧
        u.cell? ⟨w1.heap.size, 0, none⟩ = some (.bool ta) ∧ u.cell? ⟨w1.heap.size, 1, none⟩ = some (.int .i64 na) ∧ u.cell? ⟨w1.heap.size, 2, none⟩ = some (.string sa))) := by
      intro u hu
      have a := (k29.below hu k29.lt).three
      have b := (kn9.below hu kn9.lt).three
      exact ⟨hu, a.1, a.2.1, a.2.2.1, b.1, b.2.1, b.2.2.1⟩
    have HB9 := hide (HB8.out.trans (hb9.mono HB8.out.size))
    clear k29 kn9 hl9 hb9
    go_wp2_with fail
    have hq := HEQ.out
    have hwr : IntKind.i64.wrap 2 = 2 := by decide
    go_region_held3 (fun u => Below w9.heap.size w9 u ∧ u.cell? ⟨w.heap.size + 1, 0, none⟩ = some (.bool t2) ∧ u.cell? ⟨w.heap.size + 1, 1, none⟩ = some (.int .i64 n2) ∧ u.cell? ⟨w.heap.size + 1, 2, none⟩ = some (.string s2) ∧
        u.cell? ⟨w1.heap.size, 0, none⟩ = some (.bool ta) ∧ u.cell? ⟨w1.heap.size, 1, none⟩ = some (.int .i64 na) ∧ u.cell? ⟨w1.heap.size, 2, none⟩ = some (.string sa))
      (first | exact HS.out _ (by assumption) | exact HS.out _ (Below.refl _ _).drew)
      (first
        | (go_at_call 15; with_reducible refine (hN2.out _ (by first | assumption | exact (Below.refl _ _).drew)).mono ?_; rintro e w10 ⟨rfl, hb10⟩)
        | (go_at_call 19; with_reducible refine (HLEN.out _ (by first | assumption | exact (Below.refl _ _).drew)).mono ?_; rintro e w11 ⟨rfl, rfl⟩))
    go_split_ands
    go_wp2_with fail
    go_ret
    exact ⟨rfl, HB9.out.trans ((by assumption : Below w9.heap.size w9 _).mono HB9.out.size)⟩
end Go.Proofs.YtbbmfpffanhgnaaDoor
