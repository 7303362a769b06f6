/-
  ListNobody: for every key and number, the law's function returns true, and nothing below its own memory turns.
-/
import Derived.Test.YtbbmfpffanhgnaaDoorLNob
import Derived.LoopN
namespace Go.Proofs.YtbbmfpffanhgnaaDoor
open Go Go.RowKit Convs Lists

set_option maxRecDepth 100000 in
set_option maxHeartbeats 4000000 in
theorem ListNobody_any (t : Bool) (n : Int) (s : ByteArray) (i : Int) (w : World) (hM : Met w) :
    Calls Tryd.prog 8 #[.agg #[.bool t, .int .i64 n, .string s], .int .i64 i] w fun e w' => e = .returned (.bool true) ∧ Below w.heap.size w w' := by
  have HMW := hide hM
  clear hM
  refine (callsIn_wide (n := 6)).1 ?_
  refine callsIn_of_wp_marks Tryd.func8 rfl trivial ?_ rfl
  refine wpIn_wide.2 ?_
  simp only [Tryd.ntmps8, List.size_toArray, List.length_cons, List.length_nil, Nat.reduceAdd, Nat.reduceSub, Array.replicate_succ, Array.replicate_zero, List.push_toArray, List.append_toArray, List.nil_append, List.cons_append]
  go_wp2_with fail
  have hb0 : Below w.heap.size w ((((w.alloc (.cells #[.bool t, .int .i64 n, .string s] 30)).alloc (.cells #[.bool false] 4)).alloc (.cells #[.pointer none, .slice none 0 0, .map none, .int .i64 0, .bool false] 61)).alloc (.cells #[.pointer none, .pointer (some ⟨w.heap.size + 1 + 1, 0, none⟩)] 23)) :=
    (((below_box w _).alloc (by simp) _).alloc (by simp; omega) _).alloc (by simp; omega) _
  have hk0 : Blk ((((w.alloc (.cells #[.bool t, .int .i64 n, .string s] 30)).alloc (.cells #[.bool false] 4)).alloc (.cells #[.pointer none, .slice none 0 0, .map none, .int .i64 0, .bool false] 61)).alloc (.cells #[.pointer none, .pointer (some ⟨w.heap.size + 1 + 1, 0, none⟩)] 23)) w.heap.size #[.bool t, .int .i64 n, .string s] 30 :=
    (((Blk.new w _ _).alloc _).alloc _).alloc _
  have hk1 := (((Blk.new (w.alloc (.cells #[.bool t, .int .i64 n, .string s] 30)) #[.bool false] 4).alloc (.cells #[.pointer none, .slice none 0 0, .map none, .int .i64 0, .bool false] 61)).alloc (.cells #[.pointer none, .pointer (some ⟨w.heap.size + 1 + 1, 0, none⟩)] 23))
  have hk2 := ((Blk.new ((w.alloc (.cells #[.bool t, .int .i64 n, .string s] 30)).alloc (.cells #[.bool false] 4)) #[.pointer none, .slice none 0 0, .map none, .int .i64 0, .bool false] 61).alloc (.cells #[.pointer none, .pointer (some ⟨w.heap.size + 1 + 1, 0, none⟩)] 23))
  have hk3 := (Blk.new (((w.alloc (.cells #[.bool t, .int .i64 n, .string s] 30)).alloc (.cells #[.bool false] 4)).alloc (.cells #[.pointer none, .slice none 0 0, .map none, .int .i64 0, .bool false] 61)) #[.pointer none, .pointer (some ⟨w.heap.size + 1 + 1, 0, none⟩)] 23)
  obtain ⟨V1, hV1⟩ : ∃ V1, (((w.alloc (.cells #[.bool t, .int .i64 n, .string s] 30)).alloc (.cells #[.bool false] 4)).alloc (.cells #[.pointer none, .slice none 0 0, .map none, .int .i64 0, .bool false] 61)).alloc (.cells #[.pointer none, .pointer (some ⟨w.heap.size + 1 + 1, 0, none⟩)] 23) = V1 := ⟨_, rfl⟩
  rw [hV1] at hb0 hk0 hk1 hk2 hk3 ⊢
  simp only [World.size_alloc] at hk1 hk2 hk3
  have K0V1 := hide hk0
  have K1V1 := hide hk1
  have K2V1 := hide hk2
  have SV1 := hide hk3
  have HB0 := hide hb0
  have NV1 : Hid (Nob V1 none) := .inl rfl
  clear hb0 hk0 hk1 hk2 hk3 hV1
  refine wp_loop_rounds 3 ?_

  -- ROUND 1
  rw [rounds_succ]
  have KK1 : Hid (∀ u, Below V1.heap.size V1 u → (u.cell? ⟨w.heap.size, 0, none⟩ = some (.bool t) ∧ u.cell? ⟨w.heap.size, 1, none⟩ = some (.int .i64 n) ∧ u.cell? ⟨w.heap.size, 2, none⟩ = some (.string s))) := by
    intro u hu
    have a := (K0V1.out.below hu K0V1.out.lt).three
    exact ⟨a.1, a.2.1, a.2.2.1⟩
  have NN1 : Hid (∀ u, Below V1.heap.size V1 u → Nob u none) := fun u hu => (NV1.out).below hu
  have G11 : Hid (∀ u, Below V1.heap.size V1 u → _) := hide (fun u hu => from_ hu (Get_nob u none (NN1.out u hu) t n s))
  have G21 : Hid (∀ u, Below V1.heap.size V1 u → _) := hide (fun u hu => from_ hu (At_nob u none (NN1.out u hu) i))
  have G31 : Hid (∀ u, Below V1.heap.size V1 u → _) := hide (fun u hu => from_ hu (Append_nob u none (NN1.out u hu) i))
  have G41 : Hid (∀ u, Below V1.heap.size V1 u → _) := hide (fun u hu => from_ hu (Set_nob u none (NN1.out u hu) t n s i))
  have G51 : Hid (∀ u, Below V1.heap.size V1 u → _) := hide (fun u hu => from_ hu (Del_nob u none (NN1.out u hu) t n s))
  have G61 : Hid (∀ u, Below V1.heap.size V1 u → _) := hide (fun u hu => Len_nob u none (NN1.out u hu))
  have G71 : Hid (∀ u, Below V1.heap.size V1 u → _) := hide (fun u hu => Next_nob u none (NN1.out u hu))
  have G81 : Hid (∀ u, Below V1.heap.size V1 u → _) := hide (fun u hu => Copy_nob u none (NN1.out u hu))
  have s1 := (SV1.out).cell 0
  obtain ⟨k0, k1, k2⟩ := KK1.out _ (Below.refl _ _)
  go_upto_region 7 with (first
    | (go_at_call 18; with_reducible refine (G11.out _ (Below.refl _ _)).mono ?_; rintro e v1 ⟨rfl, hb1⟩)
    | (go_at_call 23; with_reducible refine (G21.out _ (by assumption)).mono ?_; rintro e v2 ⟨rfl, hb2⟩)
    | (go_at_call 21; with_reducible refine (G31.out _ (Below.alloc (by assumption) (Below.size (by assumption)) _)).mono ?_; rintro e v4 ⟨rfl, hb4⟩))
  have kz1 := Blk.new v4 #[.bool false, .int .i64 0, .string ⟨#[]⟩] 30
  have hb5 := hb4.alloc hb4.size (.cells #[.bool false, .int .i64 0, .string ⟨#[]⟩] 30)
  obtain ⟨v5, hv5⟩ : ∃ v5, v4.alloc (.cells #[.bool false, .int .i64 0, .string ⟨#[]⟩] 30) = v5 := ⟨_, rfl⟩
  rw [hv5] at kz1 hb5 ⊢
  obtain ⟨z0, z1, z2, -⟩ := kz1.three
  obtain ⟨k0, k1, k2⟩ := KK1.out _ hb5
  clear hv5 kz1 hb1 hb2 hb4
  go_wp2_with (first
    | (go_at_call 17; with_reducible refine (G41.out _ hb5).mono ?_; rintro e v6 ⟨rfl, hb6⟩; obtain ⟨k0, k1, k2⟩ := KK1.out _ hb6)
    | (go_at_call 22; with_reducible refine (G51.out _ hb6).mono ?_; rintro e v7 ⟨rfl, hb7⟩)
    | (go_at_call 19; with_reducible refine (G61.out _ hb7).mono ?_; rintro e v8 ⟨rfl, rfl⟩)
    | (go_at_call 20; with_reducible refine (G71.out _ hb7).mono ?_; rintro e v8 ⟨rfl, rfl⟩)
    | (go_at_call 13; with_reducible refine (G81.out _ hb7).mono ?_; rintro e v8 ⟨rfl, rfl⟩)
    | (go_at_call 14; with_reducible refine (All_any _ _).mono ?_; rintro e v9 ⟨rfl, rfl⟩))

  have k9 := Blk.new v7 #[.pointer none] 23
  have hb9 := hb7.alloc hb7.size (.cells #[.pointer none] 23)
  obtain ⟨v9, hv9⟩ : ∃ v9, v7.alloc (.cells #[.pointer none] 23) = v9 := ⟨_, rfl⟩
  rw [hv9] at k9 hb9 ⊢
  have HB91 := hide hb9
  clear hv9 hb5 hb6 hb7 hb9 k0 k1 k2 z0 z1 z2 s1
  refine (wpIn_wide (n := 6)).1 ?_
  refine wpIn_rangeFunc_ownG rfl (by omega) (gf := 30) (lb := #[.pointer (some ⟨v7.heap.size, 0, none⟩)]) rfl trivial (enters_of Tryd.func30 (by kernel_rfl) rfl)
    (allNob (α := Empty) 5 v9 v7.heap.size none (k9.cell 0) (NN1.out _ HB91.out) (fun x => nomatch x) (fun _ _ => True)) (fun _ _ => trivial) (fun _ _ _ _ _ _ _ _ => trivial) (Below.refl _ _) (fun x => nomatch x)
    (fun _ W => Below v9.heap.size v9 W) (fun _ _ _ => False) (ownFrom_below (Nat.le_refl _) (Nat.le_refl _)) (fun _ _ _ _ _ hs _ _ => hs) (Below.refl _ _) (fun x => nomatch x) (fun _ x => nomatch x) (fun _ _ x => nomatch x) ?done1 ?stop1
  case stop1 =>
    intro D c pre W _ h
    exact h.elim
  case done1 =>
  rintro D1 xs V2 hD1 - hbV2 hK1

  have hbV := HB91.out.trans (hbV2.mono HB91.out.size)
  have K0V2 : Hid (Blk V2 _ _ _) := hide (K0V1.out.below hbV K0V1.out.lt)
  have K1V2 : Hid (Blk V2 _ _ _) := hide (K1V1.out.below hbV K1V1.out.lt)
  have K2V2 : Hid (Blk V2 _ _ _) := hide (K2V1.out.below hbV K2V1.out.lt)
  have SV2 : Hid (Blk V2 _ _ _) := hide (SV1.out.below hbV SV1.out.lt)
  have NV2 : Hid (Nob V2 (some ⟨w.heap.size + 1 + 1, 0, none⟩)) := .inr ⟨_, rfl, K2V2.out.cell 0⟩
  have HBV2 := hide hbV
  have HD1 := hide hK1
  have HDle1 := hide hD1
  clear hbV hbV2 hK1 hD1 k9
  clear KK1 NN1 G11 G21 G31 G41 G51 G61 G71 G81
  go_wp2_with fail

  -- ROUND 2
  rw [rounds_succ]
  have KK2 : Hid (∀ u, Below V2.heap.size V2 u → (u.cell? ⟨w.heap.size, 0, none⟩ = some (.bool t) ∧ u.cell? ⟨w.heap.size, 1, none⟩ = some (.int .i64 n) ∧ u.cell? ⟨w.heap.size, 2, none⟩ = some (.string s))) := by
    intro u hu
    have a := (K0V2.out.below hu K0V2.out.lt).three
    exact ⟨a.1, a.2.1, a.2.2.1⟩
  have NN2 : Hid (∀ u, Below V2.heap.size V2 u → Nob u (some ⟨w.heap.size + 1 + 1, 0, none⟩)) := fun u hu => (NV2.out).below hu
  have G12 : Hid (∀ u, Below V2.heap.size V2 u → _) := hide (fun u hu => from_ hu (Get_nob u (some ⟨w.heap.size + 1 + 1, 0, none⟩) (NN2.out u hu) t n s))
  have G22 : Hid (∀ u, Below V2.heap.size V2 u → _) := hide (fun u hu => from_ hu (At_nob u (some ⟨w.heap.size + 1 + 1, 0, none⟩) (NN2.out u hu) i))
  have G32 : Hid (∀ u, Below V2.heap.size V2 u → _) := hide (fun u hu => from_ hu (Append_nob u (some ⟨w.heap.size + 1 + 1, 0, none⟩) (NN2.out u hu) i))
  have G42 : Hid (∀ u, Below V2.heap.size V2 u → _) := hide (fun u hu => from_ hu (Set_nob u (some ⟨w.heap.size + 1 + 1, 0, none⟩) (NN2.out u hu) t n s i))
  have G52 : Hid (∀ u, Below V2.heap.size V2 u → _) := hide (fun u hu => from_ hu (Del_nob u (some ⟨w.heap.size + 1 + 1, 0, none⟩) (NN2.out u hu) t n s))
  have G62 : Hid (∀ u, Below V2.heap.size V2 u → _) := hide (fun u hu => Len_nob u (some ⟨w.heap.size + 1 + 1, 0, none⟩) (NN2.out u hu))
  have G72 : Hid (∀ u, Below V2.heap.size V2 u → _) := hide (fun u hu => Next_nob u (some ⟨w.heap.size + 1 + 1, 0, none⟩) (NN2.out u hu))
  have G82 : Hid (∀ u, Below V2.heap.size V2 u → _) := hide (fun u hu => Copy_nob u (some ⟨w.heap.size + 1 + 1, 0, none⟩) (NN2.out u hu))
  have s2 := (SV2.out).cell 1
  obtain ⟨k0, k1, k2⟩ := KK2.out _ (Below.refl _ _)
  go_upto_region 7 with (first
    | (go_at_call 18; with_reducible refine (G12.out _ (Below.refl _ _)).mono ?_; rintro e v1 ⟨rfl, hb1⟩)
    | (go_at_call 23; with_reducible refine (G22.out _ (by assumption)).mono ?_; rintro e v2 ⟨rfl, hb2⟩)
    | (go_at_call 21; with_reducible refine (G32.out _ (Below.alloc (by assumption) (Below.size (by assumption)) _)).mono ?_; rintro e v4 ⟨rfl, hb4⟩))
  have kz2 := Blk.new v4 #[.bool false, .int .i64 0, .string ⟨#[]⟩] 30
  have hb5 := hb4.alloc hb4.size (.cells #[.bool false, .int .i64 0, .string ⟨#[]⟩] 30)
  obtain ⟨v5, hv5⟩ : ∃ v5, v4.alloc (.cells #[.bool false, .int .i64 0, .string ⟨#[]⟩] 30) = v5 := ⟨_, rfl⟩
  rw [hv5] at kz2 hb5 ⊢
  obtain ⟨z0, z1, z2, -⟩ := kz2.three
  obtain ⟨k0, k1, k2⟩ := KK2.out _ hb5
  clear hv5 kz2 hb1 hb2 hb4
  go_wp2_with (first
    | (go_at_call 17; with_reducible refine (G42.out _ hb5).mono ?_; rintro e v6 ⟨rfl, hb6⟩; obtain ⟨k0, k1, k2⟩ := KK2.out _ hb6)
    | (go_at_call 22; with_reducible refine (G52.out _ hb6).mono ?_; rintro e v7 ⟨rfl, hb7⟩)
    | (go_at_call 19; with_reducible refine (G62.out _ hb7).mono ?_; rintro e v8 ⟨rfl, rfl⟩)
    | (go_at_call 20; with_reducible refine (G72.out _ hb7).mono ?_; rintro e v8 ⟨rfl, rfl⟩)
    | (go_at_call 13; with_reducible refine (G82.out _ hb7).mono ?_; rintro e v8 ⟨rfl, rfl⟩)
    | (go_at_call 14; with_reducible refine (All_any _ _).mono ?_; rintro e v9 ⟨rfl, rfl⟩))

  have k9 := Blk.new v7 #[.pointer (some ⟨w.heap.size + 1 + 1, 0, none⟩)] 23
  have hb9 := hb7.alloc hb7.size (.cells #[.pointer (some ⟨w.heap.size + 1 + 1, 0, none⟩)] 23)
  obtain ⟨v9, hv9⟩ : ∃ v9, v7.alloc (.cells #[.pointer (some ⟨w.heap.size + 1 + 1, 0, none⟩)] 23) = v9 := ⟨_, rfl⟩
  rw [hv9] at k9 hb9 ⊢
  have HB92 := hide hb9
  clear hv9 hb5 hb6 hb7 hb9 k0 k1 k2 z0 z1 z2 s2
  refine (wpIn_wide (n := 6)).1 ?_
  refine wpIn_rangeFunc_ownG rfl (by omega) (gf := 30) (lb := #[.pointer (some ⟨v7.heap.size, 0, none⟩)]) rfl trivial (enters_of Tryd.func30 (by kernel_rfl) rfl)
    (allNob (α := Empty) 5 v9 v7.heap.size (some ⟨w.heap.size + 1 + 1, 0, none⟩) (k9.cell 0) (NN2.out _ HB92.out) (fun x => nomatch x) (fun _ _ => True)) (fun _ _ => trivial) (fun _ _ _ _ _ _ _ _ => trivial) (Below.refl _ _) (fun x => nomatch x)
    (fun _ W => Below v9.heap.size v9 W) (fun _ _ _ => False) (ownFrom_below (Nat.le_refl _) (Nat.le_refl _)) (fun _ _ _ _ _ hs _ _ => hs) (Below.refl _ _) (fun x => nomatch x) (fun _ x => nomatch x) (fun _ _ x => nomatch x) ?done2 ?stop2
  case stop2 =>
    intro D c pre W _ h
    exact h.elim
  case done2 =>
  rintro D2 xs V3 hD2 - hbV3 hK2

  have hbV := HB92.out.trans (hbV3.mono HB92.out.size)
  have K0V3 : Hid (Blk V3 _ _ _) := hide (K0V2.out.below hbV K0V2.out.lt)
  have K1V3 : Hid (Blk V3 _ _ _) := hide (K1V2.out.below hbV K1V2.out.lt)
  have K2V3 : Hid (Blk V3 _ _ _) := hide (K2V2.out.below hbV K2V2.out.lt)
  have SV3 : Hid (Blk V3 _ _ _) := hide (SV2.out.below hbV SV2.out.lt)
  have NV3 : Hid (Nob V3 (some ⟨w.heap.size + 1 + 1, 0, none⟩)) := .inr ⟨_, rfl, K2V3.out.cell 0⟩
  have HBV3 := hide hbV
  have HD2 := hide hK2
  have HDle2 := hide hD2
  clear hbV hbV3 hK2 hD2 k9
  clear KK2 NN2 G12 G22 G32 G42 G52 G62 G72 G82
  go_wp2_with fail

  rw [rounds_succ]
  have HAL := hide (alive_any V3 (HMW.out.below (HB0.out.trans ((HBV2.out.trans (HBV3.out.mono HBV2.out.size)).mono HB0.out.size))))
  have r1 := (K1V3.out).cell 0
  have r2 := (K1V3.out).free 0

  go_wp2_with (go_at_call 10; with_reducible refine (unhide HAL).mono ?_; rintro e v10 ⟨rfl, hb10⟩; have r3 := (K1V3.out.below hb10 K1V3.out.lt).cell 0; have r4 := (K1V3.out.below hb10 K1V3.out.lt).free 0)
  have k10 := (K1V3.out.below hb10 K1V3.out.lt).set 0 (.bool true)
  have hB : Below w.heap.size w (v10.setCell ⟨w.heap.size + 1, 0, none⟩ (.bool true)) :=
    (HB0.out.trans ((HBV2.out.trans ((HBV3.out.trans (hb10.mono HBV3.out.size)).mono HBV2.out.size)).mono HB0.out.size)).setCell (p := ⟨w.heap.size + 1, 0, none⟩) (Nat.le_succ _) _
  have l1 : D1 < V2.heap.size := (Array.getElem?_eq_some_iff.1 HD1.out).1
  have l2 : D2 < V3.heap.size := (Array.getElem?_eq_some_iff.1 HD2.out).1
  have hne : D1 ≠ D2 := by
    have a := HDle2.out
    have b := HB92.out.size
    omega
  have n1 : D1 ≠ w.heap.size + 1 := by
    rintro rfl
    have a := HD1.out
    have b := K1V2.out
    unfold Blk at b
    rw [b] at a
    cases a
  have n2 : D2 ≠ w.heap.size + 1 := by
    rintro rfl
    have a := HD2.out
    have b := K1V3.out
    unfold Blk at b
    rw [b] at a
    cases a
  have d1 : (v10.setCell ⟨w.heap.size + 1, 0, none⟩ (.bool true)).heap[D1]? = some (.deferred (some [])) := by
    rw [Below.heap_setCell _ _ _ _ n1, hb10.block D1 (Nat.lt_of_lt_of_le l1 HBV3.out.size), HBV3.out.block D1 l1]
    exact HD1.out
  have d2 : (v10.setCell ⟨w.heap.size + 1, 0, none⟩ (.bool true)).heap[D2]? = some (.deferred (some [])) := by
    rw [Below.heap_setCell _ _ _ _ n2, hb10.block D2 l2]
    exact HD2.out
  have g1 : w.heap.size ≤ D1 := Nat.le_trans HB0.out.size (Nat.le_trans HB91.out.size HDle1.out)
  have g2 : w.heap.size ≤ D2 := Nat.le_trans HB0.out.size (Nat.le_trans HBV2.out.size (Nat.le_trans HB92.out.size HDle2.out))
  refine leaves_marks [D2, D1] _ (by simp; exact fun h => hne h.symm) (by simp only [List.mem_cons, List.not_mem_nil, or_false]; rintro D (rfl | rfl); exact d2; exact d1) (fun w' h1 h2 h3 h4 h5 => ?_)
  have k11 : Blk w' (w.heap.size + 1) _ _ := k10.same (h1 _ (by simp only [List.mem_cons, List.not_mem_nil, or_false, not_or]; exact ⟨Ne.symm n2, Ne.symm n1⟩))
  have r5 := k11.cell 0
  refine ⟨.bool true, ?_, rfl, ⟨h3.trans hB.os, h4.trans hB.tape, h5.trans hB.output, by rw [h2]; exact hB.size, fun k hk => ?_⟩⟩
  · simp [results, Tryd.results8, go_sem, r5]
  · rw [h1 k (by simp only [List.mem_cons, List.not_mem_nil, or_false, not_or]; omega)]
    exact hB.block k hk
end Go.Proofs.YtbbmfpffanhgnaaDoor
