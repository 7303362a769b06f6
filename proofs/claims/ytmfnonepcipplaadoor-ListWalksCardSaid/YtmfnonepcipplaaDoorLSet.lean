/-
  The contract of package list's Set.
-/
import Derived.Test.YtmfnonepcipplaaDoorLAdd
namespace Go.Proofs.YtmfnonepcipplaaDoor
open Go Go.RowKit Convs Lists

theorem normT_ok {k : K} (h : Kok k) : Kok (normT k) := by
  obtain ⟨h0, h1, h2⟩ := h
  rw [normT_keyNum]
  have hb := keyNum_bounds k.s
  unfold least most at hb
  split
  · split
    · exact ⟨hb.1, hb.2, by simp⟩
    · exact ⟨by simp, by simp, h2⟩
  · exact ⟨h0, h1, by simp⟩
/-- A key's one form, by its cells. -/
theorem norm_cells (k : K) : ∃ (t : Bool) (n : Int) (s : ByteArray), normT k = ⟨t, n, s.data.toList⟩ ∧ kv (normT k) = .agg #[.bool t, .int .i64 n, .string s] :=
  ⟨(normT k).t, (normT k).n, ⟨(normT k).s.toArray⟩, rfl, rfl⟩
theorem normT_normed {k : K} {t : Bool} {n : Int} {s : ByteArray} (h : normT k = ⟨t, n, s.data.toList⟩) : normT ⟨t, n, s.data.toList⟩ = ⟨t, n, s.data.toList⟩ := by rw [← h]; exact normT_idem k

theorem LPost.from {B : Nat} {w w2 : World} {lb mb : Nat} {iv : Value} {lent : Bool} {l' : Ls} {r : Value} {e : Ending} {w' : World} (hb : Below w.heap.size w w2) (h : LPost B w2 lb mb iv lent l' r e w') : LPost B w lb mb iv lent l' r e w' := by
  obtain ⟨mb', iv', lent', h1, h2, h3⟩ := h
  have step0 : Stepped w w2 lb mb iv lent mb iv lent := ⟨.of_below hb, fun _ h => .inl h, fun _ h => .inl h⟩
  exact ⟨mb', iv', lent', h1, h2, step0.trans h3⟩

theorem encItems_set : ∀ (l : List (K × Int)) (j : Nat) (k : K) (v v0 : Int), l[j]? = some (k, v0) → (encItems l).set (j * 4 + 3) (.int .i64 v) = encItems (l.set j (k, v))
  | [], j, k, v, v0, h => by simp at h
  | x :: r, 0, k, v, v0, h => by
    simp only [List.getElem?_cons_zero, Option.some.injEq] at h
    subst h
    simp [encItems, itemV]
  | x :: r, j + 1, k, v, v0, h => by
    have ih := encItems_set r j k v v0 (by simpa using h)
    have e : encItems (x :: r) = itemV x ++ encItems r := by simp [encItems]
    have e2 : encItems ((x :: r).set (j + 1) (k, v)) = itemV x ++ encItems (r.set j (k, v)) := by simp [encItems]
    have hl : (itemV x).length = 4 := rfl
    rw [e, e2, ← ih, List.set_append_right _ _ (by omega), hl]
    congr 2
    omega

theorem isSome_place {l : List (K × Int)} {k : K} (h : hasI l k = false) : (placeOf l k).getD 0 = 0 ∧ (placeOf l k).isSome = false := by rw [placeOf_none l k h]; exact ⟨rfl, rfl⟩
/-- The look-up of a key that is not there. -/
theorem look_none {B : Nat} {w : World} {lb mb : Nat} {iv : Value} {lent : Bool} {l : Ls} (h : Lst B w lb mb iv lent l) {k : K} (hk : Kok k) (hh : hasI l.items k = false) (W : World) (hW : W.heap = w.heap) :
    (Instr.lookup 47 (.map (some mb)) (kv k) true).run Tryd.prog W = .ok (.tuple #[.int .i64 0, .bool false]) W := by
  have := (h.map.same (w' := W) (by rw [hW])).look k hk
  rw [placeOf_none _ _ hh] at this
  exact this
theorem look_some {B : Nat} {w : World} {lb mb : Nat} {iv : Value} {lent : Bool} {l : Ls} (h : Lst B w lb mb iv lent l) {k : K} (hk : Kok k) {j : Nat} (hp : placeOf l.items k = some (j : Int)) (W : World) (hW : W.heap = w.heap) :
    (Instr.lookup 47 (.map (some mb)) (kv k) true).run Tryd.prog W = .ok (.tuple #[.int .i64 j, .bool true]) W := by
  have := (h.map.same (w' := W) (by rw [hW])).look k hk
  rw [hp] at this
  exact this

theorem set_close {B : Nat} {w w2 w3 : World} {lb mb mb3 g cap3 : Nat} {iv : Value} {lent : Bool} {l : Ls} {k : K} {v v0 : Int} {j : Nat} (hb : Below w.heap.size w w2)
    (h3 : Lst B w3 lb mb3 (.slice (some ⟨g, 0, none⟩) l.items.length cap3) false l) (s3 : Stepped w2 w3 lb mb iv lent mb3 (.slice (some ⟨g, 0, none⟩) l.items.length cap3) false)
    (hn : normT k = k) (hk : Kok k) (hh : hasI l.items k = true) (hat : l.items[j]? = some (k, v0)) (hpl : placeOf l.items k = some (j : Int)) :
    LPost B w lb mb iv lent (l.set k v).1 (.int .i64 (fullN (l.set k v).2)) (.returned (.int .i64 0)) (w3.setCell ⟨g, j * 4 + 3, none⟩ (.int .i64 v)) := by
  have e : l.set k v = (⟨putI l.items k v, l.next⟩, false) := by unfold Ls.set; rw [if_pos hh]
  have hgood := h3.good.set k v hn
  have hkeys := keys_set (v := v) hk h3.keys
  have hput := putI_at l.items k v j v0 hat hpl
  have hrow := (h3.row.stored (j * 4 + 3) (.int .i64 v)).1
  rw [encItems_set _ _ _ _ _ hat, ← hput] at hrow
  rw [e] at hgood hkeys ⊢
  have hg_lb : lb ≠ g := by
    rintro rfl
    obtain ⟨_, _, cs, hcs⟩ := ownsRow_lt h3.row rfl
    exact absurd (hcs.inj h3.blk) (by decide)
  have hg_mb : mb3 ≠ g := by
    rintro rfl
    obtain ⟨_, _, cs, hcs⟩ := ownsRow_lt h3.row rfl
    obtain ⟨es, clock, hm⟩ := h3.map.isMap
    unfold Blk at hcs
    rw [hm] at hcs
    cases hcs
  refine LPost.from hb ⟨mb3, _, false, rfl, ⟨h3.blk.far _ _ hg_lb, ?_, ?_, hgood, hkeys, h3.hlb, h3.hmb⟩, s3.trans ⟨.setCell _ _ _ (.inr ⟨rfl, .inl rfl⟩), fun _ h => .inl h, fun _ h => .inl h⟩⟩
  · rw [putI_len]; exact hrow
  · refine (h3.map.same (Below.heap_setCell _ _ _ _ hg_mb)).ext (fun j => ?_)
    unfold placeOf
    rw [placeI_put]

set_option maxRecDepth 100000 in
set_option maxHeartbeats 2000000 in
theorem Set_any {B : Nat} {w : World} {lb mb : Nat} {iv : Value} {lent : Bool} {l : Ls} (h : Lst B w lb mb iv lent l) (hM : Met w) (t0 : Bool) (n0 : Int) (s0 : ByteArray) (v : Int)
    (hk0 : Kok ⟨t0, n0, s0.data.toList⟩) (hs0 : s0.size ≤ 281474976710656) :
    Calls Tryd.prog 12 #[.pointer (some ⟨lb, 0, none⟩), .agg #[.bool t0, .int .i64 n0, .string s0], .int .i64 v] w
      (LPost B w lb mb iv lent (l.set (normT ⟨t0, n0, s0.data.toList⟩) v).1 (.int .i64 (fullN (l.set (normT ⟨t0, n0, s0.data.toList⟩) v).2))) := by
  obtain ⟨t, n, s, hnk, hkv⟩ := norm_cells ⟨t0, n0, s0.data.toList⟩
  have hk : Kok ⟨t, n, s.data.toList⟩ := by rw [← hnk]; exact normT_ok hk0
  have hnn := normT_normed hnk
  have hN := fun W => fun (hM : Met W) => Norm_any t0 n0 s0 W hM hs0
  rw [hkv] at hN
  rw [hnk]
  have h0 := h.alloc (.cells #[.bool t0, .int .i64 n0, .string s0] 30)
  have hb0 := below_box w (.cells #[.bool t0, .int .i64 n0, .string s0] 30)
  have hkb := Blk.new w #[.bool t0, .int .i64 n0, .string s0] 30
  obtain ⟨W0, hW0⟩ : ∃ W0, w.alloc (.cells #[.bool t0, .int .i64 n0, .string s0] 30) = W0 := ⟨_, rfl⟩
  rw [hW0] at h0 hb0 hkb
  have hN0 := hN W0 (hM.below hb0)
  have HN := hide hN0
  have HW0 := hide hW0
  obtain ⟨c0, c1, c2, c3, c4, f0, f1, f2, f3, f4⟩ := h0.cells
  obtain ⟨b0, b1, b2, q0, q1, q2⟩ := hkb.three
  have HM := hide (isMade_any W0 lb c0)
  have HKB := hide hkb
  have HL := hide h0
  have HI := hide h
  have HB := hide hb0
  have HK := hide hk
  have HNN := hide hnn
  have HLT := hide h.blk.lt
  clear hN hN0 hW0 h0 hb0 hkb h hM hnk hkv hk0 hk hnn
  go_enter Tryd.func12, Tryd.ntmps12
  go_upto_region 1 with fail
  rw [HW0.out]
  go_wp2_with (go_at_call 24; with_reducible refine (unhide HM).mono ?_; rintro e w1 ⟨rfl, rfl⟩)
  refine (unhide HN).mono ?_
  rintro e w1 ⟨rfl, hb1⟩
  have kb1 := HKB.out.below hb1 HKB.out.lt
  obtain ⟨b0, b1, b2, q0, q1, q2⟩ := kb1.three
  have HB1 := hide hb1
  have KB1 := hide kb1
  clear hb1 kb1
  go_upto_region 4 with fail
  have k2 := ((KB1.out.set 0 (.bool t)).set 1 (.int .i64 n)).set 2 (.string s)
  have hl2 : Lst B (((w1.setCell ⟨w.heap.size, 0, none⟩ (.bool t)).setCell ⟨w.heap.size, 1, none⟩ (.int .i64 n)).setCell ⟨w.heap.size, 2, none⟩ (.string s)) lb mb iv lent l :=
    HI.out.same (fun k hk => by
      have hlt := HI.out.fp_lt hk
      rw [Below.heap_setCell _ _ _ _ (by show k ≠ w.heap.size; omega), Below.heap_setCell _ _ _ _ (by show k ≠ w.heap.size; omega), Below.heap_setCell _ _ _ _ (by show k ≠ w.heap.size; omega),
        HB1.out.block k (Nat.lt_of_lt_of_le hlt HB.out.size), HB.out.block k hlt])
  have hb2 : Below w.heap.size w (((w1.setCell ⟨w.heap.size, 0, none⟩ (.bool t)).setCell ⟨w.heap.size, 1, none⟩ (.int .i64 n)).setCell ⟨w.heap.size, 2, none⟩ (.string s)) :=
    below_three (HB.out.trans (HB1.out.mono HB.out.size)) (Nat.le_refl _) _ _ _
  obtain ⟨w2, hw2⟩ : ∃ w2, ((w1.setCell ⟨w.heap.size, 0, none⟩ (.bool t)).setCell ⟨w.heap.size, 1, none⟩ (.int .i64 n)).setCell ⟨w.heap.size, 2, none⟩ (.string s) = w2 := ⟨_, rfl⟩
  rw [hw2] at k2 hl2 hb2 ⊢
  clear hw2
  obtain ⟨A, cap, hiv, hc1, hc2, hA⟩ := hl2.form
  obtain ⟨c0, c1, c2, c3, c4, f0, f1, f2, f3, f4⟩ := hl2.cells
  obtain ⟨b0, b1, b2, q0, q1, q2⟩ := k2.three
  subst hiv
  cases hh : hasI l.items ⟨t, n, s.data.toList⟩
  · have hlk := fun m => look_none hl2 HK.out hh (w2.drewN m) rfl
    have hlk' := look_none hl2 HK.out hh w2.drew rfl
    rw [kv_of] at hlk'
    have hl3 : Lst B w2.drew lb mb (.slice A l.items.length cap) lent l := hl2.same (fun _ _ => rfl)
    have HADD := hide (add_any hl3 t n s v HK.out HNN.out hh)
    have HB2 := hide hb2.drew
    clear hl2 k2 hh hb2 hA hlk hl3
    go_region_held3 (fun w' => w'.cell? ⟨lb, 2, none⟩ = some (.map (some mb)) ∧ w'.cell? ⟨w.heap.size, 0, none⟩ = some (.bool t) ∧ w'.cell? ⟨w.heap.size, 1, none⟩ = some (.int .i64 n) ∧ w'.cell? ⟨w.heap.size, 2, none⟩ = some (.string s) ∧
        (Instr.lookup 47 (.map (some mb)) (.agg #[.bool t, .int .i64 n, .string s]) true).run Tryd.prog w' = .ok (.tuple #[.int .i64 0, .bool false]) w')
      (first | exact ⟨by assumption, by assumption, by assumption, by assumption, by assumption⟩ | go_keep)
      (first | fail)
    clear hlk'
    go_wp2_with fail
    refine (unhide HADD).mono ?_
    rintro e w3 ⟨mb3, iv3, lent3, rfl, hl3, hs3⟩
    have H3 : Hid (LPost B w lb mb (.slice A l.items.length cap) lent (l.set ⟨t, n, s.data.toList⟩ v).1 (.int .i64 (fullN (l.set ⟨t, n, s.data.toList⟩ v).2)) (.returned (.int .i64 (fullN (l.set ⟨t, n, s.data.toList⟩ v).2))) w3) :=
      LPost.from HB2.out ⟨mb3, iv3, lent3, rfl, hl3, hs3⟩
    clear hl3 hs3
    go_wp2_with fail
    go_ret
    exact H3.out
  · obtain ⟨j, v0, hpl, hj, hat, _⟩ := placeOf_some l.items _ hh
    have hlk' := look_some hl2 HK.out hpl w2.drew rfl
    rw [kv_of] at hlk'
    have hl3 : Lst B w2.drew lb mb (.slice A l.items.length cap) lent l := hl2.same (fun _ _ => rfl)
    have HOWN := hide (own_any hl3)
    have HB2 := hide hb2.drew
    have HAT := hide hat
    have HPL := hide hpl
    have HH := hide hh
    have j0 : (0 : Int) ≤ (j : Int) := by omega
    have j1 : (j : Int) < (l.items.length : Int) := by omega
    clear hl2 k2 hh hb2 hA hl3 hpl hat
    go_region_held3 (fun w' => w'.cell? ⟨lb, 2, none⟩ = some (.map (some mb)) ∧ w'.cell? ⟨w.heap.size, 0, none⟩ = some (.bool t) ∧ w'.cell? ⟨w.heap.size, 1, none⟩ = some (.int .i64 n) ∧ w'.cell? ⟨w.heap.size, 2, none⟩ = some (.string s) ∧
        (Instr.lookup 47 (.map (some mb)) (.agg #[.bool t, .int .i64 n, .string s]) true).run Tryd.prog w' = .ok (.tuple #[.int .i64 j, .bool true]) w')
      (first | exact ⟨by assumption, by assumption, by assumption, by assumption, by assumption⟩ | go_keep)
      (first | fail)
    clear hlk'
    go_wp2_with fail
    refine (unhide HOWN).mono ?_
    rintro e w3 ⟨mb3, iv3, rfl, hl3, hs3⟩
    obtain ⟨A3, cap3, hiv3, hc31, hc32, hA3⟩ := hl3.form
    obtain ⟨g, hg, _, _⟩ := hA3 (by omega)
    subst hg
    subst hiv3
    obtain ⟨c0, c1, c2, c3, c4, f0, f1, f2, f3, f4⟩ := hl3.cells
    have r0 : w3.frozen? ⟨g, j * 4 + 3, none⟩ = false := hl3.row.frozenAt _
    have r1 : w3.cell? ⟨g, j * 4 + 3, none⟩ = some (.int .i64 v0) := by
      rw [hl3.row.cellAt _ (by omega)]
      exact (encItems_at _ _ _ HAT.out).2.2.2
    have H3 := hide hl3
    have S3 := hide hs3
    clear hl3 hs3
    go_wp2_with fail
    go_ret
    exact set_close HB2.out H3.out S3.out HNN.out HK.out HH.out HAT.out HPL.out
end Go.Proofs.YtmfnonepcipplaaDoor
