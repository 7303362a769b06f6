/-
  Contracts of package list's Norm and nextBehind.
-/
import Derived.Test.YtmfnonepcipplaaDoorLBase
namespace Go.Proofs.YtmfnonepcipplaaDoor
open Go Go.RowKit Convs Lists

theorem kv_of (t : Bool) (n : Int) (s : ByteArray) : kv ⟨t, n, s.data.toList⟩ = .agg #[.bool t, .int .i64 n, .string s] := rfl
theorem below_box (w : World) (o : Obj) : Below w.heap.size w (w.alloc o) := (Below.refl _ _).alloc (Nat.le_refl _) _
theorem below_box2 (w : World) (o o' : Obj) : Below w.heap.size w ((w.alloc o).alloc o') := (below_box w o).alloc (by simp) _

/-- What two boxes leave in a world behind a call. -/
theorem boxes_at {w w1 : World} {c0 c1 : Array Value} {T0 T1 : TypeId} (hb : Below ((w.alloc (.cells c0 T0)).alloc (.cells c1 T1)).heap.size ((w.alloc (.cells c0 T0)).alloc (.cells c1 T1)) w1) :
    Blk w1 w.heap.size c0 T0 ∧ Blk w1 (w.heap.size + 1) c1 T1 := by
  have h0 : Blk ((w.alloc (.cells c0 T0)).alloc (.cells c1 T1)) w.heap.size c0 T0 := (Blk.new w c0 T0).alloc _
  have h1 : Blk ((w.alloc (.cells c0 T0)).alloc (.cells c1 T1)) (w.alloc (.cells c0 T0)).heap.size c1 T1 := Blk.new _ c1 T1
  rw [World.size_alloc] at h1
  exact ⟨h0.below hb h0.lt, h1.below hb h1.lt⟩

theorem below_three {w w1 : World} {b : Nat} (hb : Below w.heap.size w w1) (hB : w.heap.size ≤ b) (x y z : Value) :
    Below w.heap.size w (((w1.setCell ⟨b, 0, none⟩ x).setCell ⟨b, 1, none⟩ y).setCell ⟨b, 2, none⟩ z) :=
  ((hb.setCell (p := ⟨b, 0, none⟩) hB x).setCell (p := ⟨b, 1, none⟩) hB y).setCell (p := ⟨b, 2, none⟩) hB z

set_option maxHeartbeats 1000000 in
theorem Norm_any (t : Bool) (n : Int) (s : ByteArray) (w : World) (hM : Met w) (hs : s.size ≤ 281474976710656) :
    Calls Tryd.prog 26 #[.agg #[.bool t, .int .i64 n, .string s]] w fun e w' => e = .returned (kv (normT ⟨t, n, s.data.toList⟩)) ∧ Below w.heap.size w w' := by
  have hb := below_box2 w (.cells #[.bool t, .int .i64 n, .string s] 30) (.cells #[.bool false, .int .i64 0, .string ⟨#[]⟩] 30)
  have hE := normT_keyNum ⟨t, n, s.data.toList⟩
  cases t
  · simp only [Bool.false_eq_true, if_false] at hE
    have HE := hide hE
    clear hE hM
    go_enter Tryd.func26, Tryd.ntmps26
    go_wp2_with fail
    exact bodyPost_ret (v := .agg #[.bool false, .int .i64 n, .string ⟨#[]⟩]) (by simp [results, Tryd.results26, go_sem]) rfl ⟨by rw [HE.out]; rfl, below_box2 w _ _⟩
  · simp only [if_true] at hE
    have HN := hide (number_any s _ (hM.below hb) hs)
    cases hk : (keyNum s.data.toList).2
    · rw [hk] at hE HN
      simp only [Bool.false_eq_true, if_false] at hE
      generalize (keyNum s.data.toList).1 = m at HN hE
      have HE := hide hE
      clear hE hM hk
      go_enter Tryd.func26, Tryd.ntmps26
      go_wp2_with fail
      with_reducible refine (unhide HN).mono ?_
      rintro e w1 ⟨rfl, hb1⟩
      obtain ⟨k0, k1⟩ := boxes_at hb1
      obtain ⟨c0, c1, c2, f0, f1, f2⟩ := k0.three
      obtain ⟨d0, d1, d2, g0, g1, g2⟩ := k1.three
      go_wp2_with fail
      exact bodyPost_ret (v := .agg #[.bool true, .int .i64 0, .string s]) (by simp [results, Tryd.results26, go_sem, d0, d1, d2]) rfl ⟨by rw [HE.out]; rfl, below_three (hb.trans (hb1.mono hb.size)) (by omega) _ _ _⟩
    · rw [hk] at hE HN
      simp only [if_true] at hE
      generalize (keyNum s.data.toList).1 = m at HN hE
      have HE := hide hE
      clear hE hM hk
      go_enter Tryd.func26, Tryd.ntmps26
      go_wp2_with fail
      with_reducible refine (unhide HN).mono ?_
      rintro e w1 ⟨rfl, hb1⟩
      obtain ⟨k0, k1⟩ := boxes_at hb1
      obtain ⟨c0, c1, c2, f0, f1, f2⟩ := k0.three
      obtain ⟨d0, d1, d2, g0, g1, g2⟩ := k1.three
      go_wp2_with fail
      exact bodyPost_ret (v := .agg #[.bool false, .int .i64 m, .string ⟨#[]⟩]) (by simp [results, Tryd.results26, go_sem, d0, d1, d2]) rfl ⟨by rw [HE.out]; rfl, below_three (hb.trans (hb1.mono hb.size)) (by omega) _ _ _⟩

theorem nextBehind_any (nx : Int) (t : Bool) (n : Int) (s : ByteArray) (w : World) (h0 : -1 ≤ nx) (h1 : nx ≤ 9223372036854775807) (n0 : -9223372036854775808 ≤ n) (n1 : n ≤ 9223372036854775807) :
    Calls Tryd.prog 33 #[.int .i64 nx, .agg #[.bool t, .int .i64 n, .string s]] w fun e w' => e = .returned (.int .i64 (nextT nx ⟨t, n, s.data.toList⟩)) ∧ Below w.heap.size w w' := by
  have hb := below_box w (.cells #[.bool t, .int .i64 n, .string s] 30)
  cases t
  · by_cases c1 : nx = -1
    · subst c1
      go_enter Tryd.func33, Tryd.ntmps33
      go_wp2_with fail
      go_ret
      exact ⟨ret_int (by simp [nextT]), hb⟩
    · by_cases c2 : n < nx
      · have e1 : (nx == -1) = false := by simpa using c1
        have HE : Hid (nextT nx ⟨false, n, s.data.toList⟩ = nx) := by show _ = _; unfold nextT; rw [if_neg]; rintro ⟨_, _, h⟩; simp only at h; omega
        clear c1
        go_enter Tryd.func33, Tryd.ntmps33
        go_wp2_with fail
        go_ret
        exact ⟨ret_int HE.out.symm, hb⟩
      · by_cases c3 : n = 9223372036854775807
        · have e1 : (nx == -1) = false := by simpa using c1
          have HE : Hid (nextT nx ⟨false, n, s.data.toList⟩ = -1) := by
            show _ = _; unfold nextT most; rw [if_pos ⟨rfl, by omega, by simp only; omega⟩, if_neg (by simp only; omega)]
          subst c3
          clear c1
          go_enter Tryd.func33, Tryd.ntmps33
          go_wp2_with fail
          go_ret
          exact ⟨ret_int HE.out.symm, hb⟩
        · have e1 : (nx == -1) = false := by simpa using c1
          have e3 : (n == 9223372036854775807) = false := by simpa using c3
          have HE : Hid (nextT nx ⟨false, n, s.data.toList⟩ = n + 1) := by
            show _ = _; unfold nextT most; rw [if_pos ⟨rfl, by omega, by simp only; omega⟩, if_pos (by simp only; omega)]
          have n2 : n + 1 ≤ 9223372036854775807 := by omega
          clear c1 c3
          go_enter Tryd.func33, Tryd.ntmps33
          go_wp2_with fail
          go_ret
          exact ⟨ret_int HE.out.symm, hb⟩
  · go_enter Tryd.func33, Tryd.ntmps33
    go_wp2_with fail
    go_ret
    exact ⟨ret_int (by simp [nextT]), hb⟩
end Go.Proofs.YtmfnonepcipplaaDoor
