/-
  The contract of the document's answer for what opens code: its 'php'.
-/
import Derived.Test.YtbeglmolgloepaaDoorRefB1
import Derived.Test.YtbeglmolgloepaaDoorPieces
namespace Go.Proofs.YtbeglmolgloepaaDoor
open Go Go.RowKit Cutting

theorem php_none (s : ByteArray) (n : Nat) (w : World) (hs : s.size ≤ 65536) (hn : n ≤ s.size) (h : Lib.hasPrefix (s.data.toList.drop n) [60, 63] = false ∨ s.size < n + 5) :
    Calls Tryd.prog 21 #[.string s, .int .i64 n] w fun e w' => e = .returned (.int .i64 (phpN (s.data.toList.drop n))) ∧ w = w' := by
  have hlen : (s.data.toList.drop n).length = s.size - n := by rw [List.length_drop, ← Lib.size_eq]
  have hp : isPhp (s.data.toList.drop n) = false := by
    rcases h with h | h
    · rw [← Bool.not_eq_true]
      intro hp
      have h5 := isPhp_len _ hp
      match e : s.data.toList.drop n, h5 with
      | a :: b :: r', _ =>
        rw [e] at hp h
        simp only [isPhp, beq_iff_eq, List.take_succ_cons, List.map_cons, List.cons.injEq] at hp
        have e1 : a = 60 := by
          have := foldEq_low a 60 (.inl rfl)
          rw [hp.1, beq_self_eq_true] at this
          simp only [Lib.foldEq, decide_eq_true_eq] at this
          apply UInt8.toNat_inj.1; simp at this ⊢; omega
        have e2 : b = 63 := by
          have := foldEq_low b 63 (.inr (.inl rfl))
          rw [hp.2.1, beq_self_eq_true] at this
          simp only [Lib.foldEq, decide_eq_true_eq] at this
          apply UInt8.toNat_inj.1; simp at this ⊢; omega
        rw [e1, e2] at h
        simp [Lib.hasPrefix] at h
    · exact isPhp_short _ (by omega)
  have HN : Hid (phpN (s.data.toList.drop n) = 0) := by show _ = _; simp [phpN, hp]
  clear hp hlen
  cases ha : Lib.hasPrefix (s.data.toList.drop n) [60, 63]
  · have HA := Lib.hid ha
    clear ha h
    go_enter Tryd.func21, Tryd.ntmps21
    go_wp2_with (go_at_call 20; refine (At_b _ _ _ false _ (by omega) (by omega) (by omega) (by show 2 ≤ 140737488351232; omega) (.inl (by show 0 < 2; omega)) (by rw [Int.toNat_natCast]; exact HA.out)).mono ?_; rintro e w' ⟨rfl, rfl⟩)
    go_ret
    exact ⟨ret_int (by rw [HN.out]; rfl), rfl⟩
  · have h5 : s.size < n + 5 := by
      rcases h with h | h
      · rw [ha] at h; cases h
      · exact h
    have HA := Lib.hid ha
    clear ha h
    go_enter Tryd.func21, Tryd.ntmps21
    go_wp2_with (go_at_call 20; refine (At_b _ _ _ true _ (by omega) (by omega) (by omega) (by show 2 ≤ 140737488351232; omega) (.inl (by show 0 < 2; omega)) (by rw [Int.toNat_natCast]; exact HA.out)).mono ?_; rintro e w' ⟨rfl, rfl⟩)
    go_ret
    exact ⟨ret_int (by rw [HN.out]; rfl), rfl⟩

set_option maxHeartbeats 4000000 in
theorem php_some (s : ByteArray) (n : Nat) (w : World) (hs : s.size ≤ 65536) (h5 : n + 5 ≤ s.size) (ha : Lib.hasPrefix (s.data.toList.drop n) [60, 63] = true) :
    Calls Tryd.prog 21 #[.string s, .int .i64 n] w fun e w' => e = .returned (.int .i64 (phpN (s.data.toList.drop n))) ∧ Below w.heap.size w w' := by
  have i1 : (n : Int) + 2 ≤ (n : Int) + 5 := by omega
  have i2 : (n : Int) + 5 ≤ (s.size : Int) := by omega
  have i3 : (0 : Int) ≤ (n : Int) + 2 := by omega
  have i4 : ((n : Int) + 2).toNat = n + 2 := by omega
  have i5 : ((n : Int) + 5).toNat = n + 5 := by omega
  have i6 : ¬ ((s.size : Int) < (n : Int) + 5) := by omega
  obtain ⟨x, hx⟩ : ∃ x, x = s[n + 2] := ⟨_, rfl⟩
  obtain ⟨y, hy⟩ : ∃ y, y = s[n + 3] := ⟨_, rfl⟩
  obtain ⟨z, hz⟩ : ∃ z, z = s[n + 4] := ⟨_, rfl⟩
  have hd : s.data.toList.drop n = 60 :: 63 :: x :: y :: z :: s.data.toList.drop (n + 5) := by
    have d0 := drop_at s n (by omega)
    have d1 := drop_at s (n + 1) (by omega)
    have d2 := drop_at s (n + 2) (by omega)
    have d3 := drop_at s (n + 3) (by omega)
    have d4 := drop_at s (n + 4) (by omega)
    rw [d1, d2, d3, d4, ← hx, ← hy, ← hz] at d0
    rw [d0] at ha
    obtain ⟨t, ht⟩ := List.isPrefixOf_iff_prefix.1 ha
    simp at ht
    rw [d0, ← ht.1, ← ht.2.1]
  have hphp : isPhp (s.data.toList.drop n) = ([lowB x, lowB y, lowB z] == [112, 104, 112]) := by
    rw [hd, isPhp]
    have l1 : lowB 60 = 60 := by decide
    have l2 : lowB 63 = 63 := by decide
    rw [Bool.eq_iff_iff]
    simp [l1, l2]
  have hd5 : (s.data.toList.drop n).drop 5 = s.data.toList.drop (n + 5) := by rw [List.drop_drop]
  obtain ⟨E, hE⟩ : ∃ E, E = s.extract (n + 2) (n + 5) := ⟨_, rfl⟩
  have hEs : E.size = 3 := by rw [hE]; simp; omega
  have hEl : E.data.toList = [x, y, z] := by
    have e2 : s.data.toList.drop (n + 2) = x :: y :: z :: s.data.toList.drop (n + 5) := by
      have := congrArg (List.drop 2) hd
      rw [List.drop_drop] at this
      exact this
    rw [hE, Lib.extract_data, e2, show n + 5 - (n + 2) = 3 from by omega]
    rfl
  have hnew := Three.new w E x y z hEl (grownCap w E.size 0 5) 5
  have hconv := fun W : World => run_bytes_of_string (P := Tryd.prog) W 9 46 5 E Tryd.underlying9 Tryd.underlying46 Tryd.underlying5
  rw [hEs] at hconv hnew
  rw [hE] at hconv hnew
  have HA := Lib.hid ha
  have HPHP := Lib.hid hphp
  have HD5 := Lib.hid hd5
  have HNEW := Lib.hid hnew
  clear hE hEs hEl hd hx hy hz ha hphp hd5 hnew
  go_enter Tryd.func21, Tryd.ntmps21
  go_wp2_with (go_at_call 20; refine (At_b _ _ _ true _ (by omega) (by omega) (by omega) (by show 2 ≤ 140737488351232; omega) (.inl (by show 0 < 2; omega)) (by rw [Int.toNat_natCast]; exact HA.out)).mono ?_; rintro e w' ⟨rfl, rfl⟩)
  have hnew := HNEW.out
  clear hconv HNEW
  generalize (w.alloc (Obj.cells (bytesRow (s.extract (n + 2) (n + 5)) (grownCap w 3 0 5)) 5 ((bytesRow (s.extract (n + 2) (n + 5)) (grownCap w 3 0 5)).size, (bytesRow (s.extract (n + 2) (n + 5)) (grownCap w 3 0 5)).size + 1))).drew = W1 at hnew
  obtain ⟨cap, hcap⟩ : ∃ cap, cap = grownCap w 3 0 5 := ⟨_, rfl⟩
  obtain ⟨B, hB⟩ : ∃ B, B = w.heap.size := ⟨_, rfl⟩
  rw [← hcap, ← hB]
  rw [← hB] at hnew
  have HB := Lib.hid hB
  clear hcap hB
  have bx := x.toNat_lt; have by_ := y.toNat_lt; have bz := z.toNat_lt
  go_loopw [6] (fun i wr => ∃ k : Nat, i = .int .i64 k ∧ Hid ((k = 0 ∧ Three B w wr x y z) ∨ (k = 1 ∧ Three B w wr (lowB x) y z) ∨ (k = 2 ∧ Three B w wr (lowB x) (lowB y) z) ∨ (k = 3 ∧ Three B w wr (lowB x) (lowB y) (lowB z)))) (fun i _ => 4 - (intOf i).toNat)
  case atStart => exact ⟨0, rfl, .inl ⟨rfl, hnew⟩⟩
  case round =>
    obtain ⟨k, rfl, hrel⟩ := hrel
    rcases hrel.out with ⟨rfl, h3⟩ | ⟨rfl, h3⟩ | ⟨rfl, h3⟩ | ⟨rfl, h3⟩
    · have c0 := h3.c0; have c1 := h3.c1; have c2 := h3.c2; have f0 := h3.f0; have f1 := h3.f1; have f2 := h3.f2
      by_cases hu : 65 ≤ (x.toNat : Int) ∧ (x.toNat : Int) ≤ 90
      · have hl := Lib.hid (low_up x hu)
        obtain ⟨hu1, hu2⟩ := hu
        have hs3 := Lib.hid (h3.set0 (lowB x))
        go_wp2_with fail
        go_roundw
        case rel => exact ⟨1, by go_num, by
          have := hs3.out
          rw [hl.out] at this
          exact .inr (.inl ⟨rfl, this⟩)⟩
        case measure => simp [intOf]
      · have hl := Lib.hid (low_no x hu)
        by_cases hu1 : 65 ≤ (x.toNat : Int)
        · have hu2 : ¬ (x.toNat : Int) ≤ 90 := fun h => hu ⟨hu1, h⟩
          clear hu
          go_wp2_with fail
          go_roundw
          case rel => exact ⟨1, by go_num, by
            have := h3
            rw [← hl.out] at this
            exact .inr (.inl ⟨rfl, this⟩)⟩
          case measure => simp [intOf]
        · clear hu
          go_wp2_with fail
          go_roundw
          case rel => exact ⟨1, by go_num, by
            have := h3
            rw [← hl.out] at this
            exact .inr (.inl ⟨rfl, this⟩)⟩
          case measure => simp [intOf]
    · have c0 := h3.c0; have c1 := h3.c1; have c2 := h3.c2; have f0 := h3.f0; have f1 := h3.f1; have f2 := h3.f2
      by_cases hu : 65 ≤ (y.toNat : Int) ∧ (y.toNat : Int) ≤ 90
      · have hl := Lib.hid (low_up y hu)
        obtain ⟨hu1, hu2⟩ := hu
        have hs3 := Lib.hid (h3.set1 (lowB y))
        go_wp2_with fail
        go_roundw
        case rel => exact ⟨2, by go_num, by
          have := hs3.out
          rw [hl.out] at this
          exact .inr (.inr (.inl ⟨rfl, this⟩))⟩
        case measure => simp [intOf]
      · have hl := Lib.hid (low_no y hu)
        by_cases hu1 : 65 ≤ (y.toNat : Int)
        · have hu2 : ¬ (y.toNat : Int) ≤ 90 := fun h => hu ⟨hu1, h⟩
          clear hu
          go_wp2_with fail
          go_roundw
          case rel => exact ⟨2, by go_num, by
            have := h3
            rw [← hl.out] at this
            exact .inr (.inr (.inl ⟨rfl, this⟩))⟩
          case measure => simp [intOf]
        · clear hu
          go_wp2_with fail
          go_roundw
          case rel => exact ⟨2, by go_num, by
            have := h3
            rw [← hl.out] at this
            exact .inr (.inr (.inl ⟨rfl, this⟩))⟩
          case measure => simp [intOf]
    · have c0 := h3.c0; have c1 := h3.c1; have c2 := h3.c2; have f0 := h3.f0; have f1 := h3.f1; have f2 := h3.f2
      by_cases hu : 65 ≤ (z.toNat : Int) ∧ (z.toNat : Int) ≤ 90
      · have hl := Lib.hid (low_up z hu)
        obtain ⟨hu1, hu2⟩ := hu
        have hs3 := Lib.hid (h3.set2 (lowB z))
        go_wp2_with fail
        go_roundw
        case rel => exact ⟨3, by go_num, by
          have := hs3.out
          rw [hl.out] at this
          exact .inr (.inr (.inr ⟨rfl, this⟩))⟩
        case measure => simp [intOf]
      · have hl := Lib.hid (low_no z hu)
        by_cases hu1 : 65 ≤ (z.toNat : Int)
        · have hu2 : ¬ (z.toNat : Int) ≤ 90 := fun h => hu ⟨hu1, h⟩
          clear hu
          go_wp2_with fail
          go_roundw
          case rel => exact ⟨3, by go_num, by
            have := h3
            rw [← hl.out] at this
            exact .inr (.inr (.inr ⟨rfl, this⟩))⟩
          case measure => simp [intOf]
        · clear hu
          go_wp2_with fail
          go_roundw
          case rel => exact ⟨3, by go_num, by
            have := h3
            rw [← hl.out] at this
            exact .inr (.inr (.inr ⟨rfl, this⟩))⟩
          case measure => simp [intOf]
    · have hback := fun W (h : Three B w W (lowB x) (lowB y) (lowB z)) => run_convert_bytes_back (P := Tryd.prog) W 46 9 5 ⟨B, 0, none⟩ cap [lowB x, lowB y, lowB z] Tryd.underlying46 Tryd.underlying5 Tryd.underlying9
        (fun j hj => by
          match j, hj with
          | 0, _ => exact h.c0
          | 1, _ => exact h.c1
          | 2, _ => exact h.c2)
      have hb1 := hback wr h3
      obtain ⟨U, hU⟩ := bytes_of [lowB x, lowB y, lowB z]
      have hUe : (⟨([lowB x, lowB y, lowB z] : List UInt8).toArray⟩ : ByteArray) = U := by rw [← hU, Lib.mk_data]
      rw [hUe] at hb1
      have hb1' : (convert 46 9 (Value.slice (some ⟨B, 0, none⟩) 3 cap)).run Tryd.prog wr = .ok (.string U) wr := hb1
      have hbel := h3.below
      have HUl : Hid (isPhp (s.data.toList.drop n) = (U.toList == [112, 104, 112])) := by show _ = _; rw [HPHP.out, Lib.toList_data, hU]
      clear hb1 hback hrel hUe hU HPHP h3
      cases hp : isPhp (s.data.toList.drop n)
      · have hcmp : (U.toList == [112, 104, 112]) = false := by rw [← HUl.out]; exact hp
        have HN : Hid (phpN (s.data.toList.drop n) = 0) := by show _ = _; simp [phpN, hp]
        clear hp
        go_wp2_with fail
        go_ret
        exact ⟨ret_int (by rw [HN.out]; rfl), by rw [← HB.out]; exact hbel⟩
      · have hcmp : (U.toList == [112, 104, 112]) = true := by rw [← HUl.out]; exact hp
        have HP := Lib.hid hp
        clear hp
        by_cases he : n + 5 = s.size
        · have heq : ((n : Int) + 5 == (s.size : Int)) = true := by rw [beq_iff_eq]; omega
          have HN : Hid (phpN (s.data.toList.drop n) = 5) := by show _ = _; simp only [phpN, HP.out, HD5.out, drop_nil s (n + 5) (by omega), if_true]
          clear he
          go_wp2_with fail
          go_ret
          exact ⟨ret_int (by rw [HN.out]; rfl), by rw [← HB.out]; exact hbel⟩
        · have heq : ((n : Int) + 5 == (s.size : Int)) = false := by rw [beq_eq_false_iff_ne]; omega
          have hlt : n + 5 < s.size := by omega
          have hi0 : (0 : Int) ≤ (n : Int) + 5 := by omega
          have hi1 : (n : Int) + 5 < (s.size : Int) := by omega
          have hd := drop_at s (n + 5) hlt
          have HD := Lib.hid hd
          have HN : Hid (phpN (s.data.toList.drop n) = if Lib.hasPrefix (s.data.toList.drop (n + 5)) [13, 10] then 7 else if blankB s[n + 5] then 6 else 0) := by
            show _ = _
            rw [phpN_of _ _ _ HP.out (HD5.out.trans hd), ← hd]
          clear hd he
          cases hc : Lib.hasPrefix (s.data.toList.drop (n + 5)) [13, 10]
          · have HC := Lib.hid hc
            clear hc
            cases hbl : blankB s[n + 5]
            · have HN2 : Hid (phpN (s.data.toList.drop n) = 0) := by show _ = _; rw [HN.out, HC.out, hbl]; rfl
              have hbl2 : ((s[n + 5].toNat : Int) == 32) = false ∧ ((s[n + 5].toNat : Int) == 9) = false ∧ ((s[n + 5].toNat : Int) == 10) = false ∧ ((s[n + 5].toNat : Int) == 13) = false := by
                simp only [blankB, beqU, Bool.or_eq_false_iff] at hbl
                exact ⟨hbl.1.1.1, hbl.1.1.2, hbl.1.2, hbl.2⟩
              obtain ⟨q1, q2, q3, q4⟩ := hbl2
              clear hbl
              go_wp2_with (go_at_call 20; refine (At_b _ _ _ false _ (by omega) (by omega) (by omega) (by show 2 ≤ 140737488351232; omega) (.inl (by show 0 < 2; omega)) (by rw [i5]; exact HC.out)).mono ?_; rintro e w' ⟨rfl, rfl⟩)
              go_ret
              exact ⟨ret_int (by rw [HN2.out]; rfl), by rw [← HB.out]; exact hbel⟩
            · have HN2 : Hid (phpN (s.data.toList.drop n) = 6) := by show _ = _; rw [HN.out, HC.out, hbl]; rfl
              have hbl2 : (((s[n + 5].toNat : Int) == 32) || ((s[n + 5].toNat : Int) == 9) || ((s[n + 5].toNat : Int) == 10) || ((s[n + 5].toNat : Int) == 13)) = true := by
                simp only [blankB, beqU] at hbl
                exact hbl
              have HBL := Lib.hid hbl2
              clear hbl hbl2
              go_wp2_with (go_at_call 20; refine (At_b _ _ _ false _ (by omega) (by omega) (by omega) (by show 2 ≤ 140737488351232; omega) (.inl (by show 0 < 2; omega)) (by rw [i5]; exact HC.out)).mono ?_; rintro e w' ⟨rfl, rfl⟩)
              all_goals first
                | (go_ret
                   exact ⟨ret_int (by rw [HN2.out]; rfl), by rw [← HB.out]; exact hbel⟩)
                | exact absurd HBL.out (by simp [*])
          · have HC := Lib.hid hc
            have HN2 : Hid (phpN (s.data.toList.drop n) = 7) := by show _ = _; rw [HN.out, hc]; rfl
            clear hc
            go_wp2_with (go_at_call 20; refine (At_b _ _ _ true _ (by omega) (by omega) (by omega) (by show 2 ≤ 140737488351232; omega) (.inl (by show 0 < 2; omega)) (by rw [i5]; exact HC.out)).mono ?_; rintro e w' ⟨rfl, rfl⟩)
            go_ret
            exact ⟨ret_int (by rw [HN2.out]; rfl), by rw [← HB.out]; exact hbel⟩
end Go.Proofs.YtbeglmolgloepaaDoor
