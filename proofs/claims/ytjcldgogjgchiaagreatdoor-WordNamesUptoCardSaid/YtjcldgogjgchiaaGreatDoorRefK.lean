/-
  The document's answer on keywords (ostlerref02.Key) and names (ostlerref02.Name) against it.
-/
import Derived.Test.YtjcldgogjgchiaaGreatDoorRefN
import Derived.Test.YtjcldgogjgchiaaGreatDoorRefS
import Derived.Test.YtjcldgogjgchiaaGreatDoorKeyT
namespace Go.Proofs.YtjcldgogjgchiaaGreatDoor
open Go Go.RowKit Cutting Wording

set_option maxRecDepth 1000000 in
def keysS : ByteArray := ⟨#[32, 97, 98, 115, 116, 114, 97, 99, 116, 32, 97, 110, 100, 32, 97, 115, 32, 98, 114, 101, 97, 107, 32, 99, 97, 115, 101, 32, 99, 97, 116, 99, 104, 32, 99, 108, 97, 115, 115, 32, 99, 108, 111, 110, 101, 32, 99, 111, 110, 115, 116, 32, 99, 111, 110, 116, 105, 110, 117, 101, 32, 100, 101, 102, 97, 117, 108, 116, 32, 100, 111, 32, 101, 99, 104, 111, 32, 101, 108, 115, 101, 32, 101, 108, 115, 101, 105, 102, 32, 101, 109, 112, 116, 121, 32, 101, 120, 105, 116, 32, 101, 120, 116, 101, 110, 100, 115, 32, 102, 105, 110, 97, 108, 32, 102, 105, 110, 97, 108, 108, 121, 32, 102, 110, 32, 102, 111, 114, 32, 102, 111, 114, 101, 97, 99, 104, 32, 102, 117, 110, 99, 116, 105, 111, 110, 32, 103, 108, 111, 98, 97, 108, 32, 105, 102, 32, 105, 109, 112, 108, 101, 109, 101, 110, 116, 115, 32, 105, 110, 99, 108, 117, 100, 101, 32, 105, 110, 99, 108, 117, 100, 101, 95, 111, 110, 99, 101, 32, 105, 110, 115, 116, 97, 110, 99, 101, 111, 102, 32, 105, 110, 115, 116, 101, 97, 100, 111, 102, 32, 105, 110, 116, 101, 114, 102, 97, 99, 101, 32, 105, 115, 115, 101, 116, 32, 110, 97, 109, 101, 115, 112, 97, 99, 101, 32, 110, 101, 119, 32, 111, 114, 32, 112, 117, 98, 108, 105, 99, 32, 114, 101, 113, 117, 105, 114, 101, 32, 114, 101, 113, 117, 105, 114, 101, 95, 111, 110, 99, 101, 32, 114, 101, 116, 117, 114, 110, 32, 115, 116, 97, 116, 105, 99, 32, 115, 119, 105, 116, 99, 104, 32, 116, 104, 114, 111, 119, 32, 116, 114, 97, 105, 116, 32, 116, 114, 121, 32, 117, 110, 115, 101, 116, 32, 117, 115, 101, 32, 119, 104, 105, 108, 101, 32]⟩
set_option maxRecDepth 10000000 in
theorem keysS_row : keysS.data.toList = rowT keysL := by kernel_rfl
theorem keysS_size : keysS.size = 323 := by kernel_rfl
def blankS : ByteArray := ⟨#[32]⟩
set_option maxRecDepth 1000000 in
set_option maxHeartbeats 2000000 in
theorem rKey_any (s : ByteArray) (w : World) (hs : s.size ≤ 1073741820) :
    Calls Tryz.prog 8 #[.string s] w fun e w' => e = .returned (.bool (keyB s.data.toList)) ∧ Below w.heap.size w w' := by
  obtain ⟨t, ht⟩ : ∃ t : ByteArray, t = ⟨(s.data.toList.map low).toArray⟩ := ⟨_, rfl⟩
  have htl : t.data.toList = s.data.toList.map low := by rw [ht]
  have hts : t.size = s.size := by rw [Lib.size_eq, htl, List.length_map, ← Lib.size_eq]
  have HK : Hid (keyB s.data.toList = isKeyB t.data.toList) := by show _ = _; rw [keyB, htl]
  have HT := Lib.hid ht
  rcases Nat.eq_zero_or_pos t.size with h0 | h0
  · have hn := nil_of t h0
    have hn' : t.toList = [] := by rw [Lib.toList_data]; exact hn
    have HN := Lib.hid hn
    clear ht htl hn h0
    go_enter Tryz.func8, Tryz.ntmps8
    go_wp2_with fail
    refine (rsmall_any s _ hs).mono ?_
    rintro e w1 ⟨rfl, hb1⟩
    rw [← HT.out]
    go_wp2_with fail
    go_ret
    exact ⟨ret_bool (by rw [HK.out, HN.out]; rfl), hb1⟩
  · have he := isEmpty_of t h0
    have hen : t.toList ≠ [] := fun h => by rw [h] at he; cases he
    have hne : t.data.toList ≠ [] := by rw [← Lib.toList_data]; exact hen
    obtain ⟨n, hn⟩ : ∃ n, n = wordN t.data.toList := ⟨_, rfl⟩
    have hnl : n ≤ t.size := by rw [hn, Lib.size_eq]; exact wordN_le _
    have HN : Hid (n = wordN (t.data.toList.drop 0)) := by show _ = _; rw [hn, List.drop_zero]
    have HNo : n ≠ t.size → Hid (keyB s.data.toList = false) := fun h => by
      show _ = _
      rw [HK.out]
      exact key_word (fun hh => h (by rw [hn, hh.2, ← Lib.size_eq]))
    have HY : n = t.size → Hid (∀ i, hitB (rowT keysL) t.data.toList i = true → keyB s.data.toList = true) := fun h i hi => by
      rw [HK.out]
      exact key_of_hit hne (by rw [← hn, h, ← Lib.size_eq]) hi
    have HNone : Hid ((∀ i, i < 323 → hitB (rowT keysL) t.data.toList i = false) → keyB s.data.toList = false) := fun h => by
      rw [HK.out]
      exact key_of_none fun i hi => h i (by rw [← keysS_row, ← Lib.size_eq, keysS_size] at hi; exact hi)
    clear ht htl hn hne
    by_cases hnt : n = t.size
    · have HY' := HY hnt
      clear HY HNo
      obtain ⟨u, hu⟩ : ∃ u, blankS ++ t = u := ⟨_, rfl⟩
      obtain ⟨v, hv⟩ : ∃ v, u ++ blankS = v := ⟨_, rfl⟩
      have su : u.size = t.size + 1 := by rw [← hu, ByteArray.size_append']; show 1 + _ = _; omega
      have sv : v.size = t.size + 2 := by rw [← hv, ByteArray.size_append', su]; rfl
      have bv : v.data.toList = 32 :: (t.data.toList ++ [32]) := by rw [← hv, ← hu]; simp [ByteArray.data_append, blankS]
      have add1 : ∀ W, (Op.stringOp .add ⟨#[32]⟩ t).run Tryz.prog W = .ok (.string u) W := fun W => by
        have h := run_string_add_sum (P := Tryz.prog) (w := W) blankS t (by show 1 + t.size ≤ _; omega)
        rw [hu] at h
        exact h
      have add2 : ∀ W, (Op.stringOp .add u ⟨#[32]⟩).run Tryz.prog W = .ok (.string v) W := fun W => by
        have h := run_string_add_sum (P := Tryz.prog) (w := W) u blankS (by show u.size + 1 ≤ _; omega)
        rw [hv] at h
        exact h
      have HB : Hid (∀ k : Nat, Lib.hasPrefix (keysS.data.toList.drop k) v.data.toList = hitB (rowT keysL) t.data.toList k) := fun k => by rw [keysS_row, bv]; rfl
      have HSV := Lib.hid sv
      clear hu hv su bv
      subst hnt
      go_enter Tryz.func8, Tryz.ntmps8
      go_wp2_with fail
      refine (rsmall_any s _ hs).mono ?_
      rintro e w1 ⟨rfl, hb1⟩
      rw [← HT.out]
      go_wp2_with fail
      refine (Word_any t 0 _ (by omega) (by omega) (by omega)).mono ?_
      rintro e w2 ⟨rfl, rfl⟩
      rw [show (0 : Int).toNat = 0 from rfl, ← HN.out]
      go_wp2_with fail
      go_loop [4] (fun m => ∃ k : Nat, m = .int .i64 k ∧ k ≤ 323 ∧ Hid (∀ j, j < k → hitB (rowT keysL) t.data.toList j = false)) (fun m => 323 - (intOf m).toNat)
      case atStart => exact ⟨0, rfl, Nat.zero_le _, fun j hj => absurd hj (Nat.not_lt_zero _)⟩
      case round =>
        obtain ⟨k, rfl, hk, hrel⟩ := hrel
        by_cases hlt : k < 323
        · obtain ⟨b, hb⟩ : ∃ b, b = hitB (rowT keysL) t.data.toList k := ⟨_, rfl⟩
          have HBk : Hid (Lib.hasPrefix (keysS.data.toList.drop ((k : Int).toNat)) v.data.toList = b) := by show _ = _; rw [hb, Int.toNat_natCast]; exact HB.out k
          have HY2 : b = true → Hid (keyB s.data.toList = true) := fun h => HY'.out k (by rw [← hb, h])
          have HG : b = false → Hid (∀ j, j < k + 1 → hitB (rowT keysL) t.data.toList j = false) := fun h j hj => by
            rcases Nat.lt_or_ge j k with h2 | h2
            · exact hrel.out j h2
            · rw [show j = k by omega, ← hb, h]
          clear hb
          go_wp2_with fail
          refine (At_b keysS v (k : Int) b _ (by omega) (by omega) (by rw [keysS_size]; omega) (by rw [HSV.out]; omega) (.inl (by rw [HSV.out]; omega)) HBk.out).mono ?_
          rintro e w2 ⟨rfl, rfl⟩
          cases b
          · have HG' := HG rfl
            clear HG HY2
            go_wp2_with fail
            go_round
            case rel => exact ⟨k + 1, by go_num, by omega, HG'⟩
            case measure => simp [intOf]; omega
          · have HY3 := HY2 rfl
            clear HG HY2
            go_wp2_with fail
            go_ret
            exact ⟨ret_bool (by rw [HY3.out]), hb1⟩
        · have HE : Hid (keyB s.data.toList = false) := HNone.out fun i hi => hrel.out i (by omega)
          go_wp2_with fail
          go_ret
          exact ⟨ret_bool (by rw [HE.out]), hb1⟩
    · have HE := HNo hnt
      have d0 : ((n : Int) == (t.size : Int)) = false := by rw [beq_eq_false_iff_ne]; omega
      clear HY HNo
      go_enter Tryz.func8, Tryz.ntmps8
      go_wp2_with fail
      refine (rsmall_any s _ hs).mono ?_
      rintro e w1 ⟨rfl, hb1⟩
      rw [← HT.out]
      go_wp2_with fail
      refine (Word_any t 0 _ (by omega) (by omega) (by omega)).mono ?_
      rintro e w2 ⟨rfl, rfl⟩
      rw [show (0 : Int).toNat = 0 from rfl, ← HN.out]
      go_wp2_with fail
      go_ret
      exact ⟨ret_bool (by rw [HE.out]), hb1⟩
end Go.Proofs.YtjcldgogjgchiaaGreatDoor
