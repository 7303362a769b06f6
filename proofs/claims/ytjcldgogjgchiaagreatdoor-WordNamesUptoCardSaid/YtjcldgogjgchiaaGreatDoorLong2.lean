/-
  The contract of package cut's longLen.
-/
import Derived.Test.YtjcldgogjgchiaaGreatDoorLong
namespace Go.Proofs.YtjcldgogjgchiaaGreatDoor
open Go Go.RowKit Cutting

theorem longHead_any (s : ByteArray) (w : World) (h3 : 3 ≤ s.size) (hs : s.size ≤ 4294967280) :
    Calls Tryz.prog 64 #[.string s] w fun e w' => e = .returned (.tuple #[.string ⟨(headName s.data.toList).toArray⟩, .int .i64 (headAt s.data.toList)]) ∧ w = w' := by
  cases hq : Lib.hasPrefix (s.data.toList.drop 3) [39]
  · exact longHead_bare s w h3 hs hq
  · refine longHead_quoted s w ?_ hs hq
    have h : 1 ≤ (s.data.toList.drop 3).length := List.IsPrefix.length_le (List.isPrefixOf_iff_prefix.1 hq)
    rw [List.length_drop, ← Lib.size_eq] at h
    omega

theorem longGo_skip (name : List UInt8) : ∀ l : List UInt8,
    (Lib.indexByte l 10 = -1 → longGo name false l = l.length) ∧ (∀ j : Nat, Lib.indexByte l 10 = j → longGo name false l = j + 1 + longGo name true (l.drop (j + 1)) ∧ j + 1 ≤ l.length) := by
  intro l
  induction l with
  | nil => exact ⟨fun _ => rfl, fun j h => by simp [Lib.indexByte] at h⟩
  | cons b r ih =>
    have hge := Lib.indexByte_ge r 10
    have e : longGo name false (b :: r) = 1 + longGo name (b == 10) r := by simp [longGo]
    by_cases hb : (b == 10) = true
    · have hi : Lib.indexByte (b :: r) 10 = 0 := by rw [Lib.indexByte, if_pos hb]
      refine ⟨fun h => by rw [hi] at h; omega, fun j h => ?_⟩
      rw [hi] at h
      obtain rfl : j = 0 := by omega
      rw [e, hb]
      simp
    · have hi : Lib.indexByte (b :: r) 10 = if Lib.indexByte r 10 == -1 then -1 else Lib.indexByte r 10 + 1 := by rw [Lib.indexByte, if_neg hb]
      have hb' : (b == 10) = false := by simpa using hb
      rw [e, hb']
      by_cases h1 : Lib.indexByte r 10 = -1
      · rw [hi]; simp only [h1]
        refine ⟨fun _ => by rw [ih.1 h1]; simp; omega, fun j h => by simp at h⟩
      · have h2 : (Lib.indexByte r 10 == -1) = false := by simpa using h1
        rw [hi, h2]
        refine ⟨fun h => by simp at h; omega, fun j h => ?_⟩
        obtain ⟨i, hij⟩ : ∃ i : Nat, Lib.indexByte r 10 = i := ⟨(Lib.indexByte r 10).toNat, by omega⟩
        obtain rfl : j = i + 1 := by simp [hij] at h; omega
        have h3 := ih.2 i hij
        rw [h3.1]
        simp only [List.drop_succ_cons, List.length_cons]
        omega

/-- What stands in a line of a long text that is not its last. -/
theorem longGo_no (name l : List UInt8) (hl : l ≠ []) (h : (Lib.hasPrefix l name && wordN l == name.length) = false) : longGo name true l = longGo name false l := by
  cases l with
  | nil => exact absurd rfl hl
  | cons b r => simp [longGo, h]
theorem longGo_yes (name l : List UInt8) (hl : l ≠ []) (h : (Lib.hasPrefix l name && wordN l == name.length) = true) : longGo name true l = name.length := by
  cases l with
  | nil => exact absurd rfl hl
  | cons b r => simp [longGo, h]
theorem indexByte_b (s : ByteArray) (j : Int) (w : World) (h : Lib.indexByte s.data.toList 10 = j) :
    Calls Tryz.prog 66 #[.string s, .int .u8 10] w fun e w' => e = .returned (.int .i64 j) ∧ w = w' := by
  refine (Tryz.strings_IndexByte s 10 w).mono ?_
  rintro e w' ⟨rfl, rfl⟩
  exact ⟨by rw [← h]; rfl, rfl⟩
theorem wordLen_b (s : ByteArray) (n : Int) (w : World) (hs : s.size ≤ 4294967280) (h : (wordN s.data.toList : Int) = n) :
    Calls Tryz.prog 65 #[.string s] w fun e w' => e = .returned (.int .i64 n) ∧ w = w' := by
  refine (wordLen_any s w hs).mono ?_
  rintro e w' ⟨rfl, rfl⟩
  exact ⟨by rw [← h], rfl⟩

set_option maxHeartbeats 2000000 in
theorem longLen_any (s : ByteArray) (w : World) (h3 : 3 ≤ s.size) (hs : s.size ≤ 2147483640) :
    Calls Tryz.prog 52 #[.string s] w fun e w' => e = .returned (.int .i64 (longN s.data.toList)) ∧ w = w' := by
  obtain ⟨N, hN⟩ := bytes_of (headName s.data.toList)
  have hNe : (⟨(headName s.data.toList).toArray⟩ : ByteArray) = N := by rw [← hN]
  have HE := Lib.hid hNe
  clear hNe
  cases hok : headOk s.data.toList
  · have he : N.toList.isEmpty = true := by rw [Lib.toList_data, hN]; simp [headName, hok]
    have HL : Hid (longN s.data.toList = 1) := by show _ = _; simp [longN, hok]
    clear hN hok
    go_enter Tryz.func52, Tryz.ntmps52
    go_wp2_with fail
    refine (longHead_any s _ h3 (by omega)).mono ?_
    rintro e w' ⟨rfl, rfl⟩
    rw [HE.out]
    go_wp2_with fail
    go_ret
    exact ⟨ret_int (by rw [HL.out]; try rfl), rfl⟩
  · have hle := headAt_le s.data.toList hok
    rw [← hN, ← Lib.size_eq, ← Lib.size_eq] at hle
    obtain ⟨hle1, hle2, hle3, hle4⟩ := hle
    have he : N.toList.isEmpty = false := isEmpty_of N hle2
    have hen : N.toList ≠ [] := fun h => by rw [h] at he; cases he
    have HL : Hid (longN s.data.toList = headAt s.data.toList + longGo N.data.toList true (s.data.toList.drop (headAt s.data.toList))) := by show _ = _; simp [longN, hok, hN]
    obtain ⟨a, ha⟩ : ∃ a, a = headAt s.data.toList := ⟨_, rfl⟩
    rw [← ha] at hle1 HL
    have HA := Lib.hid ha
    clear hN hok ha
    go_enter Tryz.func52, Tryz.ntmps52
    go_wp2_with fail
    refine (longHead_any s _ h3 (by omega)).mono ?_
    rintro e w' ⟨rfl, rfl⟩
    rw [HE.out, ← HA.out]
    go_wp2_with fail
    go_loop [4] (fun i => ∃ k : Nat, k ≤ s.size ∧ i = .int .i64 k ∧ Hid (longN s.data.toList = k + longGo N.data.toList true (s.data.toList.drop k))) (fun i => s.size - (intOf i).toNat)
    case atStart => exact ⟨a, hle1, rfl, HL.out⟩
    case round =>
      obtain ⟨k, hk, rfl, hrel⟩ := hrel
      by_cases hlt : k < s.size
      · obtain ⟨L, hL⟩ : ∃ L, L = s.extract k s.size := ⟨_, rfl⟩
        have hLl : L.data.toList = s.data.toList.drop k := by rw [hL, tail_list]
        have hLs : L.size = s.size - k := by rw [hL]; simp
        have hLb : L.size ≤ 2147483640 := by omega
        have hLn : L.data.toList ≠ [] := by rw [hLl, drop_at s k hlt]; simp
        have hgo := longGo_skip N.data.toList L.data.toList
        have hw := wordN_le L.data.toList
        rw [← Lib.size_eq] at hw
        have HLl := Lib.hid hLl
        have HLs := Lib.hid hLs
        have HLL := Lib.hid hL
        clear hLl hLs hL
        have hNl : N.data.toList.length = N.size := (Lib.size_eq N).symm
        have HNl := Lib.hid hNl
        clear hNl
        cases hb : Lib.hasPrefix L.data.toList N.data.toList
        · have HX : Hid (longGo N.data.toList true L.data.toList = longGo N.data.toList false L.data.toList) := longGo_no _ _ hLn (by rw [hb]; rfl)
          have HB := Lib.hid hb
          clear hb hLn
          rcases Int.lt_or_le (Lib.indexByte L.data.toList 10) 0 with hi | hi
          · have hi1 : Lib.indexByte L.data.toList 10 = -1 := by have := Lib.indexByte_ge L.data.toList 10; omega
            have HI := Lib.hid hi1
            have HG := Lib.hid (hgo.1 hi1)
            clear hi hi1 hgo
            go_wp2_with (first
                | (go_at_call 28; refine (hasPrefix_b _ _ false _ (by rw [← HLL.out]; exact HB.out)).mono ?_; rintro e w' ⟨rfl, rfl⟩)
                | (go_at_call 66; refine (indexByte_b _ (-1) _ (by rw [← HLL.out]; exact HI.out)).mono ?_; rintro e w' ⟨rfl, rfl⟩))
            go_ret
            exact ⟨ret_int (by rw [hrel.out, ← HLl.out, HX.out, HG.out, ← Lib.size_eq, HLs.out]; omega), rfl⟩
          · obtain ⟨j, hj⟩ : ∃ j : Nat, Lib.indexByte L.data.toList 10 = j := ⟨(Lib.indexByte L.data.toList 10).toNat, by omega⟩
            have hj2 := hgo.2 j hj
            have hjl : j + 1 ≤ L.size := by rw [Lib.size_eq]; exact hj2.2
            have hjs : k + (j + 1) ≤ s.size := by have := HLs.out; omega
            have HI := Lib.hid hj
            have HG := Lib.hid hj2.1
            clear hi hj hj2 hgo
            go_wp2_with (first
                | (go_at_call 28; refine (hasPrefix_b _ _ false _ (by rw [← HLL.out]; exact HB.out)).mono ?_; rintro e w' ⟨rfl, rfl⟩)
                | (go_at_call 66; refine (indexByte_b _ (j : Int) _ (by rw [← HLL.out]; exact HI.out)).mono ?_; rintro e w' ⟨rfl, rfl⟩))
            go_round
            case rel =>
              refine ⟨k + (j + 1), hjs, by go_num, ?_⟩
              show _ = _
              rw [hrel.out, ← HLl.out, HX.out, HG.out, HLl.out, List.drop_drop]
              omega
            case measure => simp [intOf]; omega
        · obtain ⟨n, hn⟩ : ∃ n, wordN L.data.toList = n := ⟨_, rfl⟩
          rw [hn] at hw
          by_cases hnn : n = N.size
          · have HX : Hid (longGo N.data.toList true L.data.toList = N.size) := by
              show _ = _
              rw [longGo_yes _ _ hLn (by rw [hb, hn, HNl.out, hnn]; simp), HNl.out]
            have HW : Hid ((wordN L.data.toList : Int) = N.size) := by show _ = _; rw [hn, hnn]
            have HB := Lib.hid hb
            clear hb hLn hn hgo hnn
            go_wp2_with (first
              | (go_at_call 28; refine (hasPrefix_b _ _ true _ (by rw [← HLL.out]; exact HB.out)).mono ?_; rintro e w' ⟨rfl, rfl⟩)
              | (go_at_call 65; refine (wordLen_b _ (N.size : Int) _ (by rw [← HLL.out]; omega) (by rw [← HLL.out]; exact HW.out)).mono ?_; rintro e w' ⟨rfl, rfl⟩))
            go_ret
            exact ⟨ret_int (by rw [hrel.out, ← HLl.out, HX.out]; omega), rfl⟩
          · have hx : (Lib.hasPrefix L.data.toList N.data.toList && wordN L.data.toList == N.data.toList.length) = false := by rw [hb, hn, HNl.out]; simpa using hnn
            have HX : Hid (longGo N.data.toList true L.data.toList = longGo N.data.toList false L.data.toList) := longGo_no _ _ hLn hx
            have HW : Hid ((wordN L.data.toList : Int) = n) := by show _ = _; rw [hn]
            have hne : ((n : Int) == (N.size : Int)) = false := by rw [beq_eq_false_iff_ne]; omega
            have HB := Lib.hid hb
            clear hb hLn hn hx hnn
            rcases Int.lt_or_le (Lib.indexByte L.data.toList 10) 0 with hi | hi
            · have hi1 : Lib.indexByte L.data.toList 10 = -1 := by have := Lib.indexByte_ge L.data.toList 10; omega
              have HI := Lib.hid hi1
              have HG := Lib.hid (hgo.1 hi1)
              clear hi hi1 hgo
              go_wp2_with (first
                  | (go_at_call 28; refine (hasPrefix_b _ _ true _ (by rw [← HLL.out]; exact HB.out)).mono ?_; rintro e w' ⟨rfl, rfl⟩)
                  | (go_at_call 65; refine (wordLen_b _ n _ (by rw [← HLL.out]; omega) (by rw [← HLL.out]; exact HW.out)).mono ?_; rintro e w' ⟨rfl, rfl⟩)
                  | (go_at_call 66; refine (indexByte_b _ (-1) _ (by rw [← HLL.out]; exact HI.out)).mono ?_; rintro e w' ⟨rfl, rfl⟩))
              go_ret
              exact ⟨ret_int (by rw [hrel.out, ← HLl.out, HX.out, HG.out, ← Lib.size_eq, HLs.out]; omega), rfl⟩
            · obtain ⟨j, hj⟩ : ∃ j : Nat, Lib.indexByte L.data.toList 10 = j := ⟨(Lib.indexByte L.data.toList 10).toNat, by omega⟩
              have hj2 := hgo.2 j hj
              have hjl : j + 1 ≤ L.size := by rw [Lib.size_eq]; exact hj2.2
              have hjs : k + (j + 1) ≤ s.size := by have := HLs.out; omega
              have HI := Lib.hid hj
              have HG := Lib.hid hj2.1
              clear hi hj hj2 hgo
              go_wp2_with (first
                  | (go_at_call 28; refine (hasPrefix_b _ _ true _ (by rw [← HLL.out]; exact HB.out)).mono ?_; rintro e w' ⟨rfl, rfl⟩)
                  | (go_at_call 65; refine (wordLen_b _ n _ (by rw [← HLL.out]; omega) (by rw [← HLL.out]; exact HW.out)).mono ?_; rintro e w' ⟨rfl, rfl⟩)
                  | (go_at_call 66; refine (indexByte_b _ (j : Int) _ (by rw [← HLL.out]; exact HI.out)).mono ?_; rintro e w' ⟨rfl, rfl⟩))
              go_round
              case rel =>
                refine ⟨k + (j + 1), hjs, by go_num, ?_⟩
                show _ = _
                rw [hrel.out, ← HLl.out, HX.out, HG.out, HLl.out, List.drop_drop]
                omega
              case measure => simp [intOf]; omega
      · have hdk := Lib.hid (drop_nil s k (by omega))
        go_wp2_with fail
        go_ret
        exact ⟨ret_int (by rw [hrel.out, hdk.out]; simp [longGo]; omega), rfl⟩
end Go.Proofs.YtjcldgogjgchiaaGreatDoor
