/-
  The document's answer of layer 6: the walk over a text's beginning.
-/
import Derived.Test.YtmfnonepcipplaaDoorRef6A
namespace Go.Proofs.YtmfnonepcipplaaDoor
open Go Go.RowKit Convs

set_option maxHeartbeats 8000000 in
set_option maxRecDepth 1000000 in
theorem begin_any (s : ByteArray) (w : World) (hs : s.size ≤ 281474976710656) :
    Calls Tryd.prog 41 #[.string s] w fun e w' => e = .returned (.tuple #[.int .i64 (begE s.data.toList).1, .int .i64 (begE s.data.toList).2.1, .bool (begE s.data.toList).2.2]) ∧ w = w' := by
  go_enter Tryd.func41, Tryd.ntmps41
  go_wp2_with fail
  go_loop [5] (fun i => ∃ k : Nat, k ≤ s.size ∧ i = .int .i64 k ∧ Hid (s.data.toList.dropWhile blankB = (s.data.toList.drop k).dropWhile blankB)) (fun i => s.size - (intOf i).toNat)
  case atStart => exact ⟨0, by omega, rfl, rfl⟩
  case round =>
    obtain ⟨k, hk, rfl, hrel⟩ := hrel
    by_cases hlt : k < s.size
    · have hdk := Lib.hid (drop_at s k hlt)
      cases hb : blankB s[k]
      · have HS1 : Hid (s.data.toList.dropWhile blankB = s.data.toList.drop k) := by show _ = _; rw [hrel.out, hdk.out]; simp [hb]
        have hbl := refBlank_any s[k] w
        rw [hb] at hbl
        have HBl := hide hbl
        clear hbl hrel hb
        by_cases c45 : s[k] = 45
        · have e45 : ((s[k].toNat : Int) == 45) = true := by rw [c45]; rfl
          have HSG : Hid (signT (s.data.toList.drop k) = (true, s.data.toList.drop (k + 1))) := by show _ = _; rw [hdk.out]; simp [signT, c45]
          obtain ⟨i0, hi0⟩ : ∃ i0, i0 = k + 1 := ⟨_, rfl⟩
          have hi0' : (k : Int) + 1 = i0 := by omega
          rw [← hi0] at HSG
          clear hi0 c45
          by_cases hl2 : i0 < s.size
          · have hdk2 := Lib.hid (drop_at s i0 hl2)
            have hne0 : ((i0 : Int) == (s.size : Int)) = false := by simpa using (by omega : ¬ ((i0 : Int) = (s.size : Int)))
            cases hd : digB s[i0]
            · have HTW : Hid ((s.data.toList.drop i0).takeWhile digB = []) := by show _ = _; rw [hdk2.out]; simp [hd]
              have HE := hide (begE_none _ _ _ (unhide HS1) (congrArg Prod.snd (unhide HSG)) (unhide HTW))
              have hdi := refDigit_any s[i0] w
              rw [hd] at hdi
              have HDi := hide hdi
              clear hdi
              go_wp2_with (first | (go_at_call 45; refine (unhide HBl).mono ?_; rintro e w' ⟨rfl, rfl⟩) | (go_at_call 46; refine (unhide HDi).mono ?_; rintro e w' ⟨rfl, rfl⟩))
              go_ret3
              exact ⟨by rw [HE.out]; rfl, rfl⟩
            · have HNE : Hid ((s.data.toList.drop i0).takeWhile digB ≠ []) := by show _ ≠ _; rw [hdk2.out]; simp [hd]
              have hdi := refDigit_any s[i0] w
              rw [hd] at hdi
              have HDi := hide hdi
              clear hdi
              clear hd
              go_wp2_with (first | (go_at_call 45; refine (unhide HBl).mono ?_; rintro e w' ⟨rfl, rfl⟩) | (go_at_call 46; refine (unhide HDi).mono ?_; rintro e w' ⟨rfl, rfl⟩))
              clear HBl HDi hdk hdk2
              go_loop [5, 7, 8] (fun v5 v7 _ => ∃ (j : Nat) (n : Int), i0 ≤ j ∧ j ≤ s.size ∧ v5 = .int .i64 j ∧ v7 = .int .i64 n ∧ -9223372036854775808 ≤ n ∧ n ≤ 9223372036854775807 ∧ n ≤ 0 ∧ Hid (Dg (s.data.toList.drop i0) (s.data.toList.drop j) true n)) (fun i _ _ => s.size - (intOf i).toNat)
              case atStart => exact ⟨i0, 0, Nat.le_refl _, by omega, rfl, rfl, by decide, by decide, by decide, Dg.zero _ true⟩
              case round =>
                obtain ⟨j, n, hij, hj, rfl, rfl, hn0, hn1, hn2, hrel⟩ := hrel
                by_cases hlt : j < s.size
                · have hdk := Lib.hid (drop_at s j hlt)
                  cases hd : digB s[j]
                  · have HDN := hide ((unhide hrel).done (by rw [hdk.out]; simp [hd]))
                    have hdi := refDigit_any s[j] w
                    rw [hd] at hdi
                    have HDi := hide hdi
                    clear hdi
                    go_wp2_with (go_at_call 46; refine (unhide HDi).mono ?_; rintro e w' ⟨rfl, rfl⟩)
                    go_loop [5] (fun i => ∃ q : Nat, j ≤ q ∧ q ≤ s.size ∧ i = .int .i64 q ∧ Hid ((s.data.toList.drop j).dropWhile blankB = (s.data.toList.drop q).dropWhile blankB)) (fun i => s.size - (intOf i).toNat)
                    case atStart => exact ⟨j, Nat.le_refl _, hj, rfl, rfl⟩
                    case round =>
                      obtain ⟨q, hjq, hq, rfl, hrel⟩ := hrel
                      by_cases hlt : q < s.size
                      · have hdk := Lib.hid (drop_at s q hlt)
                        cases hb : blankB s[q]
                        · have HF : Hid ((s.data.toList.drop j).dropWhile blankB = s.data.toList.drop q) := by show _ = _; rw [hrel.out, hdk.out]; simp [hb]
                          have HE := hide (begE_some _ _ _ _ _ true _ (unhide HS1) (unhide HSG) (unhide HNE) (unhide HDN).1 (unhide HF) (unhide HDN).2)
                          have HL : Hid (s.data.toList.length - (s.data.toList.drop q).length = q) := by show _ = _; rw [List.length_drop, ← Lib.size_eq]; omega
                          have hbl := refBlank_any s[q] w
                          rw [hb] at hbl
                          have HBl := hide hbl
                          clear hbl
                          go_wp2_with (go_at_call 45; refine (unhide HBl).mono ?_; rintro e w' ⟨rfl, rfl⟩)
                          go_ret3
                          exact ⟨by rw [HE.out, HL.out]; rfl, rfl⟩
                        · have HR : Hid ((s.data.toList.drop j).dropWhile blankB = (s.data.toList.drop (q + 1)).dropWhile blankB) := by show _ = _; rw [hrel.out, hdk.out]; simp [hb]
                          have hbl := refBlank_any s[q] w
                          rw [hb] at hbl
                          have HBl := hide hbl
                          clear hbl
                          go_wp2_with (go_at_call 45; refine (unhide HBl).mono ?_; rintro e w' ⟨rfl, rfl⟩)
                          go_round
                          case rel => exact ⟨q + 1, by omega, by omega, by go_num, HR⟩
                          case measure => simp [intOf]; omega
                      · have HF : Hid ((s.data.toList.drop j).dropWhile blankB = s.data.toList.drop q) := by show _ = _; rw [hrel.out, drop_nil s q (by omega)]; rfl
                        have HE := hide (begE_some _ _ _ _ _ true _ (unhide HS1) (unhide HSG) (unhide HNE) (unhide HDN).1 (unhide HF) (unhide HDN).2)
                        have HL : Hid (s.data.toList.length - (s.data.toList.drop q).length = q) := by show _ = _; rw [List.length_drop, ← Lib.size_eq]; omega
                        go_wp2_with fail
                        go_ret3
                        exact ⟨by rw [HE.out, HL.out]; rfl, rfl⟩
                  · have hcb := (digB_iff s[j]).1 hd
                    have hdi := refDigit_any s[j] w
                    rw [hd] at hdi
                    have HDi := hide hdi
                    clear hdi
                    have HS0 : Hid (Dg (s.data.toList.drop i0) (s.data.toList.drop (j + 1)) true (if n < (-9223372036854775808 + ((s[j].toNat : Int) - 48)).tdiv 10 then -9223372036854775808 else n * 10 - ((s[j].toNat : Int) - 48))) := by have h := unhide hrel; rw [hdk.out] at h; exact h.stepM hd rfl
                    by_cases hq : n < (-9223372036854775808 + ((s[j].toNat : Int) - 48)).tdiv 10
                    · have HST : Hid (Dg (s.data.toList.drop i0) (s.data.toList.drop (j + 1)) true (-9223372036854775808)) := by have h := unhide HS0; rw [if_pos hq] at h; exact h
                      clear HS0 hd hdk
                      go_wp2_with (go_at_call 46; refine (unhide HDi).mono ?_; rintro e w' ⟨rfl, rfl⟩)
                      go_loop [5] (fun i => ∃ q : Nat, j + 1 ≤ q ∧ q ≤ s.size ∧ i = .int .i64 q ∧ Hid (Dg (s.data.toList.drop i0) (s.data.toList.drop q) true (-9223372036854775808))) (fun i => s.size - (intOf i).toNat)
                      case atStart => exact ⟨j + 1, Nat.le_refl _, by omega, by go_num, HST⟩
                      case round =>
                        obtain ⟨q, hjq, hq, rfl, hrel⟩ := hrel
                        by_cases hlt : q < s.size
                        · have hdk := Lib.hid (drop_at s q hlt)
                          cases hd : digB s[q]
                          · skip
                            have hdi := refDigit_any s[q] w
                            rw [hd] at hdi
                            have HDi := hide hdi
                            clear hdi
                            go_wp2_with (go_at_call 46; refine (unhide HDi).mono ?_; rintro e w' ⟨rfl, rfl⟩)
                            go_round
                            case rel => exact ⟨q, -9223372036854775808, by omega, hq, rfl, rfl, by omega, by omega, by omega, hrel⟩
                            case measure => simp [intOf]; omega
                          · have HR : Hid (Dg (s.data.toList.drop i0) (s.data.toList.drop (q + 1)) true (-9223372036854775808)) := by have h := unhide hrel; rw [hdk.out] at h; exact h.skip hd (Or.inl rfl)
                            have hdi := refDigit_any s[q] w
                            rw [hd] at hdi
                            have HDi := hide hdi
                            clear hdi
                            go_wp2_with (go_at_call 46; refine (unhide HDi).mono ?_; rintro e w' ⟨rfl, rfl⟩)
                            go_round
                            case rel => exact ⟨q + 1, by omega, by omega, by go_num, HR⟩
                            case measure => simp [intOf]; omega
                        · go_wp2_with fail
                          go_round
                          case rel => exact ⟨q, -9223372036854775808, by omega, hq, rfl, rfl, by omega, by omega, by omega, hrel⟩
                          case measure => simp [intOf]; omega
                    · have HST : Hid (Dg (s.data.toList.drop i0) (s.data.toList.drop (j + 1)) true (n * 10 - ((s[j].toNat : Int) - 48))) := by have h := unhide HS0; rw [if_neg hq] at h; exact h
                      have hbd : -9223372036854775808 ≤ n * 10 - ((s[j].toNat : Int) - 48) ∧ n * 10 - ((s[j].toNat : Int) - 48) ≤ 9223372036854775807 := (unhide HST).bound
                      have hw1 : wrap64 (n * 10) = n * 10 := by unfold wrap64; omega
                      have hw2 : wrap64 (n * 10 - ((s[j].toNat : Int) - 48)) = n * 10 - ((s[j].toNat : Int) - 48) := by unfold wrap64; omega
                      have hne : ¬ n * 10 - ((s[j].toNat : Int) - 48) = 9223372036854775807 := by omega
                      clear HS0 hd hdk
                      by_cases hl : n * 10 - ((s[j].toNat : Int) - 48) = -9223372036854775808
                      · rw [hl] at HST
                        go_wp2_with (go_at_call 46; refine (unhide HDi).mono ?_; rintro e w' ⟨rfl, rfl⟩)
                        go_loop [5] (fun i => ∃ q : Nat, j + 1 ≤ q ∧ q ≤ s.size ∧ i = .int .i64 q ∧ Hid (Dg (s.data.toList.drop i0) (s.data.toList.drop q) true (-9223372036854775808))) (fun i => s.size - (intOf i).toNat)
                        case atStart => exact ⟨j + 1, Nat.le_refl _, by omega, by go_num, HST⟩
                        case round =>
                          obtain ⟨q, hjq, hq, rfl, hrel⟩ := hrel
                          by_cases hlt : q < s.size
                          · have hdk := Lib.hid (drop_at s q hlt)
                            cases hd : digB s[q]
                            · skip
                              have hdi := refDigit_any s[q] w
                              rw [hd] at hdi
                              have HDi := hide hdi
                              clear hdi
                              go_wp2_with (go_at_call 46; refine (unhide HDi).mono ?_; rintro e w' ⟨rfl, rfl⟩)
                              go_round
                              case rel => exact ⟨q, -9223372036854775808, by omega, hq, rfl, rfl, by omega, by omega, by omega, hrel⟩
                              case measure => simp [intOf]; omega
                            · have HR : Hid (Dg (s.data.toList.drop i0) (s.data.toList.drop (q + 1)) true (-9223372036854775808)) := by have h := unhide hrel; rw [hdk.out] at h; exact h.skip hd (Or.inl rfl)
                              have hdi := refDigit_any s[q] w
                              rw [hd] at hdi
                              have HDi := hide hdi
                              clear hdi
                              go_wp2_with (go_at_call 46; refine (unhide HDi).mono ?_; rintro e w' ⟨rfl, rfl⟩)
                              go_round
                              case rel => exact ⟨q + 1, by omega, by omega, by go_num, HR⟩
                              case measure => simp [intOf]; omega
                          · go_wp2_with fail
                            go_round
                            case rel => exact ⟨q, -9223372036854775808, by omega, hq, rfl, rfl, by omega, by omega, by omega, hrel⟩
                            case measure => simp [intOf]; omega
                      · have q1 : (n * 10 - ((s[j].toNat : Int) - 48) == -9223372036854775808) = false := beq_eq_false_iff_ne.2 (by omega)
                        have q2 : (n * 10 - ((s[j].toNat : Int) - 48) == 9223372036854775807) = false := beq_eq_false_iff_ne.2 (by omega)
                        go_wp2_with (go_at_call 46; refine (unhide HDi).mono ?_; rintro e w' ⟨rfl, rfl⟩)
                        go_round
                        case rel => exact ⟨j + 1, n * 10 - ((s[j].toNat : Int) - 48), by omega, by omega, by go_num, rfl, hbd.1, hbd.2, by omega, HST⟩
                        case measure => simp [intOf]; omega
                · have HDN := hide ((unhide hrel).done (by rw [drop_nil s j (by omega)]; rfl))
                  go_wp2_with fail
                  go_loop [5] (fun i => ∃ q : Nat, j ≤ q ∧ q ≤ s.size ∧ i = .int .i64 q ∧ Hid ((s.data.toList.drop j).dropWhile blankB = (s.data.toList.drop q).dropWhile blankB)) (fun i => s.size - (intOf i).toNat)
                  case atStart => exact ⟨j, Nat.le_refl _, hj, rfl, rfl⟩
                  case round =>
                    obtain ⟨q, hjq, hq, rfl, hrel⟩ := hrel
                    by_cases hlt : q < s.size
                    · have hdk := Lib.hid (drop_at s q hlt)
                      cases hb : blankB s[q]
                      · have HF : Hid ((s.data.toList.drop j).dropWhile blankB = s.data.toList.drop q) := by show _ = _; rw [hrel.out, hdk.out]; simp [hb]
                        have HE := hide (begE_some _ _ _ _ _ true _ (unhide HS1) (unhide HSG) (unhide HNE) (unhide HDN).1 (unhide HF) (unhide HDN).2)
                        have HL : Hid (s.data.toList.length - (s.data.toList.drop q).length = q) := by show _ = _; rw [List.length_drop, ← Lib.size_eq]; omega
                        have hbl := refBlank_any s[q] w
                        rw [hb] at hbl
                        have HBl := hide hbl
                        clear hbl
                        go_wp2_with (go_at_call 45; refine (unhide HBl).mono ?_; rintro e w' ⟨rfl, rfl⟩)
                        go_ret3
                        exact ⟨by rw [HE.out, HL.out]; rfl, rfl⟩
                      · have HR : Hid ((s.data.toList.drop j).dropWhile blankB = (s.data.toList.drop (q + 1)).dropWhile blankB) := by show _ = _; rw [hrel.out, hdk.out]; simp [hb]
                        have hbl := refBlank_any s[q] w
                        rw [hb] at hbl
                        have HBl := hide hbl
                        clear hbl
                        go_wp2_with (go_at_call 45; refine (unhide HBl).mono ?_; rintro e w' ⟨rfl, rfl⟩)
                        go_round
                        case rel => exact ⟨q + 1, by omega, by omega, by go_num, HR⟩
                        case measure => simp [intOf]; omega
                    · have HF : Hid ((s.data.toList.drop j).dropWhile blankB = s.data.toList.drop q) := by show _ = _; rw [hrel.out, drop_nil s q (by omega)]; rfl
                      have HE := hide (begE_some _ _ _ _ _ true _ (unhide HS1) (unhide HSG) (unhide HNE) (unhide HDN).1 (unhide HF) (unhide HDN).2)
                      have HL : Hid (s.data.toList.length - (s.data.toList.drop q).length = q) := by show _ = _; rw [List.length_drop, ← Lib.size_eq]; omega
                      go_wp2_with fail
                      go_ret3
                      exact ⟨by rw [HE.out, HL.out]; rfl, rfl⟩
          · have HTW : Hid ((s.data.toList.drop i0).takeWhile digB = []) := by show _ = _; rw [drop_nil s i0 (by omega)]; rfl
            have HE := hide (begE_none _ _ _ (unhide HS1) (congrArg Prod.snd (unhide HSG)) (unhide HTW))
            go_wp2_with (first | (go_at_call 45; refine (unhide HBl).mono ?_; rintro e w' ⟨rfl, rfl⟩) | (go_at_call 46; refine (unhide HDi).mono ?_; rintro e w' ⟨rfl, rfl⟩))
            go_ret3
            exact ⟨by rw [HE.out]; rfl, rfl⟩
        have e45 : ((s[k].toNat : Int) == 45) = false := by have h := beqU s[k] 45; rw [beq_eq_false_iff_ne.2 c45] at h; exact h.symm
        by_cases c43 : s[k] = 43
        · have e43 : ((s[k].toNat : Int) == 43) = true := by rw [c43]; rfl
          have HSG : Hid (signT (s.data.toList.drop k) = (false, s.data.toList.drop (k + 1))) := by show _ = _; rw [hdk.out]; simp [signT, c43]
          obtain ⟨i0, hi0⟩ : ∃ i0, i0 = k + 1 := ⟨_, rfl⟩
          have hi0' : (k : Int) + 1 = i0 := by omega
          rw [← hi0] at HSG
          clear hi0 c43
          by_cases hl2 : i0 < s.size
          · have hdk2 := Lib.hid (drop_at s i0 hl2)
            have hne0 : ((i0 : Int) == (s.size : Int)) = false := by simpa using (by omega : ¬ ((i0 : Int) = (s.size : Int)))
            cases hd : digB s[i0]
            · have HTW : Hid ((s.data.toList.drop i0).takeWhile digB = []) := by show _ = _; rw [hdk2.out]; simp [hd]
              have HE := hide (begE_none _ _ _ (unhide HS1) (congrArg Prod.snd (unhide HSG)) (unhide HTW))
              have hdi := refDigit_any s[i0] w
              rw [hd] at hdi
              have HDi := hide hdi
              clear hdi
              go_wp2_with (first | (go_at_call 45; refine (unhide HBl).mono ?_; rintro e w' ⟨rfl, rfl⟩) | (go_at_call 46; refine (unhide HDi).mono ?_; rintro e w' ⟨rfl, rfl⟩))
              go_ret3
              exact ⟨by rw [HE.out]; rfl, rfl⟩
            · have HNE : Hid ((s.data.toList.drop i0).takeWhile digB ≠ []) := by show _ ≠ _; rw [hdk2.out]; simp [hd]
              have hdi := refDigit_any s[i0] w
              rw [hd] at hdi
              have HDi := hide hdi
              clear hdi
              clear hd
              go_wp2_with (first | (go_at_call 45; refine (unhide HBl).mono ?_; rintro e w' ⟨rfl, rfl⟩) | (go_at_call 46; refine (unhide HDi).mono ?_; rintro e w' ⟨rfl, rfl⟩))
              clear HBl HDi hdk hdk2
              go_loop [5, 7, 8] (fun v5 v7 _ => ∃ (j : Nat) (n : Int), i0 ≤ j ∧ j ≤ s.size ∧ v5 = .int .i64 j ∧ v7 = .int .i64 n ∧ -9223372036854775808 ≤ n ∧ n ≤ 9223372036854775807 ∧ 0 ≤ n ∧ Hid (Dg (s.data.toList.drop i0) (s.data.toList.drop j) false n)) (fun i _ _ => s.size - (intOf i).toNat)
              case atStart => exact ⟨i0, 0, Nat.le_refl _, by omega, rfl, rfl, by decide, by decide, by decide, Dg.zero _ false⟩
              case round =>
                obtain ⟨j, n, hij, hj, rfl, rfl, hn0, hn1, hn2, hrel⟩ := hrel
                by_cases hlt : j < s.size
                · have hdk := Lib.hid (drop_at s j hlt)
                  cases hd : digB s[j]
                  · have HDN := hide ((unhide hrel).done (by rw [hdk.out]; simp [hd]))
                    have hdi := refDigit_any s[j] w
                    rw [hd] at hdi
                    have HDi := hide hdi
                    clear hdi
                    go_wp2_with (go_at_call 46; refine (unhide HDi).mono ?_; rintro e w' ⟨rfl, rfl⟩)
                    go_loop [5] (fun i => ∃ q : Nat, j ≤ q ∧ q ≤ s.size ∧ i = .int .i64 q ∧ Hid ((s.data.toList.drop j).dropWhile blankB = (s.data.toList.drop q).dropWhile blankB)) (fun i => s.size - (intOf i).toNat)
                    case atStart => exact ⟨j, Nat.le_refl _, hj, rfl, rfl⟩
                    case round =>
                      obtain ⟨q, hjq, hq, rfl, hrel⟩ := hrel
                      by_cases hlt : q < s.size
                      · have hdk := Lib.hid (drop_at s q hlt)
                        cases hb : blankB s[q]
                        · have HF : Hid ((s.data.toList.drop j).dropWhile blankB = s.data.toList.drop q) := by show _ = _; rw [hrel.out, hdk.out]; simp [hb]
                          have HE := hide (begE_some _ _ _ _ _ false _ (unhide HS1) (unhide HSG) (unhide HNE) (unhide HDN).1 (unhide HF) (unhide HDN).2)
                          have HL : Hid (s.data.toList.length - (s.data.toList.drop q).length = q) := by show _ = _; rw [List.length_drop, ← Lib.size_eq]; omega
                          have hbl := refBlank_any s[q] w
                          rw [hb] at hbl
                          have HBl := hide hbl
                          clear hbl
                          go_wp2_with (go_at_call 45; refine (unhide HBl).mono ?_; rintro e w' ⟨rfl, rfl⟩)
                          go_ret3
                          exact ⟨by rw [HE.out, HL.out]; rfl, rfl⟩
                        · have HR : Hid ((s.data.toList.drop j).dropWhile blankB = (s.data.toList.drop (q + 1)).dropWhile blankB) := by show _ = _; rw [hrel.out, hdk.out]; simp [hb]
                          have hbl := refBlank_any s[q] w
                          rw [hb] at hbl
                          have HBl := hide hbl
                          clear hbl
                          go_wp2_with (go_at_call 45; refine (unhide HBl).mono ?_; rintro e w' ⟨rfl, rfl⟩)
                          go_round
                          case rel => exact ⟨q + 1, by omega, by omega, by go_num, HR⟩
                          case measure => simp [intOf]; omega
                      · have HF : Hid ((s.data.toList.drop j).dropWhile blankB = s.data.toList.drop q) := by show _ = _; rw [hrel.out, drop_nil s q (by omega)]; rfl
                        have HE := hide (begE_some _ _ _ _ _ false _ (unhide HS1) (unhide HSG) (unhide HNE) (unhide HDN).1 (unhide HF) (unhide HDN).2)
                        have HL : Hid (s.data.toList.length - (s.data.toList.drop q).length = q) := by show _ = _; rw [List.length_drop, ← Lib.size_eq]; omega
                        go_wp2_with fail
                        go_ret3
                        exact ⟨by rw [HE.out, HL.out]; rfl, rfl⟩
                  · have hcb := (digB_iff s[j]).1 hd
                    have hdi := refDigit_any s[j] w
                    rw [hd] at hdi
                    have HDi := hide hdi
                    clear hdi
                    have HS0' : Dg (s.data.toList.drop i0) (s.data.toList.drop (j + 1)) false (if Int.tdiv (most - ((s[j].toNat : Int) - 48)) 10 < n then 9223372036854775807 else n * 10 + ((s[j].toNat : Int) - 48)) := by have h := unhide hrel; rw [hdk.out] at h; exact h.stepP hd rfl
                    have hQ : Int.tdiv (most - ((s[j].toNat : Int) - 48)) 10 = (9223372036854775807 - ((s[j].toNat : Int) - 48)) / 10 := Int.tdiv_eq_ediv_of_nonneg (by unfold most; omega)
                    rw [hQ] at HS0'
                    have HS0 := hide HS0'
                    clear hQ HS0'
                    by_cases hq : (9223372036854775807 - ((s[j].toNat : Int) - 48)) / 10 < n
                    · have HST : Hid (Dg (s.data.toList.drop i0) (s.data.toList.drop (j + 1)) false (9223372036854775807)) := by have h := unhide HS0; rw [if_pos hq] at h; exact h
                      clear HS0 hd hdk
                      go_wp2_with (go_at_call 46; refine (unhide HDi).mono ?_; rintro e w' ⟨rfl, rfl⟩)
                      go_loop [5] (fun i => ∃ q : Nat, j + 1 ≤ q ∧ q ≤ s.size ∧ i = .int .i64 q ∧ Hid (Dg (s.data.toList.drop i0) (s.data.toList.drop q) false (9223372036854775807))) (fun i => s.size - (intOf i).toNat)
                      case atStart => exact ⟨j + 1, Nat.le_refl _, by omega, by go_num, HST⟩
                      case round =>
                        obtain ⟨q, hjq, hq, rfl, hrel⟩ := hrel
                        by_cases hlt : q < s.size
                        · have hdk := Lib.hid (drop_at s q hlt)
                          cases hd : digB s[q]
                          · skip
                            have hdi := refDigit_any s[q] w
                            rw [hd] at hdi
                            have HDi := hide hdi
                            clear hdi
                            go_wp2_with (go_at_call 46; refine (unhide HDi).mono ?_; rintro e w' ⟨rfl, rfl⟩)
                            go_round
                            case rel => exact ⟨q, 9223372036854775807, by omega, hq, rfl, rfl, by omega, by omega, by omega, hrel⟩
                            case measure => simp [intOf]; omega
                          · have HR : Hid (Dg (s.data.toList.drop i0) (s.data.toList.drop (q + 1)) false (9223372036854775807)) := by have h := unhide hrel; rw [hdk.out] at h; exact h.skip hd (Or.inr rfl)
                            have hdi := refDigit_any s[q] w
                            rw [hd] at hdi
                            have HDi := hide hdi
                            clear hdi
                            go_wp2_with (go_at_call 46; refine (unhide HDi).mono ?_; rintro e w' ⟨rfl, rfl⟩)
                            go_round
                            case rel => exact ⟨q + 1, by omega, by omega, by go_num, HR⟩
                            case measure => simp [intOf]; omega
                        · go_wp2_with fail
                          go_round
                          case rel => exact ⟨q, 9223372036854775807, by omega, hq, rfl, rfl, by omega, by omega, by omega, hrel⟩
                          case measure => simp [intOf]; omega
                    · have HST : Hid (Dg (s.data.toList.drop i0) (s.data.toList.drop (j + 1)) false (n * 10 + ((s[j].toNat : Int) - 48))) := by have h := unhide HS0; rw [if_neg hq] at h; exact h
                      have hbd : -9223372036854775808 ≤ n * 10 + ((s[j].toNat : Int) - 48) ∧ n * 10 + ((s[j].toNat : Int) - 48) ≤ 9223372036854775807 := (unhide HST).bound
                      have hne : ¬ n * 10 + ((s[j].toNat : Int) - 48) = -9223372036854775808 := by omega
                      clear HS0 hd hdk
                      by_cases hl : n * 10 + ((s[j].toNat : Int) - 48) = 9223372036854775807
                      · rw [hl] at HST
                        go_wp2_with (go_at_call 46; refine (unhide HDi).mono ?_; rintro e w' ⟨rfl, rfl⟩)
                        go_loop [5] (fun i => ∃ q : Nat, j + 1 ≤ q ∧ q ≤ s.size ∧ i = .int .i64 q ∧ Hid (Dg (s.data.toList.drop i0) (s.data.toList.drop q) false (9223372036854775807))) (fun i => s.size - (intOf i).toNat)
                        case atStart => exact ⟨j + 1, Nat.le_refl _, by omega, by go_num, HST⟩
                        case round =>
                          obtain ⟨q, hjq, hq, rfl, hrel⟩ := hrel
                          by_cases hlt : q < s.size
                          · have hdk := Lib.hid (drop_at s q hlt)
                            cases hd : digB s[q]
                            · skip
                              have hdi := refDigit_any s[q] w
                              rw [hd] at hdi
                              have HDi := hide hdi
                              clear hdi
                              go_wp2_with (go_at_call 46; refine (unhide HDi).mono ?_; rintro e w' ⟨rfl, rfl⟩)
                              go_round
                              case rel => exact ⟨q, 9223372036854775807, by omega, hq, rfl, rfl, by omega, by omega, by omega, hrel⟩
                              case measure => simp [intOf]; omega
                            · have HR : Hid (Dg (s.data.toList.drop i0) (s.data.toList.drop (q + 1)) false (9223372036854775807)) := by have h := unhide hrel; rw [hdk.out] at h; exact h.skip hd (Or.inr rfl)
                              have hdi := refDigit_any s[q] w
                              rw [hd] at hdi
                              have HDi := hide hdi
                              clear hdi
                              go_wp2_with (go_at_call 46; refine (unhide HDi).mono ?_; rintro e w' ⟨rfl, rfl⟩)
                              go_round
                              case rel => exact ⟨q + 1, by omega, by omega, by go_num, HR⟩
                              case measure => simp [intOf]; omega
                          · go_wp2_with fail
                            go_round
                            case rel => exact ⟨q, 9223372036854775807, by omega, hq, rfl, rfl, by omega, by omega, by omega, hrel⟩
                            case measure => simp [intOf]; omega
                      · have q1 : (n * 10 + ((s[j].toNat : Int) - 48) == -9223372036854775808) = false := beq_eq_false_iff_ne.2 (by omega)
                        have q2 : (n * 10 + ((s[j].toNat : Int) - 48) == 9223372036854775807) = false := beq_eq_false_iff_ne.2 (by omega)
                        go_wp2_with (go_at_call 46; refine (unhide HDi).mono ?_; rintro e w' ⟨rfl, rfl⟩)
                        go_round
                        case rel => exact ⟨j + 1, n * 10 + ((s[j].toNat : Int) - 48), by omega, by omega, by go_num, rfl, hbd.1, hbd.2, by omega, HST⟩
                        case measure => simp [intOf]; omega
                · have HDN := hide ((unhide hrel).done (by rw [drop_nil s j (by omega)]; rfl))
                  go_wp2_with fail
                  go_loop [5] (fun i => ∃ q : Nat, j ≤ q ∧ q ≤ s.size ∧ i = .int .i64 q ∧ Hid ((s.data.toList.drop j).dropWhile blankB = (s.data.toList.drop q).dropWhile blankB)) (fun i => s.size - (intOf i).toNat)
                  case atStart => exact ⟨j, Nat.le_refl _, hj, rfl, rfl⟩
                  case round =>
                    obtain ⟨q, hjq, hq, rfl, hrel⟩ := hrel
                    by_cases hlt : q < s.size
                    · have hdk := Lib.hid (drop_at s q hlt)
                      cases hb : blankB s[q]
                      · have HF : Hid ((s.data.toList.drop j).dropWhile blankB = s.data.toList.drop q) := by show _ = _; rw [hrel.out, hdk.out]; simp [hb]
                        have HE := hide (begE_some _ _ _ _ _ false _ (unhide HS1) (unhide HSG) (unhide HNE) (unhide HDN).1 (unhide HF) (unhide HDN).2)
                        have HL : Hid (s.data.toList.length - (s.data.toList.drop q).length = q) := by show _ = _; rw [List.length_drop, ← Lib.size_eq]; omega
                        have hbl := refBlank_any s[q] w
                        rw [hb] at hbl
                        have HBl := hide hbl
                        clear hbl
                        go_wp2_with (go_at_call 45; refine (unhide HBl).mono ?_; rintro e w' ⟨rfl, rfl⟩)
                        go_ret3
                        exact ⟨by rw [HE.out, HL.out]; rfl, rfl⟩
                      · have HR : Hid ((s.data.toList.drop j).dropWhile blankB = (s.data.toList.drop (q + 1)).dropWhile blankB) := by show _ = _; rw [hrel.out, hdk.out]; simp [hb]
                        have hbl := refBlank_any s[q] w
                        rw [hb] at hbl
                        have HBl := hide hbl
                        clear hbl
                        go_wp2_with (go_at_call 45; refine (unhide HBl).mono ?_; rintro e w' ⟨rfl, rfl⟩)
                        go_round
                        case rel => exact ⟨q + 1, by omega, by omega, by go_num, HR⟩
                        case measure => simp [intOf]; omega
                    · have HF : Hid ((s.data.toList.drop j).dropWhile blankB = s.data.toList.drop q) := by show _ = _; rw [hrel.out, drop_nil s q (by omega)]; rfl
                      have HE := hide (begE_some _ _ _ _ _ false _ (unhide HS1) (unhide HSG) (unhide HNE) (unhide HDN).1 (unhide HF) (unhide HDN).2)
                      have HL : Hid (s.data.toList.length - (s.data.toList.drop q).length = q) := by show _ = _; rw [List.length_drop, ← Lib.size_eq]; omega
                      go_wp2_with fail
                      go_ret3
                      exact ⟨by rw [HE.out, HL.out]; rfl, rfl⟩
          · have HTW : Hid ((s.data.toList.drop i0).takeWhile digB = []) := by show _ = _; rw [drop_nil s i0 (by omega)]; rfl
            have HE := hide (begE_none _ _ _ (unhide HS1) (congrArg Prod.snd (unhide HSG)) (unhide HTW))
            go_wp2_with (first | (go_at_call 45; refine (unhide HBl).mono ?_; rintro e w' ⟨rfl, rfl⟩) | (go_at_call 46; refine (unhide HDi).mono ?_; rintro e w' ⟨rfl, rfl⟩))
            go_ret3
            exact ⟨by rw [HE.out]; rfl, rfl⟩
        have e43 : ((s[k].toNat : Int) == 43) = false := by have h := beqU s[k] 43; rw [beq_eq_false_iff_ne.2 c43] at h; exact h.symm
        have HSG : Hid (signT (s.data.toList.drop k) = (false, s.data.toList.drop k)) := by show _ = _; rw [hdk.out]; simp [signT, c45, c43]
        clear c45 c43
        by_cases hl2 : k < s.size
        · have hdk2 := Lib.hid (drop_at s k hl2)
          have hne0 : ((k : Int) == (s.size : Int)) = false := by simpa using (by omega : ¬ ((k : Int) = (s.size : Int)))
          cases hd : digB s[k]
          · have HTW : Hid ((s.data.toList.drop k).takeWhile digB = []) := by show _ = _; rw [hdk2.out]; simp [hd]
            have HE := hide (begE_none _ _ _ (unhide HS1) (congrArg Prod.snd (unhide HSG)) (unhide HTW))
            have hdi := refDigit_any s[k] w
            rw [hd] at hdi
            have HDi := hide hdi
            clear hdi
            go_wp2_with (first | (go_at_call 45; refine (unhide HBl).mono ?_; rintro e w' ⟨rfl, rfl⟩) | (go_at_call 46; refine (unhide HDi).mono ?_; rintro e w' ⟨rfl, rfl⟩))
            go_ret3
            exact ⟨by rw [HE.out]; rfl, rfl⟩
          · have HNE : Hid ((s.data.toList.drop k).takeWhile digB ≠ []) := by show _ ≠ _; rw [hdk2.out]; simp [hd]
            have hdi := refDigit_any s[k] w
            rw [hd] at hdi
            have HDi := hide hdi
            clear hdi
            clear hd
            go_wp2_with (first | (go_at_call 45; refine (unhide HBl).mono ?_; rintro e w' ⟨rfl, rfl⟩) | (go_at_call 46; refine (unhide HDi).mono ?_; rintro e w' ⟨rfl, rfl⟩))
            clear HBl HDi hdk hdk2
            go_loop [5, 7, 8] (fun v5 v7 _ => ∃ (j : Nat) (n : Int), k ≤ j ∧ j ≤ s.size ∧ v5 = .int .i64 j ∧ v7 = .int .i64 n ∧ -9223372036854775808 ≤ n ∧ n ≤ 9223372036854775807 ∧ 0 ≤ n ∧ Hid (Dg (s.data.toList.drop k) (s.data.toList.drop j) false n)) (fun i _ _ => s.size - (intOf i).toNat)
            case atStart => exact ⟨k, 0, Nat.le_refl _, by omega, rfl, rfl, by decide, by decide, by decide, Dg.zero _ false⟩
            case round =>
              obtain ⟨j, n, hij, hj, rfl, rfl, hn0, hn1, hn2, hrel⟩ := hrel
              by_cases hlt : j < s.size
              · have hdk := Lib.hid (drop_at s j hlt)
                cases hd : digB s[j]
                · have HDN := hide ((unhide hrel).done (by rw [hdk.out]; simp [hd]))
                  have hdi := refDigit_any s[j] w
                  rw [hd] at hdi
                  have HDi := hide hdi
                  clear hdi
                  go_wp2_with (go_at_call 46; refine (unhide HDi).mono ?_; rintro e w' ⟨rfl, rfl⟩)
                  go_loop [5] (fun i => ∃ q : Nat, j ≤ q ∧ q ≤ s.size ∧ i = .int .i64 q ∧ Hid ((s.data.toList.drop j).dropWhile blankB = (s.data.toList.drop q).dropWhile blankB)) (fun i => s.size - (intOf i).toNat)
                  case atStart => exact ⟨j, Nat.le_refl _, hj, rfl, rfl⟩
                  case round =>
                    obtain ⟨q, hjq, hq, rfl, hrel⟩ := hrel
                    by_cases hlt : q < s.size
                    · have hdk := Lib.hid (drop_at s q hlt)
                      cases hb : blankB s[q]
                      · have HF : Hid ((s.data.toList.drop j).dropWhile blankB = s.data.toList.drop q) := by show _ = _; rw [hrel.out, hdk.out]; simp [hb]
                        have HE := hide (begE_some _ _ _ _ _ false _ (unhide HS1) (unhide HSG) (unhide HNE) (unhide HDN).1 (unhide HF) (unhide HDN).2)
                        have HL : Hid (s.data.toList.length - (s.data.toList.drop q).length = q) := by show _ = _; rw [List.length_drop, ← Lib.size_eq]; omega
                        have hbl := refBlank_any s[q] w
                        rw [hb] at hbl
                        have HBl := hide hbl
                        clear hbl
                        go_wp2_with (go_at_call 45; refine (unhide HBl).mono ?_; rintro e w' ⟨rfl, rfl⟩)
                        go_ret3
                        exact ⟨by rw [HE.out, HL.out]; rfl, rfl⟩
                      · have HR : Hid ((s.data.toList.drop j).dropWhile blankB = (s.data.toList.drop (q + 1)).dropWhile blankB) := by show _ = _; rw [hrel.out, hdk.out]; simp [hb]
                        have hbl := refBlank_any s[q] w
                        rw [hb] at hbl
                        have HBl := hide hbl
                        clear hbl
                        go_wp2_with (go_at_call 45; refine (unhide HBl).mono ?_; rintro e w' ⟨rfl, rfl⟩)
                        go_round
                        case rel => exact ⟨q + 1, by omega, by omega, by go_num, HR⟩
                        case measure => simp [intOf]; omega
                    · have HF : Hid ((s.data.toList.drop j).dropWhile blankB = s.data.toList.drop q) := by show _ = _; rw [hrel.out, drop_nil s q (by omega)]; rfl
                      have HE := hide (begE_some _ _ _ _ _ false _ (unhide HS1) (unhide HSG) (unhide HNE) (unhide HDN).1 (unhide HF) (unhide HDN).2)
                      have HL : Hid (s.data.toList.length - (s.data.toList.drop q).length = q) := by show _ = _; rw [List.length_drop, ← Lib.size_eq]; omega
                      go_wp2_with fail
                      go_ret3
                      exact ⟨by rw [HE.out, HL.out]; rfl, rfl⟩
                · have hcb := (digB_iff s[j]).1 hd
                  have hdi := refDigit_any s[j] w
                  rw [hd] at hdi
                  have HDi := hide hdi
                  clear hdi
                  have HS0' : Dg (s.data.toList.drop k) (s.data.toList.drop (j + 1)) false (if Int.tdiv (most - ((s[j].toNat : Int) - 48)) 10 < n then 9223372036854775807 else n * 10 + ((s[j].toNat : Int) - 48)) := by have h := unhide hrel; rw [hdk.out] at h; exact h.stepP hd rfl
                  have hQ : Int.tdiv (most - ((s[j].toNat : Int) - 48)) 10 = (9223372036854775807 - ((s[j].toNat : Int) - 48)) / 10 := Int.tdiv_eq_ediv_of_nonneg (by unfold most; omega)
                  rw [hQ] at HS0'
                  have HS0 := hide HS0'
                  clear hQ HS0'
                  by_cases hq : (9223372036854775807 - ((s[j].toNat : Int) - 48)) / 10 < n
                  · have HST : Hid (Dg (s.data.toList.drop k) (s.data.toList.drop (j + 1)) false (9223372036854775807)) := by have h := unhide HS0; rw [if_pos hq] at h; exact h
                    clear HS0 hd hdk
                    go_wp2_with (go_at_call 46; refine (unhide HDi).mono ?_; rintro e w' ⟨rfl, rfl⟩)
                    go_loop [5] (fun i => ∃ q : Nat, j + 1 ≤ q ∧ q ≤ s.size ∧ i = .int .i64 q ∧ Hid (Dg (s.data.toList.drop k) (s.data.toList.drop q) false (9223372036854775807))) (fun i => s.size - (intOf i).toNat)
                    case atStart => exact ⟨j + 1, Nat.le_refl _, by omega, by go_num, HST⟩
                    case round =>
                      obtain ⟨q, hjq, hq, rfl, hrel⟩ := hrel
                      by_cases hlt : q < s.size
                      · have hdk := Lib.hid (drop_at s q hlt)
                        cases hd : digB s[q]
                        · skip
                          have hdi := refDigit_any s[q] w
                          rw [hd] at hdi
                          have HDi := hide hdi
                          clear hdi
                          go_wp2_with (go_at_call 46; refine (unhide HDi).mono ?_; rintro e w' ⟨rfl, rfl⟩)
                          go_round
                          case rel => exact ⟨q, 9223372036854775807, by omega, hq, rfl, rfl, by omega, by omega, by omega, hrel⟩
                          case measure => simp [intOf]; omega
                        · have HR : Hid (Dg (s.data.toList.drop k) (s.data.toList.drop (q + 1)) false (9223372036854775807)) := by have h := unhide hrel; rw [hdk.out] at h; exact h.skip hd (Or.inr rfl)
                          have hdi := refDigit_any s[q] w
                          rw [hd] at hdi
                          have HDi := hide hdi
                          clear hdi
                          go_wp2_with (go_at_call 46; refine (unhide HDi).mono ?_; rintro e w' ⟨rfl, rfl⟩)
                          go_round
                          case rel => exact ⟨q + 1, by omega, by omega, by go_num, HR⟩
                          case measure => simp [intOf]; omega
                      · go_wp2_with fail
                        go_round
                        case rel => exact ⟨q, 9223372036854775807, by omega, hq, rfl, rfl, by omega, by omega, by omega, hrel⟩
                        case measure => simp [intOf]; omega
                  · have HST : Hid (Dg (s.data.toList.drop k) (s.data.toList.drop (j + 1)) false (n * 10 + ((s[j].toNat : Int) - 48))) := by have h := unhide HS0; rw [if_neg hq] at h; exact h
                    have hbd : -9223372036854775808 ≤ n * 10 + ((s[j].toNat : Int) - 48) ∧ n * 10 + ((s[j].toNat : Int) - 48) ≤ 9223372036854775807 := (unhide HST).bound
                    have hne : ¬ n * 10 + ((s[j].toNat : Int) - 48) = -9223372036854775808 := by omega
                    clear HS0 hd hdk
                    by_cases hl : n * 10 + ((s[j].toNat : Int) - 48) = 9223372036854775807
                    · rw [hl] at HST
                      go_wp2_with (go_at_call 46; refine (unhide HDi).mono ?_; rintro e w' ⟨rfl, rfl⟩)
                      go_loop [5] (fun i => ∃ q : Nat, j + 1 ≤ q ∧ q ≤ s.size ∧ i = .int .i64 q ∧ Hid (Dg (s.data.toList.drop k) (s.data.toList.drop q) false (9223372036854775807))) (fun i => s.size - (intOf i).toNat)
                      case atStart => exact ⟨j + 1, Nat.le_refl _, by omega, by go_num, HST⟩
                      case round =>
                        obtain ⟨q, hjq, hq, rfl, hrel⟩ := hrel
                        by_cases hlt : q < s.size
                        · have hdk := Lib.hid (drop_at s q hlt)
                          cases hd : digB s[q]
                          · skip
                            have hdi := refDigit_any s[q] w
                            rw [hd] at hdi
                            have HDi := hide hdi
                            clear hdi
                            go_wp2_with (go_at_call 46; refine (unhide HDi).mono ?_; rintro e w' ⟨rfl, rfl⟩)
                            go_round
                            case rel => exact ⟨q, 9223372036854775807, by omega, hq, rfl, rfl, by omega, by omega, by omega, hrel⟩
                            case measure => simp [intOf]; omega
                          · have HR : Hid (Dg (s.data.toList.drop k) (s.data.toList.drop (q + 1)) false (9223372036854775807)) := by have h := unhide hrel; rw [hdk.out] at h; exact h.skip hd (Or.inr rfl)
                            have hdi := refDigit_any s[q] w
                            rw [hd] at hdi
                            have HDi := hide hdi
                            clear hdi
                            go_wp2_with (go_at_call 46; refine (unhide HDi).mono ?_; rintro e w' ⟨rfl, rfl⟩)
                            go_round
                            case rel => exact ⟨q + 1, by omega, by omega, by go_num, HR⟩
                            case measure => simp [intOf]; omega
                        · go_wp2_with fail
                          go_round
                          case rel => exact ⟨q, 9223372036854775807, by omega, hq, rfl, rfl, by omega, by omega, by omega, hrel⟩
                          case measure => simp [intOf]; omega
                    · have q1 : (n * 10 + ((s[j].toNat : Int) - 48) == -9223372036854775808) = false := beq_eq_false_iff_ne.2 (by omega)
                      have q2 : (n * 10 + ((s[j].toNat : Int) - 48) == 9223372036854775807) = false := beq_eq_false_iff_ne.2 (by omega)
                      go_wp2_with (go_at_call 46; refine (unhide HDi).mono ?_; rintro e w' ⟨rfl, rfl⟩)
                      go_round
                      case rel => exact ⟨j + 1, n * 10 + ((s[j].toNat : Int) - 48), by omega, by omega, by go_num, rfl, hbd.1, hbd.2, by omega, HST⟩
                      case measure => simp [intOf]; omega
              · have HDN := hide ((unhide hrel).done (by rw [drop_nil s j (by omega)]; rfl))
                go_wp2_with fail
                go_loop [5] (fun i => ∃ q : Nat, j ≤ q ∧ q ≤ s.size ∧ i = .int .i64 q ∧ Hid ((s.data.toList.drop j).dropWhile blankB = (s.data.toList.drop q).dropWhile blankB)) (fun i => s.size - (intOf i).toNat)
                case atStart => exact ⟨j, Nat.le_refl _, hj, rfl, rfl⟩
                case round =>
                  obtain ⟨q, hjq, hq, rfl, hrel⟩ := hrel
                  by_cases hlt : q < s.size
                  · have hdk := Lib.hid (drop_at s q hlt)
                    cases hb : blankB s[q]
                    · have HF : Hid ((s.data.toList.drop j).dropWhile blankB = s.data.toList.drop q) := by show _ = _; rw [hrel.out, hdk.out]; simp [hb]
                      have HE := hide (begE_some _ _ _ _ _ false _ (unhide HS1) (unhide HSG) (unhide HNE) (unhide HDN).1 (unhide HF) (unhide HDN).2)
                      have HL : Hid (s.data.toList.length - (s.data.toList.drop q).length = q) := by show _ = _; rw [List.length_drop, ← Lib.size_eq]; omega
                      have hbl := refBlank_any s[q] w
                      rw [hb] at hbl
                      have HBl := hide hbl
                      clear hbl
                      go_wp2_with (go_at_call 45; refine (unhide HBl).mono ?_; rintro e w' ⟨rfl, rfl⟩)
                      go_ret3
                      exact ⟨by rw [HE.out, HL.out]; rfl, rfl⟩
                    · have HR : Hid ((s.data.toList.drop j).dropWhile blankB = (s.data.toList.drop (q + 1)).dropWhile blankB) := by show _ = _; rw [hrel.out, hdk.out]; simp [hb]
                      have hbl := refBlank_any s[q] w
                      rw [hb] at hbl
                      have HBl := hide hbl
                      clear hbl
                      go_wp2_with (go_at_call 45; refine (unhide HBl).mono ?_; rintro e w' ⟨rfl, rfl⟩)
                      go_round
                      case rel => exact ⟨q + 1, by omega, by omega, by go_num, HR⟩
                      case measure => simp [intOf]; omega
                  · have HF : Hid ((s.data.toList.drop j).dropWhile blankB = s.data.toList.drop q) := by show _ = _; rw [hrel.out, drop_nil s q (by omega)]; rfl
                    have HE := hide (begE_some _ _ _ _ _ false _ (unhide HS1) (unhide HSG) (unhide HNE) (unhide HDN).1 (unhide HF) (unhide HDN).2)
                    have HL : Hid (s.data.toList.length - (s.data.toList.drop q).length = q) := by show _ = _; rw [List.length_drop, ← Lib.size_eq]; omega
                    go_wp2_with fail
                    go_ret3
                    exact ⟨by rw [HE.out, HL.out]; rfl, rfl⟩
        · omega
      · have HR : Hid (s.data.toList.dropWhile blankB = (s.data.toList.drop (k + 1)).dropWhile blankB) := by show _ = _; rw [hrel.out, hdk.out]; simp [hb]
        have hbl := refBlank_any s[k] w
        rw [hb] at hbl
        have HBl := hide hbl
        clear hbl
        go_wp2_with (go_at_call 45; refine (unhide HBl).mono ?_; rintro e w' ⟨rfl, rfl⟩)
        go_round
        case rel => exact ⟨k + 1, by omega, by go_num, HR⟩
        case measure => simp [intOf]; omega
    · have HS1 : Hid (s.data.toList.dropWhile blankB = []) := by show _ = _; rw [hrel.out, drop_nil s k (by omega)]; rfl
      have HE := hide (begE_none _ [] [] (unhide HS1) rfl rfl)
      go_wp2_with fail
      go_ret3
      exact ⟨by rw [HE.out]; rfl, rfl⟩
end Go.Proofs.YtmfnonepcipplaaDoor
