/-
  The probe of layer 7's statements: it answers true in every world.
-/
import Derived.Test.YtmfnonepcipplaaDoorLAppend
import Derived.Test.YtmfnonepcipplaaDoorLGet
namespace Go.Proofs.YtmfnonepcipplaaDoor
open Go Go.RowKit Convs Lists

theorem dig5 : digitsT 5 = [53] := by
  unfold digitsT
  rw [if_neg (by decide)]
  exact natDig_small 5 (by decide)
theorem norm5 : normT ⟨true, 0, [53]⟩ = ⟨false, 5, []⟩ := by
  rw [normT_keyNum]
  have h := keyNum_yes 5 (by unfold least most; omega) [53] dig5
  simp only [h, if_true]
theorem aset : (⟨[], 0⟩ : Ls).set ⟨false, 5, []⟩ 70 = (⟨[(⟨false, 5, []⟩, 70)], 6⟩, false) := by
  unfold Ls.set nextT most
  simp [hasI, getI, maxItems]
theorem aapp : (⟨[(⟨false, 5, []⟩, 70)], 6⟩ : Ls).append 71 = (⟨[(⟨false, 5, []⟩, 70), (⟨false, 6, []⟩, 71)], 7⟩, ⟨false, 6, []⟩, false) := by
  unfold Ls.append Ls.set nextT most
  simp [hasI, getI, maxItems]
theorem aget : getN [(⟨false, 5, []⟩, 70), (⟨false, 6, []⟩, 71)] (normT ⟨false, 5, []⟩) = (70, true) := by
  rw [normT_num]
  simp [getN, hasI, getI]

set_option maxRecDepth 100000 in
set_option maxHeartbeats 2000000 in
theorem alive_any (w : World) (hM : Met w) : Calls Tryd.prog 7 #[] w fun e w' => e = .returned (.bool true) ∧ Below w.heap.size w w' := by
  have HNEW := hide (New_any w)
  have HMET := hide hM
  clear hM
  go_enter Tryd.func7, Tryd.ntmps7
  go_wp2_with fail
  refine (unhide HNEW).mono ?_
  rintro e w1 ⟨rfl, hl1, hb1⟩
  have hset := Set_any hl1 (HMET.out.below hb1) true 0 ⟨#[53]⟩ 70 ⟨by simp, by simp, by show 1 ≤ maxLen; unfold maxLen; omega⟩ (by show 1 ≤ _; omega)
  rw [show (⟨#[53]⟩ : ByteArray).data.toList = [53] from rfl, norm5, aset] at hset
  have HSET := hide hset
  have HB1 := hide hb1
  have HL1 := hide hl1
  clear hset hb1 hl1
  unfold fullN at HSET
  go_wp2_with fail
  refine (unhide HSET).mono ?_
  rintro e w2 ⟨mb2, iv2, lent2, rfl, hl2, hs2⟩
  have hb2 := HB1.out.trans (hs2.below HL1.out)
  have happ := Append_any hl2 71
  rw [aapp] at happ
  have HAPP := hide happ
  have HB2 := hide hb2
  have HL2 := hide hl2
  clear hl2 hs2 happ hb2
  unfold fullN at HAPP
  go_wp2_with fail
  refine (unhide HAPP).mono ?_
  rintro e w3 ⟨mb3, iv3, lent3, rfl, hl3, hs3⟩
  have hb3 := HB2.out.trans (hs3.below HL2.out)
  have hb4 := hb3.alloc (Nat.le_trans (Nat.le_refl _) hb3.size) (.cells #[.bool false, .int .i64 6, .string ⟨#[]⟩] 30)
  have hl4 := hl3.alloc (.cells #[.bool false, .int .i64 6, .string ⟨#[]⟩] 30)
  have hk4 := Blk.new w3 #[.bool false, .int .i64 6, .string ⟨#[]⟩] 30
  obtain ⟨w4, hw4⟩ : ∃ w4, w3.alloc (.cells #[.bool false, .int .i64 6, .string ⟨#[]⟩] 30) = w4 := ⟨_, rfl⟩
  rw [hw4] at hb4 hl4 hk4
  have hget := Get_any hl4 (HMET.out.below hb4) false 5 ⟨#[]⟩ ⟨by simp, by simp, by simp⟩ (by show 0 ≤ _; omega)
  rw [show (⟨#[]⟩ : ByteArray).data.toList = [] from rfl] at hget
  simp only [aget] at hget
  have HGET := hide hget
  have HW4 := hide hw4
  have HB4 := hide hb4
  have HL4 := hide hl4
  have HK4 := hide hk4
  clear hl3 hs3 hb3 hb4 hl4 hw4 hget hk4
  unfold kv
  go_wp2_with fail
  rw [HW4.out]
  refine (unhide HGET).mono ?_
  rintro e w5 ⟨rfl, hb5⟩
  have hl5 := HL4.out.below hb5
  obtain ⟨d0, d1, d2, -⟩ := (HK4.out.below hb5 HK4.out.lt).three
  have HLEN := hide (Len_any hl5)
  have HNEXT := hide (Next_any hl5)
  have HB5 := hide (HB4.out.trans (hb5.mono HB4.out.size))
  clear hb5 hl5
  go_wp2_with (first
    | (go_at_call 15; with_reducible refine (unhide HLEN).mono ?_; rintro e w6 ⟨rfl, rfl⟩)
    | (go_at_call 16; with_reducible refine (unhide HNEXT).mono ?_; rintro e w6 ⟨rfl, rfl⟩))
  go_ret
  exact ⟨rfl, HB5.out⟩
end Go.Proofs.YtmfnonepcipplaaDoor
