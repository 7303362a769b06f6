/-
  The document's answer of layer 6 over values: as a truth, a number, a text, a kind; sameness; orders of two numbers, truths, texts.
-/
import Derived.Test.YtmbminbnnmnkeaaDoorConvD
import Derived.Test.YtmbminbnnmnkeaaDoorRef6D
import Derived.Laws.Cover1
namespace Go.Proofs.YtmbminbnnmnkeaaDoor
open Go Go.RowKit Convs

theorem refTruth_any (k n : Int) (s : ByteArray) (a : Option Addr) (len cap : Nat) (w : World) :
    Calls Tryd.prog 12 #[.agg #[.int .i64 k, .int .i64 n, .string s, .slice a len cap]] w fun e w' => e = .returned (.bool (truthN k n s.data.toList len)) ∧ Below w.heap.size w w' := by
  have hb := below_box w (.cells #[.int .i64 k, .int .i64 n, .string s, .slice a len cap] 24)
  by_cases h0 : k = 0
  · subst h0
    go_enter Tryd.func12, Tryd.ntmps12
    go_wp2_with fail
    go_ret
    exact ⟨rfl, hb⟩
  by_cases h3 : k = 3
  · subst h3
    go_enter Tryd.func12, Tryd.ntmps12
    go_wp2_with fail
    all_goals go_ret
    all_goals exact ⟨ret_bool (by rw [truth3]; simp_all [Lib.toList_data]), hb⟩
  by_cases h1 : k = 1
  · subst h1
    go_enter Tryd.func12, Tryd.ntmps12
    go_wp2_with fail
    go_ret
    exact ⟨rfl, hb⟩
  by_cases h2 : k = 2
  · subst h2
    go_enter Tryd.func12, Tryd.ntmps12
    go_wp2_with fail
    go_ret
    exact ⟨rfl, hb⟩
  by_cases h4 : k = 4
  · subst h4
    go_enter Tryd.func12, Tryd.ntmps12
    go_wp2_with fail
    go_ret
    exact ⟨ret_bool (by simp [truthN]), hb⟩
  go_enter Tryd.func12, Tryd.ntmps12
  go_wp2_with fail
  go_ret
  exact ⟨ret_bool (by simp [truthN, h0, h1, h2, h3, h4]), hb⟩

theorem refKind_any (k n : Int) (s : ByteArray) (a : Option Addr) (len cap : Nat) (w : World) :
    Calls Tryd.prog 16 #[.agg #[.int .i64 k, .int .i64 n, .string s, .slice a len cap]] w fun e w' => e = .returned (.string ⟨(kindN k).toArray⟩) ∧ Below w.heap.size w w' := by
  have hb := below_box w (.cells #[.int .i64 k, .int .i64 n, .string s, .slice a len cap] 24)
  by_cases k0 : k = 0
  · subst k0
    go_enter Tryd.func16, Tryd.ntmps16
    go_wp2_with fail
    go_ret
    exact ⟨rfl, hb⟩
  by_cases k1 : k = 1
  · subst k1
    go_enter Tryd.func16, Tryd.ntmps16
    go_wp2_with fail
    go_ret
    exact ⟨rfl, hb⟩
  by_cases k2 : k = 2
  · subst k2
    go_enter Tryd.func16, Tryd.ntmps16
    go_wp2_with fail
    go_ret
    exact ⟨rfl, hb⟩
  by_cases k3 : k = 3
  · subst k3
    go_enter Tryd.func16, Tryd.ntmps16
    go_wp2_with fail
    go_ret
    exact ⟨rfl, hb⟩
  by_cases k4 : k = 4
  · subst k4
    go_enter Tryd.func16, Tryd.ntmps16
    go_wp2_with fail
    go_ret
    exact ⟨rfl, hb⟩
  by_cases k5 : k = 5
  · subst k5
    go_enter Tryd.func16, Tryd.ntmps16
    go_wp2_with fail
    go_ret
    exact ⟨rfl, hb⟩
  have HE : Hid (kindN k = [117, 110, 107, 110, 111, 119, 110]) := by show _ = _; simp [kindN, k0, k1, k2, k3, k4, k5]
  go_enter Tryd.func16, Tryd.ntmps16
  go_wp2_with fail
  go_ret
  exact ⟨by rw [HE.out]; rfl, hb⟩

theorem refNumber_any (k n : Int) (s : ByteArray) (a : Option Addr) (len cap : Nat) (w : World) (hs : s.size ≤ 281474976710656) :
    Calls Tryd.prog 14 #[.agg #[.int .i64 k, .int .i64 n, .string s, .slice a len cap]] w fun e w' => e = .returned (.int .i64 (numberN k n s.data.toList len)) ∧ Below w.heap.size w w' := by
  have hb := below_box w (.cells #[.int .i64 k, .int .i64 n, .string s, .slice a len cap] 24)
  have HB := hide (refBegins_any s (w.alloc (.cells #[.int .i64 k, .int .i64 n, .string s, .slice a len cap] 24)) hs)
  by_cases h0 : k = 0
  · subst h0
    go_enter Tryd.func14, Tryd.ntmps14
    go_wp2_with fail
    go_ret
    exact ⟨ret_int (by simp [numberN, truNum, truthN]), hb⟩
  by_cases h1 : k = 1
  · subst h1
    go_enter Tryd.func14, Tryd.ntmps14
    go_wp2_with fail
    all_goals go_ret
    all_goals exact ⟨ret_int (by simp_all [numberN, truNum, truthN]), hb⟩
  by_cases h2 : k = 2
  · subst h2
    go_enter Tryd.func14, Tryd.ntmps14
    go_wp2_with fail
    go_ret
    exact ⟨ret_int (by simp [numberN]), hb⟩
  by_cases h3 : k = 3
  · subst h3
    go_enter Tryd.func14, Tryd.ntmps14
    go_wp2_with (go_at_call 21; refine (unhide HB).mono ?_; rintro e w2 ⟨rfl, rfl⟩)
    go_ret
    exact ⟨ret_int (by simp [numberN]), hb⟩
  by_cases h4 : k = 4
  · subst h4
    by_cases hl : len = 0
    · subst hl
      go_enter Tryd.func14, Tryd.ntmps14
      go_wp2_with fail
      all_goals go_ret
      all_goals exact ⟨ret_int (by simp [numberN, truNum, truthN]), hb⟩
    · have hl' : ¬ (len : Int) = 0 := by omega
      have HE : Hid (numberN 4 n s.data.toList len = 1) := by show _ = _; simp [numberN, truNum, truthN, Nat.pos_of_ne_zero hl]
      go_enter Tryd.func14, Tryd.ntmps14
      go_wp2_with fail
      all_goals go_ret
      all_goals exact ⟨by rw [HE.out]; rfl, hb⟩
  have HE : Hid (numberN k n s.data.toList len = 1) := by show _ = _; simp [numberN, truNum, truthN, h0, h1, h2, h3, h4]
  go_enter Tryd.func14, Tryd.ntmps14
  go_wp2_with fail
  go_ret
  exact ⟨by rw [HE.out]; rfl, hb⟩

theorem refText_any (k n : Int) (s : ByteArray) (a : Option Addr) (len cap : Nat) (w : World) (h0 : -9223372036854775808 ≤ n) (h1 : n ≤ 9223372036854775807) :
    Calls Tryd.prog 10 #[.agg #[.int .i64 k, .int .i64 n, .string s, .slice a len cap]] w fun e w' => e = .returned (.tuple #[.string ⟨(textN k n s.data.toList).1.toArray⟩, .int .i64 (textN k n s.data.toList).2]) ∧ Below w.heap.size w w' := by
  have hb := below_box w (.cells #[.int .i64 k, .int .i64 n, .string s, .slice a len cap] 24)
  have HD := hide (refDigits_any n (w.alloc (.cells #[.int .i64 k, .int .i64 n, .string s, .slice a len cap] 24)) h0 h1)
  clear h0 h1
  by_cases k0 : k = 0
  · subst k0
    go_enter Tryd.func10, Tryd.ntmps10
    go_wp2_with fail
    go_ret2
    exact ⟨rfl, hb⟩
  by_cases k1 : k = 1
  · subst k1
    by_cases hn : n = 0
    · subst hn
      go_enter Tryd.func10, Tryd.ntmps10
      go_wp2_with fail
      go_ret2
      exact ⟨rfl, hb⟩
    · have HE : Hid (textN 1 n s.data.toList = ([49], 0)) := by show _ = _; simp [textN, hn]
      go_enter Tryd.func10, Tryd.ntmps10
      go_wp2_with fail
      go_ret2
      exact ⟨by rw [HE.out]; rfl, hb⟩
  by_cases k2 : k = 2
  · subst k2
    have HE : Hid (textN 2 n s.data.toList = (digitsT n, 0)) := by show _ = _; simp [textN]
    go_enter Tryd.func10, Tryd.ntmps10
    go_wp2_with (go_at_call 27; refine (unhide HD).mono ?_; rintro e w2 ⟨rfl, hb2⟩)
    go_ret2
    exact ⟨by rw [HE.out]; rfl, hb.trans (hb2.mono hb.size)⟩
  by_cases k3 : k = 3
  · subst k3
    have HE : Hid (textN 3 n s.data.toList = (s.data.toList, 0)) := by show _ = _; simp [textN]
    go_enter Tryd.func10, Tryd.ntmps10
    go_wp2_with fail
    go_ret2
    exact ⟨by rw [HE.out]; show _ = Ending.returned (.tuple #[.string ⟨s.data.toList.toArray⟩, .int .i64 0]); rw [back]; rfl, hb⟩
  have HE : Hid (textN k n s.data.toList = ([], 15)) := by show _ = _; simp [textN, k0, k1, k2, k3]
  go_enter Tryd.func10, Tryd.ntmps10
  go_wp2_with fail
  go_ret2
  exact ⟨by rw [HE.out]; rfl, hb⟩

theorem lexT_less : ∀ a b : L, lexT a b = if Op.bytesLess a b then -1 else if a == b then 0 else 1
  | [], [] => rfl
  | [], _ :: _ => rfl
  | _ :: _, [] => rfl
  | x :: r, y :: t => by
    simp only [lexT, Op.bytesLess, lexT_less r t]
    by_cases h1 : x < y
    · simp [h1]
    · by_cases h2 : y < x
      · have h3 : y ≠ x := by rintro rfl; simp only [UInt8.lt_iff_toNat_lt] at h2; omega
        simp [h1, h2, Ne.symm h3]
      · have h3 : x = y := by apply UInt8.toNat_inj.1; simp only [UInt8.lt_iff_toNat_lt] at h1 h2; omega
        subst h3
        simp [h1]

theorem refPlain_any (k n : Int) (s : ByteArray) (a : Option Addr) (len cap : Nat) (w : World) :
    Calls Tryd.prog 36 #[.agg #[.int .i64 k, .int .i64 n, .string s, .slice a len cap]] w fun e w' => e = .returned (.bool (plainN k)) ∧ Below w.heap.size w w' := by
  have hb := below_box w (.cells #[.int .i64 k, .int .i64 n, .string s, .slice a len cap] 24)
  by_cases h0 : k < 0
  · have HE : Hid (plainN k = false) := by show _ = _; simp only [plainN, Bool.or_eq_false_iff, beq_eq_false_iff_ne]; omega
    go_enter Tryd.func36, Tryd.ntmps36
    go_wp2_with fail
    go_ret
    exact ⟨by rw [HE.out]; rfl, hb⟩
  by_cases h3 : k ≤ 3
  · have HE : Hid (plainN k = true) := by show _ = _; simp only [plainN, Bool.or_eq_true, beq_iff_eq]; omega
    go_enter Tryd.func36, Tryd.ntmps36
    go_wp2_with fail
    go_ret
    exact ⟨by rw [HE.out]; rfl, hb⟩
  · have HE : Hid (plainN k = false) := by show _ = _; simp only [plainN, Bool.or_eq_false_iff, beq_eq_false_iff_ne]; omega
    go_enter Tryd.func36, Tryd.ntmps36
    go_wp2_with fail
    go_ret
    exact ⟨by rw [HE.out]; rfl, hb⟩
theorem refNumbers_any (a b : Int) (w : World) : Calls Tryd.prog 39 #[.int .i64 a, .int .i64 b] w fun e w' => e = .returned (.int .i64 (numT a b)) ∧ w = w' := by
  go_enter Tryd.func39, Tryd.ntmps39
  go_wp2_with fail
  all_goals go_ret
  all_goals exact ⟨ret_int (by unfold numT; (repeat' split) <;> omega), rfl⟩
theorem refTruths_any (a b : Bool) (w : World) : Calls Tryd.prog 37 #[.bool a, .bool b] w fun e w' => e = .returned (.int .i64 (truT a b)) ∧ w = w' := by
  cases a <;> cases b
  all_goals
    go_enter Tryd.func37, Tryd.ntmps37
    go_wp2_with fail
    go_ret
    exact ⟨rfl, rfl⟩
theorem refTexts_any (a b : ByteArray) (w : World) : Calls Tryd.prog 38 #[.string a, .string b] w fun e w' => e = .returned (.int .i64 (lexT a.data.toList b.data.toList)) ∧ w = w' := by
  have hL := lexT_less a.data.toList b.data.toList
  rw [← Lib.toList_data, ← Lib.toList_data] at hL ⊢
  cases h1 : Op.bytesLess a.toList b.toList <;> cases h2 : (a.toList == b.toList)
  all_goals
    rw [h1, h2] at hL
    have HL := hide hL
    clear hL
    go_enter Tryd.func38, Tryd.ntmps38
    go_wp2_with fail
    go_ret
    exact ⟨by rw [HL.out]; rfl, rfl⟩
end Go.Proofs.YtmbminbnnmnkeaaDoor
