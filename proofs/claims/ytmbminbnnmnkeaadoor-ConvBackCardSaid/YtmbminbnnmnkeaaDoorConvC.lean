/-
  Contracts of package conv's functions over values: as a truth, a number, a text, a kind.
-/
import Derived.Test.YtmbminbnnmnkeaaDoorConvB
namespace Go.Proofs.YtmbminbnnmnkeaaDoor
open Go Go.RowKit Convs

/-- A value as a truth, by its kind, its number, its text and how many items it has. -/
def truthN (k n : Int) (s : L) (len : Nat) : Bool :=
  if k = 0 then false else if k = 1 ∨ k = 2 then n != 0 else if k = 3 then !(s == [] || s == [48]) else if k = 4 then decide (0 < len) else true
/-- A value where it lies. -/
abbrev vv (k n : Int) (s : ByteArray) (a : Option Addr) (len cap : Nat) : Value := .agg #[.int .i64 k, .int .i64 n, .string s, .slice a len cap]

theorem below_box (w : World) (o : Obj) : Below w.heap.size w (w.alloc o) := (Below.refl _ w).alloc (Nat.le_refl _) _
theorem eq_lit (s : ByteArray) (l : L) : (s = ⟨l.toArray⟩) ↔ s.data.toList = l := by
  constructor
  · rintro rfl; rfl
  · intro h; cases s; simp at h; simp [← h]

theorem back (s : ByteArray) : (⟨s.data.toList.toArray⟩ : ByteArray) = s := by cases s; simp
theorem truth3 (n : Int) (s : L) (len : Nat) : truthN 3 n s len = (!s.isEmpty && !s == [48]) := by
  cases s <;> simp [truthN]
theorem Truth_any (k n : Int) (s : ByteArray) (a : Option Addr) (len cap : Nat) (w : World) :
    Calls Tryd.prog 11 #[.agg #[.int .i64 k, .int .i64 n, .string s, .slice a len cap]] w fun e w' => e = .returned (.bool (truthN k n s.data.toList len)) ∧ Below w.heap.size w w' := by
  have hb := below_box w (.cells #[.int .i64 k, .int .i64 n, .string s, .slice a len cap] 24)
  by_cases h0 : k = 0
  · subst h0
    go_enter Tryd.func11, Tryd.ntmps11
    go_wp2_with fail
    go_ret
    exact ⟨rfl, hb⟩
  by_cases h3 : k = 3
  · subst h3
    go_enter Tryd.func11, Tryd.ntmps11
    go_wp2_with fail
    all_goals go_ret
    all_goals exact ⟨ret_bool (by rw [truth3]; simp_all [Lib.toList_data]), hb⟩
  by_cases h1 : k = 1
  · subst h1
    go_enter Tryd.func11, Tryd.ntmps11
    go_wp2_with fail
    go_ret
    exact ⟨rfl, hb⟩
  by_cases h2 : k = 2
  · subst h2
    go_enter Tryd.func11, Tryd.ntmps11
    go_wp2_with fail
    go_ret
    exact ⟨rfl, hb⟩
  by_cases h4 : k = 4
  · subst h4
    go_enter Tryd.func11, Tryd.ntmps11
    go_wp2_with fail
    go_ret
    exact ⟨ret_bool (by simp [truthN]), hb⟩
  go_enter Tryd.func11, Tryd.ntmps11
  go_wp2_with fail
  go_ret
  exact ⟨ret_bool (by simp [truthN, h0, h1, h2, h3, h4]), hb⟩

def truNum (k n : Int) (s : L) (len : Nat) : Int := if truthN k n s len then 1 else 0
theorem truthNumber_any (k n : Int) (s : ByteArray) (a : Option Addr) (len cap : Nat) (w : World) :
    Calls Tryd.prog 28 #[.agg #[.int .i64 k, .int .i64 n, .string s, .slice a len cap]] w fun e w' => e = .returned (.int .i64 (truNum k n s.data.toList len)) ∧ Below w.heap.size w w' := by
  have hb := below_box w (.cells #[.int .i64 k, .int .i64 n, .string s, .slice a len cap] 24)
  have hT := Truth_any k n s a len cap (w.alloc (.cells #[.int .i64 k, .int .i64 n, .string s, .slice a len cap] 24))
  unfold truNum
  cases hB : truthN k n s.data.toList len
  all_goals
    rw [hB] at hT
    clear hB
    have HT := hide hT
    clear hT
    go_enter Tryd.func28, Tryd.ntmps28
    go_wp2_with (go_at_call 11; refine (unhide HT).mono ?_; rintro e w2 ⟨rfl, hb2⟩)
    go_ret
    exact ⟨rfl, hb.trans (hb2.mono hb.size)⟩

def numberN (k n : Int) (s : L) (len : Nat) : Int := if k = 2 then n else if k = 3 then beginsT s else truNum k n s len
theorem Number_any (k n : Int) (s : ByteArray) (a : Option Addr) (len cap : Nat) (w : World) (hM : Met w) (hs : s.size ≤ 281474976710656) :
    Calls Tryd.prog 13 #[.agg #[.int .i64 k, .int .i64 n, .string s, .slice a len cap]] w fun e w' => e = .returned (.int .i64 (numberN k n s.data.toList len)) ∧ Below w.heap.size w w' := by
  have hb := below_box w (.cells #[.int .i64 k, .int .i64 n, .string s, .slice a len cap] 24)
  have HT := hide (truthNumber_any k n s a len cap (w.alloc (.cells #[.int .i64 k, .int .i64 n, .string s, .slice a len cap] 24)))
  have HB := hide (Begins_any s (w.alloc (.cells #[.int .i64 k, .int .i64 n, .string s, .slice a len cap] 24)) (hM.below hb) hs)
  clear hM
  by_cases h2 : k = 2
  · subst h2
    go_enter Tryd.func13, Tryd.ntmps13
    go_wp2_with fail
    go_ret
    exact ⟨ret_int (by simp [numberN]), hb⟩
  by_cases h3 : k = 3
  · subst h3
    go_enter Tryd.func13, Tryd.ntmps13
    go_wp2_with (go_at_call 20; refine (unhide HB).mono ?_; rintro e w2 ⟨rfl, hb2⟩)
    go_ret
    exact ⟨ret_int (by simp [numberN]), hb.trans (hb2.mono hb.size)⟩
  go_enter Tryd.func13, Tryd.ntmps13
  go_wp2_with (go_at_call 28; refine (unhide HT).mono ?_; rintro e w2 ⟨rfl, hb2⟩)
  go_ret
  exact ⟨ret_int (by simp [numberN, h2, h3]), hb.trans (hb2.mono hb.size)⟩

/-- Digits: a number's text. -/
theorem Digits_any (n : Int) (w : World) (hM : Met w) (h0 : -9223372036854775808 ≤ n) (h1 : n ≤ 9223372036854775807) :
    Calls Tryd.prog 26 #[.int .i64 n] w fun e w' => e = .returned (.string ⟨(digitsT n).toArray⟩) ∧ Below w.heap.size w w' := by
  have hI := Tryd.strconv_Itoa n h0 h1 w hM.tab
  rw [itoa_eq] at hI
  have HI := hide hI
  clear hI hM
  go_enter Tryd.func26, Tryd.ntmps26
  go_wp2_with fail
  refine (unhide HI).mono ?_
  rintro e w2 ⟨rfl, k, os, hw⟩
  have hb : Below w.heap.size w w2 := by rw [hw]; exact Lib.below_grow w.heap.size w (Nat.le_refl _) k os
  clear hw
  go_wp2_with fail
  go_ret
  exact ⟨rfl, hb⟩

/-- A value as a text, and the error's number. -/
def textN (k n : Int) (s : L) : L × Int :=
  if k = 0 then ([], 0) else if k = 1 then (if n = 0 then ([], 0) else ([49], 0)) else if k = 2 then (digitsT n, 0) else if k = 3 then (s, 0) else ([], 15)
theorem ret_strInt {a b : L} {m n : Int} (h : (a, m) = (b, n)) : Ending.returned (.tuple #[.string ⟨a.toArray⟩, .int .i64 m]) = .returned (.tuple #[.string ⟨b.toArray⟩, .int .i64 n]) := by cases h; rfl
theorem Text_any (k n : Int) (s : ByteArray) (a : Option Addr) (len cap : Nat) (w : World) (hM : Met w) (h0 : -9223372036854775808 ≤ n) (h1 : n ≤ 9223372036854775807) :
    Calls Tryd.prog 9 #[.agg #[.int .i64 k, .int .i64 n, .string s, .slice a len cap]] w fun e w' => e = .returned (.tuple #[.string ⟨(textN k n s.data.toList).1.toArray⟩, .int .i64 (textN k n s.data.toList).2]) ∧ Below w.heap.size w w' := by
  have hb := below_box w (.cells #[.int .i64 k, .int .i64 n, .string s, .slice a len cap] 24)
  have HD := hide (Digits_any n (w.alloc (.cells #[.int .i64 k, .int .i64 n, .string s, .slice a len cap] 24)) (hM.below hb) h0 h1)
  clear hM h0 h1
  by_cases k0 : k = 0
  · subst k0
    go_enter Tryd.func9, Tryd.ntmps9
    go_wp2_with fail
    go_ret2
    exact ⟨rfl, hb⟩
  by_cases k1 : k = 1
  · subst k1
    by_cases hn : n = 0
    · subst hn
      go_enter Tryd.func9, Tryd.ntmps9
      go_wp2_with fail
      go_ret2
      exact ⟨rfl, hb⟩
    · have HE : Hid (textN 1 n s.data.toList = ([49], 0)) := by show _ = _; simp [textN, hn]
      go_enter Tryd.func9, Tryd.ntmps9
      go_wp2_with fail
      go_ret2
      exact ⟨by rw [HE.out]; rfl, hb⟩
  by_cases k2 : k = 2
  · subst k2
    have HE : Hid (textN 2 n s.data.toList = (digitsT n, 0)) := by show _ = _; simp [textN]
    go_enter Tryd.func9, Tryd.ntmps9
    go_wp2_with (go_at_call 26; refine (unhide HD).mono ?_; rintro e w2 ⟨rfl, hb2⟩)
    go_ret2
    exact ⟨by rw [HE.out]; rfl, hb.trans (hb2.mono hb.size)⟩
  by_cases k3 : k = 3
  · subst k3
    have HE : Hid (textN 3 n s.data.toList = (s.data.toList, 0)) := by show _ = _; simp [textN]
    go_enter Tryd.func9, Tryd.ntmps9
    go_wp2_with fail
    go_ret2
    exact ⟨by rw [HE.out]; show _ = Ending.returned (.tuple #[.string ⟨s.data.toList.toArray⟩, .int .i64 0]); rw [back]; rfl, hb⟩
  have HE : Hid (textN k n s.data.toList = ([], 15)) := by show _ = _; simp [textN, k0, k1, k2, k3]
  go_enter Tryd.func9, Tryd.ntmps9
  go_wp2_with fail
  go_ret2
  exact ⟨by rw [HE.out]; rfl, hb⟩

/-- A value's kind in a word. -/
def kindN (k : Int) : L :=
  if k = 0 then [110, 117, 108, 108] else if k = 1 then [98, 111, 111, 108] else if k = 2 then [105, 110, 116] else if k = 3 then [115, 116, 114, 105, 110, 103]
  else if k = 4 then [97, 114, 114, 97, 121] else if k = 5 then [111, 98, 106, 101, 99, 116] else [117, 110, 107, 110, 111, 119, 110]
theorem Kind_any (k n : Int) (s : ByteArray) (a : Option Addr) (len cap : Nat) (w : World) :
    Calls Tryd.prog 15 #[.agg #[.int .i64 k, .int .i64 n, .string s, .slice a len cap]] w fun e w' => e = .returned (.string ⟨(kindN k).toArray⟩) ∧ Below w.heap.size w w' := by
  have hb := below_box w (.cells #[.int .i64 k, .int .i64 n, .string s, .slice a len cap] 24)
  by_cases k0 : k = 0
  · subst k0
    go_enter Tryd.func15, Tryd.ntmps15
    go_wp2_with fail
    go_ret
    exact ⟨rfl, hb⟩
  by_cases k1 : k = 1
  · subst k1
    go_enter Tryd.func15, Tryd.ntmps15
    go_wp2_with fail
    go_ret
    exact ⟨rfl, hb⟩
  by_cases k2 : k = 2
  · subst k2
    go_enter Tryd.func15, Tryd.ntmps15
    go_wp2_with fail
    go_ret
    exact ⟨rfl, hb⟩
  by_cases k3 : k = 3
  · subst k3
    go_enter Tryd.func15, Tryd.ntmps15
    go_wp2_with fail
    go_ret
    exact ⟨rfl, hb⟩
  by_cases k4 : k = 4
  · subst k4
    go_enter Tryd.func15, Tryd.ntmps15
    go_wp2_with fail
    go_ret
    exact ⟨rfl, hb⟩
  by_cases k5 : k = 5
  · subst k5
    go_enter Tryd.func15, Tryd.ntmps15
    go_wp2_with fail
    go_ret
    exact ⟨rfl, hb⟩
  have HE : Hid (kindN k = [117, 110, 107, 110, 111, 119, 110]) := by show _ = _; simp [kindN, k0, k1, k2, k3, k4, k5]
  go_enter Tryd.func15, Tryd.ntmps15
  go_wp2_with fail
  go_ret
  exact ⟨by rw [HE.out]; rfl, hb⟩
end Go.Proofs.YtmbminbnnmnkeaaDoor
