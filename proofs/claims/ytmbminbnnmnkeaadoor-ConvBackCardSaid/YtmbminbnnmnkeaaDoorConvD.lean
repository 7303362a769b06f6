/-
  Contracts of package conv's Same, and of what its Order calls.
-/
import Derived.Test.YtmbminbnnmnkeaaDoorConvC
import Derived.Deep.RegionHeld3
namespace Go.Proofs.YtmbminbnnmnkeaaDoor
open Go Go.RowKit Convs

/-- A call's frame, told from an earlier world on. -/
theorem from_ {P : Program} {f : FuncId} {args : Array Value} {w W0 : World} {R : Ending → Prop} (h : Below W0.heap.size W0 w) (hc : Calls P f args w fun e w' => R e ∧ Below w.heap.size w w') :
    Calls P f args w fun e w' => R e ∧ Below W0.heap.size W0 w' := hc.mono fun _ _ h1 => ⟨h1.1, h.trans (h1.2.mono h.size)⟩

def plainN (k : Int) : Bool := k == 0 || k == 1 || k == 2 || k == 3
theorem isPlain_any (k n : Int) (s : ByteArray) (a : Option Addr) (len cap : Nat) (w : World) :
    Calls Tryd.prog 31 #[.agg #[.int .i64 k, .int .i64 n, .string s, .slice a len cap]] w fun e w' => e = .returned (.bool (plainN k)) ∧ Below w.heap.size w w' := by
  have hb := below_box w (.cells #[.int .i64 k, .int .i64 n, .string s, .slice a len cap] 24)
  go_enter Tryd.func31, Tryd.ntmps31
  go_wp2_with fail
  all_goals go_ret
  all_goals exact ⟨ret_bool (by simp_all [plainN]), hb⟩
def byN (k k' : Int) : Bool := k == 1 || (k == 0 && k' != 3)
theorem byTruths_any (k n : Int) (s : ByteArray) (a : Option Addr) (len cap : Nat) (k' n' : Int) (s' : ByteArray) (a' : Option Addr) (len' cap' : Nat) (w : World) :
    Calls Tryd.prog 32 #[.agg #[.int .i64 k, .int .i64 n, .string s, .slice a len cap], .agg #[.int .i64 k', .int .i64 n', .string s', .slice a' len' cap']] w
      fun e w' => e = .returned (.bool (byN k k')) ∧ Below w.heap.size w w' := by
  go_enter Tryd.func32, Tryd.ntmps32
  go_wp2_with fail
  all_goals go_ret
  all_goals exact ⟨ret_bool (by simp_all [byN]), (below_box w _).alloc (by simp) _⟩
/-- The number by which a value stands among numbers. -/
def numOfN (k n : Int) (s : L) : Int × Bool := if k = 2 then (n, true) else if k = 3 then numN s else (0, false)
theorem numberOf_any (k n : Int) (s : ByteArray) (a : Option Addr) (len cap : Nat) (w : World) (hM : Met w) (hs : s.size ≤ 281474976710656) :
    Calls Tryd.prog 34 #[.agg #[.int .i64 k, .int .i64 n, .string s, .slice a len cap]] w fun e w' => e = .returned (.tuple #[.int .i64 (numOfN k n s.data.toList).1, .bool (numOfN k n s.data.toList).2]) ∧ Below w.heap.size w w' := by
  have hb := below_box w (.cells #[.int .i64 k, .int .i64 n, .string s, .slice a len cap] 24)
  have HB := hide (Numeric_any s (w.alloc (.cells #[.int .i64 k, .int .i64 n, .string s, .slice a len cap] 24)) (hM.below hb) hs)
  clear hM
  by_cases h2 : k = 2
  · subst h2
    go_enter Tryd.func34, Tryd.ntmps34
    go_wp2_with fail
    go_ret2
    exact ⟨rfl, hb⟩
  by_cases h3 : k = 3
  · subst h3
    go_enter Tryd.func34, Tryd.ntmps34
    go_wp2_with (go_at_call 18; refine (unhide HB).mono ?_; rintro e w2 ⟨rfl, hb2⟩)
    go_ret2
    exact ⟨rfl, hb.trans (hb2.mono hb.size)⟩
  have HE : Hid (numOfN k n s.data.toList = (0, false)) := by show _ = _; simp [numOfN, h2, h3]
  go_enter Tryd.func34, Tryd.ntmps34
  go_wp2_with fail
  go_ret2
  exact ⟨by rw [HE.out]; rfl, hb⟩

/-- Are two plain values the same? -/
def sameN (k n : Int) (s : L) (k' n' : Int) (s' : L) : Bool :=
  if k = k' then (if k = 0 then true else if k = 1 then (n == 0) == (n' == 0) else if k = 2 then n == n' else if k = 3 then s == s' else false) else false
theorem Same_any (k n : Int) (s : ByteArray) (a : Option Addr) (len cap : Nat) (k' n' : Int) (s' : ByteArray) (a' : Option Addr) (len' cap' : Nat) (w : World) :
    Calls Tryd.prog 24 #[.agg #[.int .i64 k, .int .i64 n, .string s, .slice a len cap], .agg #[.int .i64 k', .int .i64 n', .string s', .slice a' len' cap']] w
      fun e w' => e = .returned (.bool (sameN k n s.data.toList k' n' s'.data.toList)) ∧ Below w.heap.size w w' := by
  have hb := (below_box w (.cells #[.int .i64 k, .int .i64 n, .string s, .slice a len cap] 24)).alloc (by simp) (.cells #[.int .i64 k', .int .i64 n', .string s', .slice a' len' cap'] 24)
  by_cases hk : k = k'
  · subst hk
    by_cases h0 : k = 0
    · subst h0
      go_enter Tryd.func24, Tryd.ntmps24
      go_wp2_with fail
      go_ret
      exact ⟨ret_bool (by simp [sameN]), hb⟩
    by_cases h1 : k = 1
    · subst h1
      go_enter Tryd.func24, Tryd.ntmps24
      go_wp2_with fail
      all_goals go_ret
      all_goals exact ⟨ret_bool (by simp_all [sameN]), hb⟩
    by_cases h2 : k = 2
    · subst h2
      go_enter Tryd.func24, Tryd.ntmps24
      go_wp2_with fail
      go_ret
      exact ⟨ret_bool (by simp [sameN]), hb⟩
    by_cases h3 : k = 3
    · subst h3
      go_enter Tryd.func24, Tryd.ntmps24
      go_wp2_with fail
      go_ret
      exact ⟨ret_bool (by simp [sameN, Lib.toList_data]), hb⟩
    go_enter Tryd.func24, Tryd.ntmps24
    go_wp2_with fail
    go_ret
    exact ⟨ret_bool (by simp [sameN, h0, h1, h2, h3]), hb⟩
  · go_enter Tryd.func24, Tryd.ntmps24
    go_wp2_with fail
    go_ret
    exact ⟨ret_bool (by simp [sameN, hk]), hb⟩
end Go.Proofs.YtmbminbnnmnkeaaDoor
