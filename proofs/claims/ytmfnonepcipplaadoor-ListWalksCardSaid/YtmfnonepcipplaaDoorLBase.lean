/-
  What all texts of layer 7 share: small rules, what a world holds that the library's readers of numbers read, and the number of a key's text.
-/
import Derived.Test.YtmfnonepcipplaaDoorProg
import Derived.Test.YtmfnonepcipplaaDoorShelf
import Derived.Test.YtmfnonepcipplaaDoorDigs
import Derived.Test.YtmfnonepcipplaaDoorMapK
import Derived.Test.YtmfnonepcipplaaDoorBlk
import Derived.WalkKit
import Derived.Lib.Walk
import Derived.Lib.OthersKept
import Derived.Lib.AppendIntMem
import Derived.Lib.SmallJoins
import Derived.Lib.IfaceNeq
import Derived.BigQuiet
import Derived.WalkSmall
import Derived.Deep.QuietTactic
import Derived.Outline
import Derived.Lib.Hide
import Derived.Deep.DeepFit
namespace Go.Proofs.YtmfnonepcipplaaDoor
open Go Go.RowKit Convs Lists

theorem hide {p : Prop} (h : p) : Hid p := h
theorem unhide {p : Prop} (h : Hid p) : p := h
theorem ret_bool {a b : Bool} (h : a = b) : Ending.returned (.bool a) = .returned (.bool b) := by rw [h]
theorem ret_int {k : IntKind} {a b : Int} (h : a = b) : Ending.returned (.int k a) = .returned (.int k b) := by rw [h]

/-- What the library holds as an error of its own. -/
def ErrVar (g : Nat) (w : World) : Prop := ∃ ev, w.cell? ⟨g, 0, none⟩ = some ev ∧ (ev = .nilIface ∨ ∃ te pe, ev = .iface te pe)
theorem ErrVar.lt {g : Nat} {w : World} (h : ErrVar g w) : g < w.heap.size := by
  obtain ⟨m, hm, _⟩ := h
  rcases Nat.lt_or_ge g w.heap.size with h0 | h0
  · exact h0
  · have : w.heap[g]? = none := Array.getElem?_eq_none (by omega)
    simp [World.cell?, this] at hm
/-- What a world holds that these functions read. -/
structure Met (w : World) : Prop where
  tab : Lib.TabIs Tryd.prog w "internal/strconv.uint64pow10" .u64 Lib.pow10Tab
  rng : ErrVar 1 w
  syn : ErrVar 0 w
theorem ErrVar.below {g : Nat} {w w' : World} (h : ErrVar g w) (hb : Below w.heap.size w w') : ErrVar g w' := by
  have hlt := h.lt
  obtain ⟨m, hm, h2⟩ := h
  exact ⟨m, by rw [hb.cell (p := ⟨g, 0, none⟩) hlt]; exact hm, h2⟩
theorem Met.below {w w' : World} (h : Met w) (hb : Below w.heap.size w w') : Met w' :=
  ⟨Lib.tabBelow_of_tabIs h.tab w' hb, h.rng.below hb, h.syn.below hb⟩
theorem from_ {P : Program} {f : FuncId} {args : Array Value} {w W0 : World} {R : Ending → Prop} (h : Below W0.heap.size W0 w) (hc : Calls P f args w fun e w' => R e ∧ Below w.heap.size w w') :
    Calls P f args w fun e w' => R e ∧ Below W0.heap.size W0 w' := hc.mono fun _ _ h1 => ⟨h1.1, h.trans (h1.2.mono h.size)⟩

theorem atoiOk_any (s : ByteArray) (w : World) (hs : s.size ≤ 281474976710656) (v : Int) (hv : Lib.atoiAll s.data.toList = .ok v) :
    Calls Tryd.prog 38 #[.string s] w fun e w' => e = .returned (.tuple #[.int .i64 v, .nilIface]) ∧ Below w.heap.size w w' := by
  refine (Tryd.strconv_Atoi_ok s (by omega) v hv w).mono ?_
  rintro e w' ⟨rfl, hw⟩
  refine ⟨rfl, ?_⟩
  rcases hw with rfl | ⟨t, rfl⟩
  · exact Below.refl _ _
  · exact Lib.bytesWorld_below _ _ _
theorem atoiNot_any (s : ByteArray) (w : World) (hM : Met w) (hs : s.size ≤ 281474976710656) (hv : ∀ v, Lib.atoiAll s.data.toList ≠ .ok v) :
    Calls Tryd.prog 38 #[.string s] w fun e w' => ∃ n p, e = .returned (.tuple #[.int .i64 n, .iface 91 (.pointer (some p))]) ∧ Below w.heap.size w w' := by
  obtain ⟨e1, c1, k1⟩ := hM.rng
  obtain ⟨e2, c2, k2⟩ := hM.syn
  cases h : Lib.atoiAll s.data.toList with
  | ok v => exact absurd h (hv v)
  | range =>
    refine (Tryd.strconv_Atoi_range s hs h e1 w c1 k1).mono ?_
    rintro e w' ⟨N, rfl, _, _, h3⟩
    exact ⟨_, _, rfl, h3⟩
  | _ =>
    refine (Any.strconv_Atoi_syntax Tryd.laysC172 s hs h e2 w c2 k2).mono ?_
    rintro e w' ⟨N, rfl, _, _, h3⟩
    exact ⟨_, _, rfl, h3⟩
theorem itoa_any (n : Int) (w : World) (hM : Met w) (h0 : -9223372036854775808 ≤ n) (h1 : n ≤ 9223372036854775807) :
    Calls Tryd.prog 39 #[.int .i64 n] w fun e w' => e = .returned (.string ⟨(digitsT n).toArray⟩) ∧ Below w.heap.size w w' := by
  have hI := Tryd.strconv_Itoa n h0 h1 w hM.tab
  rw [itoa_eq] at hI
  refine hI.mono ?_
  rintro e w2 ⟨rfl, k, os, hw⟩
  exact ⟨rfl, by rw [hw]; exact Lib.below_grow w.heap.size w (Nat.le_refl _) k os⟩

theorem bytes_eq {a b : ByteArray} (h : a.data.toList = b.data.toList) : a = b := by
  cases a; cases b; simp only [ByteArray.mk.injEq]; exact Array.ext' h
theorem ret_pair {a b : Int × Bool} (h : a = b) : Ending.returned (.tuple #[.int .i64 a.1, .bool a.2]) = .returned (.tuple #[.int .i64 b.1, .bool b.2]) := by rw [h]

set_option maxHeartbeats 1000000 in
theorem number_any (s : ByteArray) (w : World) (hM : Met w) (hs : s.size ≤ 281474976710656) :
    Calls Tryd.prog 32 #[.string s] w fun e w' => e = .returned (.tuple #[.int .i64 (keyNum s.data.toList).1, .bool (keyNum s.data.toList).2]) ∧ Below w.heap.size w w' := by
  by_cases hl : 20 < s.size
  · have HE := hide (keyNum_long s.data.toList (by rw [← Lib.size_eq]; exact hl))
    clear hM
    go_enter Tryd.func32, Tryd.ntmps32
    go_wp2_with fail
    go_ret2
    exact ⟨by rw [HE.out]; rfl, Below.refl _ _⟩
  by_cases hv : ∃ v, Lib.atoiAll s.data.toList = .ok v
  · obtain ⟨v, hv⟩ := hv
    have hb := Lib.atoiAll_bounds hv
    have HE := hide (keyNum_ok s.data.toList v hv hb)
    have HA := hide (atoiOk_any s w hs v hv)
    have HI : Hid (∀ u, Below w.heap.size w u → _) := hide (fun u hu => from_ hu (itoa_any v u (hM.below hu) hb.1 hb.2))
    obtain ⟨t, ht⟩ : ∃ t : ByteArray, (⟨(digitsT v).toArray⟩ : ByteArray) = t := ⟨_, rfl⟩
    rw [ht] at HI
    have htl : t.data.toList = digitsT v := by rw [← ht]
    clear hv hM hb ht
    by_cases hd : digitsT v = s.data.toList
    · obtain rfl : t = s := bytes_eq (htl.trans hd)
      have HD := hide hd
      clear hd htl
      go_enter Tryd.func32, Tryd.ntmps32
      go_wp2_with (first
        | (go_at_call 38; with_reducible refine (unhide HA).mono ?_; rintro e w1 ⟨rfl, hb1⟩)
        | (go_at_call 39; with_reducible refine ((unhide HI) _ (by assumption)).mono ?_; rintro e w2 ⟨rfl, hb2⟩))
      go_ret2
      exact ⟨by rw [HE.out, if_pos HD.out]; rfl, hb2⟩
    · have ne : t ≠ s := fun e => hd (by rw [← htl, e])
      have n1 : (t.toList == s.toList) = false := by
        rw [Lib.toList_data, Lib.toList_data, beq_eq_false_iff_ne]
        exact fun h => ne (bytes_eq h)
      have HD := hide hd
      clear hd htl ne
      go_enter Tryd.func32, Tryd.ntmps32
      go_wp2_with (first
        | (go_at_call 38; with_reducible refine (unhide HA).mono ?_; rintro e w1 ⟨rfl, hb1⟩)
        | (go_at_call 39; with_reducible refine ((unhide HI) _ (by assumption)).mono ?_; rintro e w2 ⟨rfl, hb2⟩))
      go_ret2
      exact ⟨by rw [HE.out, if_neg HD.out]; rfl, hb2⟩
  · have HE := hide (keyNum_not s.data.toList (fun v h => hv ⟨v, h⟩))
    have HA := hide (atoiNot_any s w hM hs (fun v h => hv ⟨v, h⟩))
    clear hv hM
    go_enter Tryd.func32, Tryd.ntmps32
    go_wp2_with (go_at_call 38; with_reducible refine (unhide HA).mono ?_; rintro e w1 ⟨n, p, rfl, hb1⟩)
    go_ret2
    exact ⟨by rw [HE.out]; rfl, hb1⟩
end Go.Proofs.YtmfnonepcipplaaDoor
