/-
  Contracts of package conv's functions over a text's beginning: blanks, places, a number's text, the walk over the runes.
-/
import Derived.Test.YtmbminbnnmnkeaaDoorProg
import Derived.Test.YtmbminbnnmnkeaaDoorShelf
import Derived.Test.YtmbminbnnmnkeaaDoorClamp
import Derived.WalkKit
import Derived.Lib.Walk
import Derived.Laws.Strings3
import Derived.Laws.RangeAny
import Derived.Lib.OthersKept
import Derived.Lib.AppendIntMem
import Derived.Lib.SmallJoins
import Derived.BigQuiet
import Derived.WalkSmall
import Derived.Deep.QuietTactic
import Derived.Outline
import Derived.Lib.Hide
import Derived.Deep.DeepFit
namespace Go.Proofs.YtmbminbnnmnkeaaDoor
open Go Go.RowKit Convs

theorem hide {p : Prop} (h : p) : Hid p := h
theorem unhide {p : Prop} (h : Hid p) : p := h
theorem beqU (b c : UInt8) : (b == c) = ((b.toNat : Int) == (c.toNat : Int)) := by
  rw [Bool.eq_iff_iff]; simp only [beq_iff_eq]; constructor
  · rintro rfl; rfl
  · intro h; exact UInt8.toNat_inj.1 (by omega)
theorem leU (b c : UInt8) : (decide (b ≤ c)) = decide ((b.toNat : Int) ≤ (c.toNat : Int)) := by
  simp [UInt8.le_iff_toNat_le]
theorem ret_bool {a b : Bool} (h : a = b) : Ending.returned (.bool a) = .returned (.bool b) := by rw [h]
theorem ret_int {k : IntKind} {a b : Int} (h : a = b) : Ending.returned (.int k a) = .returned (.int k b) := by rw [h]

/-- What the library holds as its error of the range. -/
def RangeVar (w : World) : Prop := ∃ ev, w.cell? ⟨3, 0, none⟩ = some ev ∧ (ev = .nilIface ∨ ∃ te pe, ev = .iface te pe)
theorem RangeVar.lt {w : World} (h : RangeVar w) : 3 < w.heap.size := by
  obtain ⟨m, hm, _⟩ := h
  rcases Nat.lt_or_ge 3 w.heap.size with h0 | h0
  · exact h0
  · have : w.heap[3]? = none := Array.getElem?_eq_none (by omega)
    simp [World.cell?, this] at hm
/-- What a world holds that these functions read. -/
structure Met (w : World) : Prop where
  tab : Lib.TabIs Tryd.prog w "internal/strconv.uint64pow10" .u64 Lib.pow10Tab
  rng : RangeVar w
theorem Met.below {w w' : World} (h : Met w) (hb : Below w.heap.size w w') : Met w' := by
  refine ⟨Lib.tabBelow_of_tabIs h.tab w' hb, ?_⟩
  have hlt := h.rng.lt
  obtain ⟨m, hm, h2⟩ := h.rng
  exact ⟨m, by rw [hb.cell (p := ⟨3, 0, none⟩) hlt]; exact hm, h2⟩

/-- Blanks and places over runes. -/
def blankZ (r : Int) : Bool := r == 32 || (decide (9 ≤ r) && decide (r ≤ 13))
def placeZ (at_ r : Int) : Int :=
  if decide (48 ≤ r) && decide (r ≤ 57) && at_ != 3 then 2
  else if blankZ r && at_ == 0 then 0
  else if blankZ r && at_ != 1 then 3
  else if (r == 43 || r == 45) && at_ == 0 then 1
  else 4

theorem isBlank_any (r : Int) (w : World) :
    Calls Tryd.prog 48 #[.int .i32 r] w fun e w' => e = .returned (.bool (blankZ r)) ∧ w = w' := by
  go_enter Tryd.func48, Tryd.ntmps48
  go_wp2_with fail
  all_goals go_ret
  all_goals exact ⟨ret_bool (by rw [Bool.eq_iff_iff]; simp only [blankZ, Bool.or_eq_true, Bool.and_eq_true, decide_eq_true_eq, beq_iff_eq]; simp [*]; try omega), rfl⟩

theorem place_any (a r : Int) (w : World) :
    Calls Tryd.prog 41 #[.int .i64 a, .int .i32 r] w fun e w' => e = .returned (.int .i64 (placeZ a r)) ∧ w = w' := by
  have hb := isBlank_any r w
  cases hB : blankZ r
  all_goals
    rw [hB] at hb
    have HB := hide hb
    have hB2 := Lib.hid hB
    clear hb hB
    go_enter Tryd.func41, Tryd.ntmps41
    go_wp2_with (go_at_call 48; refine (unhide HB).mono ?_; rintro e w' ⟨rfl, rfl⟩)
    all_goals go_ret
    all_goals exact ⟨ret_int (by simp only [placeZ, hB2.out]; simp [*]; try omega), rfl⟩

theorem placeZ_byte (a : Nat) (b : UInt8) : placeZ a (b.toNat : Int) = placeT a b := by
  have e32 : (b == 32) = ((b.toNat : Int) == 32) := beqU b 32
  have e43 : (b == 43) = ((b.toNat : Int) == 43) := beqU b 43
  have e45 : (b == 45) = ((b.toNat : Int) == 45) := beqU b 45
  have l9 : (decide ((9 : UInt8) ≤ b)) = decide ((9 : Int) ≤ (b.toNat : Int)) := leU 9 b
  have l13 : (decide (b ≤ (13 : UInt8))) = decide ((b.toNat : Int) ≤ 13) := leU b 13
  have l48 : (decide ((48 : UInt8) ≤ b)) = decide ((48 : Int) ≤ (b.toNat : Int)) := leU 48 b
  have l57 : (decide (b ≤ (57 : UInt8))) = decide ((b.toNat : Int) ≤ 57) := leU b 57
  have hB : blankB b = blankZ b.toNat := by simp only [blankB, blankZ, e32, l9, l13]
  have hD : digB b = (decide ((48 : Int) ≤ (b.toNat : Int)) && decide ((b.toNat : Int) ≤ 57)) := by simp only [digB, l48, l57]
  have h0 : ((a : Int) == 0) = (a == 0) := by rw [Bool.eq_iff_iff]; simp only [beq_iff_eq]; omega
  have h1 : ((a : Int) != 1) = (a != 1) := by rw [Bool.eq_iff_iff]; simp only [bne_iff_ne, ne_eq]; omega
  have h3 : ((a : Int) != 3) = (a != 3) := by rw [Bool.eq_iff_iff]; simp only [bne_iff_ne, ne_eq]; omega
  unfold placeZ placeT
  rw [hB, hD, e43, e45, h0, h1, h3]
  repeat' split
  all_goals rfl
theorem placeZ_high (a r : Int) (h : 128 ≤ r) : placeZ a r = 4 := by
  have hb : blankZ r = false := by simp only [blankZ, Bool.or_eq_false_iff, beq_eq_false_iff_ne, Bool.and_eq_false_iff, decide_eq_false_iff_not]; omega
  have hd : (decide (48 ≤ r) && decide (r ≤ 57)) = false := by simp only [Bool.and_eq_false_iff, decide_eq_false_iff_not]; omega
  have hs : (r == 43 || r == 45) = false := by simp only [Bool.or_eq_false_iff, beq_eq_false_iff_ne]; omega
  unfold placeZ
  rw [hb, hd, hs]
  rfl
theorem placeT_cases (a : Nat) (b : UInt8) : placeT a b = 0 ∨ placeT a b = 1 ∨ placeT a b = 2 ∨ placeT a b = 3 ∨ placeT a b = 4 := by
  unfold placeT
  repeat' split
  all_goals simp

theorem atoi_any (s : ByteArray) (w : World) (hM : Met w) (hs : s.size ≤ 281474976710656) (h : saysNum s.data.toList) :
    Calls Tryd.prog 49 #[.string s] w fun e w' => ∃ x, e = .returned (.tuple #[.int .i64 (atoiNum s.data.toList), x]) ∧ Below w.heap.size w w' := by
  rcases h with ⟨v, hv⟩ | hr
  · refine (Tryd.strconv_Atoi_ok s (by omega) v hv w).mono ?_
    rintro e w' ⟨rfl, hw⟩
    refine ⟨.nilIface, ?_, ?_⟩
    · unfold atoiNum; rw [hv]
    · rcases hw with rfl | ⟨t, rfl⟩
      · exact Below.refl _ _
      · exact Lib.bytesWorld_below _ _ _
  · obtain ⟨ev, hc, hev⟩ := hM.rng
    refine (Tryd.strconv_Atoi_range s hs hr ev w hc hev).mono ?_
    rintro e w' ⟨N, rfl, h1, h2, h3⟩
    have e : atoiNum s.data.toList = Lib.atoiSat s.data.toList := by unfold atoiNum; rw [hr]
    rw [e]
    exact ⟨_, rfl, h3⟩

theorem limited_any (s : ByteArray) (w : World) (hM : Met w) (hs : s.size ≤ 281474976710656) (h : saysNum s.data.toList) :
    Calls Tryd.prog 42 #[.string s] w fun e w' => e = .returned (.int .i64 (atoiNum s.data.toList)) ∧ Below w.heap.size w w' := by
  have HA := hide (atoi_any s w hM hs h)
  clear hM h
  go_enter Tryd.func42, Tryd.ntmps42
  go_wp2_with fail
  refine (unhide HA).mono ?_
  rintro e w1 ⟨x, rfl, hb⟩
  go_wp2_with fail
  go_ret
  exact ⟨rfl, hb⟩
end Go.Proofs.YtmbminbnnmnkeaaDoor
