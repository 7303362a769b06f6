/-
  The contracts of package cut's Line, of Cut beyond the limit, and of the probe that stands in each statement.
-/
import Derived.Test.YtbeglmolgloepaaDoorCut
import Derived.Laws.StructEq
namespace Go.Proofs.YtbeglmolgloepaaDoor
open Go Go.RowKit Cutting

def lineN (s : List UInt8) (at_ : Int) : Nat := 1 + (s.take (max at_ 0).toNat).count 10

theorem Line_any (s : ByteArray) (at_ : Int) (w : World) (hs : s.size ≤ 9223372036854775806) (h0 : -9223372036854775808 ≤ at_) (h1 : at_ ≤ 9223372036854775807) :
    Calls Tryd.prog 15 #[.string s, .int .i64 at_] w fun e w' => e = .returned (.int .i64 (lineN s.data.toList at_)) ∧ w = w' := by
  obtain ⟨m, hm⟩ : ∃ m : Nat, min (max at_ 0) (s.size : Int) = m := ⟨(min (max at_ 0) (s.size : Int)).toNat, by omega⟩
  have hms : m ≤ s.size := by omega
  have hcnt : (s.data.toList.take (max at_ 0).toNat) = s.data.toList.take m := by
    by_cases h : (max at_ 0).toNat ≤ s.size
    · rw [show m = (max at_ 0).toNat from by omega]
    · rw [List.take_of_length_le (by rw [← Lib.size_eq]; omega), List.take_of_length_le (by rw [← Lib.size_eq]; omega)]
  have hlen : (s.data.toList.take m).count 10 ≤ m := Nat.le_trans List.count_le_length (by rw [List.length_take]; omega)
  have HL : Hid (lineN s.data.toList at_ = 1 + (s.data.toList.take m).count 10) := by show _ = _; rw [lineN, hcnt]
  have HX : Hid ((Lib.countByte (s.extract 0 m).data.toList 10 : Int) = ((s.data.toList.take m).count 10 : Nat)) := by
    show _ = _
    rw [Lib.extract_data]
    rfl
  obtain ⟨c, hc⟩ : ∃ c, c = (s.data.toList.take m).count 10 := ⟨_, rfl⟩
  rw [← hc] at hlen HL HX
  have HM := Lib.hid hm
  clear hm hcnt hc
  go_enter Tryd.func15, Tryd.ntmps15
  go_wp2_with fail
  rw [HM.out, Int.toNat_natCast]
  refine (Tryd.strings_Count_one _ 10 _).mono ?_
  rintro e w' ⟨rfl, rfl⟩
  rw [HX.out]
  go_wp2_with fail
  go_ret
  exact ⟨ret_int (by rw [HL.out]; omega), rfl⟩
theorem Cut_long (s : ByteArray) (w : World) (hs : 65536 < s.size) :
    Calls Tryd.prog 8 #[.string s] w fun e w' => e = .returned (.tuple #[.slice none 0 0, .int .i64 2]) ∧ w = w' := by
  have hbig : decide ((65536 : Int) < (s.size : Int)) = true := by simpa using (by omega : (65536 : Int) < (s.size : Int))
  go_enter Tryd.func8, Tryd.ntmps8
  go_wp2_with fail
  go_ret2
  exact ⟨rfl, rfl⟩
def aliveText : List UInt8 := [97, 60, 63, 112, 104, 112, 32, 101, 99, 104, 111, 32, 39, 63, 62, 39, 59, 32, 63, 62, 10, 98]
def alivePcs : List Pc := [⟨1, [97], 0⟩, ⟨2, [101, 99, 104, 111, 32, 39, 63, 62, 39, 59, 32], 7⟩, ⟨1, [98], 21⟩]
theorem alive_pieces : pieces aliveText = alivePcs := by decide +kernel

theorem cell_add (g i j : Nat) : ((⟨g, i, none⟩ : Addr).add j) = ⟨g, i + j, none⟩ := by
  unfold Addr.add
  by_cases h : j = 0 <;> simp [h]

/-- A slice of pieces where it lies. -/
theorem St.form {B : Nat} {w wr : World} {v : Value} {l : List Pc} (h : St B w wr v l) (hl : 0 < l.length) : ∃ g cap, v = .slice (some ⟨g, 0, none⟩) l.length cap ∧ l.length ≤ cap := by
  rcases h.own.2 with ⟨rfl, h0⟩ | ⟨g, cap, cur, rfl, hb, hh, hn, hc, hcs, ht⟩
  · omega
  · exact ⟨g, cap, rfl, hn⟩
theorem encPcs_at (l : List Pc) (i : Nat) (h : i < l.length) : (encPcs l)[i * 3]? = some (.int .i64 l[i].kind) ∧ (encPcs l)[i * 3 + 1]? = some (.string ⟨l[i].text.toArray⟩) ∧ (encPcs l)[i * 3 + 2]? = some (.int .i64 l[i].at_) := by
  induction l generalizing i with
  | nil => exact absurd h (Nat.not_lt_zero _)
  | cons p l ih =>
    cases i with
    | zero => exact ⟨rfl, rfl, rfl⟩
    | succ i =>
      have hi := ih i (by simpa using h)
      have e : encPcs (p :: l) = encPc p ++ encPcs l := rfl
      rw [e]
      have h3 : (encPc p).length = 3 := rfl
      rw [List.getElem?_append_right (by omega), List.getElem?_append_right (by omega), List.getElem?_append_right (by omega), h3,
        show (i + 1) * 3 - 3 = i * 3 from by omega, show (i + 1) * 3 + 1 - 3 = i * 3 + 1 from by omega, show (i + 1) * 3 + 2 - 3 = i * 3 + 2 from by omega]
      exact hi
theorem St.cells {B : Nat} {w wr : World} {v : Value} {l : List Pc} (h : St B w wr v l) {g cap : Nat} (hv : v = .slice (some ⟨g, 0, none⟩) l.length cap) (i : Nat) (hi : i < l.length) :
    wr.cell? ⟨g, i * 3, none⟩ = some (.int .i64 l[i].kind) ∧ wr.cell? ⟨g, i * 3 + 1, none⟩ = some (.string ⟨l[i].text.toArray⟩) ∧ wr.cell? ⟨g, i * 3 + 2, none⟩ = some (.int .i64 l[i].at_) := by
  subst hv
  have he := encPcs_at l i hi
  have hown := h.own
  rw [hown.cellAt _ (by omega), hown.cellAt _ (by omega), hown.cellAt _ (by omega)]
  exact he

set_option maxHeartbeats 1000000 in
theorem alive_any (w : World) (hm : HasMax w) (hF : FoldTab w) :
    Calls Tryd.prog 11 #[] w fun e w' => e = .returned (.bool true) ∧ Below w.heap.size w w' := by
  have hsz : ∀ (b : ByteArray), b.data.toList = aliveText → b.size ≤ 65536 := fun b h => by rw [Lib.size_eq, h]; decide
  go_enter Tryd.func11, Tryd.ntmps11
  go_wp2_with fail
  refine (Cut_any _ _ (hsz _ rfl) hm hF).mono ?_
  rintro e w1 ⟨v, rfl, hst⟩
  have hst' : St w.heap.size w w1 v alivePcs := by rw [← alive_pieces]; exact hst
  obtain ⟨g, cap, hv, hcap⟩ := hst'.form (by decide)
  have h1 := hst'.cells hv 1 (by decide)
  have h2 := hst'.cells hv 2 (by decide)
  have hb := hst'.below
  obtain ⟨a1, a2, a3⟩ := h1
  obtain ⟨b1, b2, b3⟩ := h2
  rw [hv]
  clear hst hst' hv hsz
  go_wp2_with (go_at_call 15; refine (Line_any _ 2 _ (by decide) (by decide) (by decide)).mono ?_; rintro e w' ⟨rfl, rfl⟩)
  go_ret
  exact ⟨ret_bool (by decide), hb⟩
end Go.Proofs.YtbeglmolgloepaaDoor
