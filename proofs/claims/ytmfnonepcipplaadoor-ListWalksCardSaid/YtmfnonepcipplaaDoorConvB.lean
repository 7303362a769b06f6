/-
  What the document's answer of layer 6 is held against, where package conv itself is not of the seat.
-/
import Derived.Test.YtmfnonepcipplaaDoorLBase
import Derived.Laws.Strings3
import Derived.Laws.RangeAny
namespace Go.Proofs.YtmfnonepcipplaaDoor
open Go Go.RowKit Convs

theorem beqU (b c : UInt8) : (b == c) = ((b.toNat : Int) == (c.toNat : Int)) := by
  rw [Bool.eq_iff_iff]; simp only [beq_iff_eq]; constructor
  · rintro rfl; rfl
  · intro h; exact UInt8.toNat_inj.1 (by omega)
theorem leU (b c : UInt8) : (decide (b ≤ c)) = decide ((b.toNat : Int) ≤ (c.toNat : Int)) := by
  simp [UInt8.le_iff_toNat_le]
theorem drop_at (s : ByteArray) (k : Nat) (h : k < s.size) : s.data.toList.drop k = s[k] :: s.data.toList.drop (k + 1) := by
  rw [List.drop_eq_getElem_cons (by rw [← Lib.size_eq]; exact h)]; rfl
theorem drop_nil (s : ByteArray) (k : Nat) (h : s.size ≤ k) : s.data.toList.drop k = [] := List.drop_eq_nil_of_le (by rw [← Lib.size_eq]; exact h)
def numN (s : L) : Int × Bool := ((numericT s).getD 0, (numericT s).isSome)
end Go.Proofs.YtmfnonepcipplaaDoor
