/-
  As ConvB's stand-in.
-/
import Derived.Test.YtmfnonepcipplaaDoorConvB
namespace Go.Proofs.YtmfnonepcipplaaDoor
open Go Go.RowKit Convs
theorem eq_lit (s : ByteArray) (l : L) : (s = ⟨l.toArray⟩) ↔ s.data.toList = l := by
  constructor
  · rintro rfl; rfl
  · intro h; cases s; simp at h; simp [← h]
end Go.Proofs.YtmfnonepcipplaaDoor
