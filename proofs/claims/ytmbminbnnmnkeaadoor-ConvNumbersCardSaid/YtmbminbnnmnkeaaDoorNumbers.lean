/-
  ConvNumbers: for every text the law's function returns true, and nothing below its own memory turns.
-/
import Derived.Test.YtmbminbnnmnkeaaDoorConvF
import Derived.Test.YtmbminbnnmnkeaaDoorRef6C
namespace Go.Proofs.YtmbminbnnmnkeaaDoor
open Go Go.RowKit Convs

set_option maxHeartbeats 8000000 in
set_option maxRecDepth 1000000 in
theorem ConvNumbers_any (s : ByteArray) (w : World) (hM : Met w) (hs : s.size ≤ 140737488351232) :
    Calls Tryd.prog 4 #[.string s] w fun e w' => e = .returned (.bool true) ∧ Below w.heap.size w w' := by
  have HN := hide (Numeric_any s w hM (by omega))
  have HR := hide (fun u => refNumeric_any s u (by omega))
  have HB := hide (fun u (hu : Below w.heap.size w u) => from_ hu (Begins_any s u (hM.below hu) (by omega)))
  have HC := hide (fun u => refBegins_any s u (by omega))
  have HA := hide (fun u (hu : Below w.heap.size w u) => from_ hu (alive_any u (hM.below hu)))
  generalize numN s.data.toList = q at HN HR
  obtain ⟨m, x⟩ := q
  generalize beginsT s.data.toList = b at HB HC
  clear hM
  go_enter Tryd.func4, Tryd.ntmps4
  go_wp2_with (first
    | (go_at_call 18; with_reducible refine (unhide HN).mono ?_; rintro e w1 ⟨rfl, hb1⟩)
    | (go_at_call 19; with_reducible refine ((unhide HR) _).mono ?_; rintro e w2 ⟨rfl, rfl⟩)
    | (go_at_call 20; with_reducible refine ((unhide HB) _ (by assumption)).mono ?_; rintro e w3 ⟨rfl, hb3⟩)
    | (go_at_call 21; with_reducible refine ((unhide HC) _).mono ?_; rintro e w4 ⟨rfl, rfl⟩)
    | (go_at_call 17; with_reducible refine ((unhide HA) _ (by assumption)).mono ?_; rintro e w5 ⟨rfl, hb5⟩))
  go_ret
  exact ⟨rfl, by assumption⟩
end Go.Proofs.YtmbminbnnmnkeaaDoor
