/-
  Two files, one behind the other: what the law's walk asks.
-/
import Derived.Test.YtbeglmolgloepaaDoorJoinD
namespace Go.Proofs.YtbeglmolgloepaaDoor.Cutting
open Go

structure Joined (L M A : Nat) (m k : List Pc) : Prop where
  len : k.length = L + 1 + M
  mid : k[L]? = some ⟨3, [49], A + 6⟩
  rest : ∀ i (hi : i < m.length), k[L + 1 + i]? = some ⟨m[i].kind, m[i].text, m[i].at_ + (A + 9)⟩
theorem joins_pieces (a b : List UInt8) (hb1 : Lib.hasPrefix b [10] = false) (hb2 : Lib.hasPrefix b [13] = false) (L : Nat) (hL : L + 1 = (pieces (a ++ [120])).length)
    (h1 : (pieces (a ++ [120]))[L].kind = 1) :
    Joined (L + 1) (pieces b).length a.length (pieces b) (pieces (a ++ 120 :: midB b)) := by
  obtain ⟨l', hl', hp⟩ := joined b hb1 hb2 a.length 0 a (Nat.le_refl _) ⟨(pieces (a ++ [120]))[L], by
    have hl1 : (pieces (a ++ [120])).length - 1 = L := by omega
    rw [List.getLast?_eq_getElem?, ← pieces_eq, hl1, List.getElem?_eq_getElem], h1⟩
  rw [← pieces_eq, ← hL] at hl'
  have hs : piecesN (0 + a.length + 9) b = (pieces b).map (shiftPc (a.length + 9)) := by
    rw [show 0 + a.length + 9 = 0 + (a.length + 9) from by omega, pieces_shift _ _ _ _ (Nat.le_refl _), pieces_eq]
  rw [hs, ← pieces_eq, Nat.zero_add] at hp
  refine ⟨?_, ?_, fun i hi => ?_⟩
  · rw [hp, List.length_append, List.length_cons, List.length_map, hl']; omega
  · rw [hp, List.getElem?_append_right (by omega), hl', Nat.sub_self, List.getElem?_cons_zero]
  · rw [hp, List.getElem?_append_right (by omega), hl', show L + 1 + 1 + i - (L + 1) = i + 1 from by omega, List.getElem?_cons_succ, List.getElem?_map, List.getElem?_eq_getElem hi]
    rfl
theorem pieces_pos (a : List UInt8) : 0 < (pieces (a ++ [120])).length := by
  rw [pieces_eq, piecesN_eq _ _ (by simp)]
  by_cases hk : (openN (a ++ [120])).kind = 0
  · have hm := (openN_le (a ++ [120])).2.1 hk
    unfold htmlN
    rw [hm, if_pos (by simp), if_pos hk]
    simp
  · rw [if_neg hk, List.length_append, List.length_cons]; omega
end Go.Proofs.YtbeglmolgloepaaDoor.Cutting
