/-
  The contract of strings.EqualFold at what opens code: five bytes of any kind against five of ASCII.
-/
import Derived.Test.YtjcldgogjgchiaaGreatDoorCode
import Derived.ScopeJumps
import Derived.Lib.Fold
import Derived.Laws.RangeAny
import Derived.Laws.BitsLemmas
import Derived.Laws.BitsAllLaws
namespace Go
theorem wp_scope_forward {P : Program} {a : Act} {w : World} {Q : Exit → Act → World → Prop} {c rest : Code} (l : Nat) (hf : findLabel c l = some rest)
    (first : c.wp P (Exit.jump l (fun a w => rest.wp P (Exit.noGoto Q) a w) Q) a w) : (Code.scope c).wp P Q a w := by
  refine wp_scope_jumps l _ (fun _ _ => 0) hf first ?_
  intro a w h
  refine wp_mono h ?_
  intro e a w hq
  cases e <;> first | exact hq | exact absurd hq (by simp [Exit.noGoto])
end Go
namespace Go.Proofs.YtjcldgogjgchiaaGreatDoor
open Go Go.RowKit Cutting

/-- What the library's small table of folds holds, at the letters that are asked. -/
structure FoldTab (w : World) : Prop where
  c60 : w.cell? ⟨3, 60, none⟩ = some (.int .u16 60)
  c63 : w.cell? ⟨3, 63, none⟩ = some (.int .u16 63)
  c72 : w.cell? ⟨3, 72, none⟩ = some (.int .u16 104)
  c80 : w.cell? ⟨3, 80, none⟩ = some (.int .u16 112)
  c104 : w.cell? ⟨3, 104, none⟩ = some (.int .u16 72)
  c112 : w.cell? ⟨3, 112, none⟩ = some (.int .u16 80)

set_option maxRecDepth 100000 in
theorem simpleFold_any (z v : Int) (h0 : 0 ≤ z) (hn : z < 128) (hv0 : 0 ≤ v) (hv : v < 65536) (w : World) (hc : w.cell? ⟨3, z.toNat, none⟩ = some (.int .u16 v)) :
    Calls Tryz.prog 84 #[.int .i32 z] w fun e w' => e = .returned (.int .i32 v) ∧ w = w' := by
  obtain ⟨n, rfl⟩ := Int.eq_ofNat_of_zero_le h0
  rw [Int.toNat_natCast] at hc
  go_enter Tryz.func84, Tryz.ntmps84
  go_wp2_with fail
  go_ret
  exact ⟨rfl, rfl⟩
theorem FoldTab.lt {w : World} (h : FoldTab w) : 3 < w.heap.size := by
  rcases Nat.lt_or_ge 3 w.heap.size with h0 | h0
  · exact h0
  · have : w.heap[3]? = none := Array.getElem?_eq_none (by omega)
    have hc := h.c60
    simp [World.cell?, this] at hc
theorem FoldTab.below {B : Nat} {w w' : World} (h : FoldTab w) (hb : Below B w w') (hB : 3 < B) : FoldTab w' :=
  ⟨(hb.cell (p := ⟨3, 60, none⟩) hB).trans h.c60, (hb.cell (p := ⟨3, 63, none⟩) hB).trans h.c63, (hb.cell (p := ⟨3, 72, none⟩) hB).trans h.c72,
   (hb.cell (p := ⟨3, 80, none⟩) hB).trans h.c80, (hb.cell (p := ⟨3, 104, none⟩) hB).trans h.c104, (hb.cell (p := ⟨3, 112, none⟩) hB).trans h.c112⟩
theorem below_iter (w : World) (s : ByteArray) (p : Nat) : Below w.heap.size w (w.iter s p) := (Below.refl _ _).alloc (Nat.le_refl _) _

theorem head_of (s : ByteArray) {x : UInt8} {r : List UInt8} (h : s.data.toList = x :: r) : ∃ h0 : 0 < s.size, s[0] = x := by
  have h0 : 0 < s.size := by rw [Lib.size_eq, h]; simp
  have hd := drop_at s 0 h0
  rw [List.drop_zero, h] at hd
  exact ⟨h0, by simp only [List.cons.injEq] at hd; exact hd.1.symm⟩
/-- The first step over a text that does not begin with ASCII. -/
theorem next_high (P : Program) (S : ByteArray) {x : UInt8} {l : List UInt8} (h : S.data.toList = x :: l) (hx : 128 ≤ x.toNat) :
    ∃ r q : Nat, 128 ≤ r ∧ r ≤ 2147483647 ∧ ∀ (w : World) (ty : TypeId), (Instr.next (.pointer (some ⟨w.heap.size, 0, none⟩)) true ty).run P (w.iter S 0) = .ok (.tuple #[.bool true, .int .i64 0, .int .i32 r]) (w.iter S q) := by
  obtain ⟨h0, rfl⟩ := head_of S h
  exact ⟨_, _, (decode_high S 0 h0 hx).1, decode_le S 0, fun w ty => run_next_any w S 0 ty h0⟩

theorem decodeRune_ascii (s : ByteArray) (y : UInt8) (r : List UInt8) (w : World) (hs : s.data.toList = y :: r) (hy : y.toNat < 128) :
    Calls Tryz.prog 36 #[.string s] w fun e w' => e = .returned (.tuple #[.int .i32 y.toNat, .int .i64 1]) ∧ w = w' := by
  obtain ⟨h0, rfl⟩ := head_of s hs
  have h : (s[0].toNat : Int) < 128 := by omega
  clear hs hy
  have he := isEmpty_of s h0
  have hen : s.toList ≠ [] := fun h => by rw [h] at he; cases he
  go_enter Tryz.func36, Tryz.ntmps36
  go_wp2_with fail
  go_ret2
  exact ⟨rfl, rfl⟩

set_option maxRecDepth 100000 in
set_option maxHeartbeats 1000000 in
theorem foldOdd_any (s T : ByteArray) (k : Nat) (w : World) (hks : k < s.size) (hkt : k < T.size) (hs : s.size ≤ 65536) (_ht : T.size ≤ 65536)
    (hk : 128 ≤ (s[k].toNat : Int)) (hlow : ∀ j (h : j < s.size), j < k → (s[j].toNat : Int) < 128) (htl : ∀ j (h : j < T.size), (T[j].toNat : Int) < 128) (htk : T[k] = 60 ∨ T[k] = 63 ∨ T[k] = 104 ∨ T[k] = 112) (hF : FoldTab w) :
    Calls Tryz.prog 61 #[.string s, .string T] w fun e w' => e = .returned (.bool false) ∧ Below w.heap.size w w' := by
  obtain ⟨M, hM⟩ : ∃ M : Nat, min (s.size : Int) (T.size : Int) = (M : Int) := ⟨min s.size T.size, by omega⟩
  have hMs : M ≤ s.size := by omega
  have hMt : M ≤ T.size := by omega
  have hkM : k < M := by omega
  have HM := Lib.hid hM
  have HLow := Lib.hid hlow
  have HTl := Lib.hid htl
  have HTk := Lib.hid htk
  clear hM hlow htl htk
  go_enter Tryz.func61, Tryz.ntmps61
  go_wp2_with fail
  refine wp_scope_forward 0 rfl ?_
  go_wp2_with fail
  rw [HM.out]
  go_loop [5] (fun i => ∃ j : Nat, j ≤ k ∧ i = .int .i64 j) (fun i => k + 1 - (intOf i).toNat)
  case atStart => exact ⟨0, Nat.zero_le _, rfl⟩
  case round =>
    obtain ⟨j, hjk, rfl⟩ := hrel
    by_cases hj : j = k
    · subst hj
      obtain ⟨x, hx⟩ : ∃ x : UInt8, s[j] = x := ⟨_, rfl⟩
      obtain ⟨y, hy⟩ : ∃ y : UInt8, T[j] = y := ⟨_, rfl⟩
      have hx128 : 128 ≤ x.toNat := by rw [← hx]; omega
      have hy128 : y.toNat < 128 := by have := HTl.out j hkt; rw [hy] at this; omega
      have hor : bits .or .u8 (x.toNat : Int) (y.toNat : Int) = ((x.toNat ||| y.toNat : Nat) : Int) := u8_or_nat _ _ (by have := x.toNat_lt; omega) (by omega)
      have hor128 : (128 : Int) ≤ ((x.toNat ||| y.toNat : Nat) : Int) := by have := Nat.left_le_or (n := x.toNat) (m := y.toNat); omega
      clear hk
      go_wp2_with fail
      go_step3
      refine ⟨rfl, ?_⟩
      go_wp2_with fail
      obtain ⟨S, hS⟩ : ∃ S, S = s.extract j s.size := ⟨_, rfl⟩
      obtain ⟨U, hU⟩ : ∃ U, U = T.extract j T.size := ⟨_, rfl⟩
      rw [← hS, ← hU]
      have hUl : U.data.toList = y :: T.data.toList.drop (j + 1) := by rw [hU, tail_list, drop_at T j hkt, hy]
      have hSl : S.data.toList = x :: s.data.toList.drop (j + 1) := by rw [hS, tail_list, drop_at s j hks, hx]
      have hU0 : 0 < U.size := by rw [hU]; simp; omega
      obtain ⟨r, q, hr1, hr2, hnx⟩ := next_high Tryz.prog S hSl hx128
      have hnx1 := hnx w
      have HUl := Lib.hid hUl
      have hF2 := hF.below (below_iter w S q) hF.lt
      have hb2 := below_iter w S q
      clear hUl hSl hS hU hnx hor hor128 hx hx128
      refine wp_loop_rounds 1 ?_
      rw [rounds_succ]
      go_wp2_with fail
      refine (decodeRune_ascii U y _ _ HUl.out hy128).mono ?_
      rintro e w' ⟨rfl, rfl⟩
      have htk := HTk.out
      rw [hy] at htk
      clear hy HTk HUl HLow HTl hy128
      rcases htk with rfl | rfl | rfl | rfl
      · skip
        have hrn : (60 : Int) < (r : Int) := by omega
        go_wp2_with fail
        refine (simpleFold_any 60 60 (by omega) (by omega) (by omega) (by omega) _ hF2.c60).mono ?_
        rintro e w' ⟨rfl, rfl⟩
        go_wp2_with fail
        refine wp_loop_rounds 1 ?_
        rw [rounds_succ]
        go_wp2_with fail
        simp only [Exit.noGoto]
        go_ret
        exact ⟨rfl, hb2⟩
      · skip
        have hrn : (63 : Int) < (r : Int) := by omega
        go_wp2_with fail
        refine (simpleFold_any 63 63 (by omega) (by omega) (by omega) (by omega) _ hF2.c63).mono ?_
        rintro e w' ⟨rfl, rfl⟩
        go_wp2_with fail
        refine wp_loop_rounds 1 ?_
        rw [rounds_succ]
        go_wp2_with fail
        simp only [Exit.noGoto]
        go_ret
        exact ⟨rfl, hb2⟩
      · skip
        have hrn : (104 : Int) < (r : Int) := by omega
        go_wp2_with fail
        refine (simpleFold_any 104 72 (by omega) (by omega) (by omega) (by omega) _ hF2.c104).mono ?_
        rintro e w' ⟨rfl, rfl⟩
        go_wp2_with fail
        refine wp_loop_rounds 2 ?_
        rw [rounds_succ]
        go_wp2_with fail
        refine (simpleFold_any 72 104 (by omega) (by omega) (by omega) (by omega) _ hF2.c72).mono ?_
        rintro e w' ⟨rfl, rfl⟩
        go_wp2_with fail
        rw [rounds_succ]
        go_wp2_with fail
        simp only [Exit.noGoto]
        go_ret
        exact ⟨rfl, hb2⟩
      · skip
        have hrn : (112 : Int) < (r : Int) := by omega
        go_wp2_with fail
        refine (simpleFold_any 112 80 (by omega) (by omega) (by omega) (by omega) _ hF2.c112).mono ?_
        rintro e w' ⟨rfl, rfl⟩
        go_wp2_with fail
        refine wp_loop_rounds 2 ?_
        rw [rounds_succ]
        go_wp2_with fail
        refine (simpleFold_any 80 112 (by omega) (by omega) (by omega) (by omega) _ hF2.c80).mono ?_
        rintro e w' ⟨rfl, rfl⟩
        go_wp2_with fail
        rw [rounds_succ]
        go_wp2_with fail
        simp only [Exit.noGoto]
        go_ret
        exact ⟨rfl, hb2⟩
    · have hjs : j < s.size := by omega
      have hjT : j < T.size := by omega
      obtain ⟨x, hx⟩ : ∃ x : UInt8, s[j] = x := ⟨_, rfl⟩
      obtain ⟨y, hy⟩ : ∃ y : UInt8, T[j] = y := ⟨_, rfl⟩
      have hx128 : x.toNat < 128 := by have := HLow.out j hjs (by omega); rw [hx] at this; omega
      have hy128 : y.toNat < 128 := by have := HTl.out j hjT; rw [hy] at this; omega
      have hor : bits .or .u8 (x.toNat : Int) (y.toNat : Int) = ((x.toNat ||| y.toNat : Nat) : Int) := u8_or_nat _ _ (by omega) (by omega)
      have hor128 : ¬ ((128 : Int) ≤ ((x.toNat ||| y.toNat : Nat) : Int)) := by have := Nat.or_lt_two_pow (n := 7) hx128 hy128; omega
      go_wp2_with fail
      all_goals first
        | (go_round
           case measure => simp [intOf]; omega
           case rel => exact ⟨j + 1, by omega, by go_num⟩)
        | (simp only [Exit.jump]
           go_ret
           exact ⟨rfl, Below.refl _ _⟩)
end Go.Proofs.YtjcldgogjgchiaaGreatDoor
