/-
  The contract of package conv's Order.
-/
import Derived.Test.YtmbminbnnmnkeaaDoorConvD
import Derived.Deep.Cut
namespace Go.Proofs.YtmbminbnnmnkeaaDoor
open Go Go.RowKit Convs

/-- A value in a box: its cells. -/
structure Box (P : Nat) (w : World) (k n : Int) (s : ByteArray) (a : Option Addr) (len cap : Nat) : Prop where
  c0 : w.cell? ⟨P, 0, none⟩ = some (.int .i64 k)
  c1 : w.cell? ⟨P, 1, none⟩ = some (.int .i64 n)
  c2 : w.cell? ⟨P, 2, none⟩ = some (.string s)
  c3 : w.cell? ⟨P, 3, none⟩ = some (.slice a len cap)
theorem Box.new (w : World) (k n : Int) (s : ByteArray) (a : Option Addr) (len cap : Nat) : Box w.heap.size (w.alloc (.cells #[.int .i64 k, .int .i64 n, .string s, .slice a len cap] 24)) k n s a len cap := by
  have hb : (w.alloc (.cells #[.int .i64 k, .int .i64 n, .string s, .slice a len cap] 24)).heap[w.heap.size]? = _ := heap_alloc_new w _
  constructor <;> (unfold World.cell?; simp only [hb]; rfl)
theorem Box.below {P : Nat} {w w' : World} {k n : Int} {s : ByteArray} {a : Option Addr} {len cap B : Nat} (h : Box P w k n s a len cap) (hb : Below B w w') (hP : P < B) : Box P w' k n s a len cap :=
  ⟨(hb.cell (p := ⟨P, 0, none⟩) hP).trans h.c0, (hb.cell (p := ⟨P, 1, none⟩) hP).trans h.c1, (hb.cell (p := ⟨P, 2, none⟩) hP).trans h.c2, (hb.cell (p := ⟨P, 3, none⟩) hP).trans h.c3⟩

theorem compareInt_eq (a b : Int) : Lib.compareInt a b = numT a b := rfl
theorem compareBytes_eq : ∀ a b : L, Lib.compareBytes a b = lexT a b
  | [], [] => rfl
  | [], _ :: _ => rfl
  | _ :: _, [] => rfl
  | a :: r, b :: t => by simp only [Lib.compareBytes, lexT, compareBytes_eq r t]

/-- How two values stand, and the error's number. -/
def orderN (k n : Int) (s : L) (len : Nat) (k' n' : Int) (s' : L) (len' : Nat) : Int × Int :=
  if plainN k && plainN k' then
    if byN k k' || byN k' k then (numT (truNum k n s len) (truNum k' n' s' len'), 0)
    else if (numOfN k n s).2 && (numOfN k' n' s').2 then (numT (numOfN k n s).1 (numOfN k' n' s').1, 0)
    else (lexT (textN k n s).1 (textN k' n' s').1, 0)
  else (0, 15)

/-- Two boxes in a world, and in all that come of it. -/
structure Boxes (P Q : Nat) (w : World) (k n : Int) (s : ByteArray) (a : Option Addr) (len cap : Nat) (k' n' : Int) (s' : ByteArray) (a' : Option Addr) (len' cap' : Nat) : Prop where
  hP : P < w.heap.size
  hQ : Q < w.heap.size
  b1 : Box P w k n s a len cap
  b2 : Box Q w k' n' s' a' len' cap'
theorem Boxes.new (w : World) (k n : Int) (s : ByteArray) (a : Option Addr) (len cap : Nat) (k' n' : Int) (s' : ByteArray) (a' : Option Addr) (len' cap' : Nat) :
    Boxes w.heap.size (w.heap.size + 1) ((w.alloc (.cells #[.int .i64 k, .int .i64 n, .string s, .slice a len cap] 24)).alloc (.cells #[.int .i64 k', .int .i64 n', .string s', .slice a' len' cap'] 24)) k n s a len cap k' n' s' a' len' cap' := by
  have h2 := Box.new (w.alloc (.cells #[.int .i64 k, .int .i64 n, .string s, .slice a len cap] 24)) k' n' s' a' len' cap'
  have e : (w.alloc (.cells #[.int .i64 k, .int .i64 n, .string s, .slice a len cap] 24)).heap.size = w.heap.size + 1 := by simp
  rw [e] at h2
  exact ⟨by simp <;> omega, by simp, (Box.new w k n s a len cap).below (below_box _ _) (by simp), h2⟩
theorem Boxes.at_ {P Q : Nat} {w w' : World} {k n : Int} {s : ByteArray} {a : Option Addr} {len cap : Nat} {k' n' : Int} {s' : ByteArray} {a' : Option Addr} {len' cap' : Nat}
    (h : Boxes P Q w k n s a len cap k' n' s' a' len' cap') (hb : Below w.heap.size w w') : Box P w' k n s a len cap ∧ Box Q w' k' n' s' a' len' cap' := ⟨h.b1.below hb h.hP, h.b2.below hb h.hQ⟩

set_option maxRecDepth 100000 in
theorem Order_any (k n : Int) (s : ByteArray) (a : Option Addr) (len cap : Nat) (k' n' : Int) (s' : ByteArray) (a' : Option Addr) (len' cap' : Nat) (w : World) (hM : Met w)
    (hn0 : -9223372036854775808 ≤ n) (hn1 : n ≤ 9223372036854775807) (hs : s.size ≤ 281474976710656) (hn0' : -9223372036854775808 ≤ n') (hn1' : n' ≤ 9223372036854775807) (hs' : s'.size ≤ 281474976710656) :
    Calls Tryd.prog 22 #[.agg #[.int .i64 k, .int .i64 n, .string s, .slice a len cap], .agg #[.int .i64 k', .int .i64 n', .string s', .slice a' len' cap']] w
      fun e w' => e = .returned (.tuple #[.int .i64 (orderN k n s.data.toList len k' n' s'.data.toList len').1, .int .i64 (orderN k n s.data.toList len k' n' s'.data.toList len').2]) ∧ Below w.heap.size w w' := by
  have hBX := Boxes.new w k n s a len cap k' n' s' a' len' cap'
  have hb0 : Below w.heap.size w ((w.alloc (.cells #[.int .i64 k, .int .i64 n, .string s, .slice a len cap] 24)).alloc (.cells #[.int .i64 k', .int .i64 n', .string s', .slice a' len' cap'] 24)) := (below_box w _).alloc (by simp) _
  obtain ⟨W0, hW0⟩ : ∃ W0, (w.alloc (.cells #[.int .i64 k, .int .i64 n, .string s, .slice a len cap] 24)).alloc (.cells #[.int .i64 k', .int .i64 n', .string s', .slice a' len' cap'] 24) = W0 := ⟨_, rfl⟩
  rw [hW0] at hBX hb0
  have HW0 := Lib.hid hW0
  have hM0 := hM.below hb0
  have hP1 : ∀ u, Below W0.heap.size W0 u → _ := fun u hu => from_ hu (isPlain_any k n s a len cap u)
  have hP2 : ∀ u, Below W0.heap.size W0 u → _ := fun u hu => from_ hu (isPlain_any k' n' s' a' len' cap' u)
  have hB1 : ∀ u, Below W0.heap.size W0 u → _ := fun u hu => from_ hu (byTruths_any k n s a len cap k' n' s' a' len' cap' u)
  have hB2 : ∀ u, Below W0.heap.size W0 u → _ := fun u hu => from_ hu (byTruths_any k' n' s' a' len' cap' k n s a len cap u)
  have hT1 : ∀ u, Below W0.heap.size W0 u → _ := fun u hu => from_ hu (truthNumber_any k n s a len cap u)
  have hT2 : ∀ u, Below W0.heap.size W0 u → _ := fun u hu => from_ hu (truthNumber_any k' n' s' a' len' cap' u)
  have hN1 : ∀ u, Below W0.heap.size W0 u → _ := fun u hu => from_ hu (numberOf_any k n s a len cap u (hM0.below hu) hs)
  have hN2 : ∀ u, Below W0.heap.size W0 u → _ := fun u hu => from_ hu (numberOf_any k' n' s' a' len' cap' u (hM0.below hu) hs')
  have hX1 : ∀ u, Below W0.heap.size W0 u → _ := fun u hu => from_ hu (Text_any k n s a len cap u (hM0.below hu) hn0 hn1)
  have hX2 : ∀ u, Below W0.heap.size W0 u → _ := fun u hu => from_ hu (Text_any k' n' s' a' len' cap' u (hM0.below hu) hn0' hn1')
  have HX := hide hBX
  have hOB := hb0.size
  obtain ⟨⟨ca0, ca1, ca2, ca3⟩, cb0, cb1, cb2, cb3⟩ := hBX.at_ (Below.refl _ _)
  clear hM hM0 hW0 hn0 hn1 hs hn0' hn1' hs' hBX
  unfold orderN
  cases hp : plainN k
  · rw [hp] at hP1
    have HP1 := hide hP1
    clear hP1 hP2 hB1 hB2 hT1 hT2 hN1 hN2 hX1 hX2 hp
    go_enter Tryd.func22, Tryd.ntmps22
    go_upto_region 1 with fail
    rw [HW0.out]
    go_wp2_with (first | (go_at_call 31; with_reducible refine ((unhide HP1) _ (by first | exact Below.refl _ _ | assumption)).mono ?_; rintro e w2 ⟨rfl, hb2⟩; obtain ⟨⟨ca0, ca1, ca2, ca3⟩, cb0, cb1, cb2, cb3⟩ := (unhide HX).at_ hb2))
    go_ret2
    exact ⟨rfl, hb0.trans (hb2.mono hOB)⟩
  rw [hp] at hP1
  have HP1 := hide hP1
  clear hP1 hp
  cases hp : plainN k'
  · rw [hp] at hP2
    have HP2 := hide hP2
    clear hP2 hB1 hB2 hT1 hT2 hN1 hN2 hX1 hX2 hp
    go_enter Tryd.func22, Tryd.ntmps22
    go_upto_region 1 with fail
    rw [HW0.out]
    go_wp2_with (first | (go_at_call 31; with_reducible refine ((unhide HP1) _ (by first | exact Below.refl _ _ | assumption)).mono ?_; rintro e w2 ⟨rfl, hb2⟩; obtain ⟨⟨ca0, ca1, ca2, ca3⟩, cb0, cb1, cb2, cb3⟩ := (unhide HX).at_ hb2) | (go_at_call 31; with_reducible refine ((unhide HP2) _ (by first | exact Below.refl _ _ | assumption)).mono ?_; rintro e w2 ⟨rfl, hb2⟩; obtain ⟨⟨ca0, ca1, ca2, ca3⟩, cb0, cb1, cb2, cb3⟩ := (unhide HX).at_ hb2))
    go_ret2
    exact ⟨rfl, hb0.trans (hb2.mono hOB)⟩
  rw [hp] at hP2
  have HP2 := hide hP2
  clear hP2 hp
  have HT1 := hide hT1
  have HT2 := hide hT2
  clear hT1 hT2
  cases hp : byN k k'
  case true =>
    rw [hp] at hB1
    have HB1 := hide hB1
    clear hB1 hB2 hN1 hN2 hX1 hX2 hp
    go_enter Tryd.func22, Tryd.ntmps22
    go_upto_region 1 with fail
    rw [HW0.out]
    go_wp2_with (first | (go_at_call 31; with_reducible refine ((unhide HP1) _ (by first | exact Below.refl _ _ | assumption)).mono ?_; rintro e w2 ⟨rfl, hb2⟩; obtain ⟨⟨ca0, ca1, ca2, ca3⟩, cb0, cb1, cb2, cb3⟩ := (unhide HX).at_ hb2) | (go_at_call 31; with_reducible refine ((unhide HP2) _ (by first | exact Below.refl _ _ | assumption)).mono ?_; rintro e w2 ⟨rfl, hb2⟩; obtain ⟨⟨ca0, ca1, ca2, ca3⟩, cb0, cb1, cb2, cb3⟩ := (unhide HX).at_ hb2) | (go_at_call 32; with_reducible refine ((unhide HB1) _ (by first | exact Below.refl _ _ | assumption)).mono ?_; rintro e w2 ⟨rfl, hb2⟩; obtain ⟨⟨ca0, ca1, ca2, ca3⟩, cb0, cb1, cb2, cb3⟩ := (unhide HX).at_ hb2))
    go_region_held3 (fun w' => Below W0.heap.size W0 w' ∧ w'.cell? ⟨w.heap.size, 0, none⟩ = some (.int .i64 k) ∧ w'.cell? ⟨w.heap.size, 1, none⟩ = some (.int .i64 n) ∧ w'.cell? ⟨w.heap.size, 2, none⟩ = some (.string s) ∧ w'.cell? ⟨w.heap.size, 3, none⟩ = some (.slice a len cap) ∧ w'.cell? ⟨w.heap.size + 1, 0, none⟩ = some (.int .i64 k') ∧ w'.cell? ⟨w.heap.size + 1, 1, none⟩ = some (.int .i64 n') ∧ w'.cell? ⟨w.heap.size + 1, 2, none⟩ = some (.string s') ∧ w'.cell? ⟨w.heap.size + 1, 3, none⟩ = some (.slice a' len' cap'))
      (first | (exact ⟨by first | assumption | exact Below.drew (by assumption), by assumption, by assumption, by assumption, by assumption, by assumption, by assumption, by assumption, by assumption⟩) | (refine ⟨by first | assumption | exact Below.drew (by assumption), ?_⟩; go_keep))
      (first
        | (go_at_call 28; with_reducible refine ((unhide HT1) _ (by first | assumption | exact Below.drew (by assumption))).mono ?_; rintro e wa ⟨rfl, hba⟩; obtain ⟨⟨ca0, ca1, ca2, ca3⟩, cb0, cb1, cb2, cb3⟩ := (unhide HX).at_ hba)
        | (go_at_call 28; with_reducible refine ((unhide HT2) _ (by first | assumption | exact Below.drew (by assumption))).mono ?_; rintro e wb ⟨rfl, hbb⟩; obtain ⟨⟨ca0, ca1, ca2, ca3⟩, cb0, cb1, cb2, cb3⟩ := (unhide HX).at_ hbb)
        | (go_at_call 33; refine (Tryd.cmp_Compare_int _ _ _).mono ?_; rintro e w3 ⟨rfl, rfl⟩))
    all_goals go_wp2_with fail
    all_goals go_ret2
    all_goals exact ⟨rfl, hb0.trans (Below.mono (by assumption) hOB)⟩
  case false =>
    rw [hp] at hB1
    have HB1 := hide hB1
    clear hB1 hp
    cases hp : byN k' k
    case true =>
      rw [hp] at hB2
      have HB2 := hide hB2
      clear hB2 hN1 hN2 hX1 hX2 hp
      go_enter Tryd.func22, Tryd.ntmps22
      go_upto_region 1 with fail
      rw [HW0.out]
      go_wp2_with (first | (go_at_call 31; with_reducible refine ((unhide HP1) _ (by first | exact Below.refl _ _ | assumption)).mono ?_; rintro e w2 ⟨rfl, hb2⟩; obtain ⟨⟨ca0, ca1, ca2, ca3⟩, cb0, cb1, cb2, cb3⟩ := (unhide HX).at_ hb2) | (go_at_call 31; with_reducible refine ((unhide HP2) _ (by first | exact Below.refl _ _ | assumption)).mono ?_; rintro e w2 ⟨rfl, hb2⟩; obtain ⟨⟨ca0, ca1, ca2, ca3⟩, cb0, cb1, cb2, cb3⟩ := (unhide HX).at_ hb2) | (go_at_call 32; with_reducible refine ((unhide HB1) _ (by first | exact Below.refl _ _ | assumption)).mono ?_; rintro e w2 ⟨rfl, hb2⟩; obtain ⟨⟨ca0, ca1, ca2, ca3⟩, cb0, cb1, cb2, cb3⟩ := (unhide HX).at_ hb2) | (go_at_call 32; with_reducible refine ((unhide HB2) _ (by first | exact Below.refl _ _ | assumption)).mono ?_; rintro e w2 ⟨rfl, hb2⟩; obtain ⟨⟨ca0, ca1, ca2, ca3⟩, cb0, cb1, cb2, cb3⟩ := (unhide HX).at_ hb2))
      go_region_held3 (fun w' => Below W0.heap.size W0 w' ∧ w'.cell? ⟨w.heap.size, 0, none⟩ = some (.int .i64 k) ∧ w'.cell? ⟨w.heap.size, 1, none⟩ = some (.int .i64 n) ∧ w'.cell? ⟨w.heap.size, 2, none⟩ = some (.string s) ∧ w'.cell? ⟨w.heap.size, 3, none⟩ = some (.slice a len cap) ∧ w'.cell? ⟨w.heap.size + 1, 0, none⟩ = some (.int .i64 k') ∧ w'.cell? ⟨w.heap.size + 1, 1, none⟩ = some (.int .i64 n') ∧ w'.cell? ⟨w.heap.size + 1, 2, none⟩ = some (.string s') ∧ w'.cell? ⟨w.heap.size + 1, 3, none⟩ = some (.slice a' len' cap'))
        (first | (exact ⟨by first | assumption | exact Below.drew (by assumption), by assumption, by assumption, by assumption, by assumption, by assumption, by assumption, by assumption, by assumption⟩) | (refine ⟨by first | assumption | exact Below.drew (by assumption), ?_⟩; go_keep))
        (first
          | (go_at_call 28; with_reducible refine ((unhide HT1) _ (by first | assumption | exact Below.drew (by assumption))).mono ?_; rintro e wa ⟨rfl, hba⟩; obtain ⟨⟨ca0, ca1, ca2, ca3⟩, cb0, cb1, cb2, cb3⟩ := (unhide HX).at_ hba)
          | (go_at_call 28; with_reducible refine ((unhide HT2) _ (by first | assumption | exact Below.drew (by assumption))).mono ?_; rintro e wb ⟨rfl, hbb⟩; obtain ⟨⟨ca0, ca1, ca2, ca3⟩, cb0, cb1, cb2, cb3⟩ := (unhide HX).at_ hbb)
          | (go_at_call 33; refine (Tryd.cmp_Compare_int _ _ _).mono ?_; rintro e w3 ⟨rfl, rfl⟩))
      all_goals go_wp2_with fail
      all_goals go_ret2
      all_goals exact ⟨rfl, hb0.trans (Below.mono (by assumption) hOB)⟩
    case false =>
      rw [hp] at hB2
      have HB2 := hide hB2
      have HX1 := hide hX1
      have HX2 := hide hX2
      clear hB2 hX1 hX2 hp HT1 HT2
      generalize numOfN k n s.data.toList = q1 at hN1 ⊢
      generalize numOfN k' n' s'.data.toList = q2 at hN2 ⊢
      obtain ⟨m1, x1⟩ := q1
      obtain ⟨m2, x2⟩ := q2
      have HN1 := hide hN1
      have HN2 := hide hN2
      clear hN1 hN2
      cases x1
      · cases x2
        all_goals
          go_enter Tryd.func22, Tryd.ntmps22
          go_upto_region 1 with fail
          rw [HW0.out]
          go_wp2_with (first | (go_at_call 31; with_reducible refine ((unhide HP1) _ (by first | exact Below.refl _ _ | assumption)).mono ?_; rintro e w2 ⟨rfl, hb2⟩; obtain ⟨⟨ca0, ca1, ca2, ca3⟩, cb0, cb1, cb2, cb3⟩ := (unhide HX).at_ hb2) | (go_at_call 31; with_reducible refine ((unhide HP2) _ (by first | exact Below.refl _ _ | assumption)).mono ?_; rintro e w2 ⟨rfl, hb2⟩; obtain ⟨⟨ca0, ca1, ca2, ca3⟩, cb0, cb1, cb2, cb3⟩ := (unhide HX).at_ hb2) | (go_at_call 32; with_reducible refine ((unhide HB1) _ (by first | exact Below.refl _ _ | assumption)).mono ?_; rintro e w2 ⟨rfl, hb2⟩; obtain ⟨⟨ca0, ca1, ca2, ca3⟩, cb0, cb1, cb2, cb3⟩ := (unhide HX).at_ hb2) | (go_at_call 32; with_reducible refine ((unhide HB2) _ (by first | exact Below.refl _ _ | assumption)).mono ?_; rintro e w2 ⟨rfl, hb2⟩; obtain ⟨⟨ca0, ca1, ca2, ca3⟩, cb0, cb1, cb2, cb3⟩ := (unhide HX).at_ hb2) | (go_at_call 34; with_reducible refine ((unhide HN1) _ (by first | exact Below.refl _ _ | assumption)).mono ?_; rintro e w2 ⟨rfl, hb2⟩; obtain ⟨⟨ca0, ca1, ca2, ca3⟩, cb0, cb1, cb2, cb3⟩ := (unhide HX).at_ hb2) | (go_at_call 34; with_reducible refine ((unhide HN2) _ (by first | exact Below.refl _ _ | assumption)).mono ?_; rintro e w2 ⟨rfl, hb2⟩; obtain ⟨⟨ca0, ca1, ca2, ca3⟩, cb0, cb1, cb2, cb3⟩ := (unhide HX).at_ hb2) | (go_at_call 9; with_reducible refine ((unhide HX1) _ (by first | exact Below.refl _ _ | assumption)).mono ?_; rintro e w2 ⟨rfl, hb2⟩; obtain ⟨⟨ca0, ca1, ca2, ca3⟩, cb0, cb1, cb2, cb3⟩ := (unhide HX).at_ hb2) | (go_at_call 9; with_reducible refine ((unhide HX2) _ (by first | exact Below.refl _ _ | assumption)).mono ?_; rintro e w2 ⟨rfl, hb2⟩; obtain ⟨⟨ca0, ca1, ca2, ca3⟩, cb0, cb1, cb2, cb3⟩ := (unhide HX).at_ hb2) | (go_at_call 35; refine (Tryd.strings_Compare _ _ _).mono ?_; rintro e w3 ⟨rfl, rfl⟩))
          go_ret2
          exact ⟨by rw [← compareBytes_eq]; rfl, hb0.trans (Below.mono (by assumption) hOB)⟩
      · cases x2
        · go_enter Tryd.func22, Tryd.ntmps22
          go_upto_region 1 with fail
          rw [HW0.out]
          go_wp2_with (first | (go_at_call 31; with_reducible refine ((unhide HP1) _ (by first | exact Below.refl _ _ | assumption)).mono ?_; rintro e w2 ⟨rfl, hb2⟩; obtain ⟨⟨ca0, ca1, ca2, ca3⟩, cb0, cb1, cb2, cb3⟩ := (unhide HX).at_ hb2) | (go_at_call 31; with_reducible refine ((unhide HP2) _ (by first | exact Below.refl _ _ | assumption)).mono ?_; rintro e w2 ⟨rfl, hb2⟩; obtain ⟨⟨ca0, ca1, ca2, ca3⟩, cb0, cb1, cb2, cb3⟩ := (unhide HX).at_ hb2) | (go_at_call 32; with_reducible refine ((unhide HB1) _ (by first | exact Below.refl _ _ | assumption)).mono ?_; rintro e w2 ⟨rfl, hb2⟩; obtain ⟨⟨ca0, ca1, ca2, ca3⟩, cb0, cb1, cb2, cb3⟩ := (unhide HX).at_ hb2) | (go_at_call 32; with_reducible refine ((unhide HB2) _ (by first | exact Below.refl _ _ | assumption)).mono ?_; rintro e w2 ⟨rfl, hb2⟩; obtain ⟨⟨ca0, ca1, ca2, ca3⟩, cb0, cb1, cb2, cb3⟩ := (unhide HX).at_ hb2) | (go_at_call 34; with_reducible refine ((unhide HN1) _ (by first | exact Below.refl _ _ | assumption)).mono ?_; rintro e w2 ⟨rfl, hb2⟩; obtain ⟨⟨ca0, ca1, ca2, ca3⟩, cb0, cb1, cb2, cb3⟩ := (unhide HX).at_ hb2) | (go_at_call 34; with_reducible refine ((unhide HN2) _ (by first | exact Below.refl _ _ | assumption)).mono ?_; rintro e w2 ⟨rfl, hb2⟩; obtain ⟨⟨ca0, ca1, ca2, ca3⟩, cb0, cb1, cb2, cb3⟩ := (unhide HX).at_ hb2) | (go_at_call 9; with_reducible refine ((unhide HX1) _ (by first | exact Below.refl _ _ | assumption)).mono ?_; rintro e w2 ⟨rfl, hb2⟩; obtain ⟨⟨ca0, ca1, ca2, ca3⟩, cb0, cb1, cb2, cb3⟩ := (unhide HX).at_ hb2) | (go_at_call 9; with_reducible refine ((unhide HX2) _ (by first | exact Below.refl _ _ | assumption)).mono ?_; rintro e w2 ⟨rfl, hb2⟩; obtain ⟨⟨ca0, ca1, ca2, ca3⟩, cb0, cb1, cb2, cb3⟩ := (unhide HX).at_ hb2) | (go_at_call 35; refine (Tryd.strings_Compare _ _ _).mono ?_; rintro e w3 ⟨rfl, rfl⟩))
          go_ret2
          exact ⟨by rw [← compareBytes_eq]; rfl, hb0.trans (Below.mono (by assumption) hOB)⟩
        · go_enter Tryd.func22, Tryd.ntmps22
          go_upto_region 1 with fail
          rw [HW0.out]
          go_wp2_with (first | (go_at_call 31; with_reducible refine ((unhide HP1) _ (by first | exact Below.refl _ _ | assumption)).mono ?_; rintro e w2 ⟨rfl, hb2⟩; obtain ⟨⟨ca0, ca1, ca2, ca3⟩, cb0, cb1, cb2, cb3⟩ := (unhide HX).at_ hb2) | (go_at_call 31; with_reducible refine ((unhide HP2) _ (by first | exact Below.refl _ _ | assumption)).mono ?_; rintro e w2 ⟨rfl, hb2⟩; obtain ⟨⟨ca0, ca1, ca2, ca3⟩, cb0, cb1, cb2, cb3⟩ := (unhide HX).at_ hb2) | (go_at_call 32; with_reducible refine ((unhide HB1) _ (by first | exact Below.refl _ _ | assumption)).mono ?_; rintro e w2 ⟨rfl, hb2⟩; obtain ⟨⟨ca0, ca1, ca2, ca3⟩, cb0, cb1, cb2, cb3⟩ := (unhide HX).at_ hb2) | (go_at_call 32; with_reducible refine ((unhide HB2) _ (by first | exact Below.refl _ _ | assumption)).mono ?_; rintro e w2 ⟨rfl, hb2⟩; obtain ⟨⟨ca0, ca1, ca2, ca3⟩, cb0, cb1, cb2, cb3⟩ := (unhide HX).at_ hb2) | (go_at_call 34; with_reducible refine ((unhide HN1) _ (by first | exact Below.refl _ _ | assumption)).mono ?_; rintro e w2 ⟨rfl, hb2⟩; obtain ⟨⟨ca0, ca1, ca2, ca3⟩, cb0, cb1, cb2, cb3⟩ := (unhide HX).at_ hb2) | (go_at_call 34; with_reducible refine ((unhide HN2) _ (by first | exact Below.refl _ _ | assumption)).mono ?_; rintro e w2 ⟨rfl, hb2⟩; obtain ⟨⟨ca0, ca1, ca2, ca3⟩, cb0, cb1, cb2, cb3⟩ := (unhide HX).at_ hb2) | (go_at_call 33; refine (Tryd.cmp_Compare_int _ _ _).mono ?_; rintro e w3 ⟨rfl, rfl⟩))
          go_ret2
          exact ⟨rfl, hb0.trans (Below.mono (by assumption) hOB)⟩
end Go.Proofs.YtmbminbnnmnkeaaDoor
