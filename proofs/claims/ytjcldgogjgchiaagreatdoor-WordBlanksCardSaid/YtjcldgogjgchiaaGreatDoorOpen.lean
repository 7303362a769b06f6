/-
  The contract of package cut's nextOpening.
-/
import Derived.Test.YtjcldgogjgchiaaGreatDoorPhp
import Derived.Laws.ResultCell
import Derived.Laws.NewBlocks
namespace Go.Proofs.YtjcldgogjgchiaaGreatDoor
open Go Go.RowKit Cutting

/-- The relation of nextOpening's loop. -/
structure OpenAt (s : ByteArray) (f k : Nat) : Prop where
  le : k ≤ s.size
  from_ : f ≤ k
  kind : (openN (s.data.toList.drop f)).kind = (openN (s.data.toList.drop k)).kind
  mark : f + (openN (s.data.toList.drop f)).mark = k + (openN (s.data.toList.drop k)).mark
  code : (openN (s.data.toList.drop f)).kind ≠ 0 → f + (openN (s.data.toList.drop f)).code = k + (openN (s.data.toList.drop k)).code

theorem below_cells {B : Nat} {w w' : World} (hb : Below B w w') : (∀ b o, b < B → w'.cell? ⟨b, o, none⟩ = w.cell? ⟨b, o, none⟩) ∧ (∀ b o, b < B → w'.frozen? ⟨b, o, none⟩ = w.frozen? ⟨b, o, none⟩) :=
  ⟨fun b o h => hb.cell (p := ⟨b, o, none⟩) h, fun b o h => hb.frozen (p := ⟨b, o, none⟩) h⟩

/-- The call's own three cells, as they lie till the result is stored. -/
structure Own3 (B : Nat) (w : World) : Prop where
  lt : B < w.heap.size
  c0 : w.cell? ⟨B, 0, none⟩ = some (.int .i64 0)
  c1 : w.cell? ⟨B, 1, none⟩ = some (.int .i64 0)
  c2 : w.cell? ⟨B, 2, none⟩ = some (.int .i64 0)
  f0 : w.frozen? ⟨B, 0, none⟩ = false
  f1 : w.frozen? ⟨B, 1, none⟩ = false
  f2 : w.frozen? ⟨B, 2, none⟩ = false
theorem Own3.below {B C : Nat} {w w' : World} (h : Own3 B w) (hb : Below C w w') (hC : B < C) : Own3 B w' :=
  ⟨Nat.lt_of_lt_of_le h.lt hb.size, (hb.cell (p := ⟨B, 0, none⟩) hC).trans h.c0, (hb.cell (p := ⟨B, 1, none⟩) hC).trans h.c1, (hb.cell (p := ⟨B, 2, none⟩) hC).trans h.c2,
   (hb.frozen (p := ⟨B, 0, none⟩) hC).trans h.f0, (hb.frozen (p := ⟨B, 1, none⟩) hC).trans h.f1, (hb.frozen (p := ⟨B, 2, none⟩) hC).trans h.f2⟩
theorem Own3.new (w : World) (t : TypeId) : Own3 w.heap.size (w.alloc (.cells #[.int .i64 0, .int .i64 0, .int .i64 0] t)) := by
  refine ⟨by simp, ?_, ?_, ?_, ?_, ?_, ?_⟩ <;> simp [go_sem]

theorem openN_echo (b : UInt8) (r : List UInt8) (h : Lib.hasPrefix (b :: r) [60, 63, 61] = true) : openN (b :: r) = ⟨3, 0, 3⟩ := by simp only [openN]; rw [if_pos h]
theorem openN_php (b : UInt8) (r : List UInt8) (h : Lib.hasPrefix (b :: r) [60, 63, 61] = false) (h2 : 0 < phpN (b :: r)) : openN (b :: r) = ⟨2, 0, phpN (b :: r)⟩ := by
  simp only [openN]; rw [if_neg (by rw [h]; simp), if_pos h2]
theorem openN_next (b : UInt8) (r : List UInt8) (h : Lib.hasPrefix (b :: r) [60, 63, 61] = false) (h2 : phpN (b :: r) = 0) :
    (openN (b :: r)).kind = (openN r).kind ∧ (openN (b :: r)).mark = (openN r).mark + 1 ∧ ((openN r).kind ≠ 0 → (openN (b :: r)).code = (openN r).code + 1) := by
  simp only [openN]; rw [if_neg (by rw [h]; simp), if_neg (by omega)]
  split
  · next h0 => exact ⟨h0.symm, rfl, fun h => absurd h0 h⟩
  · exact ⟨rfl, rfl, fun _ => rfl⟩
theorem OpenAt.next {s : ByteArray} {f k : Nat} (h : OpenAt s f k) (hk : k < s.size) (h1 : Lib.hasPrefix (s.data.toList.drop k) [60, 63, 61] = false) (h2 : phpN (s.data.toList.drop k) = 0) : OpenAt s f (k + 1) := by
  have hd := drop_at s k hk
  rw [hd] at h1 h2
  have hn := openN_next _ _ h1 h2
  have a := h.kind; have b := h.mark; have c := h.code
  rw [hd] at a b c
  refine ⟨by omega, by have := h.from_; omega, a.trans hn.1, by omega, fun h0 => ?_⟩
  have := hn.2.2 (by rw [← hn.1, ← a]; exact h0)
  have := c h0
  omega
theorem openN_nil : openN [] = ⟨0, 0, 0⟩ := rfl

/-- The value of an opening, by what it is from a place on. -/
def openVal (f : Nat) (o : Opening) : Value := .agg #[.int .i64 o.kind, .int .i64 ((f + o.mark : Nat) : Int), .int .i64 ((if o.kind = 0 then 0 else f + o.code : Nat) : Int)]

theorem OpenAt.val {s : ByteArray} {f k K C : Nat} (h : OpenAt s f k) (ho : openN (s.data.toList.drop k) = ⟨K, 0, C⟩) (hK : K ≠ 0) :
    openVal f (openN (s.data.toList.drop f)) = .agg #[.int .i64 K, .int .i64 k, .int .i64 ((k + C : Nat) : Int)] := by
  have a := h.kind; have b := h.mark; have c := h.code
  rw [ho] at a b c
  have c' := c (by rw [a]; exact hK)
  unfold openVal
  rw [a, if_neg hK, b, c', Nat.add_zero]
theorem OpenAt.none_ {s : ByteArray} {f k : Nat} (h : OpenAt s f k) (ho : openN (s.data.toList.drop k) = ⟨0, 0, 0⟩) :
    openVal f (openN (s.data.toList.drop f)) = .agg #[.int .i64 0, .int .i64 k, .int .i64 0] := by
  have a := h.kind; have b := h.mark
  rw [ho] at a b
  unfold openVal
  rw [a, if_pos rfl, b]
  rfl

set_option maxHeartbeats 2000000 in
theorem nextOpening_any (s : ByteArray) (f : Nat) (w : World) (hf : f ≤ s.size) (hs : s.size ≤ 2147483640) (hF : FoldTab w) :
    Calls Tryz.prog 29 #[.string s, .int .i64 f] w fun e w' =>
      e = .returned (openVal f (openN (s.data.toList.drop f))) ∧ Below w.heap.size w w' := by
  go_enter Tryz.func29, Tryz.ntmps29
  go_wp2_with fail
  have hO := Own3.new w 59
  have hb0 : Below w.heap.size w (w.alloc (Obj.cells #[Value.int IntKind.i64 0, Value.int IntKind.i64 0, Value.int IntKind.i64 0] 59)) := (Below.refl _ _).alloc (Nat.le_refl _) _
  have hF0 := hF.below hb0 hF.lt
  have hB1 := hF.lt
  generalize w.alloc (Obj.cells #[Value.int IntKind.i64 0, Value.int IntKind.i64 0, Value.int IntKind.i64 0] 59) = W0 at hO hb0 hF0
  obtain ⟨B, hB⟩ : ∃ B, B = w.heap.size := ⟨_, rfl⟩
  rw [← hB] at hO hb0 hB1
  rw [← hB]
  have HB := Lib.hid hB
  clear hB
  go_loopw [5] (fun i wr => ∃ k : Nat, i = .int .i64 k ∧ Hid (OpenAt s f k) ∧ Own3 B wr ∧ FoldTab wr ∧ Below B w wr) (fun i _ => s.size - (intOf i).toNat)
  case atStart => exact ⟨f, rfl, ⟨hf, Nat.le_refl _, rfl, rfl, fun _ => rfl⟩, hO, hF0, hb0⟩
  case round =>
    obtain ⟨k, rfl, hrel, hOr, hFr, hbr⟩ := hrel
    have hk := hrel.out.le
    by_cases hlt : k < s.size
    · obtain ⟨L, hL⟩ : ∃ L, L = s.extract k s.size := ⟨_, rfl⟩
      have hLl : L.data.toList = s.data.toList.drop k := by rw [hL, tail_list]
      have hLs : L.size = s.size - k := by rw [hL]; simp
      have hLb : L.size ≤ 2147483640 := by omega
      have HLl := Lib.hid hLl
      have HLL := Lib.hid hL
      have HLd : Hid (L.data.toList = s[k] :: s.data.toList.drop (k + 1)) := by show _ = _; rw [hLl]; exact drop_at s k hlt
      clear hLl hLs hL
      cases he : Lib.hasPrefix L.data.toList [60, 63, 61]
      · have HE := Lib.hid he
        clear he
        obtain ⟨n, hn⟩ : ∃ n, n = phpN L.data.toList := ⟨_, rfl⟩
        have HN := Lib.hid hn
        clear hn
        rcases Nat.eq_zero_or_pos n with h0 | h0
        · have hst : Hid (OpenAt s f (k + 1)) := hrel.out.next hlt (by rw [← HLl.out]; exact HE.out) (by rw [← HLl.out, ← HN.out]; exact h0)
          go_wp2_with fail
          rw [← HLL.out]
          refine (hasPrefix_b _ _ false _ (by exact HE.out)).mono ?_
          rintro e w' ⟨rfl, rfl⟩
          go_wp2_with fail
          refine (phpLen_any L _ (by omega) hFr).mono ?_
          rintro e w1 ⟨rfl, hb1⟩
          rw [← HN.out]
          have hO1 := hOr.below hb1 hOr.lt
          have hF1 := hFr.below hb1 hFr.lt
          have hbb := hbr.trans (hb1.mono (Nat.le_of_lt hOr.lt))
          go_wp2_with fail
          go_roundw
          case rel => exact ⟨k + 1, by go_num, hst, hO1, hF1, hbb⟩
          case measure => simp [intOf]; omega
        · have hple : n ≤ 7 := by
            have := HN.out
            rw [this]
            unfold phpN
            split
            · split
              · omega
              · split
                · omega
                · split <;> omega
            · omega
          have hval : Hid (openVal f (openN (s.data.toList.drop f)) = .agg #[.int .i64 2, .int .i64 k, .int .i64 ((k + n : Nat) : Int)]) := by
            refine hrel.out.val (K := 2) (C := n) ?_ (by decide)
            rw [← HLl.out, HN.out, HLd.out]
            exact openN_php _ _ (by rw [← HLd.out]; exact HE.out) (by rw [← HLd.out, ← HN.out]; exact h0)
          go_wp2_with fail
          rw [← HLL.out]
          refine (hasPrefix_b _ _ false _ (by exact HE.out)).mono ?_
          rintro e w' ⟨rfl, rfl⟩
          go_wp2_with fail
          refine (phpLen_any L _ (by omega) hFr).mono ?_
          rintro e w1 ⟨rfl, hb1⟩
          rw [← HN.out]
          have hO1 := hOr.below hb1 hOr.lt
          have hbb := hbr.trans (hb1.mono (Nat.le_of_lt hOr.lt))
          have c0 := hO1.c0; have c1 := hO1.c1; have c2 := hO1.c2; have f0 := hO1.f0; have f1 := hO1.f1; have f2 := hO1.f2
          go_wp2_with fail
          refine bodyPost_ret (v := .agg #[.int .i64 2, .int .i64 k, .int .i64 (k + n)]) (by simp [results, Tryz.results29, go_sem, c0, c1, c2]) rfl ⟨?_, ?_⟩
          · rw [hval.out]
            rfl
          · rw [← HB.out]
            exact ((hbb.setCell (Nat.le_refl _) _).setCell (Nat.le_refl _) _).setCell (Nat.le_refl _) _
      · have HE := Lib.hid he
        clear he
        have c0 := hOr.c0; have c1 := hOr.c1; have c2 := hOr.c2; have f0 := hOr.f0; have f1 := hOr.f1; have f2 := hOr.f2
        go_wp2_with fail
        rw [← HLL.out]
        refine (hasPrefix_b _ _ true _ (by exact HE.out)).mono ?_
        rintro e w' ⟨rfl, rfl⟩
        go_wp2_with fail
        refine bodyPost_ret (v := .agg #[.int .i64 3, .int .i64 k, .int .i64 (k + 3)]) (by simp [results, Tryz.results29, go_sem, c0, c1, c2]) rfl ⟨?_, ?_⟩
        · rw [hrel.out.val (by rw [← HLl.out, HLd.out]; exact openN_echo _ _ (by rw [← HLd.out]; exact HE.out)) (by decide)]
          rfl
        · rw [← HB.out]
          exact ((hbr.setCell (Nat.le_refl _) _).setCell (Nat.le_refl _) _).setCell (Nat.le_refl _) _
    · have hdk : Hid (openN (s.data.toList.drop k) = ⟨0, 0, 0⟩) := by show _ = _; rw [drop_nil s k (by omega)]; rfl
      have c0 := hOr.c0; have c1 := hOr.c1; have c2 := hOr.c2; have f0 := hOr.f0; have f1 := hOr.f1; have f2 := hOr.f2
      go_wp2_with fail
      refine bodyPost_ret (v := .agg #[.int .i64 0, .int .i64 s.size, .int .i64 0]) (by simp [results, Tryz.results29, go_sem, c0, c1, c2]) rfl ⟨?_, ?_⟩
      · rw [hrel.out.none_ hdk.out, show k = s.size from by omega]
      · rw [← HB.out]
        exact ((hbr.setCell (Nat.le_refl _) _).setCell (Nat.le_refl _) _).setCell (Nat.le_refl _) _
end Go.Proofs.YtjcldgogjgchiaaGreatDoor
