/-
  The contract of package list's Append.
-/
import Derived.Test.YtmfnonepcipplaaDoorLSet
namespace Go.Proofs.YtmfnonepcipplaaDoor
open Go Go.RowKit Convs Lists

/-- Behind a call on a list, stores into a block of the caller's own. -/
theorem LPost.behind {B : Nat} {w : World} {lb mb : Nat} {iv : Value} {lent : Bool} {l' : Ls} {r r' : Value} {w1 w' w'' : World} {kb : Nat} (hb : Below w.heap.size w w1) (hkb : w.heap.size ≤ kb) (hlt : kb < w1.heap.size) (hne : ∀ (l : Ls) mb iv lent, Lst B w' lb mb iv lent l → ¬ Lst.own lb mb iv false kb)
    (h : LPost B w1 lb mb iv lent l' r (.returned r) w') (ht : Turned (fun k => k = kb) w' w'') : LPost B w lb mb iv lent l' r' (.returned r') w'' := by
  obtain ⟨mb', iv', lent', _, h2, h3⟩ := LPost.from hb h
  refine ⟨mb', iv', lent', rfl, h2.same (fun k hk => ht.block k (h2.fp_lt hk) (fun e => ?_)), ⟨h3.turned.then ht (fun i hi hl => ?_), h3.own, h3.fp⟩⟩
  · have e' : k = kb := e
    subst e'
    exact hne _ _ _ _ h2 hk
  · have e' : i = kb := hi
    omega

/-- A block of another kind is none of a list's own. -/
theorem Lst.apart {B : Nat} {w : World} {lb mb : Nat} {iv : Value} {lent : Bool} {l : Ls} (h : Lst B w lb mb iv lent l) {b : Nat} {cs : Array Value} {T : TypeId}
    (hb : Blk w b cs T) (h1 : T ≠ 50) (h2 : T ≠ 69) : ¬ Lst.own lb mb iv false b := by
  rintro (rfl | ⟨_, hk | rfl⟩)
  · exact h1 (hb.inj h.blk)
  · obtain ⟨_, _, cs', hcs⟩ := ownsRow_lt h.row hk
    exact h2 (hb.inj hcs)
  · obtain ⟨es, clock, hm⟩ := h.map.isMap
    unfold Blk at hb
    rw [hb] at hm
    cases hm
theorem turned_three (w : World) (b : Nat) (x y z : Value) : Turned (fun k => k = b) w (((w.setCell ⟨b, 0, none⟩ x).setCell ⟨b, 1, none⟩ y).setCell ⟨b, 2, none⟩ z) :=
  ((Turned.setCell (S := fun k => k = b) w ⟨b, 0, none⟩ x rfl).trans (Turned.setCell (S := fun k => k = b) _ ⟨b, 1, none⟩ y rfl)).trans (Turned.setCell (S := fun k => k = b) _ ⟨b, 2, none⟩ z rfl)

set_option maxRecDepth 100000 in
set_option maxHeartbeats 2000000 in
theorem Append_any {B : Nat} {w : World} {lb mb : Nat} {iv : Value} {lent : Bool} {l : Ls} (h : Lst B w lb mb iv lent l) (v : Int) :
    Calls Tryd.prog 13 #[.pointer (some ⟨lb, 0, none⟩), .int .i64 v] w
      (LPost B w lb mb iv lent (l.append v).1 (.tuple #[kv (l.append v).2.1, .int .i64 (fullN (l.append v).2.2)])) := by
  have h0 := h.alloc (.cells #[.bool false, .int .i64 0, .string ⟨#[]⟩] 30)
  have hb0 := below_box w (.cells #[.bool false, .int .i64 0, .string ⟨#[]⟩] 30)
  have hkb := Blk.new w #[.bool false, .int .i64 0, .string ⟨#[]⟩] 30
  obtain ⟨W0, hW0⟩ : ∃ W0, w.alloc (.cells #[.bool false, .int .i64 0, .string ⟨#[]⟩] 30) = W0 := ⟨_, rfl⟩
  rw [hW0] at h0 hb0 hkb
  have HW0 := hide hW0
  obtain ⟨c0, c1, c2, c3, c4, f0, f1, f2, f3, f4⟩ := h0.cells
  obtain ⟨b0, b1, b2, q0, q1, q2⟩ := hkb.three
  have HM := hide (isMade_any W0 lb c0)
  have HB := hide hb0
  have HK := hide hkb
  have HL := hide h0
  have HI := hide h
  have hlo := h.good.lo
  clear hW0
  by_cases hn : l.next = -1
  · have ha : l.append v = (l, ⟨false, 0, []⟩, true) := by unfold Ls.append; rw [if_pos (by omega)]
    rw [ha]
    rw [hn] at c3
    clear h h0 hkb hb0 hn ha
    go_enter Tryd.func13, Tryd.ntmps13
    go_upto_region 1 with fail
    rw [HW0.out]
    go_wp2_with (go_at_call 24; with_reducible refine (unhide HM).mono ?_; rintro e w1 ⟨rfl, rfl⟩)
    refine bodyPost_ret (v := .tuple #[.agg #[.bool false, .int .i64 0, .string ⟨#[]⟩], .int .i64 8]) (by simp [results, Tryd.results13, go_sem, b0, b1, b2]) rfl ?_
    refine LPost.behind HB.out (Nat.le_refl _) HK.out.lt (fun l' mb iv lent hl => ?_) (r := .tuple #[]) ⟨mb, iv, lent, rfl, HL.out, .refl _ _ _ _ _⟩ (turned_three _ _ _ _ _)
    exact hl.apart HK.out (by decide) (by decide)
  · have hnn : 0 ≤ l.next := by omega
    have ha : l.append v = ((l.set ⟨false, l.next, []⟩ v).1, if (l.set ⟨false, l.next, []⟩ v).2 then ⟨false, 0, []⟩ else ⟨false, l.next, []⟩, (l.set ⟨false, l.next, []⟩ v).2) := by
      unfold Ls.append; rw [if_neg (by omega)]
    have e1 : (l.next == -1) = false := by simpa using hn
    have h1 := h0.alloc (.cells #[.bool false, .int .i64 l.next, .string ⟨#[]⟩] 30)
    have hb1 := below_box W0 (.cells #[.bool false, .int .i64 l.next, .string ⟨#[]⟩] 30)
    have hhi := h.good.hi
    unfold most at hhi
    have hadd := add_any h1 false l.next ⟨#[]⟩ v ⟨by simp only; omega, by simp only; omega, by simp⟩ (normT_num _) (h.good.fresh hnn)
    have HH1 := hide h1
    have HB1 := hide (hb0.trans (hb1.mono hb0.size))
    have kz := hkb.alloc (.cells #[.bool false, .int .i64 l.next, .string ⟨#[]⟩] 30)
    have kn := Blk.new W0 #[.bool false, .int .i64 l.next, .string ⟨#[]⟩] 30
    have KZ := hide kz
    have KN := hide kn
    obtain ⟨W1, hW1⟩ : ∃ W1, W0.alloc (.cells #[.bool false, .int .i64 l.next, .string ⟨#[]⟩] 30) = W1 := ⟨_, rfl⟩
    rw [hW1] at hadd HH1 HB1 KZ KN
    have HW1 := hide hW1
    cases hf : (l.set ⟨false, l.next, []⟩ v).2
    · rw [hf] at ha
      simp only [Bool.false_eq_true, if_false] at ha
      have hadd' := hadd
      rw [show (⟨#[]⟩ : ByteArray).data.toList = [] from rfl, hf] at hadd'
      rw [ha]
      have HADD := hide hadd'
      clear h h0 h1 hb1 hkb hb0 hn ha hadd hadd' hf kz kn hW1
      go_enter Tryd.func13, Tryd.ntmps13
      go_upto_region 1 with fail
      rw [HW0.out]
      go_wp2_with (go_at_call 24; with_reducible refine (unhide HM).mono ?_; rintro e w1 ⟨rfl, rfl⟩)
      rw [HW1.out]
      refine (unhide HADD).mono ?_
      rintro e w2 ⟨mb3, iv3, lent3, rfl, hl3, hs3⟩
      have kz2 := hs3.blk HH1.out KZ.out (by decide) (by decide)
      have kn2 := hs3.blk HH1.out KN.out (by decide) (by decide)
      obtain ⟨b0, b1, b2, q0, q1, q2⟩ := kz2.three
      obtain ⟨d0, d1, d2, r0, r1, r2⟩ := kn2.three
      have H3 : Hid (LPost B W1 lb mb iv lent (l.set ⟨false, l.next, []⟩ v).1 (.tuple #[]) (.returned (.tuple #[])) w2) := ⟨mb3, iv3, lent3, rfl, hl3, hs3⟩
      have KZ2 := hide kz2
      clear hl3 hs3 kz2 kn2
      unfold fullN
      go_wp2_with fail
      refine bodyPost_ret (v := .tuple #[.agg #[.bool false, .int .i64 l.next, .string ⟨#[]⟩], .int .i64 0]) (by simp [results, Tryd.results13, go_sem, b0, b1, b2]) rfl ?_
      exact LPost.behind HB1.out (Nat.le_refl _) KZ.out.lt (fun l' mb iv lent hl => hl.apart KZ2.out (by decide) (by decide)) H3.out (turned_three _ _ _ _ _)
    · rw [hf] at ha
      simp only [if_true] at ha
      have hadd' := hadd
      rw [show (⟨#[]⟩ : ByteArray).data.toList = [] from rfl, hf] at hadd'
      rw [ha]
      have HADD := hide hadd'
      clear h h0 h1 hb1 hkb hb0 hn ha hadd hadd' hf kz kn hW1
      go_enter Tryd.func13, Tryd.ntmps13
      go_upto_region 1 with fail
      rw [HW0.out]
      go_wp2_with (go_at_call 24; with_reducible refine (unhide HM).mono ?_; rintro e w1 ⟨rfl, rfl⟩)
      rw [HW1.out]
      refine (unhide HADD).mono ?_
      rintro e w2 ⟨mb3, iv3, lent3, rfl, hl3, hs3⟩
      have kz2 := hs3.blk HH1.out KZ.out (by decide) (by decide)
      have kn2 := hs3.blk HH1.out KN.out (by decide) (by decide)
      obtain ⟨b0, b1, b2, q0, q1, q2⟩ := kz2.three
      obtain ⟨d0, d1, d2, r0, r1, r2⟩ := kn2.three
      have H3 : Hid (LPost B W1 lb mb iv lent (l.set ⟨false, l.next, []⟩ v).1 (.tuple #[]) (.returned (.tuple #[])) w2) := ⟨mb3, iv3, lent3, rfl, hl3, hs3⟩
      have KZ2 := hide kz2
      clear hl3 hs3 kz2 kn2
      unfold fullN
      go_wp2_with fail
      refine bodyPost_ret (v := .tuple #[.agg #[.bool false, .int .i64 0, .string ⟨#[]⟩], .int .i64 8]) (by simp [results, Tryd.results13, go_sem, b0, b1, b2]) rfl ?_
      exact LPost.behind HB1.out (Nat.le_refl _) KZ.out.lt (fun l' mb iv lent hl => hl.apart KZ2.out (by decide) (by decide)) H3.out (turned_three _ _ _ _ _)
end Go.Proofs.YtmfnonepcipplaaDoor
