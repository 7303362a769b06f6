/-
  The contract of the reader's piece.
-/
import Derived.Test.YtjcldgogjgchiaaGreatDoorCodeA
import Derived.Deep.RegionHeld3
namespace Go.Proofs.YtjcldgogjgchiaaGreatDoor
open Go Go.RowKit Cutting Wording

/-- A piece's tokens. -/
def pieceT (f : L) (p : Pc) : R (List (Tk × Nat)) :=
  if p.kind = 1 then .ok [(⟨1, p.text, 0, []⟩, p.at_)] else
  match prep (if p.kind = 3 then [(signT [101, 99, 104, 111], p.at_)] else []) (codeT p.at_ p.text) with
  | .error y => .error y
  | .ok m => .ok (m ++ if endedB f p.text p.at_ then [(signT [63, 62], p.at_ + p.text.length)] else [])
theorem Core.add {P C : Nat} {w0 w wr w' : World} {file : ByteArray} {v v' : Value} {l l' : List TkV} {seen seen' : Nat} (h : Core P C w0 w wr file v l seen) (hr : Rd P C w0 w' file v' l' seen') (ho : OnlyRd P v wr w') (hs : wr.heap.size ≤ w'.heap.size) : Core P C w0 w w' file v' l' seen' :=
  ⟨hr, h.kept.trans (Kept.add h.rd ho hs)⟩
theorem piece_ok {P C : Nat} {w0 w w' : World} {file : ByteArray} {v' : Value} {l l2 : List TkV} {seen seen' lim num : Nat} {r : R (List (Tk × Nat))} (h : Core P C w0 w w' file v' (l ++ l2) seen')
    (hc : r = .ok (l2.map (fun x => (x.1, x.2.1)))) (h1 : l2.length ≤ num) (h2 : seen' ≤ lim) : CodePost P C w0 w file l seen lim num r (.returned (faultV 0 0)) w' := by
  rw [hc]
  exact ⟨h.kept, rfl, v', l2, seen', h.rd, rfl, h1, by omega⟩

theorem codeT_err (r : L) : ∀ (a : Nat) (x : Nat × Nat), codeT a r = .error x → x.1 ≠ 0 := by
  have key : ∀ (n : Nat) (r : L), r.length ≤ n → ∀ (a : Nat) (x : Nat × Nat), codeT a r = .error x → x.1 ≠ 0 := by
    intro n
    induction n with
    | zero =>
      intro r h a x hx
      have := List.eq_nil_of_length_eq_zero (Nat.le_zero.1 h)
      subst this
      rw [codeT_step, gapN_nil] at hx
      simp at hx
    | succ n ih =>
      intro r h a x hx
      rw [codeT_step] at hx
      split at hx
      · injection hx with hx; subst hx; simp
      · split at hx
        · cases hx
        · next h2 =>
          have hne : r.drop (gapN r).1 ≠ [] := by intro h; rw [h] at h2; simp at h2
          cases ht : tokT (r.drop (gapN r).1) with
          | error y => rw [ht] at hx; injection hx with hx; subst hx; exact (tokT_err _ _ ht).1
          | ok y =>
            rw [ht] at hx
            dsimp only at hx
            have hy := tokT_le _ hne y ht
            have hl := List.length_pos_iff.2 hne
            rw [List.length_drop] at hl
            cases hc : codeT (a + (gapN r).1 + y.2) ((r.drop (gapN r).1).drop y.2) with
            | error z => rw [hc] at hx; injection hx with hx; subst hx; exact ih _ (by rw [List.length_drop, List.length_drop]; omega) _ _ hc
            | ok z => rw [hc] at hx; cases hx
  exact key _ r (Nat.le_refl _)
theorem piece_err {P C Q : Nat} {w0 w w' : World} {file : ByteArray} {l : List TkV} {seen lim num : Nat} {r : R (List (Tk × Nat))} {x : Nat × Nat} (hk : Kept P w w') (hb : Below C w0 w') (hs : C ≤ w'.heap.size) (hC : C ≤ w.heap.size) (hQ : w.heap.size ≤ Q) (hr : r = .error x) (a b : Value) (o : Obj) :
    CodePost P C w0 w file l seen lim num r (.returned (faultV x.1 x.2)) (((w'.setCell ⟨Q, 0, none⟩ a).setCell ⟨Q, 1, none⟩ b).alloc o) := by
  rw [hr]
  have h0 : C ≤ ((w'.setCell ⟨Q, 0, none⟩ a).setCell ⟨Q, 1, none⟩ b).heap.size := by simpa [World.setCell] using hs
  exact ⟨((hk.set hQ 0 a).set hQ 1 b).trans (.below ((Below.refl _ _).alloc (Nat.le_refl _) o)), rfl, ((hb.setCell (by show C ≤ Q; omega) a).setCell (by show C ≤ Q; omega) b).alloc h0 o, by simp; omega⟩

set_option maxHeartbeats 8000000 in
set_option maxRecDepth 100000 in
theorem piece_html (P C : Nat) (w0 w : World) (file X : ByteArray) (v : Value) (l : List TkV) (seen a k : Nat) (h : Rd P C w0 w file v l seen)
    (h1 : seen ≤ a) (h2 : a + X.size ≤ file.size) (hs : file.size ≤ 1073741820) (hl : l.length ≤ 1073741720) (_hM : Met w0) (hC : C = w0.heap.size) (hk : k = 1) :
    Calls Tryz.prog 23 #[.pointer (some ⟨P, 0, none⟩), .agg #[.int .i64 k, .string X, .int .i64 a]] w fun e w' => CodePost P C w0 w file l seen (a + X.size) (X.size + 2) (pieceT file.data.toList ⟨k, X.data.toList, a⟩) e w' := by
  have t1 : ((k : Int) == 1) = true := by subst hk; rfl
  have hP1 : Hid (pieceT file.data.toList ⟨k, X.data.toList, a⟩ = .ok [(⟨1, X.data.toList, 0, []⟩, a)]) := by show _ = _; rw [pieceT, if_pos hk]
  clear hk
  obtain ⟨Q, hQ⟩ : ∃ Q, Q = w.heap.size := ⟨_, rfl⟩
  have hR0 := codeRel_start (k := k) (X := X) h h1 hC
  obtain ⟨W0, hW0⟩ : ∃ W0, W0 = (w.alloc (.cells #[.int .i64 k, .string X, .int .i64 a] 51)).alloc (.cells fltZ 27) := ⟨_, rfl⟩
  rw [← hW0, ← hQ] at hR0
  have hcore : Core P C w0 w W0 file v l seen := ⟨by have := hR0.rd; rwa [List.append_nil] at this, hR0.kept⟩
  have hbox := hR0.box
  have hflt := hR0.flt
  have hCQ : C ≤ Q := by rw [hQ]; exact h.toks.base
  have hwQ : w.heap.size ≤ Q := by omega
  have hPw : P < w.heap.size := h.rd.lt
  have hCw := h.toks.base
  have HW0 := Lib.hid hW0
  have HQ := Lib.hid hQ
  have hhp := hcore.rd.rd
  clear hR0 hW0 hQ
  have b0 := hbox.cell 0 rfl; have b1 := hbox.cell 1 rfl; have b2 := hbox.cell 2 rfl
  have d0 := hflt.cell 0 rfl; have d1 := hflt.cell 1 rfl; have e0 := hflt.free 0; have e1 := hflt.free 1
  go_enter Tryz.func23, Tryz.ntmps23
  go_wp2_with fail
  rw [← HQ.out, ← HW0.out]
  have hTV : tokV ⟨1, X.data.toList, 0, []⟩ (.slice none 0 0) 0 0 = .agg #[.int .i64 1, .string X, .int .i64 0, .slice none 0 0, .int .i64 0, .int .i64 0] := by rw [tokV, Lib.mk_data]; rfl
  rw [← hTV]
  refine (add_any P C w0 W0 file v l seen a ⟨1, X.data.toList, 0, []⟩ (.slice none 0 0) 0 0 hcore.rd (World.ownsRow_nil _ _ _ _) h1 (by omega) (by omega) (by omega)).mono ?_
  rintro e w6 ⟨v6, rfl, hRd6, hO6, hs6⟩
  have hf6 := (Kept.add hcore.rd hO6 hs6).blk hflt (by omega) (by decide)
  have hc6 := hcore.add hRd6 hO6 hs6
  clear hcore hbox hflt b0 b1 b2 d0 d1 e0 e1 hRd6 hO6 hTV
  have d0 := hf6.cell 0 rfl; have d1 := hf6.cell 1 rfl; have e0 := hf6.free 0; have e1 := hf6.free 1
  go_wp2_with fail
  refine bodyPost_ret (v := faultV 0 0) (by simp [faultV, results, Tryz.results23, go_sem, d0, d1]) rfl ?_
  exact piece_ok (hc6.setF hf6 hCw hPw (by omega) (.int .i64 0) (.int .i64 0)) hP1.out (by simp) (by omega)

set_option maxHeartbeats 8000000 in
set_option maxRecDepth 100000 in
theorem piece_echo (P C : Nat) (w0 w : World) (file X : ByteArray) (v : Value) (l : List TkV) (seen a k : Nat) (h : Rd P C w0 w file v l seen)
    (h1 : seen ≤ a) (h2 : a + X.size ≤ file.size) (hs : file.size ≤ 1073741820) (hl : l.length ≤ 1073741720) (hM : Met w0) (hC : C = w0.heap.size) (hk : k = 3) :
    Calls Tryz.prog 23 #[.pointer (some ⟨P, 0, none⟩), .agg #[.int .i64 k, .string X, .int .i64 a]] w fun e w' => CodePost P C w0 w file l seen (a + X.size) (X.size + 2) (pieceT file.data.toList ⟨k, X.data.toList, a⟩) e w' := by
  have t1 : ((k : Int) == 1) = false := by subst hk; rfl
  have t3 : ((k : Int) == 3) = true := by subst hk; rfl
  have hP3 : Hid (k = 3) := hk
  clear hk
  obtain ⟨Q, hQ⟩ : ∃ Q, Q = w.heap.size := ⟨_, rfl⟩
  have hR0 := codeRel_start (k := k) (X := X) h h1 hC
  obtain ⟨W0, hW0⟩ : ∃ W0, W0 = (w.alloc (.cells #[.int .i64 k, .string X, .int .i64 a] 51)).alloc (.cells fltZ 27) := ⟨_, rfl⟩
  rw [← hW0, ← hQ] at hR0
  have hcore : Core P C w0 w W0 file v l seen := ⟨by have := hR0.rd; rwa [List.append_nil] at this, hR0.kept⟩
  have hbox := hR0.box
  have hflt := hR0.flt
  have hCQ : C ≤ Q := by rw [hQ]; exact h.toks.base
  have hwQ : w.heap.size ≤ Q := by omega
  have hPw : P < w.heap.size := h.rd.lt
  have hCw := h.toks.base
  have HW0 := Lib.hid hW0
  have HQ := Lib.hid hQ
  have hhp := hcore.rd.rd
  clear hR0 hW0 hQ
  have b0 := hbox.cell 0 rfl; have b1 := hbox.cell 1 rfl; have b2 := hbox.cell 2 rfl
  have d0 := hflt.cell 0 rfl; have d1 := hflt.cell 1 rfl; have e0 := hflt.free 0; have e1 := hflt.free 1
  go_enter Tryz.func23, Tryz.ntmps23
  go_wp2_with fail
  rw [← HQ.out, ← HW0.out]
  have HC := hide hcore
  have AddP : Hid (∀ W : World, Core P C w0 w W file v l seen → Calls Tryz.prog 32 #[.pointer (some ⟨P, 0, none⟩), tokV (signT (ByteArray.mk #[101, 99, 104, 111]).data.toList) (.slice none 0 0) 0 0, .int .i64 a] W fun e w' => AddPost P C w0 W file v (l ++ [(signT (ByteArray.mk #[101, 99, 104, 111]).data.toList, a, .slice none 0 0)]) a e w') :=
    fun W hW => add_any P C w0 W file v l seen a _ (.slice none 0 0) 0 0 hW.rd (World.ownsRow_nil _ _ _ _) h1 (by omega) (by omega) (by omega)
  have HB := hide hbox
  have HF := hide hflt
  clear hcore hbox hflt d0 d1 e0 e1 b0 b1
  go_region_held3 (fun w' => w'.cell? ⟨Q, 2, none⟩ = some (.int .i64 a))
    (first
      | assumption
      | (show _ = _; exact ((unhide HB).below (((Below.refl _ _).drew).trans hb1)).cell 2 rfl)
      | (show _ = _; exact (hk2.blk ((unhide HB).below (((Below.refl _ _).drew).trans hb1)) (by omega) (by decide)).cell 2 rfl)
      | go_keep)
    (first
      | (go_at_call 33; refine (wsign_any _ _).mono ?_; rintro e w1 ⟨rfl, hb1⟩)
      | (go_at_call 32; have hcs := (unhide HC).step (((Below.refl _ _).drew).trans hb1); refine (unhide AddP _ hcs).mono ?_; rintro e w2 ⟨v2, rfl, hRd2, hO2, hs2⟩; have hk2 := Kept.add hcs.rd hO2 hs2; have hc2 := hide (hcs.add hRd2 hO2 hs2); clear hcs hO2 hRd2))
  have hcW := hc2
  have HBW := hide (hk2.blk ((unhide HB).below (((Below.refl _ _).drew).trans hb1)) (by omega) (by decide))
  have HFW := hide (hk2.blk ((unhide HF).below (((Below.refl _ _).drew).trans hb1)) (by omega) (by decide))
  clear hc2 HB HF HC hhp b2 AddP hk2 hb1 hs2
  obtain ⟨l0, hl0⟩ : ∃ l0, l0 = [(signT [101, 99, 104, 111], a, Value.slice none 0 0)] := ⟨_, rfl⟩
  rw [← hl0] at hcW
  have hl0l : l0.length ≤ 1 := by rw [hl0]; exact Nat.le_refl _
  have HPT : Hid (pieceT file.data.toList ⟨k, X.data.toList, a⟩ = match prep (l0.map (fun x => (x.1, x.2.1))) (codeT a X.data.toList) with
      | .error y => .error y
      | .ok m => .ok (m ++ if endedB file.data.toList X.data.toList a then [(signT [63, 62], a + X.data.toList.length)] else [])) := by
    show _ = _
    rw [pieceT, if_neg (by rw [hP3.out]; simp), if_pos hP3.out, hl0]
    rfl
  clear hl0 hP3
  obtain ⟨seen2, hse⟩ : ∃ s2, s2 = a := ⟨_, rfl⟩
  rw [← hse] at hcW
  have hs2 : seen2 ≤ a := by omega
  clear hse
  generalize w2 = W at *
  have b0 := (unhide HBW).cell 0 rfl; have b1 := (unhide HBW).cell 1 rfl; have b2 := (unhide HBW).cell 2 rfl
  go_wp2_with fail
  clear b0 b1 b2
  refine (code_any P C w0 W file X v2 (l ++ l0) seen2 a k (unhide hcW).rd hs2 h2 hs (by rw [List.length_append]; omega) hM hC).mono ?_
  rintro e w3 hp3
  have hcW' := unhide hcW
  cases hr : codeT a X.data.toList with
  | error x =>
    obtain ⟨y, z⟩ := x
    have hy := codeT_err _ _ _ hr
    rw [hr] at hp3
    obtain ⟨hK3, rfl, hb3, hs3⟩ := hp3
    have hf3 := hK3.blk (unhide HFW) (by omega) (by decide)
    have hKa := (hcW'.kept.trans hK3)
    have hPE : Hid (pieceT file.data.toList ⟨k, X.data.toList, a⟩ = .error (y, z)) := by show _ = _; rw [HPT.out, hr]; rfl
    dsimp only at hy
    have hy0 : ((y : Int) == 0) = false := by rw [beq_eq_false_iff_ne]; omega
    clear hr hcW hcW' HFW HBW hK3
    have d0 := hf3.cell 0 rfl; have d1 := hf3.cell 1 rfl; have e0 := hf3.free 0; have e1 := hf3.free 1
    have hl3 := hf3.lt
    unfold faultV
    dsimp only
    go_wp2_with fail
    refine bodyPost_ret (v := faultV y z) (by simp [faultV, results, Tryz.results23, go_sem, d0, d1, hl3]) rfl ?_
    exact piece_err (x := (y, z)) hKa hb3 hs3 hCw (by omega) hPE.out _ _ _
  | ok ts =>
    rw [hr] at hp3
    obtain ⟨hK3, rfl, v3, l3, seen3, hRd3, hmap, hlen3, hs3⟩ := hp3
    have hf3 := hK3.blk (unhide HFW) (by omega) (by decide)
    have hb3 := hK3.blk (unhide HBW) (by omega) (by decide)
    have hc3 : Core P C w0 w w3 file v3 (l ++ l0 ++ l3) seen3 := ⟨hRd3, hcW'.kept.trans hK3⟩
    have hPE : Hid (pieceT file.data.toList ⟨k, X.data.toList, a⟩ = .ok ((l0 ++ l3).map (fun x => (x.1, x.2.1)) ++ if endedB file.data.toList X.data.toList a then [(signT [63, 62], a + X.data.toList.length)] else [])) := by
      show _ = _
      rw [HPT.out, hr]
      simp only [prep]
      rw [List.map_append, ← hmap]
    rw [Nat.max_eq_right (Nat.le_trans hs2 (Nat.le_add_right _ _))] at hs3
    clear hcW hcW' HFW HBW hK3 hRd3 hr hmap HPT
    have hl3' := hf3.lt
    have hlP := hc3.rd.rd.lt
    have hlB := hb3.lt
    obtain ⟨w4, hw4⟩ : ∃ w4, w4 = w3.alloc (.cells fltZ 27) := ⟨_, rfl⟩
    have hbw : Below w3.heap.size w3 w4 := by rw [hw4]; exact (Below.refl _ _).alloc (Nat.le_refl _) _
    unfold faultV
    dsimp only
    go_wp2_with fail
    have HW4 := Lib.hid hw4
    clear hw4
    have hc4 := hc3.step hbw
    have hf4 := hf3.below hbw
    have hb4 := hb3.below hbw
    clear hc3 hf3 hb3 hbw
    have hrd := hc4.rd.rd
    have r0 := hrd.cell 0 rfl; have b0 := hb4.cell 0 rfl; have b1 := hb4.cell 1 rfl; have b2 := hb4.cell 2 rfl
    rw [← HW4.out]
    have HC := hide hc4
    have HF := hide hf4
    have HB := hide hb4
    clear hc4 hf4 hb4 hrd
    go_region_held3 (fun w' => w'.cell? ⟨P, 0, none⟩ = some (.string file) ∧ w'.cell? ⟨Q, 0, none⟩ = some (.int .i64 k) ∧ w'.cell? ⟨Q, 1, none⟩ = some (.string X) ∧ w'.cell? ⟨Q, 2, none⟩ = some (.int .i64 a))
      (first
        | exact ⟨by assumption, by assumption, by assumption, by assumption⟩
        | (show _ ∧ _ ∧ _ ∧ _; exact ⟨((unhide HC).step (((Below.refl _ _).drew).trans hb5)).rd.rd.cell 0 rfl, ((unhide HB).below (((Below.refl _ _).drew).trans hb5)).cell 0 rfl, ((unhide HB).below (((Below.refl _ _).drew).trans hb5)).cell 1 rfl, ((unhide HB).below (((Below.refl _ _).drew).trans hb5)).cell 2 rfl⟩)
        | go_keep)
      (first
        | (go_at_call 35; refine (Ended_any file X k a _ (by omega) (by omega)).mono ?_; rintro e w5 ⟨rfl, hb5⟩))
    have hc5 := (unhide HC).step (((Below.refl _ _).drew).trans hb5)
    have hf5 := (unhide HF).below (((Below.refl _ _).drew).trans hb5)
    have hx5 := (unhide HB).below (((Below.refl _ _).drew).trans hb5)
    clear HC HF HB hb5 r0 b0 b1 b2
    cases he : endedB file.data.toList X.data.toList a
    · have hPF : Hid (pieceT file.data.toList ⟨k, X.data.toList, a⟩ = .ok ((l0 ++ l3).map (fun x => (x.1, x.2.1)))) := by show _ = _; rw [hPE.out, he, if_neg (by simp), List.append_nil]
      clear he hPE
      have d0 := hf5.cell 0 rfl; have d1 := hf5.cell 1 rfl; have e0 := hf5.free 0; have e1 := hf5.free 1
      go_wp2_with fail
      refine bodyPost_ret (v := faultV 0 0) (by simp [faultV, results, Tryz.results23, go_sem, d0, d1]) rfl ?_
      have hc6 := hc5.setF hf5 hCw hPw (by omega) (.int .i64 0) (.int .i64 0)
      rw [List.append_assoc] at hc6
      exact piece_ok hc6 hPF.out (by rw [List.length_append]; omega) (by omega)
    · have hPF : Hid (pieceT file.data.toList ⟨k, X.data.toList, a⟩ = .ok ((l0 ++ l3).map (fun x => (x.1, x.2.1)) ++ [(signT [63, 62], a + X.data.toList.length)])) := by show _ = _; rw [hPE.out, he, if_pos rfl]
      clear he hPE
      have b1 := hx5.cell 1 rfl; have b2 := hx5.cell 2 rfl
      have s1 : IntKind.i64.wrap ((a : Int) + (X.size : Int)) = (a : Int) + (X.size : Int) := IntWalk.i64_in _ (by omega)
      have AddP : Hid (∀ W : World, Core P C w0 w W file v3 (l ++ l0 ++ l3) seen3 → Calls Tryz.prog 32 #[.pointer (some ⟨P, 0, none⟩), tokV (signT (ByteArray.mk #[63, 62]).data.toList) (.slice none 0 0) 0 0, .int .i64 ((a : Int) + (X.size : Int))] W fun e w' => AddPost P C w0 W file v3 (l ++ l0 ++ l3 ++ [(signT (ByteArray.mk #[63, 62]).data.toList, a + X.size, .slice none 0 0)]) (a + X.size) e w') :=
        fun W hW => by
          have := add_any P C w0 W file v3 (l ++ l0 ++ l3) seen3 (a + X.size) (signT (ByteArray.mk #[63, 62]).data.toList) (.slice none 0 0) 0 0 hW.rd (World.ownsRow_nil _ _ _ _) hs3 h2 (by omega) (by rw [List.length_append, List.length_append]; omega)
          rw [Int.natCast_add] at this
          exact this
      have HC := hide hc5
      have HF := hide hf5
      have HB := hide hx5
      clear hc5 hf5 hx5
      go_wp2_with fail
      go_region_held3 (fun w' => w'.cell? ⟨Q, 1, none⟩ = some (.string X) ∧ w'.cell? ⟨Q, 2, none⟩ = some (.int .i64 a))
        (first
          | exact ⟨by assumption, by assumption⟩
          | (show _ ∧ _; exact ⟨((unhide HB).below (((Below.refl _ _).drew).trans hb6)).cell 1 rfl, ((unhide HB).below (((Below.refl _ _).drew).trans hb6)).cell 2 rfl⟩)
          | (show _ ∧ _; exact ⟨(hk7.blk ((unhide HB).below (((Below.refl _ _).drew).trans hb6)) (by omega) (by decide)).cell 1 rfl, (hk7.blk ((unhide HB).below (((Below.refl _ _).drew).trans hb6)) (by omega) (by decide)).cell 2 rfl⟩)
          | go_keep)
        (first
          | (go_at_call 33; refine (wsign_any _ _).mono ?_; rintro e w6 ⟨rfl, hb6⟩)
          | (go_at_call 32; have hcs := (unhide HC).step (((Below.refl _ _).drew).trans hb6); refine (unhide AddP _ hcs).mono ?_; rintro e w7 ⟨v7, rfl, hRd7, hO7, hs7⟩; have hk7 := Kept.add hcs.rd hO7 hs7; have hc7 := hide (hcs.add hRd7 hO7 hs7); clear hcs hO7 hRd7))
      have hf7 := hk7.blk ((unhide HF).below (((Below.refl _ _).drew).trans hb6)) (by omega) (by decide)
      have hc7' := unhide hc7
      clear HC HF HB hb6 hk7 hc7 AddP b1 b2
      have d0 := hf7.cell 0 rfl; have d1 := hf7.cell 1 rfl; have e0 := hf7.free 0; have e1 := hf7.free 1
      go_wp2_with fail
      refine bodyPost_ret (v := faultV 0 0) (by simp [faultV, results, Tryz.results23, go_sem, d0, d1]) rfl ?_
      have hc8 := hc7'.setF hf7 hCw hPw (by omega) (.int .i64 0) (.int .i64 0)
      rw [List.append_assoc, List.append_assoc] at hc8
      refine piece_ok hc8 ?_ (by rw [List.length_append, List.length_append, List.length_singleton]; omega) (Nat.le_refl _)
      rw [hPF.out, Lib.size_eq, ← List.append_assoc, List.map_append (l₁ := l0 ++ l3)]
      rfl

set_option maxHeartbeats 8000000 in
set_option maxRecDepth 100000 in
theorem piece_code (P C : Nat) (w0 w : World) (file X : ByteArray) (v : Value) (l : List TkV) (seen a k : Nat) (h : Rd P C w0 w file v l seen)
    (h1 : seen ≤ a) (h2 : a + X.size ≤ file.size) (hs : file.size ≤ 1073741820) (hl : l.length ≤ 1073741720) (hM : Met w0) (hC : C = w0.heap.size) (hk1 : k ≠ 1) (hk3 : k ≠ 3) :
    Calls Tryz.prog 23 #[.pointer (some ⟨P, 0, none⟩), .agg #[.int .i64 k, .string X, .int .i64 a]] w fun e w' => CodePost P C w0 w file l seen (a + X.size) (X.size + 2) (pieceT file.data.toList ⟨k, X.data.toList, a⟩) e w' := by
  have t1 : ((k : Int) == 1) = false := by rw [beq_eq_false_iff_ne]; omega
  have t3 : ((k : Int) == 3) = false := by rw [beq_eq_false_iff_ne]; omega
  obtain ⟨Q, hQ⟩ : ∃ Q, Q = w.heap.size := ⟨_, rfl⟩
  have hR0 := codeRel_start (k := k) (X := X) h h1 hC
  obtain ⟨W0, hW0⟩ : ∃ W0, W0 = (w.alloc (.cells #[.int .i64 k, .string X, .int .i64 a] 51)).alloc (.cells fltZ 27) := ⟨_, rfl⟩
  rw [← hW0, ← hQ] at hR0
  have hcore : Core P C w0 w W0 file v l seen := ⟨by have := hR0.rd; rwa [List.append_nil] at this, hR0.kept⟩
  have hbox := hR0.box
  have hflt := hR0.flt
  have hCQ : C ≤ Q := by rw [hQ]; exact h.toks.base
  have hwQ : w.heap.size ≤ Q := by omega
  have hPw : P < w.heap.size := h.rd.lt
  have hCw := h.toks.base
  have HW0 := Lib.hid hW0
  have HQ := Lib.hid hQ
  have hhp := hcore.rd.rd
  clear hR0 hW0 hQ
  have b0 := hbox.cell 0 rfl; have b1 := hbox.cell 1 rfl; have b2 := hbox.cell 2 rfl
  have d0 := hflt.cell 0 rfl; have d1 := hflt.cell 1 rfl; have e0 := hflt.free 0; have e1 := hflt.free 1
  obtain ⟨l0, hl0⟩ : ∃ l0 : List TkV, l0 = [] := ⟨_, rfl⟩
  have hcW : Hid (Core P C w0 w W0 file v (l ++ l0) seen) := by show Core _ _ _ _ _ _ _ _ _; rw [hl0, List.append_nil]; exact hcore
  have HBW := hide hbox
  have HFW := hide hflt
  have hl0l : l0.length ≤ 1 := by rw [hl0]; exact Nat.zero_le _
  have HPT : Hid (pieceT file.data.toList ⟨k, X.data.toList, a⟩ = match prep (l0.map (fun x => (x.1, x.2.1))) (codeT a X.data.toList) with
      | .error y => .error y
      | .ok m => .ok (m ++ if endedB file.data.toList X.data.toList a then [(signT [63, 62], a + X.data.toList.length)] else [])) := by
    show _ = _
    rw [pieceT, if_neg hk1, if_neg hk3, hl0]
    rfl
  obtain ⟨seen2, hse⟩ : ∃ s2, s2 = seen := ⟨_, rfl⟩
  rw [← hse] at hcW
  have hs2 : seen2 ≤ a := by omega
  obtain ⟨v2, hv2⟩ : ∃ v2, v2 = v := ⟨_, rfl⟩
  rw [← hv2] at hcW
  clear hl0 hk1 hk3 hse hv2 hcore hbox hflt d0 d1 e0 e1 hhp
  go_enter Tryz.func23, Tryz.ntmps23
  go_wp2_with fail
  rw [← HQ.out, ← HW0.out]
  have b0 := (unhide HBW).cell 0 rfl; have b1 := (unhide HBW).cell 1 rfl; have b2 := (unhide HBW).cell 2 rfl
  clear b0 b1 b2
  refine (code_any P C w0 W0 file X v2 (l ++ l0) seen2 a k (unhide hcW).rd hs2 h2 hs (by rw [List.length_append]; omega) hM hC).mono ?_
  rintro e w3 hp3
  have hcW' := unhide hcW
  cases hr : codeT a X.data.toList with
  | error x =>
    obtain ⟨y, z⟩ := x
    have hy := codeT_err _ _ _ hr
    rw [hr] at hp3
    obtain ⟨hK3, rfl, hb3, hs3⟩ := hp3
    have hf3 := hK3.blk (unhide HFW) (by omega) (by decide)
    have hKa := (hcW'.kept.trans hK3)
    have hPE : Hid (pieceT file.data.toList ⟨k, X.data.toList, a⟩ = .error (y, z)) := by show _ = _; rw [HPT.out, hr]; rfl
    dsimp only at hy
    have hy0 : ((y : Int) == 0) = false := by rw [beq_eq_false_iff_ne]; omega
    clear hr hcW hcW' HFW HBW hK3
    have d0 := hf3.cell 0 rfl; have d1 := hf3.cell 1 rfl; have e0 := hf3.free 0; have e1 := hf3.free 1
    have hl3 := hf3.lt
    unfold faultV
    dsimp only
    go_wp2_with fail
    refine bodyPost_ret (v := faultV y z) (by simp [faultV, results, Tryz.results23, go_sem, d0, d1, hl3]) rfl ?_
    exact piece_err (x := (y, z)) hKa hb3 hs3 hCw (by omega) hPE.out _ _ _
  | ok ts =>
    rw [hr] at hp3
    obtain ⟨hK3, rfl, v3, l3, seen3, hRd3, hmap, hlen3, hs3⟩ := hp3
    have hf3 := hK3.blk (unhide HFW) (by omega) (by decide)
    have hb3 := hK3.blk (unhide HBW) (by omega) (by decide)
    have hc3 : Core P C w0 w w3 file v3 (l ++ l0 ++ l3) seen3 := ⟨hRd3, hcW'.kept.trans hK3⟩
    have hPE : Hid (pieceT file.data.toList ⟨k, X.data.toList, a⟩ = .ok ((l0 ++ l3).map (fun x => (x.1, x.2.1)) ++ if endedB file.data.toList X.data.toList a then [(signT [63, 62], a + X.data.toList.length)] else [])) := by
      show _ = _
      rw [HPT.out, hr]
      simp only [prep]
      rw [List.map_append, ← hmap]
    rw [Nat.max_eq_right (Nat.le_trans hs2 (Nat.le_add_right _ _))] at hs3
    clear hcW hcW' HFW HBW hK3 hRd3 hr hmap HPT
    have hl3' := hf3.lt
    have hlP := hc3.rd.rd.lt
    have hlB := hb3.lt
    obtain ⟨w4, hw4⟩ : ∃ w4, w4 = w3.alloc (.cells fltZ 27) := ⟨_, rfl⟩
    have hbw : Below w3.heap.size w3 w4 := by rw [hw4]; exact (Below.refl _ _).alloc (Nat.le_refl _) _
    unfold faultV
    dsimp only
    go_wp2_with fail
    have HW4 := Lib.hid hw4
    clear hw4
    have hc4 := hc3.step hbw
    have hf4 := hf3.below hbw
    have hb4 := hb3.below hbw
    clear hc3 hf3 hb3 hbw
    have hrd := hc4.rd.rd
    have r0 := hrd.cell 0 rfl; have b0 := hb4.cell 0 rfl; have b1 := hb4.cell 1 rfl; have b2 := hb4.cell 2 rfl
    rw [← HW4.out]
    have HC := hide hc4
    have HF := hide hf4
    have HB := hide hb4
    clear hc4 hf4 hb4 hrd
    go_region_held3 (fun w' => w'.cell? ⟨P, 0, none⟩ = some (.string file) ∧ w'.cell? ⟨Q, 0, none⟩ = some (.int .i64 k) ∧ w'.cell? ⟨Q, 1, none⟩ = some (.string X) ∧ w'.cell? ⟨Q, 2, none⟩ = some (.int .i64 a))
      (first
        | exact ⟨by assumption, by assumption, by assumption, by assumption⟩
        | (show _ ∧ _ ∧ _ ∧ _; exact ⟨((unhide HC).step (((Below.refl _ _).drew).trans hb5)).rd.rd.cell 0 rfl, ((unhide HB).below (((Below.refl _ _).drew).trans hb5)).cell 0 rfl, ((unhide HB).below (((Below.refl _ _).drew).trans hb5)).cell 1 rfl, ((unhide HB).below (((Below.refl _ _).drew).trans hb5)).cell 2 rfl⟩)
        | go_keep)
      (first
        | (go_at_call 35; refine (Ended_any file X k a _ (by omega) (by omega)).mono ?_; rintro e w5 ⟨rfl, hb5⟩))
    have hc5 := (unhide HC).step (((Below.refl _ _).drew).trans hb5)
    have hf5 := (unhide HF).below (((Below.refl _ _).drew).trans hb5)
    have hx5 := (unhide HB).below (((Below.refl _ _).drew).trans hb5)
    clear HC HF HB hb5 r0 b0 b1 b2
    cases he : endedB file.data.toList X.data.toList a
    · have hPF : Hid (pieceT file.data.toList ⟨k, X.data.toList, a⟩ = .ok ((l0 ++ l3).map (fun x => (x.1, x.2.1)))) := by show _ = _; rw [hPE.out, he, if_neg (by simp), List.append_nil]
      clear he hPE
      have d0 := hf5.cell 0 rfl; have d1 := hf5.cell 1 rfl; have e0 := hf5.free 0; have e1 := hf5.free 1
      go_wp2_with fail
      refine bodyPost_ret (v := faultV 0 0) (by simp [faultV, results, Tryz.results23, go_sem, d0, d1]) rfl ?_
      have hc6 := hc5.setF hf5 hCw hPw (by omega) (.int .i64 0) (.int .i64 0)
      rw [List.append_assoc] at hc6
      exact piece_ok hc6 hPF.out (by rw [List.length_append]; omega) (by omega)
    · have hPF : Hid (pieceT file.data.toList ⟨k, X.data.toList, a⟩ = .ok ((l0 ++ l3).map (fun x => (x.1, x.2.1)) ++ [(signT [63, 62], a + X.data.toList.length)])) := by show _ = _; rw [hPE.out, he, if_pos rfl]
      clear he hPE
      have b1 := hx5.cell 1 rfl; have b2 := hx5.cell 2 rfl
      have s1 : IntKind.i64.wrap ((a : Int) + (X.size : Int)) = (a : Int) + (X.size : Int) := IntWalk.i64_in _ (by omega)
      have AddP : Hid (∀ W : World, Core P C w0 w W file v3 (l ++ l0 ++ l3) seen3 → Calls Tryz.prog 32 #[.pointer (some ⟨P, 0, none⟩), tokV (signT (ByteArray.mk #[63, 62]).data.toList) (.slice none 0 0) 0 0, .int .i64 ((a : Int) + (X.size : Int))] W fun e w' => AddPost P C w0 W file v3 (l ++ l0 ++ l3 ++ [(signT (ByteArray.mk #[63, 62]).data.toList, a + X.size, .slice none 0 0)]) (a + X.size) e w') :=
        fun W hW => by
          have := add_any P C w0 W file v3 (l ++ l0 ++ l3) seen3 (a + X.size) (signT (ByteArray.mk #[63, 62]).data.toList) (.slice none 0 0) 0 0 hW.rd (World.ownsRow_nil _ _ _ _) hs3 h2 (by omega) (by rw [List.length_append, List.length_append]; omega)
          rw [Int.natCast_add] at this
          exact this
      have HC := hide hc5
      have HF := hide hf5
      have HB := hide hx5
      clear hc5 hf5 hx5
      go_wp2_with fail
      go_region_held3 (fun w' => w'.cell? ⟨Q, 1, none⟩ = some (.string X) ∧ w'.cell? ⟨Q, 2, none⟩ = some (.int .i64 a))
        (first
          | exact ⟨by assumption, by assumption⟩
          | (show _ ∧ _; exact ⟨((unhide HB).below (((Below.refl _ _).drew).trans hb6)).cell 1 rfl, ((unhide HB).below (((Below.refl _ _).drew).trans hb6)).cell 2 rfl⟩)
          | (show _ ∧ _; exact ⟨(hk7.blk ((unhide HB).below (((Below.refl _ _).drew).trans hb6)) (by omega) (by decide)).cell 1 rfl, (hk7.blk ((unhide HB).below (((Below.refl _ _).drew).trans hb6)) (by omega) (by decide)).cell 2 rfl⟩)
          | go_keep)
        (first
          | (go_at_call 33; refine (wsign_any _ _).mono ?_; rintro e w6 ⟨rfl, hb6⟩)
          | (go_at_call 32; have hcs := (unhide HC).step (((Below.refl _ _).drew).trans hb6); refine (unhide AddP _ hcs).mono ?_; rintro e w7 ⟨v7, rfl, hRd7, hO7, hs7⟩; have hk7 := Kept.add hcs.rd hO7 hs7; have hc7 := hide (hcs.add hRd7 hO7 hs7); clear hcs hO7 hRd7))
      have hf7 := hk7.blk ((unhide HF).below (((Below.refl _ _).drew).trans hb6)) (by omega) (by decide)
      have hc7' := unhide hc7
      clear HC HF HB hb6 hk7 hc7 AddP b1 b2
      have d0 := hf7.cell 0 rfl; have d1 := hf7.cell 1 rfl; have e0 := hf7.free 0; have e1 := hf7.free 1
      go_wp2_with fail
      refine bodyPost_ret (v := faultV 0 0) (by simp [faultV, results, Tryz.results23, go_sem, d0, d1]) rfl ?_
      have hc8 := hc7'.setF hf7 hCw hPw (by omega) (.int .i64 0) (.int .i64 0)
      rw [List.append_assoc, List.append_assoc] at hc8
      refine piece_ok hc8 ?_ (by rw [List.length_append, List.length_append, List.length_singleton]; omega) (Nat.le_refl _)
      rw [hPF.out, Lib.size_eq, ← List.append_assoc, List.map_append (l₁ := l0 ++ l3)]
      rfl

set_option maxHeartbeats 8000000 in
set_option maxRecDepth 100000 in
theorem piece_any (P C : Nat) (w0 w : World) (file X : ByteArray) (v : Value) (l : List TkV) (seen a k : Nat) (h : Rd P C w0 w file v l seen)
    (h1 : seen ≤ a) (h2 : a + X.size ≤ file.size) (hs : file.size ≤ 1073741820) (hl : l.length ≤ 1073741720) (hM : Met w0) (hC : C = w0.heap.size) :
    Calls Tryz.prog 23 #[.pointer (some ⟨P, 0, none⟩), .agg #[.int .i64 k, .string X, .int .i64 a]] w fun e w' => CodePost P C w0 w file l seen (a + X.size) (X.size + 2) (pieceT file.data.toList ⟨k, X.data.toList, a⟩) e w' := by
  by_cases hk1 : k = 1
  · exact piece_html P C w0 w file X v l seen a k h h1 h2 hs hl hM hC hk1
  · by_cases hk3 : k = 3
    · exact piece_echo P C w0 w file X v l seen a k h h1 h2 hs hl hM hC hk3
    · exact piece_code P C w0 w file X v l seen a k h h1 h2 hs hl hM hC hk1 hk3
end Go.Proofs.YtjcldgogjgchiaaGreatDoor
