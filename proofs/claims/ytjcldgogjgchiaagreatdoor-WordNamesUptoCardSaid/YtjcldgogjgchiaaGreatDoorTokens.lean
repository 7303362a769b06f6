/-
  The contract of package word's Tokens.
-/
import Derived.Test.YtjcldgogjgchiaaGreatDoorPiece
import Derived.Test.YtjcldgogjgchiaaGreatDoorWithinP
namespace Go.Proofs.YtjcldgogjgchiaaGreatDoor
open Go Go.RowKit Cutting Wording

/-- A file's tokens, piece by piece. -/
def piecesT (f : L) : List Pc → R (List (Tk × Nat))
  | [] => .ok []
  | p :: ps => match pieceT f p with
    | .error y => .error y
    | .ok m => prep m (piecesT f ps)
def fileT (f : L) : R (List (Tk × Nat)) := piecesT f (pieces f)
def TokensPost (file : ByteArray) (w : World) (e : Ending) (w' : World) : Prop := Below w.heap.size w w' ∧ match fileT file.data.toList with
  | .error x => e = .returned (.tuple #[.slice none 0 0, faultV x.1 x.2])
  | .ok ts => ∃ v l, e = .returned (.tuple #[v, faultV 0 0]) ∧ Toks w.heap.size w w' file.data.toList v l ∧ l.map (fun x => (x.1, x.2.1)) = ts ∧ l.length ≤ 3 * file.size + 2

theorem Kept.own {P B : Nat} {w w' : World} {e : TypeId} {size n : Nat} {v : Value} {xs : List Value} (h : Kept P w w') (ho : w.ownsRow B e size v n xs) (he : e ≠ 32) (hv : v.ownBlock ≠ some P) : w'.ownsRow B e size v n xs := by
  refine ⟨ho.1, ?_⟩
  rcases ho.2 with h0 | ⟨g, cap, cur, h1, h2, h3, h4⟩
  · exact .inl h0
  · refine .inr ⟨g, cap, cur, h1, h2, h.2 g cur e _ (fun e => hv (by rw [h1, e]; rfl)) he h3, h4⟩
/-- How things stand between two pieces. -/
structure TokRel (P C : Nat) (w W2 wr : World) (file : ByteArray) (l : List Pc) (i : Nat) (v : Value) (lt : List TkV) (seen en : Nat) (hb : Bool) : Prop where
  core : Core P C w W2 wr file v lt seen
  le : i ≤ l.length
  code : piecesT file.data.toList l = prep (lt.map (fun x => (x.1, x.2.1))) (piecesT file.data.toList (l.drop i))
  within : Within file.data.toList en hb (l.drop i)
  seen_ : seen ≤ en
  en_ : en ≤ file.size
  len : lt.length ≤ en + 2 * i
theorem pieceT_err (f : L) (p : Pc) (x : Nat × Nat) (h : pieceT f p = .error x) : x.1 ≠ 0 := by
  unfold pieceT at h
  split at h
  · cases h
  · cases hc : codeT p.at_ p.text with
    | error y => rw [hc] at h; simp only [prep] at h; injection h with h; subst h; exact codeT_err _ _ _ hc
    | ok y => rw [hc] at h; simp only [prep] at h; cases h
theorem pieces_err {f : L} {l : List Pc} {i : Nat} {m : List (Tk × Nat)} {x : Nat × Nat} (hi : i < l.length) (h : piecesT f l = prep m (piecesT f (l.drop i))) (hp : pieceT f l[i] = .error x) : piecesT f l = .error x := by
  rw [h, List.drop_eq_getElem_cons hi]
  simp [piecesT, hp, prep]
theorem prep_prep (a b : List (Tk × Nat)) (r : R (List (Tk × Nat))) : prep a (prep b r) = prep (a ++ b) r := by cases r <;> simp [prep]
theorem pieces_ok {f : L} {l : List Pc} {i : Nat} {m m2 : List (Tk × Nat)} (hi : i < l.length) (h : piecesT f l = prep m (piecesT f (l.drop i))) (hp : pieceT f l[i] = .ok m2) : piecesT f l = prep (m ++ m2) (piecesT f (l.drop (i + 1))) := by
  rw [h, List.drop_eq_getElem_cons hi, ← prep_prep]
  simp [piecesT, hp]

theorem tokens_bad {file : ByteArray} {w w' : World} {y z : Nat} (h : fileT file.data.toList = .error (y, z)) (hb : Below w.heap.size w w') : TokensPost file w (.returned (.tuple #[.slice none 0 0, faultV y z])) w' := by
  refine ⟨hb, ?_⟩
  rw [h]

theorem tokens_ok {file : ByteArray} {w w' : World} {v : Value} {l : List TkV} (h : fileT file.data.toList = .ok (l.map (fun x => (x.1, x.2.1)))) (ht : Toks w.heap.size w w' file.data.toList v l) (hn : l.length ≤ 3 * file.size + 2) : TokensPost file w (.returned (.tuple #[v, faultV 0 0])) w' := by
  refine ⟨ht.below, ?_⟩
  rw [h]
  exact ⟨v, l, rfl, ht, rfl, hn⟩

set_option maxHeartbeats 8000000 in
set_option maxRecDepth 100000 in
theorem Tokens_any (file : ByteArray) (w : World) (hs : file.size ≤ 65536) (hM : Met w) :
    Calls Tryz.prog 12 #[.string file] w (TokensPost file w) := by
  go_enter Tryz.func12, Tryz.ntmps12
  go_wp2_with fail
  obtain ⟨F, hF⟩ : ∃ F, F = w.heap.size := ⟨_, rfl⟩
  obtain ⟨W0, hW0⟩ : ∃ W0, W0 = w.alloc (.cells fltZ 27) := ⟨_, rfl⟩
  have hfl : Blk F W0 fltZ 27 := by rw [hF, hW0]; exact Blk.new w _ _
  have hb0 : Below w.heap.size w W0 := by rw [hW0]; exact (Below.refl _ _).alloc (Nat.le_refl _) _
  have hsz0 : W0.heap.size = F + 1 := by rw [hW0, hF]; simp
  have hM0 : Met W0 := hM.below hb0 hM.lt
  rw [← hW0, ← hF]
  have HF := Lib.hid hF
  clear hW0 hF
  refine (Cut_any file _ hs hM0.hm hM0.hF).mono ?_
  rintro e w1 ⟨pv, rfl, hst⟩
  obtain ⟨l, hl⟩ : ∃ l, l = pieces file.data.toList := ⟨_, rfl⟩
  rw [← hl] at hst
  have HLL := Lib.hid hl
  clear hl
  obtain ⟨A, cap, rfl⟩ := own_form hst.own
  go_wp2_with fail
  have hll : l.length ≤ file.size := by
    have h1 := piecesN_length _ 0 file.data.toList (Nat.le_refl _)
    rw [← pieces_eq, ← HLL.out, ← Lib.size_eq] at h1
    exact h1
  have hin := within_all file.data.toList
  rw [← HLL.out] at hin
  obtain ⟨P, hP⟩ : ∃ P, P = w1.heap.size := ⟨_, rfl⟩
  obtain ⟨W2, hW2⟩ : ∃ W2, W2 = w1.alloc (.cells #[.string file, .slice none 0 0, .int .i64 0, .int .i64 1] 49) := ⟨_, rfl⟩
  have hb1 : Below w.heap.size w w1 := hb0.trans (hst.below.mono hb0.size)
  have hb2 : Below w.heap.size w W2 := by rw [hW2]; exact hb1.alloc hb1.size _
  have hrd : Rd P w.heap.size w W2 file (.slice none 0 0) [] 0 := by
    refine ⟨by rw [hP, hW2]; exact Blk.new w1 _ _, ⟨World.ownsRow_nil _ _ _ _, fun x hx => (by cases hx), hb2, hb2.size⟩, by rw [hP]; exact hb1.size⟩
  have hb12 : Below w1.heap.size w1 W2 := by rw [hW2]; exact (Below.refl _ _).alloc (Nat.le_refl _) _
  have hst2 := hst.step hb12
  have hfl2 := (hfl.below (by rw [hsz0]; exact (by have := hst.below; rw [hsz0] at this; exact this))).below hb12
  have hAP : (Value.slice A l.length cap).ownBlock ≠ some P := fun e => by have := (hst.own.lt _ e).2; omega
  have hcore : Core P w.heap.size w W2 W2 file (.slice none 0 0) [] 0 := ⟨hrd, .refl _ _⟩
  have hFP : F < P := by have := hst.below.size; omega
  have hPW : P < W2.heap.size := hrd.rd.lt
  have hCW := hb2.size
  have hown := hst2.own
  have hbB := hst2.base
  rw [← hP, ← hW2]
  have HP := Lib.hid hP
  have HW2 := Lib.hid hW2
  have HIN := Lib.hid hin
  have HOW := hide hown
  have HFL := hide hfl2
  clear hP hW2 hin hown hfl2 hst2 hst hb1 hb2 hb12 hfl
  go_loopw [23] (fun i wr => ∃ (k : Nat) (v : Value) (lt : List TkV) (seen en : Nat) (hb : Bool), i = .int .i64 k ∧ Hid (TokRel P w.heap.size w W2 wr file l k v lt seen en hb)) (fun i _ => l.length - (intOf i).toNat)
  case atStart =>
    refine ⟨0, .slice none 0 0, [], 0, 0, false, rfl, ?_⟩
    exact hide ⟨hcore, Nat.zero_le _, by rw [List.map_nil, prep_nil, List.drop_zero], HIN.out, Nat.le_refl _, Nat.zero_le _, Nat.zero_le _⟩
  case round =>
    obtain ⟨k, v, lt, seen, en, hb, rfl, hrel⟩ := hrel
    by_cases hlt : k < l.length
    · have hr := hrel.out
      have hownk := hr.core.kept.own (unhide HOW) (by decide) hAP
      obtain ⟨g, cap2, hv2, hcap⟩ := (St.mk (w := wr) hownk (Below.refl _ _) (Nat.le_trans hbB hr.core.kept.1)).form (by omega)
      have hc := (St.mk (w := wr) hownk (Below.refl _ _) (Nat.le_trans hbB hr.core.kept.1)).cells hv2 k hlt
      obtain ⟨x1, x2, x3, x4, x5⟩ := hr.within.at_ hlt
      have hA : A = some ⟨g, 0, none⟩ ∧ cap = cap2 := by
        injection hv2 with h1 h2 h3
        exact ⟨h1, h3⟩
      obtain ⟨rfl, rfl⟩ := hA
      obtain ⟨K, hK⟩ : ∃ K, K = l[k].kind := ⟨_, rfl⟩
      obtain ⟨a, ha⟩ : ∃ X, X = l[k].at_ := ⟨_, rfl⟩
      obtain ⟨X, hX⟩ := bytes_of l[k].text
      have hXl : X.size = l[k].text.length := by rw [Lib.size_eq, hX]
      have hXe : (⟨l[k].text.toArray⟩ : ByteArray) = X := by rw [← hX, Lib.mk_data]
      have hpc : Hid (l[k] = ⟨K, X.data.toList, a⟩) := by show _ = _; rw [hK, ha, hX]
      rw [hXe, ← hK, ← ha] at hc
      rw [← ha] at x1
      rw [← ha, ← hXl, ← Lib.size_eq] at x2
      rw [← ha, ← hXl, ← hK] at x5
      obtain ⟨c0, c1, c2⟩ := hc
      have X5 := Lib.hid x5
      have hlen := hr.len; have hsee := hr.seen_
      have hgl := World.block_lt_of_cell? wr _ c0
      have hMr := hM
      clear hr hK ha hX hXl hXe x3 x4 x5 hownk hv2
      go_wp2_with fail
      have hr := hrel.out
      have hb3 : Below wr.heap.size wr (wr.alloc (.cells #[.int .i64 K, .string X, .int .i64 a] 51)) := (Below.refl _ _).alloc (Nat.le_refl _) _
      have hc3 := hr.core.step hb3
      refine (piece_any P w.heap.size w _ file X v lt seen a K hc3.rd (by omega) x2 (by omega) (by omega) hM rfl).mono ?_
      rintro e w4 ⟨hK4, hp4⟩
      have hK4' := hc3.kept.trans hK4
      have hf4 := hK4'.blk (unhide HFL) (by omega) (by decide)
      clear hb3 hc3 hr c0 c1 c2 hgl
      have d0 := hf4.cell 0 rfl; have d1 := hf4.cell 1 rfl; have e0 := hf4.free 0; have e1 := hf4.free 1
      have hfl4 := hf4.lt
      cases hpt : pieceT file.data.toList ⟨K, X.data.toList, a⟩ with
      | error x =>
        obtain ⟨y, z⟩ := x
        have hy := pieceT_err _ _ _ hpt
        rw [hpt] at hp4
        obtain ⟨rfl, hb4, hs4⟩ := hp4
        dsimp only at hy
        have hy0 : ((y : Int) == 0) = false := by rw [beq_eq_false_iff_ne]; omega
        have hfin : Hid (fileT file.data.toList = .error (y, z)) := by
          show _ = _
          rw [fileT, ← HLL.out]
          exact pieces_err hlt hrel.out.code (by rw [hpc.out]; exact hpt)
        clear hpt
        unfold faultV
        dsimp only
        go_wp2_with fail
        obtain ⟨w5, hw5⟩ : ∃ w5, w5 = w4.alloc (.cells #[.int .i64 y, .int .i64 z] 27) := ⟨_, rfl⟩
        obtain ⟨R9, hR9⟩ : ∃ R9, R9 = w4.heap.size := ⟨_, rfl⟩
        have hf5 : Blk F w5 fltZ 27 := by rw [hw5]; exact hf4.alloc _
        have hg5 : Blk R9 w5 #[.int .i64 y, .int .i64 z] 27 := by rw [hw5, hR9]; exact Blk.new w4 _ _
        have hb5 : Below w.heap.size w w5 := by rw [hw5]; exact hb4.alloc hs4 _
        rw [← hw5, ← hR9]
        clear hw5 hR9 d0 d1 e0 e1 hf4 hb4 hfl4 hK4 hK4' hs4
        have g0 := hg5.cell 0 rfl; have g1 := hg5.cell 1 rfl
        refine wp_region_still_tail 2 (by kernel_rfl) (by kernel_rfl) ?_
        simp only [List.take_succ_cons, List.take_zero, List.drop_succ_cons, List.drop_zero]
        repeat still_step
        refine wpStill_nil ?_
        change wpList _ _ _ _ _ w5.drew
        have hf6 := hf5.drew_
        have hb6 := hb5.drew
        generalize w5.drew = w6 at hf6 hb6 ⊢
        clear hf5 hg5 hb5 g0 g1
        have d0 := hf6.cell 0 rfl; have d1 := hf6.cell 1 rfl; have e0 := hf6.free 0; have e1 := hf6.free 1
        go_wp2_with fail
        refine bodyPost_ret (v := .tuple #[.slice none 0 0, faultV y z]) (by simp [faultV, results, Tryz.results12, go_sem, d0, d1]) rfl ?_
        refine tokens_bad hfin.out ((hb6.setCell (by show _ ≤ F; rw [HF.out]; exact Nat.le_refl _) _).setCell (by show _ ≤ F; rw [HF.out]; exact Nat.le_refl _) _)
      | ok ts =>
        rw [hpt] at hp4
        obtain ⟨rfl, v4, l2, seen4, hRd4, hmap, hlen4, hs4⟩ := hp4
        have hrel4 : Hid (TokRel P w.heap.size w W2 (w4.alloc (.cells fltZ 27)) file l (k + 1) v4 (lt ++ l2) seen4 (a + X.size) (K == 1)) := by
          have hr := hrel.out
          refine ⟨(Core.mk hRd4 hK4').step ((Below.refl _ _).alloc (Nat.le_refl _) _), by omega, ?_, X5.out, by omega, x2, by rw [List.length_append]; omega⟩
          rw [List.map_append, hmap]
          exact pieces_ok hlt hr.code (by rw [hpc.out]; exact hpt)
        clear hpt hRd4 hmap hK4 hK4' hs4
        unfold faultV
        dsimp only
        go_wp2_with fail
        exact ⟨⟨k + 1, _, _, _, _, _, rfl, hrel4⟩, by simp [intOf]; omega⟩
    · have hr := hrel.out
      have hkl : k = l.length := by have := hr.le; omega
      have hfin : Hid (fileT file.data.toList = .ok (lt.map (fun x => (x.1, x.2.1)))) := by
        show _ = _
        rw [fileT, ← HLL.out, hr.code, List.drop_eq_nil_of_le (by omega)]
        simp [piecesT, prep]
      have hlen : lt.length ≤ 3 * file.size + 2 := by have h1 := hr.len; have h2 := hr.en_; omega
      have hf4 := hr.core.kept.blk (unhide HFL) (by omega) (by decide)
      have hrd4 := hr.core.rd.rd
      have r1 := hrd4.cell 1 rfl
      have htk := hide hr.core.rd.toks
      have d0 := hf4.cell 0 rfl; have d1 := hf4.cell 1 rfl; have e0 := hf4.free 0; have e1 := hf4.free 1
      have hFS : ∀ x ∈ lt, x.2.2.ownBlock ≠ some F := fun x hx => own_type (hr.core.rd.toks.prt x hx) hf4 (by decide)
      have hFV : v.ownBlock ≠ some F := own_type hr.core.rd.toks.own hf4 (by decide)
      clear hr
      go_wp2_with fail
      have ht2 := ((unhide htk).setCell (by rw [HF.out]; exact Nat.le_refl _) hFV hFS 0 (.int .i64 0)).setCell (by rw [HF.out]; exact Nat.le_refl _) hFV hFS 1 (.int .i64 0)
      refine bodyPost_ret (v := .tuple #[v, faultV 0 0]) (by simp [faultV, results, Tryz.results12, go_sem, d0, d1]) rfl ?_
      exact tokens_ok hfin.out ht2 hlen

set_option maxHeartbeats 2000000 in
set_option maxRecDepth 100000 in
theorem Tokens_long (file : ByteArray) (w : World) (hs : 65536 < file.size) :
    Calls Tryz.prog 12 #[.string file] w fun e w' => e = .returned (.tuple #[.slice none 0 0, faultV 2 0]) ∧ Below w.heap.size w w' := by
  go_enter Tryz.func12, Tryz.ntmps12
  go_wp2_with fail
  obtain ⟨F, hF⟩ : ∃ F, F = w.heap.size := ⟨_, rfl⟩
  obtain ⟨W0, hW0⟩ : ∃ W0, W0 = w.alloc (.cells fltZ 27) := ⟨_, rfl⟩
  have hfl : Blk F W0 fltZ 27 := by rw [hF, hW0]; exact Blk.new w _ _
  have hb0 : Below w.heap.size w W0 := by rw [hW0]; exact (Below.refl _ _).alloc (Nat.le_refl _) _
  rw [← hW0, ← hF]
  have HF := Lib.hid hF
  clear hW0 hF
  refine (Cut_long file _ hs).mono ?_
  rintro e w1 ⟨rfl, rfl⟩
  have d0 := hfl.cell 0 rfl; have d1 := hfl.cell 1 rfl; have e0 := hfl.free 0; have e1 := hfl.free 1
  go_wp2_with fail
  refine bodyPost_ret (v := .tuple #[.slice none 0 0, faultV 2 0]) (by simp [faultV, results, Tryz.results12, go_sem, d0, d1]) rfl ?_
  exact ⟨rfl, (hb0.setCell (by show _ ≤ F; rw [HF.out]; exact Nat.le_refl _) _).setCell (by show _ ≤ F; rw [HF.out]; exact Nat.le_refl _) _⟩
end Go.Proofs.YtjcldgogjgchiaaGreatDoor
