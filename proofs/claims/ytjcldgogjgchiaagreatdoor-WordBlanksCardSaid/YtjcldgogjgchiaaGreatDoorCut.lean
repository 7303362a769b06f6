/-
  The contract of package cut's Cut: the pieces of a file, in memory that the call made.
-/
import Derived.Test.YtjcldgogjgchiaaGreatDoorOpen
import Derived.Test.YtjcldgogjgchiaaGreatDoorPieces
import Derived.Deep.AppendLies
import Derived.Deep.RegionHeld3
import Derived.OwnWalk
namespace Go.Proofs.YtjcldgogjgchiaaGreatDoor
open Go Go.RowKit Cutting

def encPc (p : Pc) : List Value := [.int .i64 p.kind, .string ⟨p.text.toArray⟩, .int .i64 p.at_]
def encPcs (l : List Pc) : List Value := l.flatMap encPc
theorem encPcs_length (l : List Pc) : (encPcs l).length = l.length * 3 := by
  induction l with
  | nil => rfl
  | cons p l ih => simp only [encPcs, List.flatMap_cons, List.length_append, List.length_cons] at ih ⊢; rw [ih]; simp [encPc]; omega
theorem encPcs_snoc (l : List Pc) (p : Pc) : encPcs (l ++ [p]) = encPcs l ++ encPc p := by simp [encPcs]
theorem encPcs_append (l m : List Pc) : encPcs (l ++ m) = encPcs l ++ encPcs m := by simp [encPcs]

theorem pieceInfo : (Tryz.prog.info? 51).map (fun i => (i.zero, i.size, i.bytes)) = some (some (.agg #[.int .i64 0, .string ⟨#[]⟩, .int .i64 0]), 3, 32) := by kernel_rfl

/-- Where the pieces so far stand, in the round's world. -/
structure St (B : Nat) (w wr : World) (v : Value) (l : List Pc) : Prop where
  own : wr.ownsRow B 51 3 v l.length (encPcs l)
  below : Below B w wr
  base : B ≤ wr.heap.size

theorem only_of_below {a w : World} (h : Below a.heap.size a w) (row : Option Nat) : a.grownBy w row := ⟨h.os, h.tape, h.output, h.size, fun i hi _ => h.block i hi⟩
theorem ownsRow_below {w w' : World} {B : Nat} {e : TypeId} {size : Nat} {v : Value} {n : Nat} {xs : List Value} (h : w.ownsRow B e size v n xs) (hb : Below w.heap.size w w') : w'.ownsRow B e size v n xs :=
  h.kept (only_of_below hb none) (by
    cases e : v.ownBlock with
    | none => exact .inl rfl
    | some g => exact .inr (by simp))
theorem St.step {B : Nat} {w wr w' : World} {v : Value} {l : List Pc} (h : St B w wr v l) (hb : Below wr.heap.size wr w') : St B w w' v l :=
  ⟨ownsRow_below h.own hb, h.below.trans (hb.mono h.base), Nat.le_trans h.base hb.size⟩
theorem St.alloc {B : Nat} {w wr : World} {v : Value} {l : List Pc} (h : St B w wr v l) (o : Obj) : St B w (wr.alloc o) v l := h.step ((Below.refl _ _).alloc (Nat.le_refl _) _)
theorem St.grown {B : Nat} {w wr w' : World} {v v' : Value} {l : List Pc} {p : Pc} (h : St B w wr v l) (hown : w'.ownsRow B 51 3 v' (l.length + 1) (encPcs l ++ encPc p)) (hg : wr.grownBy w' v.ownBlock) : St B w w' v' (l ++ [p]) :=
  ⟨by rw [List.length_append, encPcs_snoc]; exact hown, h.below.grown hg h.base (fun k hk => (h.own.lt k hk).1), Nat.le_trans h.base hg.size⟩

theorem St.drew_ {B : Nat} {w wr : World} {v : Value} {l : List Pc} (h : St B w wr v l) : St B w wr.drew v l := ⟨h.own.drew, h.below.drew, h.base⟩
/-- An opening in its three cells. -/
structure O3 (P : Nat) (w : World) (a b c : Int) : Prop where
  blk : w.heap[P]? = some (.cells #[.int .i64 a, .int .i64 b, .int .i64 c] 59 (0, 0))
theorem O3.lt {P : Nat} {w : World} {a b c : Int} (h : O3 P w a b c) : P < w.heap.size := by
  rcases Nat.lt_or_ge P w.heap.size with hlt | hge
  · exact hlt
  · have := h.blk; rw [Array.getElem?_eq_none hge] at this; cases this
theorem O3.c0 {P : Nat} {w : World} {a b c : Int} (h : O3 P w a b c) : w.cell? ⟨P, 0, none⟩ = some (.int .i64 a) := cell_of_row w P 0 _ _ _ h.blk
theorem O3.c1 {P : Nat} {w : World} {a b c : Int} (h : O3 P w a b c) : w.cell? ⟨P, 1, none⟩ = some (.int .i64 b) := cell_of_row w P 1 _ _ _ h.blk
theorem O3.c2 {P : Nat} {w : World} {a b c : Int} (h : O3 P w a b c) : w.cell? ⟨P, 2, none⟩ = some (.int .i64 c) := cell_of_row w P 2 _ _ _ h.blk
theorem O3.new (w : World) (a b c : Int) : O3 w.heap.size (w.alloc (.cells #[.int .i64 a, .int .i64 b, .int .i64 c] 59)) a b c := ⟨heap_alloc_new w _⟩
theorem O3.below {P : Nat} {w w' : World} {a b c : Int} (h : O3 P w a b c) (hb : Below w.heap.size w w') : O3 P w' a b c := ⟨(hb.block P h.lt).trans h.blk⟩
theorem O3.alloc {P : Nat} {w : World} {a b c : Int} (h : O3 P w a b c) (o : Obj) : O3 P (w.alloc o) a b c := h.below ((Below.refl _ _).alloc (Nat.le_refl _) _)
theorem O3.grown {P : Nat} {w w' : World} {a b c : Int} {row : Option Nat} (h : O3 P w a b c) (hg : w.grownBy w' row) (hne : some P ≠ row) : O3 P w' a b c := ⟨(hg.block P h.lt hne).trans h.blk⟩
theorem pcs_room {s : ByteArray} {l m : List Pc} (h : pieces s.data.toList = l ++ m) : l.length ≤ s.size := by
  have h1 := piecesN_length _ 0 s.data.toList (Nat.le_refl _)
  rw [← pieces_eq, h, List.length_append, ← Lib.size_eq] at h1
  omega
theorem three_cells (w : World) (a b c : Value) (t : TypeId) (H : Nat) (hH : w.heap.size = H) : ∀ (j : Nat) (u : Value), [a, b, c][j]? = some u → (w.alloc (.cells #[a, b, c] t)).cell? ((⟨H, 0, none⟩ : Addr).add j) = some u := by
  intro j u h
  subst hH
  have hj : (⟨w.heap.size, 0, none⟩ : Addr).add j = ⟨w.heap.size, j, none⟩ := by unfold Addr.add; split <;> simp_all
  rw [hj]
  match j, h with
  | 0, h => simp at h; subst h; simp [go_sem]
  | 1, h => simp at h; subst h; simp [go_sem]
  | 2, h => simp at h; subst h; simp [go_sem]

/-- One round of Cut, told plainly. -/
theorem cut_html (s : ByteArray) (k M : Nat) (hM : M = k + (openN (s.data.toList.drop k)).mark) : htmlN k (s.data.toList.drop k) = if k < M then [⟨1, (s.data.toList.drop k).take (M - k), k⟩] else [] := by
  unfold htmlN
  by_cases h : 0 < (openN (s.data.toList.drop k)).mark
  · rw [if_pos h, if_pos (by omega), show M - k = (openN (s.data.toList.drop k)).mark from by omega]
  · rw [if_neg h, if_neg (by omega)]
theorem cut_step (s : ByteArray) (k Ok M C E n : Nat) (l : List Pc) (hk : k < s.size) (hO : Ok = (openN (s.data.toList.drop k)).kind) (hM : M = k + (openN (s.data.toList.drop k)).mark) (hC : C = k + (openN (s.data.toList.drop k)).code)
    (h0 : Ok ≠ 0) (hE : E = C + codeN (s.data.toList.drop C)) (hn : n = closeN (s.data.toList.drop E)) (h : pieces s.data.toList = l ++ piecesN k (s.data.toList.drop k)) :
    pieces s.data.toList = (l ++ (if k < M then [⟨1, (s.data.toList.drop k).take (M - k), k⟩] else [])) ++ [⟨Ok, (s.data.toList.drop C).take (E - C), C⟩] ++ piecesN (E + n) (s.data.toList.drop (E + n)) := by
  have hne : s.data.toList.drop k ≠ [] := by rw [drop_at s k hk]; simp
  rw [h, piecesN_eq _ _ hne, ← hO, if_neg h0, cut_html s k M hM]
  have e1 : (s.data.toList.drop k).drop (openN (s.data.toList.drop k)).code = s.data.toList.drop C := by rw [List.drop_drop, hC]
  have e2 : codePc k (s.data.toList.drop k) = ⟨Ok, (s.data.toList.drop C).take (E - C), C⟩ := by
    unfold codePc
    rw [e1, ← hO, ← hC, show E - C = codeN (s.data.toList.drop C) from by omega]
  have e3 : k + nextN (s.data.toList.drop k) = E + n := by
    unfold nextN
    rw [e1, List.drop_drop, show k + ((openN (s.data.toList.drop k)).code + codeN (s.data.toList.drop C)) = E from by omega, ← hn]
    omega
  rw [e2, List.drop_drop, e3]
  simp [List.append_assoc]
theorem cut_last (s : ByteArray) (k M : Nat) (l : List Pc) (hk : k < s.size) (hM : M = k + (openN (s.data.toList.drop k)).mark) (h0 : (openN (s.data.toList.drop k)).kind = 0) (h : pieces s.data.toList = l ++ piecesN k (s.data.toList.drop k)) :
    pieces s.data.toList = l ++ (if k < M then [⟨1, (s.data.toList.drop k).take (M - k), k⟩] else []) := by
  have hne : s.data.toList.drop k ≠ [] := by rw [drop_at s k hk]; simp
  rw [h, piecesN_eq _ _ hne, if_pos h0, cut_html s k M hM, List.append_nil]
theorem encPc_code (s : ByteArray) (K a b : Nat) : encPc ⟨K, (s.data.toList.drop a).take (b - a), a⟩ = [.int .i64 K, .string (s.extract a b), .int .i64 a] := by
  rw [encPc, Lib.extract_eq]
theorem own_ne {B : Nat} {w w' : World} {v : Value} {l : List Pc} (h : St B w w' v l) {P : Nat} (hP : w'.heap.size ≤ P) : v.ownBlock ≠ some P := fun e => by
  have := (h.own.lt P e).2
  omega

theorem own_ne' {B P : Nat} {w : World} {v : Value} {n : Nat} {xs : List Value} {t : TypeId} (h : w.ownsRow B t 3 v n xs) {cs : Array Value} {t' : TypeId} (hP : w.heap[P]? = some (.cells cs t' (0, 0))) (hne : t ≠ t') : v.ownBlock ≠ some P := by
  rcases h.2 with ⟨rfl, _⟩ | ⟨g', cap, cur, rfl, _, hh, _⟩
  · simp [Value.ownBlock]
  · intro he
    have hg : g' = P := by simpa [Value.ownBlock] using he
    subst hg
    rw [hP] at hh
    injection hh with hh
    injection hh with _ ht
    exact hne ht.symm
set_option maxHeartbeats 8000000 in
theorem Cut_any (s : ByteArray) (w : World) (hs : s.size ≤ 65536) (hm : HasMax w) (hF : FoldTab w) :
    Calls Tryz.prog 22 #[.string s] w fun e w' => ∃ v, e = .returned (.tuple #[v, .int .i64 0]) ∧ St w.heap.size w w' v (pieces s.data.toList) := by
  obtain ⟨i0, hi, hz0, hz1, hz2⟩ := info_parts pieceInfo
  have hB1 := hF.lt
  have hbig : decide ((65536 : Int) < (s.size : Int)) = false := by simpa using (by omega : (s.size : Int) ≤ 65536)
  go_enter Tryz.func22, Tryz.ntmps22
  go_wp2_with fail
  obtain ⟨B, hB⟩ : ∃ B, B = w.heap.size := ⟨_, rfl⟩
  have HB := Lib.hid hB
  rw [← hB] at hB1
  clear hB
  go_loopw [4, 5] (fun v i wr => ∃ (k : Nat) (l : List Pc), i = .int .i64 k ∧ k ≤ s.size ∧ Hid (pieces s.data.toList = l ++ piecesN k (s.data.toList.drop k)) ∧ St B w wr v l) (fun _ i _ => s.size - (intOf i).toNat)
  case atStart => exact ⟨0, [], rfl, Nat.zero_le _, rfl, ⟨World.ownsRow_nil _ _ _ _, Below.refl _ _, by rw [HB.out]; exact Nat.le_refl _⟩⟩
  case round =>
    obtain ⟨k, l, rfl, hk, hrel, hst⟩ := hrel
    have hmr := hm.below hst.below (by omega)
    have hFr := hF.below hst.below hB1
    by_cases hlt : k < s.size
    · obtain ⟨O, hO⟩ : ∃ O, O = openN (s.data.toList.drop k) := ⟨_, rfl⟩
      have hOle := openN_le (s.data.toList.drop k)
      rw [← hO, List.length_drop, ← Lib.size_eq] at hOle
      have HO := Lib.hid hO
      clear hO
      obtain ⟨Ok, Om, Oc⟩ := O
      dsimp only at hOle
      obtain ⟨hO1, hO2, hO3⟩ := hOle
      have HOk : Hid (Ok = (openN (s.data.toList.drop k)).kind) := by show _ = _; rw [← HO.out]
      have HOm : Hid (k + Om = k + (openN (s.data.toList.drop k)).mark) := by show _ = _; rw [← HO.out]
      have HOc : Hid (k + Oc = k + (openN (s.data.toList.drop k)).code) := by show _ = _; rw [← HO.out]
      go_wp2_with fail
      refine (nextOpening_any s k _ hk (by omega) hFr).mono ?_
      rintro e w1 ⟨rfl, hb1⟩
      have hst1 := hst.step hb1
      rw [← HO.out]
      unfold openVal
      dsimp only
      clear HO hst hb1
      obtain ⟨M, hM⟩ : ∃ M, M = k + Om := ⟨_, rfl⟩
      obtain ⟨C, hC⟩ : ∃ C, C = k + Oc := ⟨_, rfl⟩
      rw [← hM] at HOm
      rw [← hC] at HOc
      rw [← hM, ← hC]
      have hMs : M ≤ s.size := by omega
      have hkM : k ≤ M := by omega
      have hCs : Ok ≠ 0 → C ≤ s.size ∧ M + 3 ≤ C := by omega
      have hM0 : Ok = 0 → M = s.size := by omega
      clear hM hC hO1 hO2 hO3
      by_cases hK : Ok = 0
      · rw [if_pos hK]
        have hK' : ((Ok : Int) == 0) = true := by rw [beq_iff_eq]; omega
        have hkM' : k < M := by have := hM0 hK; omega
        have HK : Hid ((openN (s.data.toList.drop k)).kind = 0) := by show _ = _; rw [← HOk.out]; exact hK
        clear hK hM0 hCs
        have hOo := O3.new w1 Ok M 0
        have hst2 := hst1.alloc (.cells #[.int .i64 Ok, .int .i64 M, .int .i64 0] 59)
        have c0 := hOo.c0; have c1 := hOo.c1; have c2 := hOo.c2
        have hlen := pcs_room hrel.out
        go_wp2_with (at_builtin; refine wpList_append_own _ rfl _ _ 45 rfl B 51 i0 _ 3 32 Tryz.underlying45 hi hz0 hz1 hz2 rfl (by decide) _ _ _ rfl (hst2.alloc _).own ⟨w1.heap.size + 1, 0, none⟩ 1 1 [.int .i64 1, .string (s.extract k M), .int .i64 k] rfl rfl ?c1 ?c2 ?c3 ?c4 ?c5 ?_)
        case c1 => exact three_cells _ _ _ _ _ _ (by simp)
        case c2 => intro u hu; simp at hu; rcases hu with rfl | rfl | rfl <;> rfl
        case c3 => unfold maxLen; omega
        case c4 => omega
        case c5 => exact (hst2.alloc _).base
        intro v1 w2 hown1 hg1 _
        have hst3 : St B w w2 v1 (l ++ [⟨1, (s.data.toList.drop k).take (M - k), k⟩]) := (hst2.alloc _).grown (p := ⟨1, (s.data.toList.drop k).take (M - k), k⟩) (by rw [encPc_code]; exact hown1) hg1
        have hO3 : O3 w1.heap.size w2 Ok M 0 := (hOo.alloc _).grown hg1 (Ne.symm (own_ne hst1 (Nat.le_refl _)))
        clear hown1 hg1 hst2 hOo c0 c1 c2
        have c0 := hO3.c0; have c1 := hO3.c1; have c2 := hO3.c2
        go_wp2_with fail
        go_ret2
        refine ⟨v1, rfl, ?_⟩
        rw [cut_last s k M l hlt HOm.out HK.out hrel.out, if_pos hkM', ← HB.out]
        exact hst3
      · rw [if_neg hK]
        obtain ⟨hCs1, hCs2⟩ := hCs hK
        have hK' : ((Ok : Int) == 0) = false := by rw [beq_eq_false_iff_ne]; omega
        have HK := Lib.hid hK
        clear hM0 hCs hK
        by_cases hMk : k < M
        · have hOo := O3.new w1 Ok M C
          have hst2 := hst1.alloc (.cells #[.int .i64 Ok, .int .i64 M, .int .i64 C] 59)
          have c0 := hOo.c0; have c1 := hOo.c1; have c2 := hOo.c2
          have hlen := pcs_room hrel.out
          go_wp2_with (at_builtin; refine wpList_append_own _ rfl _ _ 45 rfl B 51 i0 _ 3 32 Tryz.underlying45 hi hz0 hz1 hz2 rfl (by decide) _ _ _ rfl (hst2.alloc _).own ⟨w1.heap.size + 1, 0, none⟩ 1 1 [.int .i64 1, .string (s.extract k M), .int .i64 k] rfl rfl ?c1 ?c2 ?c3 ?c4 ?c5 ?_)
          case c1 => exact three_cells _ _ _ _ _ _ (by simp)
          case c2 => intro u hu; simp at hu; rcases hu with rfl | rfl | rfl <;> rfl
          case c3 => unfold maxLen; omega
          case c4 => omega
          case c5 => exact (hst2.alloc _).base
          intro v1 w2 hown1 hg1 _
          have hst3 : St B w w2 v1 (l ++ [⟨1, (s.data.toList.drop k).take (M - k), k⟩]) := (hst2.alloc _).grown (p := ⟨1, (s.data.toList.drop k).take (M - k), k⟩) (by rw [encPc_code]; exact hown1) hg1
          have hO3 : O3 w1.heap.size w2 Ok M C := (hOo.alloc _).grown hg1 (Ne.symm (own_ne hst1 (Nat.le_refl _)))
          have hP1 : v1.ownBlock ≠ some w1.heap.size := own_ne' hown1 hO3.blk (by decide)
          have hif : Hid ((if k < M then [(⟨1, (s.data.toList.drop k).take (M - k), k⟩ : Pc)] else []) = [⟨1, (s.data.toList.drop k).take (M - k), k⟩]) := if_pos hMk
          obtain ⟨l1, hl1⟩ : ∃ l1, l1 = l ++ [(⟨1, (s.data.toList.drop k).take (M - k), k⟩ : Pc)] := ⟨_, rfl⟩
          rw [← hl1] at hst3
          have HL1 : Hid (l1 = l ++ (if k < M then [(⟨1, (s.data.toList.drop k).take (M - k), k⟩ : Pc)] else [])) := by show _ = _; rw [hif.out]; exact hl1
          have hlen2 : l1.length ≤ 65537 := by rw [hl1, List.length_append]; simp; omega
          obtain ⟨P, hP⟩ : ∃ P, P = w1.heap.size := ⟨_, rfl⟩
          rw [← hP] at hO3 hP1
          rw [← hP]
          clear hown1 hg1 hst2 hOo hP c0 c1 c2 hl1 hif
          have hm2 := hm.below hst3.below (by omega)
          have c0 := hO3.c0; have c1 := hO3.c1; have c2 := hO3.c2
          go_wp2_with fail
          refine (codeEnd_any s C _ hCs1 (by omega) hm2).mono ?_
          rintro e w3 ⟨rfl, hb3⟩
          have hst4 := hst3.step hb3
          have hO4 := hO3.below hb3
          obtain ⟨E, hE⟩ : ∃ E, E = C + codeN (s.data.toList.drop C) := ⟨_, rfl⟩
          rw [← hE]
          have hEs : E ≤ s.size := by have := codeN_le (s.data.toList.drop C); rw [List.length_drop, ← Lib.size_eq] at this; omega
          have hCE : C ≤ E := by omega
          have HE := Lib.hid hE
          have hPlt := hO4.lt
          have hCE' : (C : Int) ≤ (E : Int) := by omega
          have hEs' : (E : Int) ≤ (s.size : Int) := by omega
          obtain ⟨n, hn⟩ : ∃ n, n = closeN (s.data.toList.drop E) := ⟨_, rfl⟩
          have hnl := (closeN_le (s.data.toList.drop E)).1
          rw [List.length_drop, ← Lib.size_eq, ← hn] at hnl
          have hstep := Lib.hid (cut_step s k Ok M C E n l hlt HOk.out HOm.out HOc.out HK.out hE hn hrel.out)
          have HN : Hid (closeN (s.extract E s.size).data.toList = n) := by show _ = _; rw [tail_list]; exact hn.symm
          clear hE hn hO3 c0 c1 c2 hst3 hb3
          have c0 := hO4.c0; have c1 := hO4.c1; have c2 := hO4.c2
          go_wp2_with fail
          go_region_held3 (fun w' => w'.cell? ⟨P, 0, none⟩ = some (.int .i64 Ok) ∧ w'.cell? ⟨P, 2, none⟩ = some (.int .i64 C))
            (first
              | go_keep
              | (go_split_ands
                 refine ⟨?_, ?_⟩
                 · (rw [hgrow.cell_far _ (by simp; omega) (Ne.symm hP1)]; assumption)
                 · (rw [hgrow.cell_far _ (by simp; omega) (Ne.symm hP1)]; assumption)))
            ((refine step_append_lies _ (by rfl) _ _ _ (by rfl) B 51 i0 _ 3 32 Tryz.underlying45 hi hz0 hz1 hz2 rfl (by omega) v1 l1.length (encPcs l1) (by rfl) ((hst4.own.alloc _).drew)
                ⟨w3.heap.size, 0, none⟩ 1 1 [.int .i64 Ok, .string (s.extract C E), .int .i64 C] (by rfl) (by rfl) (World.news_of_block (cs := #[.int .i64 Ok, .string (s.extract C E), .int .i64 C]) (t := 51) (fr := (0, 0)) (heap_alloc_new w3 _)) (by simp [Value.oneCell'])
                (by omega) (by unfold maxLen; omega) (by omega) (by have := hst4.base; simp; omega) (w3.heap.size + 1) (by simp) ?_; intro gg cap w5 hown5 hgrow hat hlt5))
          have hst6 : St B w w5 (.slice (some ⟨gg, 0, none⟩) (l1.length + 1) cap) (l1 ++ [⟨Ok, (s.data.toList.drop C).take (E - C), C⟩]) := by
            refine St.grown (wr := (w3.alloc (.cells #[.int .i64 Ok, .string (s.extract C E), .int .i64 C] 51)).drew) (v := v1) (hst4.alloc _).drew_ ?_ hgrow
            rw [encPc_code]
            exact hown5
          go_wp2_with fail
          refine (closing_any _ _).mono ?_
          rintro e w' ⟨rfl, rfl⟩
          rw [HN.out]
          go_wp2_with fail
          go_roundw
          case rel => exact ⟨E + n, _, by go_num, by omega, by show _ = _; rw [hstep.out, ← HL1.out], hst6⟩
          case measure => simp [intOf]; omega
        · have hOo := O3.new w1 Ok M C
          have hst2 := hst1.alloc (.cells #[.int .i64 Ok, .int .i64 M, .int .i64 C] 59)
          have hP1 := own_ne hst1 (Nat.le_refl _)
          have hif : Hid ((if k < M then [(⟨1, (s.data.toList.drop k).take (M - k), k⟩ : Pc)] else []) = []) := if_neg hMk
          have c0 := hOo.c0; have c1 := hOo.c1; have c2 := hOo.c2
          have HL1 : Hid (l = l ++ (if k < M then [(⟨1, (s.data.toList.drop k).take (M - k), k⟩ : Pc)] else [])) := by show _ = _; rw [hif.out, List.append_nil]
          have hlen2 : l.length ≤ 65537 := by have := pcs_room hrel.out; omega
          clear hif
          go_wp2_with fail
          generalize w1.alloc (Obj.cells #[Value.int IntKind.i64 Ok, Value.int IntKind.i64 M, Value.int IntKind.i64 C] 59) = w2 at hOo hst2
          obtain ⟨P, hP⟩ : ∃ P, P = w1.heap.size := ⟨_, rfl⟩
          rw [← hP] at hOo hP1
          rw [← hP]
          have hO3 := hOo
          have hst3 := hst2
          have hm2 := hm.below hst3.below (by omega)
          clear hOo hst2 hst1 hP c0 c1 c2
          have c0 := hO3.c0; have c1 := hO3.c1; have c2 := hO3.c2
          refine (codeEnd_any s C _ hCs1 (by omega) hm2).mono ?_
          rintro e w3 ⟨rfl, hb3⟩
          have hst4 := hst3.step hb3
          have hO4 := hO3.below hb3
          obtain ⟨E, hE⟩ : ∃ E, E = C + codeN (s.data.toList.drop C) := ⟨_, rfl⟩
          rw [← hE]
          have hEs : E ≤ s.size := by have := codeN_le (s.data.toList.drop C); rw [List.length_drop, ← Lib.size_eq] at this; omega
          have hCE : C ≤ E := by omega
          have HE := Lib.hid hE
          have hPlt := hO4.lt
          have hCE' : (C : Int) ≤ (E : Int) := by omega
          have hEs' : (E : Int) ≤ (s.size : Int) := by omega
          obtain ⟨n, hn⟩ : ∃ n, n = closeN (s.data.toList.drop E) := ⟨_, rfl⟩
          have hnl := (closeN_le (s.data.toList.drop E)).1
          rw [List.length_drop, ← Lib.size_eq, ← hn] at hnl
          have hstep := Lib.hid (cut_step s k Ok M C E n l hlt HOk.out HOm.out HOc.out HK.out hE hn hrel.out)
          have HN : Hid (closeN (s.extract E s.size).data.toList = n) := by show _ = _; rw [tail_list]; exact hn.symm
          clear hE hn hO3 c0 c1 c2 hst3 hb3
          have c0 := hO4.c0; have c1 := hO4.c1; have c2 := hO4.c2
          go_wp2_with fail
          go_region_held3 (fun w' => w'.cell? ⟨P, 0, none⟩ = some (.int .i64 Ok) ∧ w'.cell? ⟨P, 2, none⟩ = some (.int .i64 C))
            (first
              | go_keep
              | (go_split_ands
                 refine ⟨?_, ?_⟩
                 · (rw [hgrow.cell_far _ (by simp; omega) (Ne.symm hP1)]; assumption)
                 · (rw [hgrow.cell_far _ (by simp; omega) (Ne.symm hP1)]; assumption)))
            ((refine step_append_lies _ (by rfl) _ _ _ (by rfl) B 51 i0 _ 3 32 Tryz.underlying45 hi hz0 hz1 hz2 rfl (by omega) u4 l.length (encPcs l) (by rfl) ((hst4.own.alloc _).drew)
                ⟨w3.heap.size, 0, none⟩ 1 1 [.int .i64 Ok, .string (s.extract C E), .int .i64 C] (by rfl) (by rfl) (World.news_of_block (cs := #[.int .i64 Ok, .string (s.extract C E), .int .i64 C]) (t := 51) (fr := (0, 0)) (heap_alloc_new w3 _)) (by simp [Value.oneCell'])
                (by omega) (by unfold maxLen; omega) (by omega) (by have := hst4.base; simp; omega) (w3.heap.size + 1) (by simp) ?_; intro gg cap w5 hown5 hgrow hat hlt5))
          have hst6 : St B w w5 (.slice (some ⟨gg, 0, none⟩) (l.length + 1) cap) (l ++ [⟨Ok, (s.data.toList.drop C).take (E - C), C⟩]) := by
            refine St.grown (wr := (w3.alloc (.cells #[.int .i64 Ok, .string (s.extract C E), .int .i64 C] 51)).drew) (v := u4) (hst4.alloc _).drew_ ?_ hgrow
            rw [encPc_code]
            exact hown5
          go_wp2_with fail
          refine (closing_any _ _).mono ?_
          rintro e w' ⟨rfl, rfl⟩
          rw [HN.out]
          go_wp2_with fail
          go_roundw
          case rel => exact ⟨E + n, _, by go_num, by omega, by show _ = _; rw [hstep.out, ← HL1.out], hst6⟩
          case measure => simp [intOf]; omega
    · have hdk : Hid (piecesN k (s.data.toList.drop k) = []) := by show _ = _; rw [drop_nil s k (by omega)]; rfl
      go_wp2_with fail
      go_ret2
      refine ⟨_, rfl, ?_⟩
      rw [hrel.out, hdk.out, List.append_nil, ← HB.out]
      exact hst
end Go.Proofs.YtjcldgogjgchiaaGreatDoor
