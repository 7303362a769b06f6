/-
  The contract of package word's gapLen, and of signLen.
-/
import Derived.Test.YtjcldgogjgchiaaGreatDoorGaps
namespace Go.Proofs.YtjcldgogjgchiaaGreatDoor
open Go Go.RowKit Cutting Wording

theorem comN_le (r : L) (h : Lib.hasPrefix r [47, 42] = true) : comN r ≤ r.length ∧ (comN r = 0 ∨ 4 ≤ comN r) := by
  have key : ∀ r : L, ∀ n, comGo r = some n → n + 2 ≤ r.length := by
    intro r
    induction r with
    | nil => intro n h; simp [comGo] at h
    | cons b r ih =>
      intro n h
      rw [comGo] at h
      split at h
      · next hp =>
        have := hasPrefix_length hp
        simp only [List.length_cons, List.length_nil] at this ⊢
        injection h with h
        omega
      · obtain ⟨m, hm, rfl⟩ := Option.map_eq_some_iff.1 h
        have := ih m hm
        simp only [List.length_cons]
        omega
  have hl := hasPrefix_length h
  simp only [List.length_cons, List.length_nil] at hl
  unfold comN
  cases hc : comGo (r.drop 2) with
  | none => simp
  | some n =>
    have := key _ n hc
    rw [List.length_drop] at this
    dsimp only
    omega
theorem span_pos (p : UInt8 → Bool) (b : UInt8) (r : L) (h : p b = true) : 1 ≤ spanN p (b :: r) := by simp [spanN, h]
theorem remark_pos (r : L) (h : (Lib.hasPrefix r [35] || Lib.hasPrefix r [47, 47]) = true) : 1 ≤ spanN notNl r := by
  rw [Bool.or_eq_true] at h
  rcases h with h | h
  · obtain ⟨t, ht⟩ := List.isPrefixOf_iff_prefix.1 h
    rw [← ht]; exact span_pos _ _ _ rfl
  · obtain ⟨t, ht⟩ := List.isPrefixOf_iff_prefix.1 h
    rw [← ht]; exact span_pos _ _ _ rfl
/-- How far the first of what stands between goes; and whether it does not end. -/
def bitN (r : L) : Nat := if Lib.hasPrefix r [47, 42] then comN r else if Lib.hasPrefix r [35] || Lib.hasPrefix r [47, 47] then spanN notNl r else spanN blankB r
theorem bitN_le (r : L) : bitN r ≤ r.length := by
  unfold bitN
  split
  · next h => exact (comN_le r h).1
  · split <;> exact spanN_le _ _
theorem gapF_step (f : Nat) (r : L) : gapF (f + 1) r = if r.isEmpty then (0, false) else if bitN r = 0 then (0, Lib.hasPrefix r [47, 42]) else ((gapF f (r.drop (bitN r))).1 + bitN r, (gapF f (r.drop (bitN r))).2) := by
  simp only [gapF]
  split
  · rfl
  · unfold bitN
    by_cases h : Lib.hasPrefix r [47, 42] = true
    · simp only [h, if_true]
    · simp only [h]
      by_cases h2 : (Lib.hasPrefix r [35] || Lib.hasPrefix r [47, 47]) = true
      · simp only [h2, if_true]
        have h3 := remark_pos r h2
        have h4 : ¬ spanN notNl r = 0 := by omega
        simp [h4]
      · simp only [h2]
        simp
theorem gapF_fuel : ∀ (f g : Nat) (r : L), r.length ≤ f → r.length ≤ g → gapF f r = gapF g r := by
  intro f
  induction f with
  | zero =>
    intro g r h _
    have := List.eq_nil_of_length_eq_zero (Nat.le_zero.1 h); subst this
    cases g <;> simp [gapF]
  | succ f ih =>
    intro g r h hg
    cases g with
    | zero => have := List.eq_nil_of_length_eq_zero (Nat.le_zero.1 hg); subst this; simp [gapF]
    | succ g =>
      rw [gapF_step, gapF_step]
      split
      · rfl
      · split
        · rfl
        · next h0 => rw [ih g (r.drop (bitN r)) (by rw [List.length_drop]; omega) (by rw [List.length_drop]; omega)]
theorem gapN_nil : gapN [] = (0, false) := rfl
theorem gapN_stop (r : L) (h : r ≠ []) (h0 : bitN r = 0) : gapN r = (0, Lib.hasPrefix r [47, 42]) := by
  unfold gapN
  obtain ⟨n, hn⟩ : ∃ n, r.length = n + 1 := ⟨r.length - 1, by have := List.length_pos_iff.2 h; omega⟩
  rw [hn, gapF_step, if_neg (by simpa using h), if_pos h0]
theorem gapN_go (r : L) (h : r ≠ []) (h0 : bitN r ≠ 0) : gapN r = ((gapN (r.drop (bitN r))).1 + bitN r, (gapN (r.drop (bitN r))).2) := by
  obtain ⟨n, hn⟩ : ∃ n, r.length = n + 1 := ⟨r.length - 1, by have := List.length_pos_iff.2 h; omega⟩
  conv => lhs; unfold gapN
  rw [hn, gapF_step, if_neg (by simpa using h), if_neg h0, gapF_fuel n (r.drop (bitN r)).length _ (by rw [List.length_drop]; omega) (Nat.le_refl _)]
  rfl
theorem gapN_le (r : L) : (gapN r).1 ≤ r.length := by
  have key : ∀ (n : Nat) (r : L), r.length ≤ n → (gapN r).1 ≤ r.length := by
    intro n
    induction n with
    | zero => intro r h; have := List.eq_nil_of_length_eq_zero (Nat.le_zero.1 h); subst this; simp [gapN_nil]
    | succ n ih =>
      intro r h
      by_cases hr : r = []
      · subst hr; simp [gapN_nil]
      · by_cases h0 : bitN r = 0
        · rw [gapN_stop r hr h0]; simp
        · rw [gapN_go r hr h0]
          have h1 := bitN_le r
          have h3 := ih (r.drop (bitN r)) (by rw [List.length_drop]; omega)
          rw [List.length_drop] at h3
          dsimp only
          omega
  exact key _ r (Nat.le_refl _)
/-- From a place on. -/
theorem gap_stop (s : ByteArray) (k : Nat) (hk : k < s.size) (h0 : bitN (s.data.toList.drop k) = 0) : gapN (s.data.toList.drop k) = (0, Lib.hasPrefix (s.data.toList.drop k) [47, 42]) := gapN_stop _ (by rw [drop_at s k hk]; simp) h0
theorem gap_go (s : ByteArray) (k n : Nat) (hk : k < s.size) (hn : n = bitN (s.data.toList.drop k)) (h0 : n ≠ 0) : (k + (gapN (s.data.toList.drop k)).1, (gapN (s.data.toList.drop k)).2) = (k + n + (gapN (s.data.toList.drop (k + n))).1, (gapN (s.data.toList.drop (k + n))).2) := by
  rw [gapN_go _ (by rw [drop_at s k hk]; simp) (by rw [← hn]; exact h0), ← hn, List.drop_drop]
  simp only [Prod.mk.injEq, and_true]
  omega

/-- A fault in its two cells. -/
structure F2 (P : Nat) (w : World) (a b : Int) : Prop where
  blk : w.heap[P]? = some (.cells #[.int .i64 a, .int .i64 b] 27 (0, 0))
theorem F2.lt {P : Nat} {w : World} {a b : Int} (h : F2 P w a b) : P < w.heap.size := by
  rcases Nat.lt_or_ge P w.heap.size with hlt | hge
  · exact hlt
  · have := h.blk; rw [Array.getElem?_eq_none hge] at this; cases this
theorem F2.c0 {P : Nat} {w : World} {a b : Int} (h : F2 P w a b) : w.cell? ⟨P, 0, none⟩ = some (.int .i64 a) := cell_of_row w P 0 _ _ _ h.blk
theorem F2.c1 {P : Nat} {w : World} {a b : Int} (h : F2 P w a b) : w.cell? ⟨P, 1, none⟩ = some (.int .i64 b) := cell_of_row w P 1 _ _ _ h.blk
theorem F2.f0 {P : Nat} {w : World} {a b : Int} (h : F2 P w a b) : w.frozen? ⟨P, 0, none⟩ = false := by simp [World.frozen?, h.blk]
theorem F2.f1 {P : Nat} {w : World} {a b : Int} (h : F2 P w a b) : w.frozen? ⟨P, 1, none⟩ = false := by simp [World.frozen?, h.blk]
theorem F2.new (w : World) (a b : Int) : F2 w.heap.size (w.alloc (.cells #[.int .i64 a, .int .i64 b] 27)) a b := ⟨heap_alloc_new w _⟩
theorem F2.below {P : Nat} {w w' : World} {a b : Int} (h : F2 P w a b) (hb : Below w.heap.size w w') : F2 P w' a b := ⟨(hb.block P h.lt).trans h.blk⟩
theorem F2.alloc {P : Nat} {w : World} {a b : Int} (h : F2 P w a b) (o : Obj) : F2 P (w.alloc o) a b := h.below ((Below.refl _ _).alloc (Nat.le_refl _) _)

def gapV (g : Nat × Bool) : Value := .tuple #[.int .i64 g.1, .agg #[.int .i64 (if g.2 then (10 : Int) else 0), .int .i64 0]]
theorem gapV_ok (k : Nat) : gapV (k, false) = .tuple #[.int .i64 k, .agg #[.int .i64 0, .int .i64 0]] := rfl
theorem gapV_bad (k : Nat) : gapV (k, true) = .tuple #[.int .i64 k, .agg #[.int .i64 10, .int .i64 0]] := rfl
theorem below_set2 {B P : Nat} {w w' : World} (h : Below B w w') (hP : B ≤ P) (a b : Value) : Below B w ((w'.setCell ⟨P, 0, none⟩ a).setCell ⟨P, 1, none⟩ b) := (h.setCell hP a).setCell hP b

set_option maxHeartbeats 4000000 in
theorem gapLen_any (s : ByteArray) (w : World) (hs : s.size ≤ 4294967280) (hm : HasMax w) :
    Calls Tryz.prog 55 #[.string s] w fun e w' => e = .returned (gapV (gapN s.data.toList)) ∧ Below w.heap.size w w' := by
  have hml := hm.lt
  go_enter Tryz.func55, Tryz.ntmps55
  go_wp2_with fail
  have hF := F2.new w 0 0
  have hb0 : Below w.heap.size w (w.alloc (.cells #[.int .i64 0, .int .i64 0] 27)) := (Below.refl _ _).alloc (Nat.le_refl _) _
  obtain ⟨W0, hW0⟩ : ∃ W0, W0 = w.alloc (.cells #[.int .i64 0, .int .i64 0] 27) := ⟨_, rfl⟩
  obtain ⟨B, hB⟩ : ∃ B, B = w.heap.size := ⟨_, rfl⟩
  rw [← hW0, ← hB] at hF hb0
  rw [← hB] at hml
  rw [← hW0, ← hB]
  have HB := Lib.hid hB
  clear hW0 hB
  go_loopw [4] (fun i wr => ∃ k : Nat, i = .int .i64 k ∧ k ≤ s.size ∧ Below B w wr ∧ F2 B wr 0 0 ∧ Hid (gapN s.data.toList = (k + (gapN (s.data.toList.drop k)).1, (gapN (s.data.toList.drop k)).2))) (fun i _ => s.size - (intOf i).toNat)
  case atStart => exact ⟨0, rfl, Nat.zero_le _, hb0, hF, by show _ = _; rw [List.drop_zero, Nat.zero_add]⟩
  case round =>
    obtain ⟨k, rfl, hk, hbr, hFr, hrel⟩ := hrel
    have hBl := hFr.lt
    have hmr := hm.below hbr hml
    by_cases hlt : k < s.size
    · have ht := Lib.hid (tail_list s k)
      have hsz : Hid ((s.extract k s.size).size ≤ 4294967280) := by show _ ≤ _; rw [Lib.size_eq, tail_list, List.length_drop, ← Lib.size_eq]; omega
      obtain ⟨n, hn⟩ : ∃ n, n = bitN (s.data.toList.drop k) := ⟨_, rfl⟩
      have hnl := bitN_le (s.data.toList.drop k)
      rw [← hn, List.length_drop, ← Lib.size_eq] at hnl
      have HGO : n ≠ 0 → Hid (gapN s.data.toList = (k + n + (gapN (s.data.toList.drop (k + n))).1, (gapN (s.data.toList.drop (k + n))).2)) := fun h0 => by
        show _ = _; rw [hrel.out, gap_go s k n hlt hn h0]
      have HST : n = 0 → Hid (gapN s.data.toList = (k, Lib.hasPrefix (s.data.toList.drop k) [47, 42])) := fun h0 => by
        show _ = _; rw [hrel.out, gap_stop s k hlt (by rw [← hn]; exact h0)]; simp
      go_wp2_with fail
      refine (blankLen_any _ _ hsz.out).mono ?_
      rintro e w1 ⟨rfl, hb1⟩
      rw [ht.out]
      have hFr1 := hFr.below hb1
      have hbr1 := hbr.trans (hb1.mono (Nat.le_of_lt hBl))
      have hmr1 := hm.below hbr1 hml
      clear hb1 hFr hbr hmr
      have c0 := hFr1.c0; have c1 := hFr1.c1; have f0 := hFr1.f0; have f1 := hFr1.f1
      cases hc : Lib.hasPrefix (s.data.toList.drop k) [47, 42]
      · cases hc2 : (Lib.hasPrefix (s.data.toList.drop k) [35] || Lib.hasPrefix (s.data.toList.drop k) [47, 47])
        · have hp1 : Hid (Lib.hasPrefix (s.data.toList.drop k) [35] = false) := by show _ = _; rw [Bool.or_eq_false_iff] at hc2; exact hc2.1
          have hp2 : Hid (Lib.hasPrefix (s.data.toList.drop k) [47, 47] = false) := by show _ = _; rw [Bool.or_eq_false_iff] at hc2; exact hc2.2
          have Hn : Hid (spanN blankB (s.data.toList.drop k) = n) := by show _ = _; rw [hn, bitN, hc, hc2]; rfl
          have HC := Lib.hid hc
          clear hc hc2 hn
          rw [Hn.out]
          by_cases h0 : n = 0
          · have HG := HST h0
            rw [HC.out] at HG
            subst h0
            clear HST HGO
            go_wp2_with (first
              | (go_at_call 28; ((with_reducible refine (hasPrefix_b _ ⟨#[35]⟩ false _ (by rw [ht.out]; exact hp1.out)).mono ?_); rintro e w' ⟨rfl, rfl⟩))
              | (go_at_call 28; ((with_reducible refine (hasPrefix_b _ ⟨#[47, 47]⟩ false _ (by rw [ht.out]; exact hp2.out)).mono ?_); rintro e w' ⟨rfl, rfl⟩))
              | (go_at_call 28; ((with_reducible refine (hasPrefix_b _ ⟨#[47, 42]⟩ false _ (by rw [ht.out]; exact HC.out)).mono ?_); rintro e w' ⟨rfl, rfl⟩)))
            rw [HG.out, gapV_ok]
            exact bodyPost_ret (v := .tuple #[.int .i64 k, .agg #[.int .i64 0, .int .i64 0]]) (by simp [results, Tryz.results55, go_sem, c0, c1]) rfl ⟨rfl, by rw [← HB.out]; exact below_set2 hbr1 (Nat.le_refl _) _ _⟩
          · have HG := HGO h0
            have h0' : ((n : Int) == 0) = false := by rw [beq_eq_false_iff_ne]; omega
            clear HST HGO
            go_wp2_with (first
              | (go_at_call 28; ((with_reducible refine (hasPrefix_b _ ⟨#[35]⟩ false _ (by rw [ht.out]; exact hp1.out)).mono ?_); rintro e w' ⟨rfl, rfl⟩))
              | (go_at_call 28; ((with_reducible refine (hasPrefix_b _ ⟨#[47, 47]⟩ false _ (by rw [ht.out]; exact hp2.out)).mono ?_); rintro e w' ⟨rfl, rfl⟩))
              | (go_at_call 28; ((with_reducible refine (hasPrefix_b _ ⟨#[47, 42]⟩ false _ (by rw [ht.out]; exact HC.out)).mono ?_); rintro e w' ⟨rfl, rfl⟩)))
            go_roundw
            case rel => exact ⟨k + n, by go_num, by omega, hbr1, hFr1, HG⟩
            case measure => simp [intOf]; omega
        · have hpos := remark_pos _ hc2
          have Hn : Hid (spanN notNl (s.data.toList.drop k) = n) := by show _ = _; rw [hn, bitN, hc, hc2]; rfl
          rw [Hn.out] at hpos
          have h0 : n ≠ 0 := by omega
          have HG := HGO h0
          have h0' : ((n : Int) == 0) = false := by rw [beq_eq_false_iff_ne]; omega
          have HC := Lib.hid hc
          clear HST HGO hn
          cases hp : Lib.hasPrefix (s.data.toList.drop k) [35]
          · have hp2 : Hid (Lib.hasPrefix (s.data.toList.drop k) [47, 47] = true) := by show _ = _; rw [hp, Bool.false_or] at hc2; exact hc2
            have hp1 := Lib.hid hp
            clear hc hc2 hp
            go_wp2_with (first
              | (go_at_call 28; ((with_reducible refine (hasPrefix_b _ ⟨#[35]⟩ false _ (by rw [ht.out]; exact hp1.out)).mono ?_); rintro e w' ⟨rfl, rfl⟩))
              | (go_at_call 28; ((with_reducible refine (hasPrefix_b _ ⟨#[47, 47]⟩ true _ (by rw [ht.out]; exact hp2.out)).mono ?_); rintro e w' ⟨rfl, rfl⟩)))
            refine (lineLen_any _ _ hsz.out hmr1).mono ?_
            rintro e w2 ⟨rfl, hb2⟩
            rw [ht.out, Hn.out]
            have hFr2 := hFr1.below hb2
            have hbr2 := hbr1.trans (hb2.mono (Nat.le_of_lt hFr1.lt))
            clear hb2
            go_wp2_with (go_at_call 28; ((with_reducible refine (hasPrefix_b _ ⟨#[47, 42]⟩ false _ (by rw [ht.out]; exact HC.out)).mono ?_); rintro e w' ⟨rfl, rfl⟩))
            go_roundw
            case rel => exact ⟨k + n, by go_num, by omega, hbr2, hFr2, HG⟩
            case measure => simp [intOf]; omega
          · have hp1 := Lib.hid hp
            clear hc hc2 hp
            go_wp2_with (go_at_call 28; ((with_reducible refine (hasPrefix_b _ ⟨#[35]⟩ true _ (by rw [ht.out]; exact hp1.out)).mono ?_); rintro e w' ⟨rfl, rfl⟩))
            refine (lineLen_any _ _ hsz.out hmr1).mono ?_
            rintro e w2 ⟨rfl, hb2⟩
            rw [ht.out, Hn.out]
            have hFr2 := hFr1.below hb2
            have hbr2 := hbr1.trans (hb2.mono (Nat.le_of_lt hFr1.lt))
            clear hb2
            go_wp2_with (go_at_call 28; ((with_reducible refine (hasPrefix_b _ ⟨#[47, 42]⟩ false _ (by rw [ht.out]; exact HC.out)).mono ?_); rintro e w' ⟨rfl, rfl⟩))
            go_roundw
            case rel => exact ⟨k + n, by go_num, by omega, hbr2, hFr2, HG⟩
            case measure => simp [intOf]; omega
      · have hp1 : Hid (Lib.hasPrefix (s.data.toList.drop k) [35] = false) := by
          show _ = _
          obtain ⟨t, ht⟩ := List.isPrefixOf_iff_prefix.1 hc
          rw [← ht]; rfl
        have hp2 : Hid (Lib.hasPrefix (s.data.toList.drop k) [47, 47] = false) := by
          show _ = _
          obtain ⟨t, ht⟩ := List.isPrefixOf_iff_prefix.1 hc
          rw [← ht]; rfl
        have h2 : Hid (2 ≤ (s.extract k s.size).size) := by
          show _ ≤ _
          have := hasPrefix_length hc
          rw [Lib.size_eq, tail_list]; exact this
        have Hn : Hid (comN (s.data.toList.drop k) = n) := by show _ = _; rw [hn, bitN, hc]; rfl
        have HC := Lib.hid hc
        clear hc hn
        by_cases h0 : n = 0
        · have HG := HST h0
          rw [HC.out] at HG
          subst h0
          clear HST HGO
          go_wp2_with (first
            | (go_at_call 28; ((with_reducible refine (hasPrefix_b _ ⟨#[35]⟩ false _ (by rw [ht.out]; exact hp1.out)).mono ?_); rintro e w' ⟨rfl, rfl⟩))
            | (go_at_call 28; ((with_reducible refine (hasPrefix_b _ ⟨#[47, 47]⟩ false _ (by rw [ht.out]; exact hp2.out)).mono ?_); rintro e w' ⟨rfl, rfl⟩))
            | (go_at_call 28; ((with_reducible refine (hasPrefix_b _ ⟨#[47, 42]⟩ true _ (by rw [ht.out]; exact HC.out)).mono ?_); rintro e w' ⟨rfl, rfl⟩)))
          refine (wcommentLen_any _ _ h2.out hsz.out hmr1).mono ?_
          rintro e w2 ⟨rfl, hb2⟩
          rw [ht.out, Hn.out]
          have hFr2 := hFr1.below hb2
          have hbr2 := hbr1.trans (hb2.mono (Nat.le_of_lt hFr1.lt))
          clear hb2 c0 c1 f0 f1
          have c0 := hFr2.c0; have c1 := hFr2.c1; have f0 := hFr2.f0; have f1 := hFr2.f1; have hBl2 := hFr2.lt
          go_wp2_with fail
          rw [HG.out, gapV_bad]
          exact bodyPost_ret (v := .tuple #[.int .i64 k, .agg #[.int .i64 10, .int .i64 0]]) (by simp [results, Tryz.results55, go_sem, c0, c1]) rfl ⟨rfl, by rw [← HB.out]; exact below_set2 hbr2 (Nat.le_refl _) _ _⟩
        · have HG := HGO h0
          have h0' : ((n : Int) == 0) = false := by rw [beq_eq_false_iff_ne]; omega
          clear HST HGO
          go_wp2_with (first
            | (go_at_call 28; ((with_reducible refine (hasPrefix_b _ ⟨#[35]⟩ false _ (by rw [ht.out]; exact hp1.out)).mono ?_); rintro e w' ⟨rfl, rfl⟩))
            | (go_at_call 28; ((with_reducible refine (hasPrefix_b _ ⟨#[47, 47]⟩ false _ (by rw [ht.out]; exact hp2.out)).mono ?_); rintro e w' ⟨rfl, rfl⟩))
            | (go_at_call 28; ((with_reducible refine (hasPrefix_b _ ⟨#[47, 42]⟩ true _ (by rw [ht.out]; exact HC.out)).mono ?_); rintro e w' ⟨rfl, rfl⟩)))
          refine (wcommentLen_any _ _ h2.out hsz.out hmr1).mono ?_
          rintro e w2 ⟨rfl, hb2⟩
          rw [ht.out, Hn.out]
          have hFr2 := hFr1.below hb2
          have hbr2 := hbr1.trans (hb2.mono (Nat.le_of_lt hFr1.lt))
          clear hb2
          go_wp2_with fail
          go_roundw
          case rel => exact ⟨k + n, by go_num, by omega, hbr2, hFr2, HG⟩
          case measure => simp [intOf]; omega
    · have hdk : Hid (gapN s.data.toList = (k, false)) := by show _ = _; rw [hrel.out, drop_nil s k (by omega), gapN_nil]; rfl
      have c0 := hFr.c0; have c1 := hFr.c1; have f0 := hFr.f0; have f1 := hFr.f1
      go_wp2_with fail
      rw [hdk.out, gapV_ok]
      exact bodyPost_ret (v := .tuple #[.int .i64 k, .agg #[.int .i64 0, .int .i64 0]]) (by simp [results, Tryz.results55, go_sem, c0, c1]) rfl ⟨rfl, by rw [← HB.out]; exact below_set2 hbr (Nat.le_refl _) _ _⟩
end Go.Proofs.YtjcldgogjgchiaaGreatDoor
