/-
  Bytes that a call gathers in a slice of its own; the contract of package word's plainText.
-/
import Derived.Test.YtjcldgogjgchiaaGreatDoorNums
import Derived.Test.YtjcldgogjgchiaaGreatDoorCut
import Derived.Laws.IdiomStrings
import Derived.Laws.BytesArg
namespace Go.Proofs.YtjcldgogjgchiaaGreatDoor
open Go Go.RowKit Cutting Wording

theorem addr_add (g i j : Nat) : ((⟨g, i, none⟩ : Addr).add j) = ⟨g, i + j, none⟩ := by
  unfold Addr.add
  by_cases h : j = 0 <;> simp [h]
def encB (l : L) : List Value := l.map fun b => .int .u8 b.toNat
theorem byteInfo : (Tryz.prog.info? 5).map (fun i => (i.zero, i.size, i.bytes)) = some (some (.int .u8 0), 1, 1) := by kernel_rfl
/-- Bytes so far, in the round's world. -/
structure Bs (B : Nat) (w wr : World) (v : Value) (l : L) : Prop where
  own : wr.ownsRow B 5 1 v l.length (encB l)
  below : Below B w wr
  base : B ≤ wr.heap.size
theorem Bs.step {B : Nat} {w wr w' : World} {v : Value} {l : L} (h : Bs B w wr v l) (hb : Below wr.heap.size wr w') : Bs B w w' v l :=
  ⟨ownsRow_below h.own hb, h.below.trans (hb.mono h.base), Nat.le_trans h.base hb.size⟩
theorem Bs.alloc {B : Nat} {w wr : World} {v : Value} {l : L} (h : Bs B w wr v l) (o : Obj) : Bs B w (wr.alloc o) v l := h.step ((Below.refl _ _).alloc (Nat.le_refl _) _)
theorem Bs.drew_ {B : Nat} {w wr : World} {v : Value} {l : L} (h : Bs B w wr v l) : Bs B w wr.drew v l := ⟨h.own.drew, h.below.drew, h.base⟩
theorem Bs.nil (w : World) : Bs w.heap.size w w (.slice none 0 0) [] := ⟨World.ownsRow_nil _ _ _ _, Below.refl _ _, Nat.le_refl _⟩
theorem encB_snoc (l : L) (b : UInt8) : encB (l ++ [b]) = encB l ++ [.int .u8 b.toNat] := by simp [encB]
theorem Bs.grown {B : Nat} {w wr w' : World} {v v' : Value} {l : L} {b : UInt8} (h : Bs B w wr v l) (hown : w'.ownsRow B 5 1 v' (l.length + 1) (encB l ++ [.int .u8 b.toNat])) (hg : wr.grownBy w' v.ownBlock) : Bs B w w' v' (l ++ [b]) :=
  ⟨by rw [List.length_append, encB_snoc]; exact hown, h.below.grown hg h.base (fun k hk => (h.own.lt k hk).1), Nat.le_trans h.base hg.size⟩
theorem Bs.str {B : Nat} {w wr : World} {v : Value} {l : L} (h : Bs B w wr v l) :
    (convert 55 9 v).run Tryz.prog wr = .ok (.string ⟨l.toArray⟩) wr := by
  rcases h.own.2 with ⟨rfl, h0⟩ | ⟨g, cap, cur, rfl, hb, hh, hn, hc, hcs, ht⟩
  · have : l = [] := List.eq_nil_of_length_eq_zero h0
    subst this
    exact run_convert_bytes_nil wr 55 5 Tryz.underlying55 Tryz.underlying5 0 0 9 Tryz.underlying9
  · refine run_convert_bytes_back wr 55 9 5 ⟨g, 0, none⟩ cap l Tryz.underlying55 Tryz.underlying5 Tryz.underlying9 ?_
    intro j hj
    rw [addr_add, Nat.zero_add, h.own.cellAt j (by simpa [encB] using hj)]
    simp [encB, hj]

theorem plain_esc (r : L) (h : (Lib.hasPrefix r [92, 39] || Lib.hasPrefix r [92, 92]) = true) : ∃ c, r[1]? = some c ∧ plainGo r = c :: plainGo (r.drop 2) := by
  rw [Bool.or_eq_true] at h
  rcases h with h | h
  all_goals
    obtain ⟨t, ht⟩ := List.isPrefixOf_iff_prefix.1 h
    rw [← ht]
    exact ⟨_, rfl, by simp [plainGo]⟩
theorem plain_other (b : UInt8) (r : L) (h : (Lib.hasPrefix (b :: r) [92, 39] || Lib.hasPrefix (b :: r) [92, 92]) = false) : plainGo (b :: r) = b :: plainGo r := by
  cases r with
  | nil => simp [plainGo]
  | cons c r =>
    rw [plainGo, if_neg]
    intro h2
    simp only [Bool.and_eq_true, Bool.or_eq_true, decide_eq_true_eq] at h2
    obtain ⟨rfl, rfl | rfl⟩ := h2 <;> simp [Lib.hasPrefix] at h

theorem tokT_plain (s : L) (h : s.head? = some 39) : tokT s = (match endGo 39 (s.drop 1) with | none => .error (10, 0) | some e => .ok (textT (plainGo ((s.drop 1).take e)), e + 2)) := by
  cases s with
  | nil => cases h
  | cons b r =>
    have hb : b = 39 := by simpa using h
    subst hb
    simp [tokT, digB]
    rfl

theorem wtext_any (s : ByteArray) (w : World) :
    Calls Tryz.prog 95 #[.string s] w fun e w' => e = .returned (tokV (textT s.data.toList) (.slice none 0 0) 0 0) ∧ Below w.heap.size w w' := by
  go_enter Tryz.func95, Tryz.ntmps95
  go_wp2_with fail
  exact bodyPost_ret (v := .agg #[.int .i64 5, .string s, .int .i64 0, .slice none 0 0, .int .i64 0, .int .i64 0]) (by simp [results, Tryz.results95, go_sem]) rfl ⟨by unfold tokV textT; rw [Lib.mk_data]; rfl, (Below.refl _ _).alloc (Nat.le_refl _) _⟩

theorem one_cell (w : World) (v : Value) (t : TypeId) : ∀ (j : Nat) (u : Value), [v][j]? = some u → (w.alloc (.cells #[v] t)).cell? ((⟨w.heap.size, 0, none⟩ : Addr).add j) = some u := by
  intro j u h
  match j, h with
  | 0, h => simp at h; subst h; simp [addr_add, go_sem]

set_option maxHeartbeats 4000000 in
set_option maxRecDepth 100000 in
theorem plainText_any (s : ByteArray) (w : World) (h0 : 0 < s.size) (hs : s.size ≤ 4294967280) (h39 : s[0] = 39) :
    Calls Tryz.prog 74 #[.string s] w fun e w' => e = .returned (resV (tokT s.data.toList) (.slice none 0 0)) ∧ Below w.heap.size w w' := by
  obtain ⟨i0, hi, hz0, hz1, hz2⟩ := info_parts byteInfo
  have HI := Lib.hid hi
  have HZ0 := Lib.hid hz0
  have HZ1 := Lib.hid hz1
  have HZ2 := Lib.hid hz2
  clear hi hz0 hz1 hz2
  have hR : Hid (tokT s.data.toList = (match endGo 39 (s.data.toList.drop 1) with | none => .error (10, 0) | some e => .ok (textT (plainGo ((s.data.toList.drop 1).take e)), e + 2))) := by
    show _ = _; exact tokT_plain _ (by rw [head_at s h0, h39])
  obtain ⟨B, W0, hB, hW0, h2, hb0⟩ := two_start w
  have HB := Lib.hid hB
  have HTE : Hid (∀ W : World, Calls Tryz.prog 94 #[.string s] W fun e w' => e = .returned (.int .i64 (endOut (endGo 39 (s.data.toList.drop 1)))) ∧ Below W.heap.size W w') := fun W => textEnd_any s 39 W h0 h39 (by decide) (by decide) hs
  clear h39 h0
  go_enter Tryz.func74, Tryz.ntmps74
  go_wp2_with fail
  rw [← hB, ← hW0]
  rw [← hB] at hb0
  clear hB hW0
  refine (unhide HTE _).mono ?_
  rintro e w1 ⟨rfl, hb1⟩
  have h21 := h2.below hb1
  have hb2 := hb0.trans (hb1.mono (by have := h2.flt.lt; omega))
  clear h2 hb0 hb1
  cases he : endGo 39 (s.data.toList.drop 1) with
  | none =>
    have HR : Hid (tokT s.data.toList = .error (10, 0)) := by show _ = _; rw [hR.out, he]
    clear hR he
    unfold endOut
    dsimp only
    go_wp2_with fail
    refine (wfail_any 10 0 _).mono ?_
    rintro e w2 ⟨rfl, hb3⟩
    rw [resV_err]
    have h22 := h21.below hb3
    have hb4 := hb2.trans (hb3.mono (by have := h21.flt.lt; omega))
    clear h21 hb2 hb3
    obtain ⟨⟨c0, c1, c2, c3, c4, c5⟩, ⟨f0, f1, f2, f3, f4, f5⟩, ⟨d0, d1, g0, g1⟩, hl⟩ := h22.facts
    go_wp2_with fail
    exact bodyPost_ret (v := resV (.error (10, 0)) (.slice none 0 0)) (by simp [results, Tryz.results74, go_sem, resV_err, c0, c1, c2, c3, c4, c5, d0, d1]) rfl ⟨by rw [HR.out], by rw [← HB.out]; exact below_two hb4 (Nat.le_refl _) _ _ _ _ _ _ _ _⟩
  | some n =>
    have hn := endGo_lt 39 _ _ (Nat.le_refl _) n he
    rw [List.length_drop, ← Lib.size_eq] at hn
    obtain ⟨u, hu⟩ : ∃ u, u = s.extract 1 (1 + n) := ⟨_, rfl⟩
    have hul : u.data.toList = (s.data.toList.drop 1).take n := by rw [hu, extract_list, show 1 + n - 1 = n from by omega]
    have hus : u.size = n := by rw [Lib.size_eq, hul, List.length_take, List.length_drop, ← Lib.size_eq]; omega
    have HR : Hid (tokT s.data.toList = .ok (⟨5, plainGo u.data.toList, 0, []⟩, n + 2)) := by show _ = _; rw [hR.out, he, hul]; rfl
    have HU := Lib.hid hu
    have hn2 : n + 1 < s.size := by omega
    have hus2 : u.size ≤ 4294967280 := by omega
    have HUS := Lib.hid hus
    clear hR he hul hu hus hn
    unfold endOut
    dsimp only
    have hMax : n ≤ maxLen := by unfold maxLen; omega
    go_wp2_with (at_make; refine wpList_make_own _ rfl _ _ 55 rfl w1.heap.size 5 i0 _ 1 Tryz.underlying55 HI.out HZ0.out HZ1.out _ _ _ n rfl rfl ?cn ?cb hMax (Nat.le_refl _) ?_)
    case cn => omega
    case cb => rw [HZ2.out]; omega
    intro w2 hown hgr
    obtain ⟨BASE, hBASE⟩ : ∃ BASE, BASE = w1.heap.size := ⟨_, rfl⟩
    have hbs0 : Bs BASE w1 w2 (.slice (some ⟨BASE, 0, none⟩) 0 n) [] := by
      rw [hBASE]
      exact ⟨hown, (Below.refl _ _).grown hgr (Nat.le_refl _) (fun k hk => by cases hk), hgr.size⟩
    rw [← hBASE]
    have HBASE := Lib.hid hBASE
    clear hown hgr hBASE
    go_wp2_with fail
    rw [← HU.out]
    go_loopw [7, 8] (fun v i wr => ∃ (k : Nat) (l : L), i = .int .i64 k ∧ k ≤ u.size ∧ Bs BASE w1 wr v l ∧ l.length ≤ k ∧ Hid (plainGo u.data.toList = l ++ plainGo (u.data.toList.drop k))) (fun _ i _ => u.size - (intOf i).toNat)
    case atStart => exact ⟨0, [], rfl, Nat.zero_le _, hbs0, Nat.le_refl _, by show _ = _; rw [List.drop_zero]; rfl⟩
    case round =>
      obtain ⟨k, l, rfl, hk, hbs, hlk, hrel⟩ := hrel
      by_cases hlt : k < u.size
      · have ht := Lib.hid (tail_list u k)
        have hdk := drop_at u k hlt
        cases hc : (Lib.hasPrefix (u.data.toList.drop k) [92, 39] || Lib.hasPrefix (u.data.toList.drop k) [92, 92])
        · have H1 : Hid (Lib.hasPrefix (u.data.toList.drop k) [92, 39] = false) := by show _ = _; rw [Bool.or_eq_false_iff] at hc; exact hc.1
          have H2 : Hid (Lib.hasPrefix (u.data.toList.drop k) [92, 92] = false) := by show _ = _; rw [Bool.or_eq_false_iff] at hc; exact hc.2
          have HS : Hid (plainGo (u.data.toList.drop k) = u[k] :: plainGo (u.data.toList.drop (k + 1))) := by show _ = _; rw [hdk]; exact plain_other _ _ (by rw [← hdk]; exact hc)
          clear hc hdk
          go_wp2_with (first
            | (go_at_call 28; ((with_reducible refine (hasPrefix_b _ ⟨#[92, 39]⟩ false _ (by rw [ht.out]; exact H1.out)).mono ?_); rintro e w' ⟨rfl, rfl⟩))
            | (go_at_call 28; ((with_reducible refine (hasPrefix_b _ ⟨#[92, 92]⟩ false _ (by rw [ht.out]; exact H2.out)).mono ?_); rintro e w' ⟨rfl, rfl⟩))
            | (at_builtin; refine wpList_append_own _ rfl _ _ 55 rfl BASE 5 i0 _ 1 1 Tryz.underlying55 HI.out HZ0.out HZ1.out HZ2.out rfl (by decide) _ _ _ rfl (hbs.alloc _).own ⟨wr.heap.size, 0, none⟩ 1 1 [.int .u8 u[k].toNat] rfl rfl (one_cell _ _ _) (by intro x hx; simp at hx; subst hx; rfl) (by unfold maxLen; omega) (by omega) (hbs.alloc _).base ?_))
          intro v1 w3 hown1 hg1 _
          have hbs1 : Bs BASE w1 w3 v1 (l ++ [u[k]]) := (hbs.alloc _).grown hown1 hg1
          clear hown1 hg1
          go_wp2_with fail
          go_roundw
          case rel => exact ⟨k + 1, l ++ [u[k]], by go_num, by omega, hbs1, by simp; omega, by show _ = _; rw [hrel.out, HS.out]; simp⟩
          case measure => simp [intOf]; omega
        · obtain ⟨c, hc1, hc2⟩ := plain_esc _ hc
          have hk1 : k + 1 < u.size := by
            rw [List.getElem?_drop] at hc1
            have := (List.getElem?_eq_some_iff.1 hc1).1
            rw [← Lib.size_eq] at this
            exact this
          have hcu : u[k + 1] = c := by
            rw [List.getElem?_drop, List.getElem?_eq_getElem (by rw [← Lib.size_eq]; exact hk1)] at hc1
            exact Option.some.inj hc1
          have HS : Hid (plainGo (u.data.toList.drop k) = u[k + 1] :: plainGo (u.data.toList.drop (k + 2))) := by show _ = _; rw [hc2, hcu, List.drop_drop]
          have hp : Lib.hasPrefix (u.data.toList.drop k) [92, 39] = true ∨ (Lib.hasPrefix (u.data.toList.drop k) [92, 39] = false ∧ Lib.hasPrefix (u.data.toList.drop k) [92, 92] = true) := by
            cases h1 : Lib.hasPrefix (u.data.toList.drop k) [92, 39]
            · right; rw [h1, Bool.false_or] at hc; exact ⟨rfl, hc⟩
            · left; rfl
          clear hc hc1 hc2 hcu hdk
          rcases hp with h1 | ⟨h1, h2⟩
          · have H1 := Lib.hid h1
            have H2 : Hid (Lib.hasPrefix (u.data.toList.drop k) [92, 39] = true) := H1
            clear h1
            go_wp2_with (first
              | (go_at_call 28; ((with_reducible refine (hasPrefix_b _ ⟨#[92, 39]⟩ true _ (by rw [ht.out]; exact H1.out)).mono ?_); rintro e w' ⟨rfl, rfl⟩))
              | (go_at_call 28; ((with_reducible refine (hasPrefix_b _ ⟨#[92, 92]⟩ true _ (by rw [ht.out]; exact H2.out)).mono ?_); rintro e w' ⟨rfl, rfl⟩))
              | (at_builtin; refine wpList_append_own _ rfl _ _ 55 rfl BASE 5 i0 _ 1 1 Tryz.underlying55 HI.out HZ0.out HZ1.out HZ2.out rfl (by decide) _ _ _ rfl (hbs.alloc _).own ⟨wr.heap.size, 0, none⟩ 1 1 [.int .u8 u[k + 1].toNat] rfl rfl (one_cell _ _ _) (by intro x hx; simp at hx; subst hx; rfl) (by unfold maxLen; omega) (by omega) (hbs.alloc _).base ?_))
            intro v1 w3 hown1 hg1 _
            have hbs1 : Bs BASE w1 w3 v1 (l ++ [u[k + 1]]) := (hbs.alloc _).grown hown1 hg1
            clear hown1 hg1
            go_wp2_with fail
            go_roundw
            case rel => exact ⟨k + 2, l ++ [u[k + 1]], by go_num, by omega, hbs1, by simp; omega, by show _ = _; rw [hrel.out, HS.out]; simp⟩
            case measure => simp [intOf]; omega
          · have H1 := Lib.hid h1
            have H2 := Lib.hid h2
            clear h1 h2
            go_wp2_with (first
              | (go_at_call 28; ((with_reducible refine (hasPrefix_b _ ⟨#[92, 39]⟩ false _ (by rw [ht.out]; exact H1.out)).mono ?_); rintro e w' ⟨rfl, rfl⟩))
              | (go_at_call 28; ((with_reducible refine (hasPrefix_b _ ⟨#[92, 92]⟩ true _ (by rw [ht.out]; exact H2.out)).mono ?_); rintro e w' ⟨rfl, rfl⟩))
              | (at_builtin; refine wpList_append_own _ rfl _ _ 55 rfl BASE 5 i0 _ 1 1 Tryz.underlying55 HI.out HZ0.out HZ1.out HZ2.out rfl (by decide) _ _ _ rfl (hbs.alloc _).own ⟨wr.heap.size, 0, none⟩ 1 1 [.int .u8 u[k + 1].toNat] rfl rfl (one_cell _ _ _) (by intro x hx; simp at hx; subst hx; rfl) (by unfold maxLen; omega) (by omega) (hbs.alloc _).base ?_))
            intro v1 w3 hown1 hg1 _
            have hbs1 : Bs BASE w1 w3 v1 (l ++ [u[k + 1]]) := (hbs.alloc _).grown hown1 hg1
            clear hown1 hg1
            go_wp2_with fail
            go_roundw
            case rel => exact ⟨k + 2, l ++ [u[k + 1]], by go_num, by omega, hbs1, by simp; omega, by show _ = _; rw [hrel.out, HS.out]; simp⟩
            case measure => simp [intOf]; omega
      · have hdk : Hid (plainGo u.data.toList = l) := by show _ = _; rw [hrel.out, drop_nil u k (by omega)]; simp [plainGo]
        have hcv := hbs.str
        have hbb := hbs.below
        clear hbs
        go_wp2_with fail
        refine (wtext_any _ _).mono ?_
        rintro e w4 ⟨rfl, hb5⟩
        have hbr : Below w1.heap.size w1 wr := by rw [← HBASE.out]; exact hbb
        have h23 := (h21.below hbr).below hb5
        have hb6 := (hb2.trans (hbr.mono (by have := h21.flt.lt; omega))).trans (hb5.mono (by have := (h21.below hbr).flt.lt; omega))
        clear h21 hb2 hb5 hbr hbb hcv
        have h21 := h23
        have hb2 := hb6
        clear h23 hb6
        unfold tokV textT
        obtain ⟨⟨c0, c1, c2, c3, c4, c5⟩, ⟨f0, f1, f2, f3, f4, f5⟩, ⟨d0, d1, g0, g1⟩, hl⟩ := h21.facts
        go_wp2_with fail
        exact bodyPost_ret (v := okV 5 ⟨l.toArray⟩ 0 (.slice none 0 0) (1 + n + 1)) (by simp [results, Tryz.results74, go_sem, c0, c1, c2, c3, c4, c5, d0, d1]) rfl ⟨ret_ok (ps := []) (s := ⟨l.toArray⟩) (n := n + 2) _ (by rw [HR.out, hdk.out]) (by omega), by rw [← HB.out]; exact below_two hb2 (Nat.le_refl _) _ _ _ _ _ _ _ _⟩
end Go.Proofs.YtjcldgogjgchiaaGreatDoor
