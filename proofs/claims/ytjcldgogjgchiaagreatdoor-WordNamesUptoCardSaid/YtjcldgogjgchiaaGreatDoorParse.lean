/-
  What strconv.ParseInt answers at 64 bits over digits alone, at base 10 and at base 16.
-/
import Derived.Test.YtjcldgogjgchiaaGreatDoorShelf
import Derived.Test.YtjcldgogjgchiaaGreatDoorWords
import Derived.Shelf.Strconv.ParseIntPublic10
import Derived.BigCall
import Derived.BigGuard
import Derived.Lib.IfaceNeq
namespace Go.Proofs.YtjcldgogjgchiaaGreatDoor
open Go Go.RowKit Cutting Wording

theorem hide {p : Prop} (h : p) : Hid p := h
theorem unhide {p : Prop} (h : Hid p) : p := h
theorem valGo (base : Nat) (s : L) : ∀ a, s.foldl (fun n b => n * base + hexOf b) a = s.foldl (fun n b => n * base + hexOf b) a := fun _ => rfl
def valA (base a : Nat) (s : L) : Nat := s.foldl (fun n b => n * base + hexOf b) a
theorem valA_ge (base : Nat) (hb : 1 ≤ base) (s : L) : ∀ a, a ≤ valA base a s := by
  induction s with
  | nil => intro a; exact Nat.le_refl _
  | cons b r ih =>
    intro a
    have h1 : a ≤ a * base := Nat.le_mul_of_pos_right _ hb
    exact Nat.le_trans (by omega) (ih (a * base + hexOf b))
theorem hexOf_lt (b : UInt8) (h : hexB b = true) : hexOf b < 16 := by
  rw [← hexR_b] at h
  have e1 : digB b = digR b.toNat := (digR_b b).symm
  have e2 : (97 ≤ b) = (97 ≤ b.toNat) := by simp [UInt8.le_iff_toNat_le]
  simp only [hexOf, e1, e2]
  simp only [hexR, digR, Bool.or_eq_true, Bool.and_eq_true, decide_eq_true_eq] at h ⊢
  split
  · omega
  · split <;> omega

/- ---- base 10 -/
theorem parse_dec (s : L) (hs : s ≠ []) (hd : ∀ b ∈ s, digB b = true) :
    (valN 10 s < 2 ^ 63 → Lib.parseIntB 64 s = .ok (valN 10 s : Int)) ∧ (2 ^ 63 ≤ valN 10 s → Lib.parseIntB 64 s = .range) := by
  have dig : ∀ b : UInt8, digB b = true → 48 ≤ b.toNat ∧ b.toNat ≤ 57 ∧ hexOf b = b.toNat - 48 := by
    intro b hb
    have h2 := hb
    rw [← digR_b] at h2
    simp only [digR, Bool.and_eq_true, decide_eq_true_eq] at h2
    exact ⟨h2.1, h2.2, by simp [hexOf, hb]⟩
  have key : ∀ (r : L) (a : Nat), (∀ b ∈ r, digB b = true) → a < 2 ^ 64 → (valA 10 a r < 2 ^ 64 → Lib.parseUintM (2 ^ 64 - 1) a r = .ok (valA 10 a r)) ∧ (2 ^ 64 ≤ valA 10 a r → Lib.parseUintM (2 ^ 64 - 1) a r = .range) := by
    intro r
    induction r with
    | nil => intro a _ ha; exact ⟨fun _ => rfl, fun h => by simp [valA] at h; omega⟩
    | cons b r ih =>
      intro a hr ha
      obtain ⟨d1, d2, d3⟩ := dig b (hr b (by simp))
      have e : valA 10 a (b :: r) = valA 10 (a * 10 + (b.toNat - 48)) r := by unfold valA; rw [List.foldl_cons, d3]
      have hge := valA_ge 10 (by decide) r (a * 10 + (b.toNat - 48))
      rw [e]
      simp only [Lib.parseUintM, d1, d2, and_self, if_true]
      by_cases h1 : 1844674407370955162 ≤ a
      · rw [if_pos h1]
        exact ⟨fun h => by omega, fun _ => rfl⟩
      · rw [if_neg h1]
        by_cases h2 : 2 ^ 64 - 1 < a * 10 + (b.toNat - 48)
        · rw [if_pos h2]
          exact ⟨fun h => by omega, fun _ => rfl⟩
        · rw [if_neg h2]
          exact ih _ (fun c hc => hr c (by simp [hc])) (by omega)
  have hk := key s 0 hd (by decide)
  have e0 : valA 10 0 s = valN 10 s := rfl
  rw [e0] at hk
  match s, hs with
  | c :: r, _ =>
    obtain ⟨d1, d2, d3⟩ := dig c (hd c (by simp))
    have hu : (if c.toNat = 43 ∨ c.toNat = 45 then r else c :: r) = c :: r := if_neg (by omega)
    have hn : ¬ c.toNat = 45 := by omega
    constructor
    · intro h
      simp only [Lib.parseIntB, hu, Lib.parseUintB]
      rw [if_neg (by simp), hk.1 (by omega)]
      simp [hn]
      omega
    · intro h
      simp only [Lib.parseIntB, hu, Lib.parseUintB]
      rw [if_neg (by simp)]
      by_cases h2 : valN 10 (c :: r) < 2 ^ 64
      · rw [hk.1 h2]; simp [hn]; omega
      · rw [hk.2 (by omega)]

/- ---- base 16 -/
def end16 (v : Nat) : Value := if v < 2 ^ 64 then .tuple #[.int .u64 v, .nilIface] else .tuple #[.int .u64 18446744073709551615, .iface 137 (.int .i64 1)]
theorem lower_b (c l : Int) (w : World) (h : bits .or .u8 c 32 = l) : Calls Tryz.prog 124 #[.int .u8 c] w fun e w' => e = .returned (.int .u8 l) ∧ w = w' := by
  refine (Tryz.internal_strconv_lower c w).mono ?_
  rintro e w' ⟨rfl, rfl⟩
  exact ⟨by rw [h], rfl⟩

theorem letter_low (c : UInt8) (h : hexB c = true) (hd : digB c = false) : bits .or .u8 (c.toNat : Int) 32 = (87 + hexOf c : Int) ∧ 10 ≤ hexOf c ∧ hexOf c < 16 := by
  have key : ∀ n : Fin 256, hexB (UInt8.ofNat n.val) = true → digB (UInt8.ofNat n.val) = false → bits .or .u8 ((n.val : Nat) : Int) 32 = (87 + hexOf (UInt8.ofNat n.val) : Int) ∧ 10 ≤ hexOf (UInt8.ofNat n.val) ∧ hexOf (UInt8.ofNat n.val) < 16 := by decide +kernel
  have h1 := key ⟨c.toNat, c.toNat_lt⟩
  simp only [UInt8.ofNat_toNat] at h1
  exact h1 h hd
theorem digit_not (c : UInt8) (hd : digB c = false) (_h : hexB c = true) : c.toNat < 48 ∨ 57 < c.toNat := by
  rw [← digR_b] at hd
  simp only [digR, Bool.and_eq_false_iff, decide_eq_false_iff_not] at hd
  omega
theorem digit_is (c : UInt8) (hd : digB c = true) : 48 ≤ c.toNat ∧ c.toNat ≤ 57 ∧ hexOf c = c.toNat - 48 := by
  have h2 := hd
  rw [← digR_b] at h2
  simp only [digR, Bool.and_eq_true, decide_eq_true_eq] at h2
  exact ⟨h2.1, h2.2, by simp [hexOf, hd]⟩
theorem hex_not95 (c : UInt8) (h : hexB c = true) : c.toNat ≠ 95 := by
  rw [← hexR_b] at h
  simp only [hexR, digR, Bool.or_eq_true, Bool.and_eq_true, decide_eq_true_eq] at h
  omega

set_option maxHeartbeats 32000000 in
set_option maxRecDepth 100000 in
theorem parseUint16_any (t : ByteArray) (hne : t.size ≠ 0) (hmax : t.size ≤ 4294967280) (hh : ∀ b ∈ t.data.toList, hexB b = true) (w : World) :
    Calls Tryz.prog 114 #[.string t, .int .i64 16, .int .i64 64] w fun e w' => e = .returned (end16 (valN 16 t.data.toList)) ∧ w' = Lib.bytesWorld w 5 t := by
  have hemp : t.toList.isEmpty = false := by
    rw [← decide_eq_emptyBytes]
    exact decide_eq_false (fun h => hne (by rw [h]; rfl))
  have hcv := Lib.run_convert_string_bytes (P := Tryz.prog) w 9 55 5 t (u := .string) Tryz.underlying9 Tryz.underlying55 Tryz.underlying5
  have hB : ∀ j, j < t.size → (Lib.bytesWorld w 5 t).cell? ⟨w.heap.size, j, none⟩ = some (.int .u8 (t.data.toList.getD j 0).toNat) := fun j hj => Lib.bytesWorld_cell w 5 t j hj
  obtain ⟨W1, hW1⟩ : ∃ W1, W1 = Lib.bytesWorld w 5 t := ⟨_, rfl⟩
  rw [← hW1] at hcv hB ⊢
  clear hW1
  obtain ⟨bs, hL⟩ : ∃ bs, bs = t.data.toList := ⟨_, rfl⟩
  have hLn : bs.length = t.size := by rw [hL, Lib.size_eq]
  rw [← hL] at hB hh ⊢
  clear hL
  have hmv : IntKind.u64.wrap (IntKind.u64.wrap 18446744073709551616 - 1) = 18446744073709551615 := by
    rw [IntKind.wrap_u64, IntKind.wrap_u64]
    decide
  go_enter Tryz.func114, Tryz.ntmps114
  go_wp2
  go_loop [12, 13, 101] (fun vu vn vi => ∃ (k acc : Nat) (a : Int), vu = .bool false ∧ vn = .int .u64 a ∧ vi = .int .i64 k ∧ k ≤ t.size ∧ Hid (a = (acc : Int) ∧ acc < 18446744073709551616 ∧ valN 16 bs = valA 16 acc (bs.drop k)))
    (fun _ _ vi => t.size - (intOf vi).toNat)
  case atStart => exact ⟨0, 0, 0, rfl, rfl, rfl, by omega, rfl, by omega, rfl⟩
  case round =>
    obtain ⟨k, acc, a, rfl, rfl, rfl, hk, hhh⟩ := hrel
    obtain ⟨ha, hacc, hdec⟩ := hhh.out
    clear hhh
    have a0 : 0 ≤ a := by omega
    have a1 : a < 18446744073709551616 := by omega
    by_cases hkn : k < t.size
    · have hc := hB k hkn
      have hdrop : bs.drop k = bs[k]'(by omega) :: bs.drop (k + 1) := List.drop_eq_getElem_cons (by omega)
      have hget : bs.getD k 0 = bs[k]'(by omega) := by simp [List.getD, List.getElem?_eq_getElem (show k < bs.length by omega)]
      have hhex := hh (bs[k]'(by omega)) (List.getElem_mem _)
      rw [hdrop] at hdec
      rw [hget] at hc
      generalize bs[k]'(by omega) = c at hc hdec hhex
      have hc256 : c.toNat < 256 := c.toNat_lt
      have hst : valA 16 acc (c :: bs.drop (k + 1)) = valA 16 (acc * 16 + hexOf c) (bs.drop (k + 1)) := rfl
      rw [hst] at hdec
      have hge := valA_ge 16 (by decide) (bs.drop (k + 1)) (acc * 16 + hexOf c)
      have hx16 := hexOf_lt c hhex
      have h95 := hex_not95 c hhex
      clear hB hdrop hget hh hst
      obtain ⟨d, hd⟩ : ∃ d, d = hexOf c := ⟨_, rfl⟩
      rw [← hd] at hdec hge hx16
      cases hdig : digB c
      · obtain ⟨hlow, hlo, _⟩ := letter_low c hhex hdig
        have hnd := digit_not c hdig hhex
        rw [← hd] at hlow hlo
        have HLOW := Lib.hid hlow
        clear hlow hd hdig hhex
        by_cases hcut : 1152921504606846976 ≤ acc
        · have hF : Hid (end16 (valN 16 bs) = .tuple #[.int .u64 18446744073709551615, .iface 137 (.int .i64 1)]) := by
            show _ = _; rw [end16, if_neg (by omega)]
          have icut : 1152921504606846976 ≤ a := by omega
          clear hcut hacc ha hdec hge
          rcases hnd with hnd | hnd
          all_goals
            go_wp2_with (go_at_call 124; refine (lower_b _ (87 + d) _ HLOW.out).mono ?_; rintro e w' ⟨rfl, rfl⟩)
            go_ret2
            exact ⟨by rw [hF.out]; try rfl, rfl⟩
        · have iov : a * 16 + (d : Int) < 18446744073709551616 := by omega
          have HN : Hid (a * 16 + (d : Int) = ((acc * 16 + d : Nat) : Int) ∧ acc * 16 + d < 18446744073709551616 ∧ valN 16 bs = valA 16 (acc * 16 + d) (bs.drop (k + 1))) := Lib.hid ⟨by omega, by omega, hdec⟩
          have icut : a < 1152921504606846976 := by omega
          clear hcut hacc hdec hge ha
          rcases hnd with hnd | hnd
          all_goals
            go_wp2_with (go_at_call 124; refine (lower_b _ (87 + d) _ HLOW.out).mono ?_; rintro e w' ⟨rfl, rfl⟩)
            refine ⟨⟨k + 1, acc * 16 + d, a * 16 + (d : Int), rfl, (by first | rfl | (congr 1; omega)), (by first | rfl | (congr 1; omega)), by omega, HN⟩, by simp [intOf]; omega⟩
      · obtain ⟨hd0, hd1, hd2⟩ := digit_is c hdig
        rw [← hd] at hd2
        clear hd hdig hhex
        by_cases hcut : 1152921504606846976 ≤ acc
        · have hF : Hid (end16 (valN 16 bs) = .tuple #[.int .u64 18446744073709551615, .iface 137 (.int .i64 1)]) := by
            show _ = _; rw [end16, if_neg (by omega)]
          have icut : 1152921504606846976 ≤ a := by omega
          clear hcut hacc ha hdec hge hd2
          go_wp2
          go_ret2
          exact ⟨by rw [hF.out]; try rfl, rfl⟩
        · have iov : a * 16 + ((c.toNat : Int) - 48) < 18446744073709551616 := by omega
          have HN : Hid (a * 16 + ((c.toNat : Int) - 48) = ((acc * 16 + d : Nat) : Int) ∧ acc * 16 + d < 18446744073709551616 ∧ valN 16 bs = valA 16 (acc * 16 + d) (bs.drop (k + 1))) := Lib.hid ⟨by omega, by omega, hdec⟩
          have icut : a < 1152921504606846976 := by omega
          clear hcut hacc hdec hge ha hd2
          go_wp2
          refine ⟨⟨k + 1, acc * 16 + d, a * 16 + ((c.toNat : Int) - 48), rfl, (by first | rfl | (congr 1; omega)), (by first | rfl | (congr 1; omega)), by omega, HN⟩, by simp [intOf]; omega⟩
    · have hF : Hid (end16 (valN 16 bs) = .tuple #[.int .u64 a, .nilIface]) := by
        show _ = _
        rw [hdec, List.drop_eq_nil_of_le (by omega)]
        show end16 acc = _
        rw [end16, if_pos (by omega), ha]
      clear hacc a0 a1 ha hdec
      go_wp2
      go_ret2
      exact ⟨by rw [hF.out]; try rfl, rfl⟩

set_option maxHeartbeats 4000000 in
set_option maxRecDepth 100000 in
theorem iparse16_any (s : ByteArray) (hne : s.size ≠ 0) (hmax : s.size ≤ 4294967280) (hh : ∀ b ∈ s.data.toList, hexB b = true) (w : World) :
    (valN 16 s.data.toList < 2 ^ 63 → Calls Tryz.prog 105 #[.string s, .int .i64 16, .int .i64 64] w fun e w' => e = .returned (.tuple #[.int .i64 (valN 16 s.data.toList), .nilIface]) ∧ w' = Lib.bytesWorld w 5 s) ∧
    (2 ^ 63 ≤ valN 16 s.data.toList → Calls Tryz.prog 105 #[.string s, .int .i64 16, .int .i64 64] w fun e w' => e = .returned (.tuple #[.int .i64 9223372036854775807, .iface 137 (.int .i64 1)]) ∧ w' = Lib.bytesWorld w 5 s) := by
  have hemp : s.toList.isEmpty = false := by
    rw [← decide_eq_emptyBytes]
    exact decide_eq_false (fun h => hne (by rw [h]; rfl))
  have hpos : 0 < s.size := by omega
  have hq1 : ∀ W, (binOp .neq 73 (.iface 137 (.int .i64 1)) (.iface 137 (.int .i64 1))).run Tryz.prog W = .ok (.bool false) W := fun W => Lib.run_neq_iface_int W 1 1 Tryz.underlying73 (by kernel_rfl) Tryz.underlying137
  have hmem : s[0] ∈ s.data.toList := by
    have hd := drop_at s 0 hpos
    rw [List.drop_zero] at hd
    rw [hd]; simp
  have h0 := hh _ hmem
  have hs43 : ((s[0].toNat : Int) == 43) = false := by
    rw [beq_eq_false_iff_ne]; intro h
    rw [u8_of _ 43 h] at h0; revert h0; decide
  have hs45 : ((s[0].toNat : Int) == 45) = false := by
    rw [beq_eq_false_iff_ne]; intro h
    rw [u8_of _ 45 h] at h0; revert h0; decide
  have hU := parseUint16_any s hne hmax hh w
  obtain ⟨v, hv⟩ : ∃ v, v = valN 16 s.data.toList := ⟨_, rfl⟩
  rw [← hv] at hU ⊢
  clear hv hh h0 hmem
  constructor
  · intro hlt
    obtain ⟨a, ha⟩ : ∃ a : Int, a = (v : Int) := ⟨_, rfl⟩
    have hU' : Calls Tryz.prog 114 #[.string s, .int .i64 16, .int .i64 64] w fun e w' => e = .returned (.tuple #[.int .u64 a, .nilIface]) ∧ w' = Lib.bytesWorld w 5 s := by
      have e : end16 v = .tuple #[.int .u64 a, .nilIface] := by rw [end16, if_pos (by omega), ha]
      rw [e] at hU; exact hU
    have a0 : 0 ≤ a := by omega
    have a1 : a < 9223372036854775808 := by omega
    rw [← ha]
    have HU := hide hU'
    clear hU hU' ha hlt
    go_enter Tryz.func105, Tryz.ntmps105
    go_wp2_with (go_at_call 114; refine (unhide HU).mono ?_; rintro e w1 ⟨rfl, rfl⟩)
    go_wp2
    go_ret2
    exact ⟨rfl, rfl⟩
  · intro hge
    by_cases h64 : v < 2 ^ 64
    · obtain ⟨a, ha⟩ : ∃ a : Int, a = (v : Int) := ⟨_, rfl⟩
      have hU' : Calls Tryz.prog 114 #[.string s, .int .i64 16, .int .i64 64] w fun e w' => e = .returned (.tuple #[.int .u64 a, .nilIface]) ∧ w' = Lib.bytesWorld w 5 s := by
        have e : end16 v = .tuple #[.int .u64 a, .nilIface] := by rw [end16, if_pos h64, ha]
        rw [e] at hU; exact hU
      have a0 : 9223372036854775808 ≤ a := by omega
      have a1 : a ≤ 18446744073709551615 := by omega
      have HU := hide hU'
      clear hU hU' ha hge h64
      go_enter Tryz.func105, Tryz.ntmps105
      go_wp2_with (go_at_call 114; refine (unhide HU).mono ?_; rintro e w1 ⟨rfl, rfl⟩)
      go_wp2
      go_ret2
      exact ⟨rfl, rfl⟩
    · have hU' : Calls Tryz.prog 114 #[.string s, .int .i64 16, .int .i64 64] w fun e w' => e = .returned (.tuple #[.int .u64 18446744073709551615, .iface 137 (.int .i64 1)]) ∧ w' = Lib.bytesWorld w 5 s := by
        have e : end16 v = .tuple #[.int .u64 18446744073709551615, .iface 137 (.int .i64 1)] := by rw [end16, if_neg h64]
        rw [e] at hU; exact hU
      have HU := hide hU'
      clear hU hU' hge h64
      go_enter Tryz.func105, Tryz.ntmps105
      go_wp2_with (go_at_call 114; refine (unhide HU).mono ?_; rintro e w1 ⟨rfl, rfl⟩)
      go_wp2
      go_ret2
      exact ⟨rfl, rfl⟩

/-- What the library holds as its error of the range. -/
def RangeVar (w : World) : Prop := ∃ ev, w.cell? ⟨7, 0, none⟩ = some ev ∧ (ev = .nilIface ∨ ∃ te pe, ev = .iface te pe)
theorem RangeVar.lt {w : World} (h : RangeVar w) : 7 < w.heap.size := by
  obtain ⟨m, hm, _⟩ := h
  rcases Nat.lt_or_ge 7 w.heap.size with h0 | h0
  · exact h0
  · have : w.heap[7]? = none := Array.getElem?_eq_none (by omega)
    simp [World.cell?, this] at hm
theorem RangeVar.below {B : Nat} {w w' : World} (h : RangeVar w) (hb : Below B w w') (hB : 7 < B) : RangeVar w' := by
  obtain ⟨m, hm, h2⟩ := h
  exact ⟨m, by rw [hb.cell (p := ⟨7, 0, none⟩) hB]; exact hm, h2⟩

theorem parse_ok (s : ByteArray) (base : Nat) (w : World) (hne : s.size ≠ 0) (hmax : s.size ≤ 4294967280) (h : (base = 10 ∧ ∀ b ∈ s.data.toList, digB b = true) ∨ (base = 16 ∧ ∀ b ∈ s.data.toList, hexB b = true))
    (hv : valN base s.data.toList < 2 ^ 63) :
    Calls Tryz.prog 93 #[.string s, .int .i64 base, .int .i64 64] w fun e w' => e = .returned (.tuple #[.int .i64 (valN base s.data.toList), .nilIface]) ∧ Below w.heap.size w w' := by
  have hne' : s.data.toList ≠ [] := fun h => hne (by rw [Lib.size_eq, h]; rfl)
  rcases h with ⟨rfl, hd⟩ | ⟨rfl, hh⟩
  · refine (Tryz.strconv_ParseInt_10_at64_ok s (by omega) _ ((parse_dec _ hne' hd).1 hv) w).mono ?_
    rintro e w' ⟨rfl, hw⟩
    refine ⟨rfl, ?_⟩
    rcases hw with rfl | ⟨t, rfl⟩
    · exact Below.refl _ _
    · exact Lib.bytesWorld_below _ _ _
  · have hI := hide ((iparse16_any s hne hmax hh w).1 hv)
    obtain ⟨a, ha⟩ : ∃ a : Int, a = (valN 16 s.data.toList : Int) := ⟨_, rfl⟩
    rw [← ha] at hI ⊢
    clear ha hv hh
    go_enter Tryz.func93, Tryz.ntmps93
    go_wp2_with fail
    refine (unhide hI).mono ?_
    rintro e w1 ⟨rfl, rfl⟩
    go_wp2_with fail
    go_ret2
    exact ⟨rfl, Lib.bytesWorld_below _ _ _⟩
def SomeErr (w : World) (e : Ending) (w' : World) : Prop := ∃ (N : Nat) (z : Int), e = .returned (.tuple #[.int .i64 z, .iface 141 (.pointer (some ⟨N, 0, none⟩))]) ∧ Below w.heap.size w w'
theorem parse_bad (s : ByteArray) (base : Nat) (w : World) (hne : s.size ≠ 0) (hmax : s.size ≤ 4294967280) (h : (base = 10 ∧ ∀ b ∈ s.data.toList, digB b = true) ∨ (base = 16 ∧ ∀ b ∈ s.data.toList, hexB b = true))
    (hv : 2 ^ 63 ≤ valN base s.data.toList) (hR : RangeVar w) :
    Calls Tryz.prog 93 #[.string s, .int .i64 base, .int .i64 64] w (SomeErr w) := by
  have hne' : s.data.toList ≠ [] := fun h => hne (by rw [Lib.size_eq, h]; rfl)
  obtain ⟨ev, hc, hev⟩ := hR
  rcases h with ⟨rfl, hd⟩ | ⟨rfl, hh⟩
  · refine (Tryz.strconv_ParseInt_10_at64_range s (by omega) ((parse_dec _ hne' hd).2 hv) ev w hc hev).mono ?_
    rintro e w' ⟨N, rfl, h1, h2, h3⟩
    exact ⟨N, _, rfl, h3⟩
  · have hI := hide ((iparse16_any s hne hmax hh w).2 hv)
    have hlt : 7 < w.heap.size := RangeVar.lt ⟨ev, hc, hev⟩
    have HC := Lib.hid hc
    have HE := Lib.hid hev
    clear hv hh hc hev
    go_enter Tryz.func93, Tryz.ntmps93
    go_wp2_with fail
    refine (unhide hI).mono ?_
    rintro e w1 ⟨rfl, hw1⟩
    have hb1 : Below w.heap.size w w1 := by rw [hw1]; exact Lib.bytesWorld_below _ _ _
    have HC1 : Hid (w1.cell? ⟨7, 0, none⟩ = some ev) := by show _ = _; rw [hb1.cell (p := ⟨7, 0, none⟩) hlt]; exact HC.out
    clear hw1
    go_wp2_with fail
    refine (Tryz.strconv_toError_range ⟨#[80, 97, 114, 115, 101, 73, 110, 116]⟩ s 16 64 ev _ (by omega) HC1.out HE.out).mono ?_
    rintro e w2 ⟨N, rfl, h1, h2, h3⟩
    go_wp2_with fail
    go_ret2
    exact ⟨N, _, rfl, hb1.trans (h3.mono hb1.size)⟩
end Go.Proofs.YtjcldgogjgchiaaGreatDoor
