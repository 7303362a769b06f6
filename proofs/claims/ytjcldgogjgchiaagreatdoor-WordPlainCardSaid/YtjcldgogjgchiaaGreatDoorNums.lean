/-
  Contracts of package word's numberParts and number, and what they want of a world.
-/
import Derived.Test.YtjcldgogjgchiaaGreatDoorToks
import Derived.Test.YtjcldgogjgchiaaGreatDoorFold
import Derived.IntWalk
namespace Go.Proofs.YtjcldgogjgchiaaGreatDoor
open Go Go.RowKit Cutting Wording

/-- What the walks want of a world: what the library's variables hold. -/
structure Met (w : World) : Prop where
  hm : HasMax w
  hF : FoldTab w
  hT : Tabs w
  hR : RangeVar w
theorem Met.lt {w : World} (h : Met w) : 7 < w.heap.size := h.hR.lt
theorem Met.below {B : Nat} {w w' : World} (h : Met w) (hb : Below B w w') (hB : 7 < B) : Met w' :=
  ⟨h.hm.below hb (by omega), h.hF.below hb (by omega),
   ⟨fun c hc => (hb.cell (p := ⟨0, c, none⟩) (by show 0 < B; omega)).trans (h.hT.1 c hc),
    fun i hi => ⟨(hb.cell (p := ⟨1, 2 * i, none⟩) (by show 1 < B; omega)).trans (h.hT.2 i hi).1, (hb.cell (p := ⟨1, 2 * i + 1, none⟩) (by show 1 < B; omega)).trans (h.hT.2 i hi).2⟩⟩,
   h.hR.below hb hB⟩

theorem numN_le (s : L) (h : s ≠ []) (hd : s.head?.map digB = some true) : 1 ≤ numN s ∧ numN s ≤ s.length := by
  have h0 : 1 ≤ s.length := List.length_pos_iff.2 h
  unfold numN
  split
  · have := spanN_le hexB (s.drop 2)
    rw [List.length_drop] at this
    next hx =>
    simp only [isHex, Bool.and_eq_true, Bool.or_eq_true, decide_eq_true_eq] at hx
    have h2 : 2 ≤ s.length := by
      rcases hx.1 with h1 | h1 <;> exact hasPrefix_length h1
    omega
  · split
    · omega
    · have := spanN_le digB s
      cases s with
      | nil => exact absurd rfl h
      | cons b r =>
        have hb : digB b = true := by simpa using hd
        have := span_pos digB b r hb
        omega

def partsV (s : L) : Value := .tuple #[.int .i64 (numN s), .string ⟨(numDigits s).toArray⟩, .int .i64 (numBase s)]
theorem ret_parts {s : L} {n : Nat} {z b : Int} {t : ByteArray} (h : numN s = n ∧ numDigits s = t.data.toList ∧ (numBase s : Int) = b) (hz : z = n) : Ending.returned (.tuple #[.int .i64 z, .string t, .int .i64 b]) = .returned (partsV s) := by
  obtain ⟨h1, h2, h3⟩ := h
  subst hz
  unfold partsV
  rw [h1, h2, h3]
theorem numberParts_any (s : ByteArray) (w : World) (h0 : 0 < s.size) (hs : s.size ≤ 4294967280) :
    Calls Tryz.prog 92 #[.string s] w fun e w' => e = .returned (partsV s.data.toList) ∧ Below w.heap.size w w' := by
  have h8 : s[0].toNat < 256 := s[0].toNat_lt
  obtain ⟨n, hn⟩ : ∃ n, n = spanN hexB (s.data.toList.drop 2) := ⟨_, rfl⟩
  have hnl := spanN_le hexB (s.data.toList.drop 2)
  rw [← hn, List.length_drop, ← Lib.size_eq] at hnl
  have ht := Lib.hid (tail_list s 2)
  have hsz : Hid ((s.extract 2 s.size).size ≤ 4294967280) := by show _ ≤ _; rw [Lib.size_eq, tail_list, List.length_drop, ← Lib.size_eq]; omega
  have Hn := Lib.hid hn.symm
  obtain ⟨m, hm⟩ : ∃ m, m = spanN digB s.data.toList := ⟨_, rfl⟩
  have hml := spanN_le digB s.data.toList
  rw [← hm, ← Lib.size_eq] at hml
  have Hm := Lib.hid hm.symm
  have hhd := head_at s h0
  -- no mark, or nothing behind it: the decimal way
  have HD : isHex s.data.toList = false → Hid (numN s.data.toList = (if s[0] = 48 then 1 else m) ∧ numDigits s.data.toList = s.data.toList.take (if s[0] = 48 then 1 else m) ∧ numBase s.data.toList = 10) := by
    intro hx
    have e : numN s.data.toList = (if s[0] = 48 then 1 else m) := by
      rw [numN, hx, hhd, ← hm]
      simp
    refine ⟨e, ?_, by rw [numBase, hx]; rfl⟩
    rw [numDigits, hx, e]; rfl
  cases hx : (Lib.hasPrefix s.data.toList [48, 120] || Lib.hasPrefix s.data.toList [48, 88])
  · have h1 : Hid (Lib.hasPrefix s.data.toList [48, 120] = false) := by show _ = _; rw [Bool.or_eq_false_iff] at hx; exact hx.1
    have h2 : Hid (Lib.hasPrefix s.data.toList [48, 88] = false) := by show _ = _; rw [Bool.or_eq_false_iff] at hx; exact hx.2
    have HX := HD (by rw [isHex, hx]; rfl)
    clear hx HD hn hm hhd
    by_cases h48 : s[0] = 48
    · have t1 : ((s[0].toNat : Int) != 48) = false := by rw [h48]; rfl
      have HP : Hid (numN s.data.toList = 1 ∧ numDigits s.data.toList = (s.extract 0 1).data.toList ∧ (numBase s.data.toList : Int) = 10) := by
        show _ ∧ _
        have := HX.out
        rw [if_pos h48] at this
        exact ⟨this.1, by rw [this.2.1, extract_pre], by rw [this.2.2]; rfl⟩
      clear HX h48
      go_enter Tryz.func92, Tryz.ntmps92
      go_wp2_with (first
        | (go_at_call 28; ((with_reducible refine (hasPrefix_b _ ⟨#[48, 120]⟩ false _ h1.out).mono ?_); rintro e w' ⟨rfl, rfl⟩))
        | (go_at_call 28; ((with_reducible refine (hasPrefix_b _ ⟨#[48, 88]⟩ false _ h2.out).mono ?_); rintro e w' ⟨rfl, rfl⟩)))
      go_region
      go_wp2_with fail
      go_ret3
      exact ⟨ret_parts HP.out rfl, (Below.refl _ _).drew⟩
    · have t1 : ((s[0].toNat : Int) != 48) = true := by
        rw [bne_iff_ne]; intro h; exact h48 (u8_of _ 48 h)
      have HP : Hid (numN s.data.toList = m ∧ numDigits s.data.toList = (s.extract 0 m).data.toList ∧ (numBase s.data.toList : Int) = 10) := by
        show _ ∧ _
        have := HX.out
        rw [if_neg h48] at this
        exact ⟨this.1, by rw [this.2.1, extract_pre], by rw [this.2.2]; rfl⟩
      clear HX h48
      go_enter Tryz.func92, Tryz.ntmps92
      go_wp2_with (first
        | (go_at_call 28; ((with_reducible refine (hasPrefix_b _ ⟨#[48, 120]⟩ false _ h1.out).mono ?_); rintro e w' ⟨rfl, rfl⟩))
        | (go_at_call 28; ((with_reducible refine (hasPrefix_b _ ⟨#[48, 88]⟩ false _ h2.out).mono ?_); rintro e w' ⟨rfl, rfl⟩)))
      refine (runLen_isDigit _ _ hs).mono ?_
      rintro e w1 ⟨rfl, hb1⟩
      rw [Hm.out]
      go_wp2_with fail
      have s1 : (m : Int).toNat = m := Int.toNat_natCast _
      have s2 : (m : Int) ≤ (s.size : Int) := by omega
      go_region
      go_wp2_with fail
      go_ret3
      exact ⟨ret_parts HP.out rfl, hb1.drew⟩
  · have h2 : 2 ≤ s.size := by
      rw [Bool.or_eq_true] at hx
      rw [Lib.size_eq]
      rcases hx with h1 | h1 <;> exact hasPrefix_length h1
    have hX : isHex s.data.toList = decide (0 < n) := by rw [isHex, hx, ← hn]; rfl
    have hp : Lib.hasPrefix s.data.toList [48, 120] = true ∨ (Lib.hasPrefix s.data.toList [48, 120] = false ∧ Lib.hasPrefix s.data.toList [48, 88] = true) := by
      cases h1 : Lib.hasPrefix s.data.toList [48, 120]
      · right; rw [h1, Bool.false_or] at hx; exact ⟨rfl, hx⟩
      · left; rfl
    have h48 : s[0] = 48 := by
      have : ∃ c t, s.data.toList = 48 :: c :: t := by
        rcases hp with h1 | ⟨_, h1⟩
        all_goals
          obtain ⟨t, ht⟩ := List.isPrefixOf_iff_prefix.1 h1
          exact ⟨_, _, ht.symm⟩
      obtain ⟨c, t, ht⟩ := this
      rw [ht] at hhd
      simpa using hhd.symm
    by_cases hz : 0 < n
    · have HP : Hid (numN s.data.toList = 2 + n ∧ numDigits s.data.toList = (s.extract 2 (2 + n)).data.toList ∧ (numBase s.data.toList : Int) = 16) := by
        show _ ∧ _
        rw [extract_list, show 2 + n - 2 = n from by omega]
        simp only [numN, numDigits, numBase, hX, hz, decide_true, if_true, ← hn, true_and]
        rfl
      have hn2 : 2 + n ≤ s.size := by omega
      clear hx hX hn hnl h48 HD hm hhd
      have s1 : IntKind.i64.wrap (2 + (n : Int)) = 2 + (n : Int) := IntWalk.i64_in _ (by omega)
      have s2 : 0 ≤ 2 + (n : Int) := by omega
      have s3 : (2 + (n : Int)).toNat = 2 + n := by omega
      have s4 : (2 + (n : Int)) ≤ (s.size : Int) := by omega
      have S1 := Lib.hid s1
      have S3 := Lib.hid s3
      clear s1 s3
      rcases hp with h1 | ⟨h1, h3⟩
      · have H1 := Lib.hid h1
        clear h1
        go_enter Tryz.func92, Tryz.ntmps92
        go_wp2_with (go_at_call 28; ((with_reducible refine (hasPrefix_b _ ⟨#[48, 120]⟩ true _ H1.out).mono ?_); rintro e w' ⟨rfl, rfl⟩))
        refine (runLen_isHex _ _ hsz.out).mono ?_
        rintro e w1 ⟨rfl, hb1⟩
        rw [ht.out, Hn.out]
        go_wp2_with fail
        have s1 := S1.out
        have s3 := S3.out
        go_region
        go_wp2_with fail
        go_ret3
        exact ⟨ret_parts HP.out (by omega), hb1.drew⟩
      · have H1 := Lib.hid h1
        have H3 := Lib.hid h3
        clear h1 h3
        go_enter Tryz.func92, Tryz.ntmps92
        go_wp2_with (first
          | (go_at_call 28; ((with_reducible refine (hasPrefix_b _ ⟨#[48, 120]⟩ false _ H1.out).mono ?_); rintro e w' ⟨rfl, rfl⟩))
          | (go_at_call 28; ((with_reducible refine (hasPrefix_b _ ⟨#[48, 88]⟩ true _ H3.out).mono ?_); rintro e w' ⟨rfl, rfl⟩)))
        refine (runLen_isHex _ _ hsz.out).mono ?_
        rintro e w1 ⟨rfl, hb1⟩
        rw [ht.out, Hn.out]
        go_wp2_with fail
        have s1 := S1.out
        have s3 := S3.out
        go_region
        go_wp2_with fail
        go_ret3
        exact ⟨ret_parts HP.out (by omega), hb1.drew⟩
    · have HP : Hid (numN s.data.toList = 1 ∧ numDigits s.data.toList = (s.extract 0 1).data.toList ∧ (numBase s.data.toList : Int) = 10) := by
        show _ ∧ _
        have := (HD (by rw [hX]; simp [hz])).out
        rw [if_pos h48] at this
        exact ⟨this.1, by rw [this.2.1, extract_pre], by rw [this.2.2]; rfl⟩
      have t1 : ((s[0].toNat : Int) != 48) = false := by rw [h48]; rfl
      have hz0 : n = 0 := by omega
      subst hz0
      clear hx hX h48 HD hz hn hnl hm hhd
      rcases hp with h1 | ⟨h1, h3⟩
      · have H1 := Lib.hid h1
        clear h1
        go_enter Tryz.func92, Tryz.ntmps92
        go_wp2_with (go_at_call 28; ((with_reducible refine (hasPrefix_b _ ⟨#[48, 120]⟩ true _ H1.out).mono ?_); rintro e w' ⟨rfl, rfl⟩))
        refine (runLen_isHex _ _ hsz.out).mono ?_
        rintro e w1 ⟨rfl, hb1⟩
        rw [ht.out, Hn.out]
        go_wp2_with fail
        go_region
        go_wp2_with fail
        go_ret3
        exact ⟨ret_parts HP.out rfl, hb1.drew⟩
      · have H1 := Lib.hid h1
        have H3 := Lib.hid h3
        clear h1 h3
        go_enter Tryz.func92, Tryz.ntmps92
        go_wp2_with (first
          | (go_at_call 28; ((with_reducible refine (hasPrefix_b _ ⟨#[48, 120]⟩ false _ H1.out).mono ?_); rintro e w' ⟨rfl, rfl⟩))
          | (go_at_call 28; ((with_reducible refine (hasPrefix_b _ ⟨#[48, 88]⟩ true _ H3.out).mono ?_); rintro e w' ⟨rfl, rfl⟩)))
        refine (runLen_isHex _ _ hsz.out).mono ?_
        rintro e w1 ⟨rfl, hb1⟩
        rw [ht.out, Hn.out]
        go_wp2_with fail
        go_region
        go_wp2_with fail
        go_ret3
        exact ⟨ret_parts HP.out rfl, hb1.drew⟩

theorem tokT_num (s : L) (h : s.head?.map digB = some true) : tokT s =
    if ((s.drop (numN s)).head?.map wordB).getD false then .error (11, 0) else if 2 ^ 63 ≤ valN (numBase s) (numDigits s) then .error (11, 0) else .ok (⟨4, [], valN (numBase s) (numDigits s), []⟩, numN s) := by
  cases s with
  | nil => cases h
  | cons b r =>
    have hb : digB b = true := by simpa using h
    have h1 : b ≠ 36 := by rintro rfl; revert hb; decide
    simp only [tokT, h1, hb, if_false, if_true]
theorem takeWhile_all (p : UInt8 → Bool) (s : L) : ∀ b ∈ s.take (spanN p s), p b = true := by
  intro b hb
  rw [spanN, ← List.prefix_iff_eq_take.1 (List.takeWhile_prefix p)] at hb
  exact List.all_eq_true.1 List.all_takeWhile b hb
theorem numDigits_all (s : L) (h : s.head?.map digB = some true) : numDigits s ≠ [] ∧ ((numBase s = 10 ∧ ∀ b ∈ numDigits s, digB b = true) ∨ (numBase s = 16 ∧ ∀ b ∈ numDigits s, hexB b = true)) := by
  cases s with
  | nil => cases h
  | cons b r =>
    have hb : digB b = true := by simpa using h
    cases hx : isHex (b :: r)
    · have e : numDigits (b :: r) = (b :: r).take (if b = 48 then 1 else spanN digB (b :: r)) := by
        simp [numDigits, numN, hx]
      have e2 : numBase (b :: r) = 10 := by simp [numBase, hx]
      rw [e, e2]
      by_cases h48 : b = 48
      · rw [if_pos h48]; simp [hb]
      · rw [if_neg h48]
        refine ⟨?_, .inl ⟨rfl, takeWhile_all digB (b :: r)⟩⟩
        have := span_pos digB b r hb
        intro h0
        have h1 := congrArg List.length h0
        rw [List.length_take] at h1
        simp at h1
        omega
    · have e : numDigits (b :: r) = ((b :: r).drop 2).take (spanN hexB ((b :: r).drop 2)) := by
        simp [numDigits, hx]
      have e2 : numBase (b :: r) = 16 := by simp [numBase, hx]
      rw [e, e2]
      refine ⟨?_, .inr ⟨rfl, takeWhile_all hexB _⟩⟩
      simp only [isHex, Bool.and_eq_true, decide_eq_true_eq] at hx
      intro h0
      have h1 := congrArg List.length h0
      have h2 := spanN_le hexB ((b :: r).drop 2)
      rw [List.length_take] at h1
      have h3 := hx.2
      simp only [List.length_nil] at h1
      omega

set_option maxHeartbeats 2000000 in
theorem number_any (s : ByteArray) (w : World) (h0 : 0 < s.size) (hs : s.size ≤ 4294967280) (hM : Met w) (h : digB s[0] = true) :
    Calls Tryz.prog 73 #[.string s] w fun e w' => e = .returned (resV (tokT s.data.toList) (.slice none 0 0)) ∧ Below w.heap.size w w' := by
  have hhd : s.data.toList.head?.map digB = some true := by rw [head_at s h0]; simp [h]
  have hne : s.data.toList ≠ [] := by
    intro hn; rw [hn] at hhd; cases hhd
  obtain ⟨n, hn⟩ : ∃ n, n = numN s.data.toList := ⟨_, rfl⟩
  have hnl := numN_le s.data.toList hne hhd
  rw [← hn, ← Lib.size_eq] at hnl
  obtain ⟨D, hD⟩ := bytes_of (numDigits s.data.toList)
  obtain ⟨base, hbase⟩ : ∃ base, base = numBase s.data.toList := ⟨_, rfl⟩
  obtain ⟨v, hv⟩ : ∃ v, v = valN base D.data.toList := ⟨_, rfl⟩
  obtain ⟨hd1, hd2⟩ := numDigits_all s.data.toList hhd
  rw [← hD] at hd1 hd2
  rw [← hbase] at hd2
  have hDs : D.size ≤ s.size := by
    rw [Lib.size_eq, hD, Lib.size_eq]
    unfold numDigits
    split <;> (rw [List.length_take]; simp; omega)
  have hD0 : D.size ≠ 0 := by
    intro h; apply hd1
    exact List.eq_nil_of_length_eq_zero (by rw [← Lib.size_eq]; exact h)
  have hR : Hid (tokT s.data.toList = if ((s.data.toList.drop n).head?.map wordB).getD false then .error (11, 0) else if 2 ^ 63 ≤ v then .error (11, 0) else .ok (⟨4, [], v, []⟩, n)) := by
    show _ = _
    rw [tokT_num _ hhd, ← hn, ← hbase, ← hD, ← hv]
  have HP : Hid (partsV s.data.toList = .tuple #[.int .i64 n, .string D, .int .i64 base]) := by
    show _ = _
    rw [partsV, ← hn, ← hbase, ← hD, Lib.mk_data]
  have HV := Lib.hid hv
  have HDD := Lib.hid hd2
  clear hn hD hbase hv hd1 hd2 hhd hne h
  have hMl := hM.lt
  obtain ⟨B, W0, hB, hW0, h2, hb0⟩ := two_start w
  have HB := Lib.hid hB
  rw [hB.symm] at hMl
  go_enter Tryz.func73, Tryz.ntmps73
  go_wp2_with fail
  rw [← hB, ← hW0]
  rw [← hB] at hb0
  clear hB hW0
  refine (numberParts_any _ _ h0 hs).mono ?_
  rintro e w1 ⟨rfl, hb1⟩
  rw [HP.out]
  have h21 := h2.below hb1
  have hb2 := hb0.trans (hb1.mono (by have := h2.flt.lt; omega))
  have hR1 := (hM.below hb2 hMl).hR
  clear h2 hb0 hb1
  have HR1 := Lib.hid hR1
  clear hR1
  -- what stands behind the digits
  have common : Hid (2 ^ 63 ≤ v → ((s.data.toList.drop n).head?.map wordB).getD false = false → tokT s.data.toList = .error (11, 0)) := by
    show _ → _ → _
    intro h1 h2; rw [hR.out, h2]; simp [h1]
  by_cases hlt : n < s.size
  · have hdr := drop_at s n hlt
    have h8 : s[n].toNat < 256 := s[n].toNat_lt
    have Hh : Hid (((s.data.toList.drop n).head?.map wordB).getD false = wordB s[n]) := by show _ = _; rw [hdr]; rfl
    clear hdr
    cases hw : wordB s[n]
    · have hWR : Hid (wordR s[n].toNat = false) := by show _ = _; rw [wordR_b]; exact hw
      have Hf : Hid (((s.data.toList.drop n).head?.map wordB).getD false = false) := by show _ = _; rw [Hh.out]; exact hw
      clear Hh hw
      go_wp2_with (go_at_call 46; refine (winWord_b _ false _ hWR.out).mono ?_; rintro e w' ⟨rfl, rfl⟩)
      by_cases hbig : 2 ^ 63 ≤ v
      · have HR := Lib.hid (common.out hbig Hf.out)
        refine (parse_bad _ base _ hD0 (by omega) HDD.out (by rw [← HV.out]; exact hbig) HR1.out).mono ?_
        rintro e w3 ⟨N, z, rfl, hb5⟩
        have h23 := h21.below hb5
        have hb6 := hb2.trans (hb5.mono (by have := h21.flt.lt; omega))
        clear h21 hb2 hb5 common hR hbig
        have h21 := h23
        have hb2 := hb6
        clear h23 hb6
        go_wp2_with fail
        refine (wfail_any 11 0 _).mono ?_
        rintro e w2 ⟨rfl, hb3⟩
        rw [resV_err]
        have h22 := h21.below hb3
        have hb4 := hb2.trans (hb3.mono (by have := h21.flt.lt; omega))
        clear h21 hb2 hb3
        obtain ⟨⟨c0, c1, c2, c3, c4, c5⟩, ⟨f0, f1, f2, f3, f4, f5⟩, ⟨d0, d1, g0, g1⟩, hl⟩ := h22.facts
        go_wp2_with fail
        exact bodyPost_ret (v := resV (.error (11, 0)) (.slice none 0 0)) (by simp [results, Tryz.results73, go_sem, resV_err, c0, c1, c2, c3, c4, c5, d0, d1]) rfl ⟨by rw [HR.out], by rw [← HB.out]; exact below_two hb4 (Nat.le_refl _) _ _ _ _ _ _ _ _⟩
      · have HR : Hid (tokT s.data.toList = .ok (⟨4, (⟨#[]⟩ : ByteArray).data.toList, v, []⟩, n)) := by show _ = _; rw [hR.out, Hf.out]; simp [hbig]
        refine (parse_ok _ base _ hD0 (by omega) HDD.out (by rw [← HV.out]; omega)).mono ?_
        rintro e w3 ⟨rfl, hb5⟩
        rw [← HV.out]
        have h23 := h21.below hb5
        have hb6 := hb2.trans (hb5.mono (by have := h21.flt.lt; omega))
        clear h21 hb2 hb5 common hR hbig
        have h21 := h23
        have hb2 := hb6
        clear h23 hb6
        obtain ⟨⟨c0, c1, c2, c3, c4, c5⟩, ⟨f0, f1, f2, f3, f4, f5⟩, ⟨d0, d1, g0, g1⟩, hl⟩ := h21.facts
        go_wp2_with fail
        exact bodyPost_ret (v := okV 4 ⟨#[]⟩ v (.slice none 0 0) n) (by simp [results, Tryz.results73, go_sem, c0, c1, c2, c3, c4, c5, d0, d1]) rfl ⟨ret_ok _ HR.out (by omega), by rw [← HB.out]; exact below_two hb2 (Nat.le_refl _) _ _ _ _ _ _ _ _⟩
    · have hWR : Hid (wordR s[n].toNat = true) := by show _ = _; rw [wordR_b]; exact hw
      have HR : Hid (tokT s.data.toList = .error (11, 0)) := by show _ = _; rw [hR.out, Hh.out, hw]; rfl
      clear Hh hw common hR
      go_wp2_with (go_at_call 46; refine (winWord_b _ true _ hWR.out).mono ?_; rintro e w' ⟨rfl, rfl⟩)
      refine (wfail_any 11 0 _).mono ?_
      rintro e w2 ⟨rfl, hb3⟩
      rw [resV_err]
      have h22 := h21.below hb3
      have hb4 := hb2.trans (hb3.mono (by have := h21.flt.lt; omega))
      clear h21 hb2 hb3
      obtain ⟨⟨c0, c1, c2, c3, c4, c5⟩, ⟨f0, f1, f2, f3, f4, f5⟩, ⟨d0, d1, g0, g1⟩, hl⟩ := h22.facts
      go_wp2_with fail
      exact bodyPost_ret (v := resV (.error (11, 0)) (.slice none 0 0)) (by simp [results, Tryz.results73, go_sem, resV_err, c0, c1, c2, c3, c4, c5, d0, d1]) rfl ⟨by rw [HR.out], by rw [← HB.out]; exact below_two hb4 (Nat.le_refl _) _ _ _ _ _ _ _ _⟩
  · have Hf : Hid (((s.data.toList.drop n).head?.map wordB).getD false = false) := by show _ = _; rw [drop_nil s n (by omega)]; rfl
    go_wp2_with fail
    by_cases hbig : 2 ^ 63 ≤ v
    · have HR := Lib.hid (common.out hbig Hf.out)
      refine (parse_bad _ base _ hD0 (by omega) HDD.out (by rw [← HV.out]; exact hbig) HR1.out).mono ?_
      rintro e w3 ⟨N, z, rfl, hb5⟩
      have h23 := h21.below hb5
      have hb6 := hb2.trans (hb5.mono (by have := h21.flt.lt; omega))
      clear h21 hb2 hb5 common hR hbig
      have h21 := h23
      have hb2 := hb6
      clear h23 hb6
      go_wp2_with fail
      refine (wfail_any 11 0 _).mono ?_
      rintro e w2 ⟨rfl, hb3⟩
      rw [resV_err]
      have h22 := h21.below hb3
      have hb4 := hb2.trans (hb3.mono (by have := h21.flt.lt; omega))
      clear h21 hb2 hb3
      obtain ⟨⟨c0, c1, c2, c3, c4, c5⟩, ⟨f0, f1, f2, f3, f4, f5⟩, ⟨d0, d1, g0, g1⟩, hl⟩ := h22.facts
      go_wp2_with fail
      exact bodyPost_ret (v := resV (.error (11, 0)) (.slice none 0 0)) (by simp [results, Tryz.results73, go_sem, resV_err, c0, c1, c2, c3, c4, c5, d0, d1]) rfl ⟨by rw [HR.out], by rw [← HB.out]; exact below_two hb4 (Nat.le_refl _) _ _ _ _ _ _ _ _⟩
    · have HR : Hid (tokT s.data.toList = .ok (⟨4, (⟨#[]⟩ : ByteArray).data.toList, v, []⟩, n)) := by show _ = _; rw [hR.out, Hf.out]; simp [hbig]
      refine (parse_ok _ base _ hD0 (by omega) HDD.out (by rw [← HV.out]; omega)).mono ?_
      rintro e w3 ⟨rfl, hb5⟩
      rw [← HV.out]
      have h23 := h21.below hb5
      have hb6 := hb2.trans (hb5.mono (by have := h21.flt.lt; omega))
      clear h21 hb2 hb5 common hR hbig
      have h21 := h23
      have hb2 := hb6
      clear h23 hb6
      obtain ⟨⟨c0, c1, c2, c3, c4, c5⟩, ⟨f0, f1, f2, f3, f4, f5⟩, ⟨d0, d1, g0, g1⟩, hl⟩ := h21.facts
      go_wp2_with fail
      exact bodyPost_ret (v := okV 4 ⟨#[]⟩ v (.slice none 0 0) n) (by simp [results, Tryz.results73, go_sem, c0, c1, c2, c3, c4, c5, d0, d1]) rfl ⟨ret_ok _ HR.out (by omega), by rw [← HB.out]; exact below_two hb2 (Nat.le_refl _) _ _ _ _ _ _ _ _⟩
end Go.Proofs.YtjcldgogjgchiaaGreatDoor
