/-
  Contracts of package word's functions over what stands between tokens, and of names' and signs' lengths.
-/
import Derived.Test.YtjcldgogjgchiaaGreatDoorWords
import Derived.Test.YtjcldgogjgchiaaGreatDoorStrs
import Derived.Test.YtjcldgogjgchiaaGreatDoorCode
import Derived.Test.YtjcldgogjgchiaaGreatDoorKeys
namespace Go.Proofs.YtjcldgogjgchiaaGreatDoor
open Go Go.RowKit Cutting Wording

/- ---- strings.Cut, told by the plain functions -/
theorem cut_nl (r : L) : (Lib.cut r [10]).1.length = spanN notNl r := by
  have key : ∀ r : L, (Lib.index r [10] = -1 → spanN notNl r = r.length) ∧ (0 ≤ Lib.index r [10] → spanN notNl r = (Lib.index r [10]).toNat ∧ (Lib.index r [10]).toNat ≤ r.length) := by
    intro r
    induction r with
    | nil => exact ⟨fun _ => rfl, fun h => by simp [Lib.index] at h⟩
    | cons b r ih =>
      have hge := Lib.index_ge r [10]
      by_cases hb : b = 10
      · subst hb
        have h1 : Lib.index (10 :: r) [10] = 0 := by simp [Lib.index]
        rw [h1]
        exact ⟨fun h => absurd h (by decide), fun _ => ⟨by simp [spanN, notNl], by simp⟩⟩
      · have h1 : Lib.index (b :: r) [10] = if Lib.index r [10] == -1 then -1 else Lib.index r [10] + 1 := by rw [Lib.index]; exact if_neg (by simpa using Ne.symm hb)
        have h2 : spanN notNl (b :: r) = spanN notNl r + 1 := by
          have : notNl b = true := by simpa [notNl] using hb
          simp [spanN, this]
        rw [h1, h2]
        by_cases h3 : Lib.index r [10] = -1
        · have := ih.1 h3; simp [h3, this]
        · have := ih.2 (by omega)
          simp [h3]
          omega
  have hk := key r
  have hge := Lib.index_ge r [10]
  unfold Lib.cut
  by_cases h1 : 0 ≤ Lib.index r [10]
  · have h2 := hk.2 h1
    rw [if_pos h1]
    simp only [List.length_take]
    omega
  · rw [if_neg h1, hk.1 (by omega)]
theorem cut_com (r : L) : comGo r = if (Lib.cut r [42, 47]).2.2 then some (Lib.cut r [42, 47]).1.length else none := by
  have key : ∀ r : L, (Lib.index r [42, 47] = -1 → comGo r = none) ∧ (0 ≤ Lib.index r [42, 47] → comGo r = some (Lib.index r [42, 47]).toNat ∧ (Lib.index r [42, 47]).toNat ≤ r.length) := by
    intro r
    induction r with
    | nil => exact ⟨fun _ => rfl, fun h => by simp [Lib.index] at h⟩
    | cons b r ih =>
      have hge := Lib.index_ge r [42, 47]
      by_cases hp : Lib.hasPrefix (b :: r) [42, 47] = true
      · have hi : Lib.index (b :: r) [42, 47] = 0 := by rw [Lib.index]; exact if_pos hp
        rw [hi]
        exact ⟨fun h => absurd h (by decide), fun _ => ⟨by rw [comGo, if_pos hp]; rfl, by simp⟩⟩
      · have hi : Lib.index (b :: r) [42, 47] = if Lib.index r [42, 47] == -1 then -1 else Lib.index r [42, 47] + 1 := by rw [Lib.index]; exact if_neg hp
        rw [hi, comGo, if_neg hp]
        by_cases h1 : Lib.index r [42, 47] = -1
        · have h2 := ih.1 h1
          simp [h1, h2]
        · have h2 := ih.2 (by omega)
          simp [h1, h2.1]
          omega
  have hk := key r
  have hge := Lib.index_ge r [42, 47]
  unfold Lib.cut
  by_cases h1 : 0 ≤ Lib.index r [42, 47]
  · have h2 := hk.2 h1
    rw [if_pos h1, h2.1]
    simp only [List.length_take, if_true]
    congr 1
    omega
  · rw [if_neg h1, hk.1 (by omega)]; simp

theorem lineLen_any (s : ByteArray) (w : World) (hs : s.size ≤ 4294967280) (hm : HasMax w) :
    Calls Tryz.prog 70 #[.string s] w fun e w' => e = .returned (.int .i64 (spanN notNl s.data.toList)) ∧ Below w.heap.size w w' := by
  obtain ⟨a, ha⟩ := bytes_of (Lib.cut s.data.toList [10]).1
  obtain ⟨b, hb⟩ := bytes_of (Lib.cut s.data.toList [10]).2.1
  obtain ⟨f, hf⟩ : ∃ f, f = (Lib.cut s.data.toList [10]).2.2 := ⟨_, rfl⟩
  have hc : Hid (Lib.cut s.data.toList [10] = (a.data.toList, b.data.toList, f)) := by show _ = _; rw [ha, hb, hf]
  have hN : Hid (spanN notNl s.data.toList = a.size) := by show _ = _; rw [← cut_nl, ← ha, ← Lib.size_eq]
  clear ha hb hf
  go_enter Tryz.func70, Tryz.ntmps70
  go_wp2_with (go_at_call 63; refine (cut_b _ _ a b f _ (by omega) hm hc.out).mono ?_; rintro e w' ⟨rfl, n, rfl⟩)
  go_ret
  exact ⟨ret_int (by rw [hN.out]), below_drewN (Below.refl _ _) _⟩

set_option maxHeartbeats 1000000 in
theorem wcommentLen_any (s : ByteArray) (w : World) (h2 : 2 ≤ s.size) (hs : s.size ≤ 4294967280) (hm : HasMax w) :
    Calls Tryz.prog 71 #[.string s] w fun e w' => e = .returned (.int .i64 (comN s.data.toList)) ∧ Below w.heap.size w w' := by
  obtain ⟨a, ha⟩ := bytes_of (Lib.cut (s.data.toList.drop 2) [42, 47]).1
  obtain ⟨b, hb⟩ := bytes_of (Lib.cut (s.data.toList.drop 2) [42, 47]).2.1
  have hal : a.size ≤ s.size := by
    rw [Lib.size_eq, ha, Lib.size_eq]
    unfold Lib.cut
    split <;> simp <;> omega
  have HS : Hid ((s.extract 2 s.size).size < 4294967281) := by show _ < _; rw [Lib.size_eq, tail_list, List.length_drop, ← Lib.size_eq]; omega
  cases hf : (Lib.cut (s.data.toList.drop 2) [42, 47]).2.2
  · have hc : Hid (Lib.cut (s.extract 2 s.size).data.toList [42, 47] = (a.data.toList, b.data.toList, false)) := by
      show _ = _
      rw [tail_list, ha, hb, ← hf]
    have hN : Hid (comN s.data.toList = 0) := by show _ = _; rw [comN, cut_com, hf]; rfl
    clear ha hb hf
    go_enter Tryz.func71, Tryz.ntmps71
    go_wp2_with (go_at_call 63; refine (cut_b _ _ a b false _ HS.out hm hc.out).mono ?_; rintro e w' ⟨rfl, n, rfl⟩)
    go_ret
    exact ⟨ret_int (by rw [hN.out]; rfl), below_drewN (Below.refl _ _) _⟩
  · have hc : Hid (Lib.cut (s.extract 2 s.size).data.toList [42, 47] = (a.data.toList, b.data.toList, true)) := by
      show _ = _
      rw [tail_list, ha, hb, ← hf]
    have hN : Hid (comN s.data.toList = a.size + 4) := by show _ = _; rw [comN, cut_com, hf, if_pos rfl, ← ha, ← Lib.size_eq]
    clear ha hb hf
    go_enter Tryz.func71, Tryz.ntmps71
    go_wp2_with (go_at_call 63; refine (cut_b _ _ a b true _ HS.out hm hc.out).mono ?_; rintro e w' ⟨rfl, n, rfl⟩)
    go_ret
    exact ⟨ret_int (by rw [hN.out]; omega), below_drewN (Below.refl _ _) _⟩

/- ---- names -/
theorem spanN_le (p : UInt8 → Bool) (r : L) : spanN p r ≤ r.length := List.IsPrefix.length_le (List.takeWhile_prefix _)
theorem moreF_fuel : ∀ (f g : Nat) (r : L), r.length ≤ f → r.length ≤ g → moreF f r = moreF g r := by
  intro f
  induction f with
  | zero =>
    intro g r h _
    have := List.eq_nil_of_length_eq_zero (Nat.le_zero.1 h); subst this
    cases g <;> simp [moreF, Lib.hasPrefix]
  | succ f ih =>
    intro g r h hg
    cases g with
    | zero => have := List.eq_nil_of_length_eq_zero (Nat.le_zero.1 hg); subst this; simp [moreF, Lib.hasPrefix]
    | succ g =>
      simp only [moreF]
      rw [ih g (r.drop (1 + wordN (r.drop 1))) (by rw [List.length_drop]; omega) (by rw [List.length_drop]; omega)]
theorem moreN_none (r : L) (h : Lib.hasPrefix r [92] = false) : moreN r = (0, true) := by
  unfold moreN
  cases hl : r.length with
  | zero => rfl
  | succ n => simp [moreF, h]
theorem moreN_bad (r : L) (h : Lib.hasPrefix r [92] = true) (h0 : wordN (r.drop 1) = 0) : moreN r = (0, false) := by
  unfold moreN
  have := hasPrefix_length h
  simp only [List.length_cons, List.length_nil] at this
  obtain ⟨n, hn⟩ : ∃ n, r.length = n + 1 := ⟨r.length - 1, by omega⟩
  rw [hn]; simp only [moreF]; rw [if_pos h, if_pos h0]
theorem moreN_go (r : L) (h : Lib.hasPrefix r [92] = true) (h0 : wordN (r.drop 1) ≠ 0) : moreN r = ((moreN (r.drop (1 + wordN (r.drop 1)))).1 + (1 + wordN (r.drop 1)), (moreN (r.drop (1 + wordN (r.drop 1)))).2) := by
  have := hasPrefix_length h
  simp only [List.length_cons, List.length_nil] at this
  obtain ⟨n, hn⟩ : ∃ n, r.length = n + 1 := ⟨r.length - 1, by omega⟩
  conv => lhs; unfold moreN
  rw [hn]
  simp only [moreF]
  rw [if_pos h, if_neg h0, moreF_fuel n (r.drop (1 + wordN (r.drop 1))).length _ (by rw [List.length_drop]; omega) (Nat.le_refl _)]
  rfl
theorem moreN_le (r : L) : (moreN r).1 ≤ r.length := by
  have key : ∀ (n : Nat) (r : L), r.length ≤ n → (moreN r).1 ≤ r.length := by
    intro n
    induction n with
    | zero => intro r h; have := List.eq_nil_of_length_eq_zero (Nat.le_zero.1 h); subst this; simp [moreN, moreF]
    | succ n ih =>
      intro r h
      cases hp : Lib.hasPrefix r [92]
      · rw [moreN_none r hp]; simp
      · by_cases h0 : wordN (r.drop 1) = 0
        · rw [moreN_bad r hp h0]; simp
        · rw [moreN_go r hp h0]
          have h1 := hasPrefix_length hp
          simp only [List.length_cons, List.length_nil] at h1
          have h2 := wordN_le (r.drop 1)
          have h3 := ih (r.drop (1 + wordN (r.drop 1))) (by rw [List.length_drop]; omega)
          rw [List.length_drop] at h2 h3
          dsimp only
          omega
  exact key _ r (Nat.le_refl _)
theorem nameN_le (s : L) : (nameN s).1 ≤ s.length := by
  have h1 := wordN_le s
  have h2 := moreN_le (s.drop (wordN s))
  rw [List.length_drop] at h2
  unfold nameN
  dsimp only
  omega

set_option maxHeartbeats 1000000 in
theorem nameLen_any (s : ByteArray) (w : World) (hs : s.size ≤ 4294967280) :
    Calls Tryz.prog 19 #[.string s] w fun e w' => e = .returned (.tuple #[.int .i64 (nameN s.data.toList).1, .bool (nameN s.data.toList).2]) ∧ Below w.heap.size w w' := by
  have hw := wordN_le s.data.toList
  rw [← Lib.size_eq] at hw
  go_enter Tryz.func19, Tryz.ntmps19
  go_wp2_with fail
  refine (wwordLen_any s _ hs).mono ?_
  rintro e w1 ⟨rfl, hb1⟩
  go_wp2_with fail
  go_loopw [4] (fun i wr => ∃ k : Nat, i = .int .i64 k ∧ k ≤ s.size ∧ Below w.heap.size w wr ∧ Hid (nameN s.data.toList = (k + (moreN (s.data.toList.drop k)).1, (moreN (s.data.toList.drop k)).2))) (fun i _ => s.size - (intOf i).toNat)
  case atStart => exact ⟨wordN s.data.toList, rfl, hw, hb1, rfl⟩
  case round =>
    obtain ⟨k, rfl, hk, hbr, hrel⟩ := hrel
    have ht := Lib.hid (tail_list s k)
    cases hp : Lib.hasPrefix (s.data.toList.drop k) [92]
    · have HN := Lib.hid (moreN_none _ hp)
      have HP := Lib.hid hp
      clear hp
      go_wp2_with (go_at_call 28; refine (hasPrefix_b _ _ false _ (by rw [ht.out]; exact HP.out)).mono ?_; rintro e w' ⟨rfl, rfl⟩)
      go_ret2
      refine ⟨?_, hbr⟩
      rw [hrel.out, HN.out]
      rfl
    · have hlt : k < s.size := by
        have h1 := hasPrefix_length hp
        rw [List.length_drop, ← Lib.size_eq] at h1
        simp only [List.length_cons, List.length_nil] at h1
        omega
      have hkl : k + 1 ≤ s.size := by omega
      have ht1 : Hid ((s.extract (k + 1) s.size).data.toList = (s.data.toList.drop k).drop 1) := by show _ = _; rw [tail_list, List.drop_drop]
      have hsz : Hid ((s.extract (k + 1) s.size).size ≤ 4294967280) := by show _ ≤ _; rw [Lib.size_eq, tail_list, List.length_drop, ← Lib.size_eq]; omega
      have hwl := wordN_le ((s.data.toList.drop k).drop 1)
      rw [List.drop_drop, List.length_drop, ← Lib.size_eq] at hwl
      by_cases h0 : wordN ((s.data.toList.drop k).drop 1) = 0
      · have HN := Lib.hid (moreN_bad _ hp h0)
        have H0 := Lib.hid h0
        have HP := Lib.hid hp
        clear hp h0 hwl
        go_wp2_with (go_at_call 28; refine (hasPrefix_b _ _ true _ (by rw [ht.out]; exact HP.out)).mono ?_; rintro e w' ⟨rfl, rfl⟩)
        refine (wwordLen_any _ _ hsz.out).mono ?_
        rintro e w2 ⟨rfl, hb2⟩
        rw [ht1.out, H0.out]
        go_wp2_with fail
        go_ret2
        refine ⟨?_, hbr.trans (hb2.mono hbr.size)⟩
        rw [hrel.out, HN.out]
        rfl
      · have HN := Lib.hid (moreN_go _ hp h0)
        obtain ⟨n, hn⟩ : ∃ n, n = wordN ((s.data.toList.drop k).drop 1) := ⟨_, rfl⟩
        rw [List.drop_drop] at hn
        rw [← hn] at hwl
        have hn0 : 0 < n := by rw [hn, ← List.drop_drop]; omega
        have Hn : Hid (wordN ((s.data.toList.drop k).drop 1) = n) := by show _ = _; rw [List.drop_drop]; exact hn.symm
        have HP := Lib.hid hp
        clear hp h0 hn
        go_wp2_with (go_at_call 28; refine (hasPrefix_b _ _ true _ (by rw [ht.out]; exact HP.out)).mono ?_; rintro e w' ⟨rfl, rfl⟩)
        refine (wwordLen_any _ _ hsz.out).mono ?_
        rintro e w2 ⟨rfl, hb2⟩
        rw [ht1.out, Hn.out]
        have hb3 := hbr.trans (hb2.mono hbr.size)
        clear hb2
        go_wp2_with fail
        go_roundw
        case rel =>
          refine ⟨k + (1 + n), by go_num, by omega, hb3, ?_⟩
          show _ = _
          rw [hrel.out, HN.out, Hn.out, List.drop_drop]
          congr 1
          dsimp only
          omega
        case measure => simp [intOf]; omega
end Go.Proofs.YtjcldgogjgchiaaGreatDoor
