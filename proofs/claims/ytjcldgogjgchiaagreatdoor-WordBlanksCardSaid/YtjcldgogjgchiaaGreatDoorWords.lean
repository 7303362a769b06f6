/-
  Contracts of package word's functions over strings alone: words, blanks, where a text ends, signs and keywords.
-/
import Derived.Test.YtjcldgogjgchiaaGreatDoorRunes
import Derived.WalkLawsBesides
namespace Go.Proofs.YtjcldgogjgchiaaGreatDoor
open Go Go.RowKit Cutting Wording

theorem wwordLen_any (s : ByteArray) (w : World) (hs : s.size ≤ 4294967280) :
    Calls Tryz.prog 27 #[.string s] w fun e w' => e = .returned (.int .i64 (wordN s.data.toList)) ∧ Below w.heap.size w w' := by
  rcases Nat.eq_zero_or_pos s.size with h0 | h0
  · have hn := nil_of s h0
    have hn' : s.toList = [] := by rw [Lib.toList_data]; exact hn
    have HN := Lib.hid hn
    clear hn h0
    go_enter Tryz.func27, Tryz.ntmps27
    go_wp2_with fail
    go_ret
    exact ⟨by rw [HN.out]; rfl, Below.refl _ _⟩
  · have he := isEmpty_of s h0
    have hen : s.toList ≠ [] := fun h => by rw [h] at he; cases he
    have hd := drop_at s 0 h0
    rw [List.drop_zero] at hd
    have HD := Lib.hid hd
    clear hd
    have h8 : s[0].toNat < 256 := s[0].toNat_lt
    cases hb : digB s[0]
    · have hR : Hid (digR s[0].toNat = false) := by show _ = _; rw [digR_b]; exact hb
      have HB := Lib.hid hb
      have HW : Hid (wordN s.data.toList = spanN wordB s.data.toList) := by show _ = _; rw [HD.out]; simp [wordN, hb, spanN]
      clear hb
      go_enter Tryz.func27, Tryz.ntmps27
      go_wp2_with (go_at_call 44; refine (wisDigit_b _ false _ hR.out).mono ?_; rintro e w' ⟨rfl, rfl⟩)
      refine (runLen_inWord s _ hs).mono ?_
      rintro e w' ⟨rfl, hb1⟩
      go_wp2_with fail
      go_ret
      exact ⟨ret_int (by rw [HW.out]), hb1⟩
    · have hR : Hid (digR s[0].toNat = true) := by show _ = _; rw [digR_b]; exact hb
      have HW : Hid (wordN s.data.toList = 0) := by show _ = _; rw [HD.out]; simp [wordN, hb]
      clear hb
      go_enter Tryz.func27, Tryz.ntmps27
      go_wp2_with (go_at_call 44; refine (wisDigit_b _ true _ hR.out).mono ?_; rintro e w' ⟨rfl, rfl⟩)
      go_ret
      exact ⟨ret_int (by rw [HW.out]; rfl), Below.refl _ _⟩


theorem wisWord_any (s : ByteArray) (w : World) (hs : s.size ≤ 4294967280) :
    Calls Tryz.prog 131 #[.string s] w fun e w' => e = .returned (.bool (isWordB s.data.toList)) ∧ Below w.heap.size w w' := by
  rcases Nat.eq_zero_or_pos s.size with h0 | h0
  · have hn := nil_of s h0
    have hn' : s.toList = [] := by rw [Lib.toList_data]; exact hn
    have HN := Lib.hid hn
    clear hn h0
    go_enter Tryz.func131, Tryz.ntmps131
    go_wp2_with fail
    go_ret
    exact ⟨by rw [HN.out]; rfl, Below.refl _ _⟩
  · have he := isEmpty_of s h0
    have hen : s.toList ≠ [] := fun h => by rw [h] at he; cases he
    have hne : s.data.toList ≠ [] := by rw [← Lib.toList_data]; exact hen
    have HW : Hid (isWordB s.data.toList = decide (wordN s.data.toList = s.size)) := by show _ = _; rw [isWordB, ← Lib.size_eq]; simp [hne]
    clear hne
    go_enter Tryz.func131, Tryz.ntmps131
    go_wp2_with fail
    refine (wwordLen_any s _ hs).mono ?_
    rintro e w' ⟨rfl, hb1⟩
    go_wp2_with fail
    go_ret
    exact ⟨ret_bool (by rw [HW.out, Bool.eq_iff_iff]; simp; omega), hb1⟩

def blankR (n : Nat) : Bool := n == 32 || n == 9 || n == 10 || n == 13
theorem blankR_b (b : UInt8) : blankR b.toNat = blankB b := by
  rw [Bool.eq_iff_iff]; simp only [blankR, blankB, Bool.or_eq_true, beq_iff_eq, ← UInt8.toNat_inj]; rfl
theorem blankLen_any (s : ByteArray) (w : World) (_hs : s.size ≤ 4294967280) :
    Calls Tryz.prog 69 #[.string s] w fun e w' => e = .returned (.int .i64 (spanN blankB s.data.toList)) ∧ Below w.heap.size w w' := by
  have hI : ∀ p, Below w.heap.size w (w.iter s p) := fun p => (Below.refl _ _).alloc (Nat.le_refl _) _
  go_enter Tryz.func69, Tryz.ntmps69
  go_wp2_with fail
  obtain ⟨B, hB⟩ : ∃ B, B = w.heap.size := ⟨_, rfl⟩
  have HB := Lib.hid hB
  rw [← hB] at hI
  clear hB
  go_loopw [] (fun wr => ∃ k : Nat, k ≤ s.size ∧ wr = w.iter s k ∧ Hid (spanN blankB s.data.toList = k + spanN blankB (s.data.toList.drop k))) (fun wr => s.size - wr.iterPos w.heap.size)
  case atStart => exact ⟨0, Nat.zero_le _, rfl, by show _ = _; rw [List.drop_zero, Nat.zero_add]⟩
  case round =>
    obtain ⟨k, hk, rfl, hrel⟩ := hrel
    by_cases hlt : k < s.size
    · cases hp : blankB s[k]
      · have hnx := fun ty => run_next_any (P := Tryz.prog) w s k ty hlt
        obtain ⟨d, hd⟩ : ∃ d, d = (Utf8.decode s k).1 := ⟨_, rfl⟩
        obtain ⟨q, hq⟩ : ∃ q, q = (Utf8.decode s k).2 := ⟨_, rfl⟩
        have hR : blankR d = false := by
          rw [hd]
          by_cases hb : s[k].toNat < 128
          · rw [rune_low s k hlt hb]; show blankR s[k].toNat = false; rw [blankR_b]; exact hp
          · have := (rune_high s k hlt (by omega)).1; simp [blankR]; omega
        rw [← hd, ← hq] at hnx
        simp only [blankR, Bool.or_eq_false_iff, beq_eq_false_iff_ne] at hR
        have HP := Lib.hid hp
        obtain ⟨⟨⟨r1, r2⟩, r3⟩, r4⟩ := hR
        have t1 : ((d : Int) != 32) = true := by simp; omega
        have t2 : ((d : Int) != 9) = true := by simp; omega
        have t3 : ((d : Int) != 10) = true := by simp; omega
        have t4 : ((d : Int) != 13) = true := by simp; omega
        clear hp hd hq r1 r2 r3 r4
        go_wp2_with fail
        go_ret
        exact ⟨ret_int (by rw [hrel.out, spanN, takeWhile_stop s k hlt HP.out]; simp), by rw [← HB.out]; exact hI _⟩
      · have hlow : s[k].toNat < 128 := by
          rcases Nat.lt_or_ge s[k].toNat 128 with h | h
          · exact h
          · have h2 : blankR s[k].toNat = true := by rw [blankR_b]; exact hp
            simp [blankR] at h2; omega
        have hnx := fun ty => run_next_ascii (P := Tryz.prog) w s k ty hlt hlow
        have HP := Lib.hid hp
        have hc : s[k] = 32 ∨ s[k] = 9 ∨ s[k] = 10 ∨ s[k] = 13 := by simpa [blankB, or_assoc] using hp
        clear hp
        rcases hc with hc | hc | hc | hc
        all_goals
          have hcn : s[k].toNat = _ := congrArg UInt8.toNat hc
          rw [hcn] at hnx
          clear hcn hlow
          have HC := Lib.hid hc
          clear hc
          go_wp2_with fail
          go_roundw
          case rel => exact ⟨k + 1, by omega, rfl, by show _ = _; rw [hrel.out, takeWhile_go s k hlt HP.out]; omega⟩
          case measure => simp; omega
    · have hnx := fun ty => run_next_end (P := Tryz.prog) w s k ty hlt
      have hdk := Lib.hid (drop_nil s k (by omega))
      go_wp2_with fail
      go_ret
      refine ⟨ret_int ?_, by rw [← HB.out]; exact hI _⟩
      rw [hrel.out, hdk.out]
      simp [spanN]
      omega

/- ---- where a text ends -/
theorem endGo_back (q : UInt8) (r : L) : endGo q (92 :: r) = if r = [] then none else (endGo q (r.drop 1)).map (· + 2) := by
  cases r <;> simp [endGo]
theorem endGo_quote (q : UInt8) (r : L) (h : q ≠ 92) : endGo q (q :: r) = some 0 := by cases r <;> simp [endGo, h]
theorem endGo_other (q c : UInt8) (r : L) (h : c ≠ 92) (h2 : c ≠ q) : endGo q (c :: r) = (endGo q r).map (· + 1) := by cases r <;> simp [endGo, h, h2]
theorem endGo_lt (q : UInt8) : ∀ (n : Nat) (r : L), r.length ≤ n → ∀ e, endGo q r = some e → e < r.length := by
  intro n
  induction n with
  | zero => intro r h e he; have := List.eq_nil_of_length_eq_zero (Nat.le_zero.1 h); subst this; simp [endGo] at he
  | succ n ih =>
    intro r h e he
    match r with
    | [] => simp [endGo] at he
    | b :: r =>
      by_cases h1 : b = 92
      · subst h1
        rw [endGo_back] at he
        split at he
        · simp at he
        · obtain ⟨e', he', rfl⟩ := Option.map_eq_some_iff.1 he
          have := ih (r.drop 1) (by rw [List.length_drop]; simp at h; omega) e' he'
          rw [List.length_drop] at this
          simp
          omega
      · by_cases h2 : b = q
        · subst h2; rw [endGo_quote _ _ h1] at he; simp at he; subst he; simp
        · rw [endGo_other _ _ _ h1 h2] at he
          obtain ⟨e', he', rfl⟩ := Option.map_eq_some_iff.1 he
          have := ih r (by simp at h; omega) e' he'
          simp
          omega
/-- Where the text ends, from a place on; hid: the byte there is hidden. -/
def endAt (q : UInt8) (s : ByteArray) (k : Nat) (hid : Bool) : Option Nat :=
  if hid then (if s.data.toList.drop k = [] then none else (endGo q (s.data.toList.drop (k + 1))).map (· + (k + 1))) else (endGo q (s.data.toList.drop k)).map (· + k)
theorem map_add (o : Option Nat) (a b c : Nat) (h : a + b = c) : (o.map (· + a)).map (· + b) = o.map (· + c) := by
  cases o with
  | none => rfl
  | some x => simp; omega
theorem endAt_skip (q : UInt8) (s : ByteArray) (k : Nat) (hk : k < s.size) : endAt q s k true = endAt q s (k + 1) false := by
  have : s.data.toList.drop k ≠ [] := by rw [drop_at s k hk]; simp
  simp [endAt, this]
theorem endAt_back (q : UInt8) (s : ByteArray) (k : Nat) (hk : k < s.size) (hb : s[k] = 92) : endAt q s k false = endAt q s (k + 1) true := by
  simp only [endAt, Bool.false_eq_true, if_false, if_true]
  rw [drop_at s k hk, hb, endGo_back]
  split
  · simp
  · rw [List.drop_drop, map_add _ _ _ _ (show 2 + k = k + 1 + 1 from by omega)]
theorem endAt_quote (q : UInt8) (s : ByteArray) (k : Nat) (hk : k < s.size) (hq : q ≠ 92) (hb : s[k] = q) : endAt q s k false = some k := by
  simp only [endAt, Bool.false_eq_true, if_false]
  rw [drop_at s k hk, hb, endGo_quote _ _ hq]; simp
theorem endAt_other (q : UInt8) (s : ByteArray) (k : Nat) (hk : k < s.size) (h1 : s[k] ≠ 92) (h2 : s[k] ≠ q) : endAt q s k false = endAt q s (k + 1) false := by
  simp only [endAt, Bool.false_eq_true, if_false]
  rw [drop_at s k hk, endGo_other _ _ _ h1 h2, map_add _ _ _ _ (show 1 + k = k + 1 from by omega)]
theorem endAt_many (q : UInt8) (hq : q.toNat < 128) (s : ByteArray) (hid : Bool) : ∀ (n k : Nat), 1 ≤ n → k + n ≤ s.size → (∀ j (hj : j < s.size), k ≤ j → j < k + n → 128 ≤ s[j].toNat) → endAt q s k hid = endAt q s (k + n) false := by
  intro n
  induction n generalizing hid with
  | zero => intro k h; omega
  | succ n ih =>
    intro k _ hk hb
    have hk' : k < s.size := by omega
    have hh := hb k hk' (Nat.le_refl _) (by omega)
    have one : endAt q s k hid = endAt q s (k + 1) false := by
      cases hid
      · refine endAt_other q s k hk' ?_ ?_
        · intro h; rw [h] at hh; revert hh; decide
        · intro h; rw [h] at hh; omega
      · exact endAt_skip q s k hk'
    rcases Nat.eq_zero_or_pos n with rfl | hn
    · exact one
    · rw [one, ih false (k + 1) hn (by omega) (fun j hj h1 h2 => hb j hj (by omega) (by omega)), show k + 1 + n = k + (n + 1) from by omega]
theorem endAt_end (q : UInt8) (s : ByteArray) (k : Nat) (hk : s.size ≤ k) (hid : Bool) : endAt q s k hid = none := by
  have h := drop_nil s k hk
  cases hid <;> simp [endAt, h, endGo]

def endOut (o : Option Nat) : Int := match o with | some e => 1 + (e : Int) | none => -1
set_option maxHeartbeats 1000000 in
theorem textEnd_any (s : ByteArray) (q : UInt8) (w : World) (h0 : 0 < s.size) (hq0 : s[0] = q) (hq : q.toNat < 128) (hq2 : q ≠ 92) (hs : s.size ≤ 4294967280) :
    Calls Tryz.prog 94 #[.string s] w fun e w' => e = .returned (.int .i64 (endOut (endGo q (s.data.toList.drop 1)))) ∧ Below w.heap.size w w' := by
  obtain ⟨u, hu⟩ : ∃ u, u = s.extract 1 s.size := ⟨_, rfl⟩
  have hul : u.data.toList = s.data.toList.drop 1 := by rw [hu, Lib.extract_data]; exact List.take_of_length_le (by rw [List.length_drop, ← Lib.size_eq]; omega)
  have hus : u.size = s.size - 1 := by rw [Lib.size_eq, hul, List.length_drop, ← Lib.size_eq]
  have HE : Hid (endGo q (s.data.toList.drop 1) = endAt q u 0 false) := by show _ = _; rw [← hul]; simp [endAt]
  have husz : u.size ≤ 4294967280 := by omega
  have hI : ∀ p, Below w.heap.size w (w.iter u p) := fun p => (Below.refl _ _).alloc (Nat.le_refl _) _
  have h8 : s[0].toNat < 256 := s[0].toNat_lt
  have hqn : (s[0].toNat : Int) = (q.toNat : Int) := by rw [hq0]
  clear hul hus hq0
  have HQ := Lib.hid hqn
  have HU := Lib.hid hu
  clear hqn hu
  go_enter Tryz.func94, Tryz.ntmps94
  go_wp2_with fail
  rw [← HU.out, HQ.out]
  go_wp2_with fail
  obtain ⟨B, hB⟩ : ∃ B, B = w.heap.size := ⟨_, rfl⟩
  have HB := Lib.hid hB
  rw [← hB] at hI
  clear hB
  go_loopw [4] (fun h wr => ∃ (k : Nat) (hd : Bool), h = .bool hd ∧ k ≤ u.size ∧ wr = w.iter u k ∧ Hid (endAt q u 0 false = endAt q u k hd)) (fun _ wr => u.size - wr.iterPos w.heap.size)
  case atStart => exact ⟨0, false, rfl, Nat.zero_le _, rfl, rfl⟩
  case round =>
    obtain ⟨k, hd, rfl, hk, rfl, hrel⟩ := hrel
    by_cases hlt : k < u.size
    · by_cases hb : u[k].toNat < 128
      · have hnx := fun ty => run_next_ascii (P := Tryz.prog) w u k ty hlt hb
        cases hd
        · by_cases hc : u[k] = 92
          · have hcn : u[k].toNat = 92 := by rw [hc]; rfl
            rw [hcn] at hnx
            have HC := Lib.hid hc
            clear hc hcn hb
            go_wp2_with fail
            go_roundw
            case rel => exact ⟨k + 1, true, rfl, by omega, rfl, by show _ = _; rw [hrel.out, endAt_back q u k hlt HC.out]⟩
            case measure => simp; omega
          · have t1 : (((u[k].toNat : Int) == 92)) = false := by
              rw [beq_eq_false_iff_ne]; intro h; exact hc (u8_of _ 92 h)
            by_cases hc2 : u[k] = q
            · have t2 : ((u[k].toNat : Int) == (q.toNat : Int)) = true := by rw [hc2]; simp
              have HC := Lib.hid hc2
              clear hc hc2
              go_wp2_with fail
              go_ret
              exact ⟨ret_int (by rw [HE.out, hrel.out, endAt_quote q u k hlt hq2 HC.out]; rfl), by rw [← HB.out]; exact hI _⟩
            · have t2 : ((u[k].toNat : Int) == (q.toNat : Int)) = false := by
                rw [beq_eq_false_iff_ne]; intro h; exact hc2 (u8_of _ _ h)
              go_wp2_with fail
              go_roundw
              case rel => exact ⟨k + 1, false, rfl, by omega, rfl, by show _ = _; rw [hrel.out, endAt_other q u k hlt hc hc2]⟩
              case measure => simp; omega
        · go_wp2_with fail
          go_roundw
          case rel => exact ⟨k + 1, false, rfl, by omega, rfl, by show _ = _; rw [hrel.out, endAt_skip q u k hlt]⟩
          case measure => simp; omega
      · have hnx := fun ty => run_next_any (P := Tryz.prog) w u k ty hlt
        have hh := rune_high u k hlt (by omega)
        obtain ⟨d, hd'⟩ : ∃ d, d = (Utf8.decode u k).1 := ⟨_, rfl⟩
        obtain ⟨n, hn⟩ : ∃ n, n = (Utf8.decode u k).2 := ⟨_, rfl⟩
        rw [← hd', ← hn] at hnx
        rw [← hd', ← hn] at hh
        obtain ⟨hh1, hh2, hh3, hh4⟩ := hh
        have t1 : ((d : Int) == 92) = false := by rw [beq_eq_false_iff_ne]; omega
        have t2 : ((d : Int) == (q.toNat : Int)) = false := by rw [beq_eq_false_iff_ne]; omega
        have HM := Lib.hid (endAt_many q hq u hd n k hh2 hh3 hh4)
        clear hd' hn hh4
        cases hd
        · go_wp2_with fail
          go_roundw
          case rel => exact ⟨k + n, false, rfl, by omega, rfl, by show _ = _; rw [hrel.out, HM.out]⟩
          case measure => simp; omega
        · go_wp2_with fail
          go_roundw
          case rel => exact ⟨k + n, false, rfl, by omega, rfl, by show _ = _; rw [hrel.out, HM.out]⟩
          case measure => simp; omega
    · have hnx := fun ty => run_next_end (P := Tryz.prog) w u k ty hlt
      have hdk := Lib.hid (endAt_end q u k (by omega) hd)
      go_wp2_with fail
      go_ret
      exact ⟨ret_int (by rw [HE.out, hrel.out, hdk.out]; rfl), by rw [← HB.out]; exact hI _⟩
end Go.Proofs.YtjcldgogjgchiaaGreatDoor
