/-
  The contract of the document's answer for layer 1: what hides the end of code.
-/
import Derived.Test.YtbeglmolgloepaaDoorRefD
import Derived.Test.YtbeglmolgloepaaDoorCode
import Derived.BigQuiet
import Derived.Deep.QuietTactic
namespace Go.Proofs.YtbeglmolgloepaaDoor
open Go Go.RowKit Cutting

/-- How many bytes what begins there has that may hide the end of code; 0: nothing does. -/
def hidN : List UInt8 → Nat
  | [] => 0
  | b :: r =>
    if b == 39 || b == 34 then textN (b :: r)
    else if Lib.hasPrefix (b :: r) [47, 42] then commentN (b :: r)
    else if Lib.hasPrefix (b :: r) [47, 47] || b == 35 then remarkN (b :: r)
    else if Lib.hasPrefix (b :: r) [60, 60, 60] && headOk (b :: r) then longN (b :: r)
    else 0
theorem hid_step (r : List UInt8) (h : r ≠ []) : stepN r = if hidN r = 0 then 1 else hidN r := by
  have hle := stepN_le r h
  cases r with
  | nil => exact absurd rfl h
  | cons b r =>
    simp only [stepN, hidN] at hle ⊢
    split
    · next h1 => rw [if_pos h1] at hle; rw [if_neg (by omega)]
    · next h1 =>
      rw [if_neg h1] at hle
      split
      · next h2 => rw [if_pos h2] at hle; rw [if_neg (by omega)]
      · next h2 =>
        rw [if_neg h2] at hle
        split
        · next h3 => rw [if_pos h3] at hle; rw [if_neg (by omega)]
        · next h3 =>
          rw [if_neg h3] at hle
          by_cases h4 : Lib.hasPrefix (b :: r) [60, 60, 60] = true
          · rw [if_pos h4] at hle ⊢
            rw [h4, Bool.true_and]
            by_cases h5 : headOk (b :: r) = true
            · rw [if_pos h5, if_neg (by omega)]
            · rw [if_neg h5, if_pos rfl]; simp [longN, h5]
          · rw [if_neg h4]; simp [h4]

theorem RLong_no (s : ByteArray) (i : Nat) (w : World) (hs : s.size ≤ 65536) (hi : i ≤ s.size) (h3 : Lib.hasPrefix (s.data.toList.drop i) [60, 60, 60] = false) :
    Calls Tryd.prog 31 #[.string s, .int .i64 i] w fun e w' => e = .returned (.tuple #[.int .i64 0, .int .i64 0, .int .i64 0]) ∧ w = w' := by
  have H3 := Lib.hid h3
  clear h3
  go_enter Tryd.func31, Tryd.ntmps31
  go_wp2_with fail
  refine (At_n _ _ _ (i) false _ (by omega) (by omega) hs (by show 3 ≤ 65536; omega) (.inl (by show 0 < 3; omega)) (by exact H3.out)).mono ?_
  rintro e w' ⟨rfl, rfl⟩
  go_wp2_with fail
  go_ret3
  exact ⟨rfl, rfl⟩

set_option maxHeartbeats 2000000 in
theorem hidden_text (s : ByteArray) (i : Nat) (w : World) (hs : s.size ≤ 65536) (hi : i < s.size) (hq : (s[i].toNat : Int) = 39 ∨ (s[i].toNat : Int) = 34) :
    Calls Tryd.prog 22 #[.string s, .int .i64 i] w fun e w' => e = .returned (.int .i64 ((i + textN (s.data.toList.drop i) : Nat) : Int)) ∧ Below w.heap.size w w' := by
  have hd := Lib.hid (drop_at s i hi)
  obtain ⟨q, hqq⟩ : ∃ q, s[i] = q := ⟨_, rfl⟩
  have hq9 : q ≠ 92 := by rintro rfl; rw [hqq] at hq; simp at hq
  rw [hqq] at hq
  have hor : (((q.toNat : Int) == 39) || ((q.toNat : Int) == 34)) = true := by rcases hq with h | h <;> simp [h]
  have hqa : ((q.toNat : Int) == 39) = true ∨ (((q.toNat : Int) == 39) = false ∧ ((q.toNat : Int) == 34) = true) := by
    rcases hq with h | h
    · left; simp [h]
    · right; simp [h]
  have HOR := Lib.hid hor
  clear hor hq
  rcases hqa with h1 | ⟨h1, h2⟩
  all_goals
    go_enter Tryd.func22, Tryd.ntmps22
    go_wp2_with fail
    go_loopw [5] (fun z wr => ∃ k : Nat, i + 1 ≤ k ∧ k ≤ s.size + 1 ∧ z = .int .i64 k ∧ Hid (i + textN (s.data.toList.drop i) = min k s.size + textGo q (s.data.toList.drop k)) ∧ Below w.heap.size w wr) (fun z _ => s.size + 1 - (intOf z).toNat)
    case atStart => exact ⟨i + 1, by omega, by omega, by go_num, by show _ = _; rw [hd.out, hqq, textN]; omega, Below.refl _ _⟩
    case round =>
      obtain ⟨k, hk1, hk, rfl, hrel, hbr⟩ := hrel
      by_cases hlt : k < s.size
      · have hdk := Lib.hid (drop_at s k hlt)
        by_cases hc : (s[k].toNat : Int) = 92
        · have hu := Lib.hid (u8_of s[k] 92 hc)
          go_wp2_with fail
          go_roundw
          case rel =>
            refine ⟨k + 2, by omega, by omega, by go_num, ?_, hbr⟩
            show _ = _
            rw [hrel.out, hdk.out, hu.out, textGo_back, List.drop_drop, show k + 1 + 1 = k + 2 from rfl]
            by_cases hl : k + 1 < s.size
            · rw [if_neg (by rw [drop_at s (k + 1) hl]; simp)]; omega
            · rw [if_pos (by rw [drop_nil s (k + 1) (by omega)]; rfl)]; omega
          case measure => simp [intOf]; omega
        · have hu : s[k] ≠ 92 := fun e => hc (by rw [e]; rfl)
          obtain ⟨c, hcc⟩ : ∃ c, s[k] = c := ⟨_, rfl⟩
          rw [hcc] at hu hc
          have hk0 : (0 : Int) ≤ (k : Int) := Int.natCast_nonneg _
          have hk2 : (k : Int) < (s.size : Int) := by omega
          have hi0 : (0 : Int) ≤ (i : Int) := Int.natCast_nonneg _
          have hi2 : (i : Int) < (s.size : Int) := by omega
          by_cases hv : c = q
          · have hcq : ((c.toNat : Int) == (q.toNat : Int)) = true := by rw [hv]; simp
            have HV := Lib.hid hv
            clear hv
            go_wp2_with fail
            go_quiet (fail)
            go_wp2_with fail
            go_ret
            refine ⟨ret_int ?_, below_drewN hbr _⟩
            rw [hrel.out, hdk.out, hcc, HV.out, textGo_quote _ _ hq9]
            omega
          · have hcq : ((c.toNat : Int) == (q.toNat : Int)) = false := by
              rw [beq_eq_false_iff_ne]
              exact fun h => hv (u8_of c q h)
            go_wp2_with fail
            go_quiet (fail)
            go_wp2_with fail
            go_roundw
            case rel =>
              refine ⟨k + 1, by omega, by omega, by go_num, ?_, below_drewN hbr _⟩
              show _ = _
              rw [hrel.out, hdk.out, hcc, textGo_other _ _ _ hu hv]
              omega
            case measure => simp [intOf]; omega
      · have hdk := Lib.hid (drop_nil s k (by omega))
        go_wp2_with fail
        go_ret
        refine ⟨ret_int ?_, hbr⟩
        rw [hrel.out, hdk.out]
        simp [textGo]
        omega

/-- What stands at the place is no quote. -/
structure NoQuote (s : ByteArray) (i : Nat) (b : UInt8) (r : List UInt8) : Prop where
  lt : i < s.size
  hd : s.data.toList.drop i = b :: r
  get : ∀ h : i < s.size, s[i] = b
  n39 : ((b.toNat : Int) == 39) = false
  n34 : ((b.toNat : Int) == 34) = false
theorem NoQuote.no {s : ByteArray} {i : Nat} {b : UInt8} {r : List UInt8} (h : NoQuote s i b r) : (b == 39 || b == 34) = false := by
  rw [beqU, beqU]
  exact Bool.or_eq_false_iff.2 ⟨h.n39, h.n34⟩

set_option maxHeartbeats 2000000 in
theorem hidden_comment (s : ByteArray) (i : Nat) (b : UInt8) (r : List UInt8) (w : World) (hs : s.size ≤ 65536) (h : NoQuote s i b r) (hc : Lib.hasPrefix (s.data.toList.drop i) [47, 42] = true) :
    Calls Tryd.prog 22 #[.string s, .int .i64 i] w fun e w' => e = .returned (.int .i64 ((i + commentN (s.data.toList.drop i) : Nat) : Int)) ∧ w = w' := by
  have hi := h.lt
  have hg := h.get hi
  have n39 := h.n39
  have n34 := h.n34
  have h2 : i + 2 ≤ s.size := by
    have h1 := hasPrefix_length hc
    rw [List.length_drop, ← Lib.size_eq] at h1
    simp only [List.length_cons, List.length_nil] at h1
    omega
  have hN : Hid (i + commentN (s.data.toList.drop i) = i + 2 + commentGo (s.data.toList.drop (i + 2))) := by
    show _ = _
    rw [commentN, List.drop_drop]
    omega
  have HC := Lib.hid hc
  clear hc h
  go_enter Tryd.func22, Tryd.ntmps22
  go_wp2_with fail
  refine (At_n _ _ _ (i) true _ (by omega) (by omega) hs (by show 2 ≤ 65536; omega) (.inl (by show 0 < 2; omega)) (by exact HC.out)).mono ?_
  rintro e w' ⟨rfl, rfl⟩
  go_wp2_with fail
  go_loop [6] (fun z => ∃ k : Nat, i + 2 ≤ k ∧ k ≤ s.size ∧ z = .int .i64 k ∧ Hid (i + commentN (s.data.toList.drop i) = k + commentGo (s.data.toList.drop k))) (fun z => s.size - (intOf z).toNat)
  case atStart => exact ⟨i + 2, by omega, by omega, by go_num, hN.out⟩
  case round =>
    obtain ⟨k, hk1, hk, rfl, hrel⟩ := hrel
    by_cases hlt : k < s.size
    · have hdk := Lib.hid (drop_at s k hlt)
      have hgo : Hid (commentGo (s.data.toList.drop k) = if Lib.hasPrefix (s.data.toList.drop k) [42, 47] then 2 else 1 + commentGo (s.data.toList.drop (k + 1))) := by
        show _ = _
        rw [hdk.out, commentGo]
      cases he : Lib.hasPrefix (s.data.toList.drop k) [42, 47]
      · have HE := Lib.hid he
        clear he
        go_wp2_with fail
        refine (At_n _ _ _ (k) false _ (by omega) (by omega) hs (by show 2 ≤ 65536; omega) (.inl (by show 0 < 2; omega)) (by exact HE.out)).mono ?_
        rintro e w' ⟨rfl, rfl⟩
        go_wp2_with fail
        go_round
        case rel => exact ⟨k + 1, by omega, by omega, by go_num, by show _ = _; rw [hrel.out, hgo.out, HE.out]; simp; omega⟩
        case measure => simp [intOf]; omega
      · have HE := Lib.hid he
        clear he
        go_wp2_with fail
        refine (At_n _ _ _ (k) true _ (by omega) (by omega) hs (by show 2 ≤ 65536; omega) (.inl (by show 0 < 2; omega)) (by exact HE.out)).mono ?_
        rintro e w' ⟨rfl, rfl⟩
        go_wp2_with fail
        go_ret
        exact ⟨ret_int (by have e := hrel.out; rw [hgo.out, HE.out] at e; simp only [if_true] at e; omega), rfl⟩
    · have hdk := Lib.hid (drop_nil s k (by omega))
      go_wp2_with fail
      go_ret
      exact ⟨ret_int (by have e := hrel.out; rw [hdk.out] at e; simp only [commentGo] at e; omega), rfl⟩

set_option maxHeartbeats 2000000 in
theorem hidden_remark (s : ByteArray) (i : Nat) (b : UInt8) (r : List UInt8) (w : World) (hs : s.size ≤ 65536) (h : NoQuote s i b r) (hc : Lib.hasPrefix (s.data.toList.drop i) [47, 42] = false)
    (hr : (Lib.hasPrefix (s.data.toList.drop i) [47, 47] || b == 35) = true) :
    Calls Tryd.prog 22 #[.string s, .int .i64 i] w fun e w' => e = .returned (.int .i64 ((i + remarkN (s.data.toList.drop i) : Nat) : Int)) ∧ w = w' := by
  have hi := h.lt
  have hg := h.get hi
  have n39 := h.n39
  have n34 := h.n34
  have HC := Lib.hid hc
  clear hc h
  have hcase : ((b.toNat : Int) == 35) = true ∨ (((b.toNat : Int) == 35) = false ∧ Lib.hasPrefix (s.data.toList.drop i) [47, 47] = true) := by
    cases e : ((b.toNat : Int) == 35)
    · right
      refine ⟨rfl, ?_⟩
      rw [beqU, show ((35 : UInt8).toNat : Int) = 35 from rfl, e, Bool.or_false] at hr
      exact hr
    · left; rfl
  clear hr
  rcases hcase with n35 | ⟨n35, hp⟩
  · go_enter Tryd.func22, Tryd.ntmps22
    go_wp2_with fail
    refine (At_n _ _ _ (i) false _ (by omega) (by omega) hs (by show 2 ≤ 65536; omega) (.inl (by show 0 < 2; omega)) (by exact HC.out)).mono ?_
    rintro e w' ⟨rfl, rfl⟩
    go_wp2_with fail
    go_loop [7] (fun z => ∃ k : Nat, i ≤ k ∧ k ≤ s.size ∧ z = .int .i64 k ∧ Hid (i + remarkN (s.data.toList.drop i) = k + remarkN (s.data.toList.drop k))) (fun z => s.size - (intOf z).toNat)
    case atStart => exact ⟨i, by omega, by omega, rfl, rfl⟩
    case round =>
      obtain ⟨k, hk1, hk, rfl, hrel⟩ := hrel
      by_cases hlt : k < s.size
      · have hdk := Lib.hid (drop_at s k hlt)
        obtain ⟨c, hcc⟩ : ∃ c, s[k] = c := ⟨_, rfl⟩
        by_cases hc10 : (c.toNat : Int) = 10
        · have hu := Lib.hid (u8_of c 10 hc10)
          have HCC := Lib.hid hcc
          go_wp2_with fail
          go_ret
          exact ⟨ret_int (by have e := hrel.out; rw [hdk.out, HCC.out, hu.out] at e; simp [remarkN] at e; omega), rfl⟩
        · have n10 : ((c.toNat : Int) == 10) = false := by rw [beq_eq_false_iff_ne]; exact hc10
          have hgo : Hid (remarkN (s.data.toList.drop k) = if Lib.hasPrefix (s.data.toList.drop k) [63, 62] then 0 else 1 + remarkN (s.data.toList.drop (k + 1))) := by
            show _ = _
            rw [hdk.out, remarkN, hcc]
            have : (c == 10) = false := by rw [beqU]; exact n10
            rw [this, Bool.false_or]
          cases he : Lib.hasPrefix (s.data.toList.drop k) [63, 62]
          · have HE := Lib.hid he
            clear he
            go_wp2_with fail
            refine (At_n _ _ _ (k) false _ (by omega) (by omega) hs (by show 2 ≤ 65536; omega) (.inl (by show 0 < 2; omega)) (by exact HE.out)).mono ?_
            rintro e w' ⟨rfl, rfl⟩
            go_wp2_with fail
            go_round
            case rel => exact ⟨k + 1, by omega, by omega, by go_num, by show _ = _; rw [hrel.out, hgo.out, HE.out]; simp; omega⟩
            case measure => simp [intOf]; omega
          · have HE := Lib.hid he
            clear he
            go_wp2_with fail
            refine (At_n _ _ _ (k) true _ (by omega) (by omega) hs (by show 2 ≤ 65536; omega) (.inl (by show 0 < 2; omega)) (by exact HE.out)).mono ?_
            rintro e w' ⟨rfl, rfl⟩
            go_wp2_with fail
            go_ret
            exact ⟨ret_int (by have e := hrel.out; rw [hgo.out, HE.out] at e; simp only [if_true] at e; omega), rfl⟩
      · have hdk := Lib.hid (drop_nil s k (by omega))
        go_wp2_with fail
        go_ret
        exact ⟨ret_int (by have e := hrel.out; rw [hdk.out] at e; simp only [remarkN] at e; omega), rfl⟩
  · have HP := Lib.hid hp
    clear hp
    go_enter Tryd.func22, Tryd.ntmps22
    go_wp2_with fail
    refine (At_n _ _ _ (i) false _ (by omega) (by omega) hs (by show 2 ≤ 65536; omega) (.inl (by show 0 < 2; omega)) (by exact HC.out)).mono ?_
    rintro e w' ⟨rfl, rfl⟩
    go_wp2_with fail
    refine (At_n _ _ _ (i) true _ (by omega) (by omega) hs (by show 2 ≤ 65536; omega) (.inl (by show 0 < 2; omega)) (by exact HP.out)).mono ?_
    rintro e w' ⟨rfl, rfl⟩
    go_wp2_with fail
    go_loop [7] (fun z => ∃ k : Nat, i ≤ k ∧ k ≤ s.size ∧ z = .int .i64 k ∧ Hid (i + remarkN (s.data.toList.drop i) = k + remarkN (s.data.toList.drop k))) (fun z => s.size - (intOf z).toNat)
    case atStart => exact ⟨i, by omega, by omega, rfl, rfl⟩
    case round =>
      obtain ⟨k, hk1, hk, rfl, hrel⟩ := hrel
      by_cases hlt : k < s.size
      · have hdk := Lib.hid (drop_at s k hlt)
        obtain ⟨c, hcc⟩ : ∃ c, s[k] = c := ⟨_, rfl⟩
        by_cases hc10 : (c.toNat : Int) = 10
        · have hu := Lib.hid (u8_of c 10 hc10)
          have HCC := Lib.hid hcc
          go_wp2_with fail
          go_ret
          exact ⟨ret_int (by have e := hrel.out; rw [hdk.out, HCC.out, hu.out] at e; simp [remarkN] at e; omega), rfl⟩
        · have n10 : ((c.toNat : Int) == 10) = false := by rw [beq_eq_false_iff_ne]; exact hc10
          have hgo : Hid (remarkN (s.data.toList.drop k) = if Lib.hasPrefix (s.data.toList.drop k) [63, 62] then 0 else 1 + remarkN (s.data.toList.drop (k + 1))) := by
            show _ = _
            rw [hdk.out, remarkN, hcc]
            have : (c == 10) = false := by rw [beqU]; exact n10
            rw [this, Bool.false_or]
          cases he : Lib.hasPrefix (s.data.toList.drop k) [63, 62]
          · have HE := Lib.hid he
            clear he
            go_wp2_with fail
            refine (At_n _ _ _ (k) false _ (by omega) (by omega) hs (by show 2 ≤ 65536; omega) (.inl (by show 0 < 2; omega)) (by exact HE.out)).mono ?_
            rintro e w' ⟨rfl, rfl⟩
            go_wp2_with fail
            go_round
            case rel => exact ⟨k + 1, by omega, by omega, by go_num, by show _ = _; rw [hrel.out, hgo.out, HE.out]; simp; omega⟩
            case measure => simp [intOf]; omega
          · have HE := Lib.hid he
            clear he
            go_wp2_with fail
            refine (At_n _ _ _ (k) true _ (by omega) (by omega) hs (by show 2 ≤ 65536; omega) (.inl (by show 0 < 2; omega)) (by exact HE.out)).mono ?_
            rintro e w' ⟨rfl, rfl⟩
            go_wp2_with fail
            go_ret
            exact ⟨ret_int (by have e := hrel.out; rw [hgo.out, HE.out] at e; simp only [if_true] at e; omega), rfl⟩
      · have hdk := Lib.hid (drop_nil s k (by omega))
        go_wp2_with fail
        go_ret
        exact ⟨ret_int (by have e := hrel.out; rw [hdk.out] at e; simp only [remarkN] at e; omega), rfl⟩

theorem headName_at (s : ByteArray) (i : Nat) (h : headOk (s.data.toList.drop i) = true) :
    (s.extract (i + 3 + quoteN (s.data.toList.drop i)) (i + 3 + quoteN (s.data.toList.drop i) + wordN (headRest (s.data.toList.drop i)))).data.toList = headName (s.data.toList.drop i) ∧
    i + 3 + quoteN (s.data.toList.drop i) + wordN (headRest (s.data.toList.drop i)) ≤ s.size ∨ s.size < i := by
  by_cases hi : s.size < i
  · exact .inr hi
  · left
    have hrest : headRest (s.data.toList.drop i) = s.data.toList.drop (i + 3 + quoteN (s.data.toList.drop i)) := by rw [headRest, List.drop_drop, List.drop_drop, Nat.add_assoc]
    refine ⟨?_, ?_⟩
    · rw [Lib.extract_data, headName, if_pos h, Nat.add_sub_cancel_left, ← hrest]
    · have h1 := wordN_le (headRest (s.data.toList.drop i))
      have h2 := headAt_le _ h
      rw [headName, if_pos h, List.length_take] at h2
      have h3 : (headRest (s.data.toList.drop i)).length = s.size - (i + 3 + quoteN (s.data.toList.drop i)) := by
        conv => lhs; rw [hrest]
        rw [List.length_drop, ← Lib.size_eq]
      omega

set_option maxHeartbeats 2000000 in
theorem hidden_long (s : ByteArray) (i : Nat) (b : UInt8) (r : List UInt8) (w : World) (hs : s.size ≤ 65536) (h : NoQuote s i b r) (hc : Lib.hasPrefix (s.data.toList.drop i) [47, 42] = false)
    (hr : (Lib.hasPrefix (s.data.toList.drop i) [47, 47] || b == 35) = false) (h3 : Lib.hasPrefix (s.data.toList.drop i) [60, 60, 60] = true) (hok : headOk (s.data.toList.drop i) = true) :
    Calls Tryd.prog 22 #[.string s, .int .i64 i] w fun e w' => e = .returned (.int .i64 ((i + longN (s.data.toList.drop i) : Nat) : Int)) ∧ w = w' := by
  have hi := h.lt
  have hg := h.get hi
  have n39 := h.n39
  have n34 := h.n34
  have n35 : ((b.toNat : Int) == 35) = false := by
    have := (Bool.or_eq_false_iff.1 hr).2
    rw [beqU] at this
    exact this
  have HP := Lib.hid (Bool.or_eq_false_iff.1 hr).1
  have HC := Lib.hid hc
  have H3 := Lib.hid h3
  have hle := headAt_le _ hok
  rw [List.length_drop, ← Lib.size_eq] at hle
  have hnm := headName_at s i hok
  have hlong : longN (s.data.toList.drop i) = headAt (s.data.toList.drop i) + longGo (headName (s.data.toList.drop i)) true (s.data.toList.drop (i + headAt (s.data.toList.drop i))) := by
    rw [longN, if_pos hok, List.drop_drop]
  have hres : longRes i (s.data.toList.drop i) = .tuple #[.int .i64 ((i + 3 + quoteN (s.data.toList.drop i) : Nat) : Int), .int .i64 (wordN (headRest (s.data.toList.drop i))), .int .i64 ((i + headAt (s.data.toList.drop i) : Nat) : Int)] := by
    unfold longRes
    rw [if_pos hok]
  have hnl : (headName (s.data.toList.drop i)).length = wordN (headRest (s.data.toList.drop i)) := by
    rw [headName, if_pos hok, List.length_take]
    have := wordN_le (headRest (s.data.toList.drop i))
    omega
  rcases hnm with ⟨hnm1, hnm2⟩ | hnm
  case inr => omega
  obtain ⟨a, ha⟩ : ∃ a, a = i + 3 + quoteN (s.data.toList.drop i) := ⟨_, rfl⟩
  obtain ⟨n, hn⟩ : ∃ n, n = wordN (headRest (s.data.toList.drop i)) := ⟨_, rfl⟩
  obtain ⟨f, hf⟩ : ∃ f, f = i + headAt (s.data.toList.drop i) := ⟨_, rfl⟩
  obtain ⟨N, hN⟩ : ∃ N, N = s.extract a (a + n) := ⟨_, rfl⟩
  rw [← ha, ← hn] at hnm1 hnm2
  rw [← ha, ← hn, ← hf] at hres
  rw [← hf] at hlong
  rw [← hn] at hnl
  have hfs : f ≤ s.size := by omega
  have hn0 : 0 < n := by omega
  have hNs : N.size = n := by rw [Lib.size_eq, hN, hnm1, hnl]
  have hNb : N.size ≤ 65536 := by omega
  have hN0 : 0 < N.size := by omega
  have hNl : N.data.toList = headName (s.data.toList.drop i) := by rw [hN, hnm1]
  rw [← hNl] at hlong
  have HE := longGo_at N.data.toList (s.data.toList.drop f) true
  have hil : i + longN (s.data.toList.drop i) = f + longGo N.data.toList true (s.data.toList.drop f) := by rw [hlong]; omega
  rw [List.length_drop, ← Lib.size_eq, ← Lib.size_eq, hNs] at HE
  have hn0' : ((n : Int) == 0) = false := by rw [beq_eq_false_iff_ne]; omega
  have ha0 : (a : Int) ≤ (a : Int) + (n : Int) := by omega
  have ha1 : (a : Int) + (n : Int) ≤ (s.size : Int) := by omega
  have HRES := Lib.hid hres
  have HNE := Lib.hid hN
  have HIL := Lib.hid hil
  have HNS := Lib.hid hNs
  clear hc h hr h3 hok hle hnm1 hnm2 hres hlong hnl ha hn hf hN hNl hil hNs
  cases hla : longAt N.data.toList true (s.data.toList.drop f) with
  | none =>
    have HE2 : longGo N.data.toList true (s.data.toList.drop f) = s.size - f := by rw [HE, hla]
    have HEND : Hid (i + longN (s.data.toList.drop i) = s.size) := by show _ = _; rw [HIL.out, HE2]; omega
    have HR : Hid (resAt N.data.toList true f (s.data.toList.drop f) = -1) := by show _ = _; simp [resAt, hla]
    clear hla HE HE2
    go_enter Tryd.func22, Tryd.ntmps22
    go_wp2_with fail
    refine (At_n _ _ _ (i) false _ (by omega) (by omega) hs (by show 2 ≤ 65536; omega) (.inl (by show 0 < 2; omega)) (by exact HC.out)).mono ?_
    rintro e w' ⟨rfl, rfl⟩
    go_wp2_with fail
    refine (At_n _ _ _ (i) false _ (by omega) (by omega) hs (by show 2 ≤ 65536; omega) (.inl (by show 0 < 2; omega)) (by exact HP.out)).mono ?_
    rintro e w' ⟨rfl, rfl⟩
    go_wp2_with fail
    refine (RLong_any s i _ hs (by omega) (by exact H3.out)).mono ?_
    rintro e w' ⟨rfl, rfl⟩
    rw [HRES.out]
    go_wp2_with fail
    rw [← HNE.out]
    refine (Ends_any s N _ f _ rfl hfs hs hNb hN0).mono ?_
    rintro e w' ⟨rfl, rfl⟩
    rw [HR.out]
    go_wp2_with fail
    go_ret
    exact ⟨ret_int (by have e := HEND.out; omega), rfl⟩
  | some j =>
    have HE2 : longGo N.data.toList true (s.data.toList.drop f) = j + n := by rw [HE, hla]
    have HEND : Hid (i + longN (s.data.toList.drop i) = f + j + n) := by show _ = _; rw [HIL.out, HE2]; omega
    have HR : Hid (resAt N.data.toList true f (s.data.toList.drop f) = ((f + j : Nat) : Int)) := by show _ = _; simp [resAt, hla]
    have hjs : f + j ≤ s.size + s.size := by
      have := longGo_le N.data.toList (s.data.toList.drop f) true
      rw [HE2, List.length_drop, ← Lib.size_eq] at this
      omega
    obtain ⟨y, hy⟩ : ∃ y, y = f + j := ⟨_, rfl⟩
    rw [← hy] at HR HEND hjs
    clear hla HE HE2 hy
    go_enter Tryd.func22, Tryd.ntmps22
    go_wp2_with fail
    refine (At_n _ _ _ (i) false _ (by omega) (by omega) hs (by show 2 ≤ 65536; omega) (.inl (by show 0 < 2; omega)) (by exact HC.out)).mono ?_
    rintro e w' ⟨rfl, rfl⟩
    go_wp2_with fail
    refine (At_n _ _ _ (i) false _ (by omega) (by omega) hs (by show 2 ≤ 65536; omega) (.inl (by show 0 < 2; omega)) (by exact HP.out)).mono ?_
    rintro e w' ⟨rfl, rfl⟩
    go_wp2_with fail
    refine (RLong_any s i _ hs (by omega) (by exact H3.out)).mono ?_
    rintro e w' ⟨rfl, rfl⟩
    rw [HRES.out]
    go_wp2_with fail
    rw [← HNE.out]
    refine (Ends_any s N _ f _ rfl hfs hs hNb hN0).mono ?_
    rintro e w' ⟨rfl, rfl⟩
    rw [HR.out]
    go_wp2_with fail
    go_ret
    exact ⟨ret_int (by have e := HEND.out; omega), rfl⟩

set_option maxHeartbeats 2000000 in
theorem hidden_none (s : ByteArray) (i : Nat) (b : UInt8) (r : List UInt8) (w : World) (hs : s.size ≤ 65536) (h : NoQuote s i b r) (hc : Lib.hasPrefix (s.data.toList.drop i) [47, 42] = false)
    (hr : (Lib.hasPrefix (s.data.toList.drop i) [47, 47] || b == 35) = false) (h3 : (Lib.hasPrefix (s.data.toList.drop i) [60, 60, 60] && headOk (s.data.toList.drop i)) = false) :
    Calls Tryd.prog 22 #[.string s, .int .i64 i] w fun e w' => e = .returned (.int .i64 i) ∧ w = w' := by
  have hi := h.lt
  have hg := h.get hi
  have n39 := h.n39
  have n34 := h.n34
  have n35 : ((b.toNat : Int) == 35) = false := by
    have := (Bool.or_eq_false_iff.1 hr).2
    rw [beqU] at this
    exact this
  have HP := Lib.hid (Bool.or_eq_false_iff.1 hr).1
  have HC := Lib.hid hc
  clear hc h hr
  cases h9 : Lib.hasPrefix (s.data.toList.drop i) [60, 60, 60]
  · have H9 := Lib.hid h9
    clear h9 h3
    go_enter Tryd.func22, Tryd.ntmps22
    go_wp2_with fail
    refine (At_n _ _ _ (i) false _ (by omega) (by omega) hs (by show 2 ≤ 65536; omega) (.inl (by show 0 < 2; omega)) (by exact HC.out)).mono ?_
    rintro e w' ⟨rfl, rfl⟩
    go_wp2_with fail
    refine (At_n _ _ _ (i) false _ (by omega) (by omega) hs (by show 2 ≤ 65536; omega) (.inl (by show 0 < 2; omega)) (by exact HP.out)).mono ?_
    rintro e w' ⟨rfl, rfl⟩
    go_wp2_with fail
    refine (RLong_no s i _ hs (by omega) (by exact H9.out)).mono ?_
    rintro e w' ⟨rfl, rfl⟩
    go_wp2_with fail
    go_ret
    exact ⟨rfl, rfl⟩
  · have hres : longRes i (s.data.toList.drop i) = .tuple #[.int .i64 0, .int .i64 0, .int .i64 0] := by
      unfold longRes
      rw [h9, Bool.true_and] at h3
      rw [h3]
      rfl
    have H9 := Lib.hid h9
    have HRES := Lib.hid hres
    clear h9 h3 hres
    go_enter Tryd.func22, Tryd.ntmps22
    go_wp2_with fail
    refine (At_n _ _ _ (i) false _ (by omega) (by omega) hs (by show 2 ≤ 65536; omega) (.inl (by show 0 < 2; omega)) (by exact HC.out)).mono ?_
    rintro e w' ⟨rfl, rfl⟩
    go_wp2_with fail
    refine (At_n _ _ _ (i) false _ (by omega) (by omega) hs (by show 2 ≤ 65536; omega) (.inl (by show 0 < 2; omega)) (by exact HP.out)).mono ?_
    rintro e w' ⟨rfl, rfl⟩
    go_wp2_with fail
    refine (RLong_any s i _ hs (by omega) (by exact H9.out)).mono ?_
    rintro e w' ⟨rfl, rfl⟩
    rw [HRES.out]
    go_wp2_with fail
    go_ret
    exact ⟨rfl, rfl⟩

theorem hidden_any (s : ByteArray) (i : Nat) (w : World) (hs : s.size ≤ 65536) (hi : i < s.size) :
    Calls Tryd.prog 22 #[.string s, .int .i64 i] w fun e w' => e = .returned (.int .i64 ((i + hidN (s.data.toList.drop i) : Nat) : Int)) ∧ Below w.heap.size w w' := by
  have hd := drop_at s i hi
  by_cases hq : (s[i] == 39 || s[i] == 34) = true
  · have hq' : (s[i].toNat : Int) = 39 ∨ (s[i].toNat : Int) = 34 := by
      simp only [beqU, Bool.or_eq_true, beq_iff_eq] at hq
      exact hq
    have e : hidN (s.data.toList.drop i) = textN (s.data.toList.drop i) := by rw [hd]; simp only [hidN]; rw [if_pos hq]
    rw [e]
    exact hidden_text s i w hs hi hq'
  · have hq0 : (s[i] == 39 || s[i] == 34) = false := by simpa using hq
    have hnq : NoQuote s i s[i] (s.data.toList.drop (i + 1)) := by
      rw [beqU, beqU] at hq0
      exact ⟨hi, hd, fun _ => rfl, (Bool.or_eq_false_iff.1 hq0).1, (Bool.or_eq_false_iff.1 hq0).2⟩
    have same : ∀ (f : Nat), (Calls Tryd.prog 22 #[.string s, .int .i64 i] w fun e w' => e = .returned (.int .i64 f) ∧ w = w') → hidN (s.data.toList.drop i) + i = f →
        Calls Tryd.prog 22 #[.string s, .int .i64 i] w fun e w' => e = .returned (.int .i64 ((i + hidN (s.data.toList.drop i) : Nat) : Int)) ∧ Below w.heap.size w w' := by
      intro f hf he
      refine hf.mono ?_
      rintro e w' ⟨rfl, rfl⟩
      exact ⟨ret_int (by omega), Below.refl _ _⟩
    cases hc : Lib.hasPrefix (s.data.toList.drop i) [47, 42]
    · cases hr : (Lib.hasPrefix (s.data.toList.drop i) [47, 47] || s[i] == 35)
      · cases h3 : (Lib.hasPrefix (s.data.toList.drop i) [60, 60, 60] && headOk (s.data.toList.drop i))
        · refine same i (hidden_none s i _ _ w hs hnq hc hr h3) ?_
          rw [hd] at hc hr h3 ⊢
          simp only [hidN]
          rw [if_neg hq, if_neg (by rw [hc]; simp), if_neg (by rw [hr]; simp), if_neg (by rw [h3]; simp)]
          omega
        · have h3' := Bool.and_eq_true_iff.1 h3
          refine same _ (hidden_long s i _ _ w hs hnq hc hr h3'.1 h3'.2) ?_
          rw [hd] at hc hr h3 ⊢
          simp only [hidN]
          rw [if_neg hq, if_neg (by rw [hc]; simp), if_neg (by rw [hr]; simp), if_pos h3]
          omega
      · refine same _ (hidden_remark s i _ _ w hs hnq hc hr) ?_
        rw [hd] at hc hr ⊢
        simp only [hidN]
        rw [if_neg hq, if_neg (by rw [hc]; simp), if_pos hr]
        omega
    · refine same _ (hidden_comment s i _ _ w hs hnq hc) ?_
      rw [hd] at hc ⊢
      simp only [hidN]
      rw [if_neg hq, if_pos hc]
      omega
end Go.Proofs.YtbeglmolgloepaaDoor
