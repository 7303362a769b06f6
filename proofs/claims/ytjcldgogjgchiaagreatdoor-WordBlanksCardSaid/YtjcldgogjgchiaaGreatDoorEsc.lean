/-
  Contracts of package word's signLen, hexValue, hexByte, escaped and isKeyNumber.
-/
import Derived.Test.YtjcldgogjgchiaaGreatDoorBytes
namespace Go.Proofs.YtjcldgogjgchiaaGreatDoor
open Go Go.RowKit Cutting Wording

/- ---- signs -/
def signAt (s : L) : Nat → Nat
  | 0 => 0
  | k + 1 => if isSignB (s.take (k + 1)) then k + 1 else signAt s k
theorem signN_at (s : L) : signN s = signAt s (min 3 s.length) := by
  unfold signN
  match s with
  | [] => rfl
  | [a] => simp [signAt]
  | [a, b] => simp [signAt]
  | a :: b :: c :: t =>
    have : min 3 (a :: b :: c :: t).length = 3 := by simp
    rw [this]
    simp [signAt]
theorem signN_le (s : L) : signN s ≤ 3 ∧ signN s ≤ s.length := by
  have key : ∀ k, signAt s k ≤ k := by
    intro k
    induction k with
    | zero => exact Nat.le_refl _
    | succ k ih => unfold signAt; split <;> omega
  rw [signN_at]
  have := key (min 3 s.length)
  omega
set_option maxRecDepth 100000 in
theorem signLen_any (s : ByteArray) (w : World) (hs : s.size ≤ 4294967280) :
    Calls Tryz.prog 79 #[.string s] w fun e w' => e = .returned (.int .i64 (signN s.data.toList)) ∧ w = w' := by
  obtain ⟨m, hm⟩ : ∃ m, m = min 3 s.size := ⟨_, rfl⟩
  have hN : Hid (signN s.data.toList = signAt s.data.toList m) := by show _ = _; rw [signN_at, ← Lib.size_eq, hm]
  have hm1 : m ≤ 3 := by omega
  have hm2 : m ≤ s.size := by omega
  have hmi : min (3 : Int) (s.size : Int) = m := by omega
  have HMI := Lib.hid hmi
  clear hmi hm
  go_enter Tryz.func79, Tryz.ntmps79
  go_wp2_with fail
  rw [HMI.out]
  go_loop [3] (fun i => ∃ k : Nat, i = .int .i64 k ∧ k ≤ s.size ∧ k ≤ 3 ∧ Hid (signN s.data.toList = signAt s.data.toList k)) (fun i => (intOf i).toNat)
  case atStart => exact ⟨m, rfl, hm2, hm1, hN⟩
  case round =>
    obtain ⟨k, rfl, hk, hk3, hrel⟩ := hrel
    cases k with
    | zero =>
      go_wp2_with fail
      go_ret
      exact ⟨ret_int (by rw [hrel.out]; try rfl), rfl⟩
    | succ k =>
      have hx : Hid ((s.extract 0 (k + 1)).data.toList = s.data.toList.take (k + 1)) := extract_pre s (k + 1)
      cases hb : isSignB (s.data.toList.take (k + 1))
      · have HS : Hid (signAt s.data.toList (k + 1) = signAt s.data.toList k) := by show _ = _; rw [signAt, hb]; rfl
        have HB := Lib.hid hb
        clear hb
        go_wp2_with (go_at_call 99; refine (isSign_any _ _).mono ?_; rintro e w' ⟨rfl, rfl⟩; rw [hx.out, HB.out])
        go_round
        case rel => exact ⟨k, by go_num, by omega, by omega, by show _ = _; rw [hrel.out, HS.out]⟩
        case measure => simp [intOf]
      · have HS : Hid (signAt s.data.toList (k + 1) = k + 1) := by show _ = _; rw [signAt, hb]; rfl
        have HB := Lib.hid hb
        clear hb
        go_wp2_with (go_at_call 99; refine (isSign_any _ _).mono ?_; rintro e w' ⟨rfl, rfl⟩; rw [hx.out, HB.out])
        go_ret
        exact ⟨ret_int (by rw [hrel.out, HS.out]; omega), rfl⟩

/- ---- escapes -/
theorem hexValue_any (b : UInt8) (w : World) (h : hexB b = true) :
    Calls Tryz.prog 129 #[.int .i32 b.toNat] w fun e w' => e = .returned (.int .i64 (hexOf b)) ∧ w = w' := by
  have h8 : b.toNat < 256 := b.toNat_lt
  have h2 := h
  rw [← hexR_b] at h2
  cases hd : digB b
  · have hR : Hid (digR b.toNat = false) := by show _ = _; rw [digR_b]; exact hd
    have hnd := digit_not b hd h
    simp only [hexR, digR, Bool.or_eq_true, Bool.and_eq_true, decide_eq_true_eq] at h2
    by_cases h97 : 97 ≤ b.toNat
    · have HX : Hid ((hexOf b : Int) = (b.toNat : Int) - 87) := by
        show _ = _
        have : (97 ≤ b) = (97 ≤ b.toNat) := by simp [UInt8.le_iff_toNat_le]
        simp only [hexOf, hd, this, h97, if_true]
        simp; omega
      clear hd h h2 hnd
      go_enter Tryz.func129, Tryz.ntmps129
      go_wp2_with (go_at_call 44; refine (wisDigit_b _ false _ hR.out).mono ?_; rintro e w' ⟨rfl, rfl⟩)
      go_ret
      exact ⟨ret_int (by rw [HX.out]; omega), rfl⟩
    · have h65 : 65 ≤ b.toNat := by omega
      have HX : Hid ((hexOf b : Int) = (b.toNat : Int) - 55) := by
        show _ = _
        have : (97 ≤ b) = (97 ≤ b.toNat) := by simp [UInt8.le_iff_toNat_le]
        simp only [hexOf, hd, this, h97, if_false]
        simp; omega
      clear hd h h2 hnd
      go_enter Tryz.func129, Tryz.ntmps129
      go_wp2_with (go_at_call 44; refine (wisDigit_b _ false _ hR.out).mono ?_; rintro e w' ⟨rfl, rfl⟩)
      go_ret
      exact ⟨ret_int (by rw [HX.out]; omega), rfl⟩
  · have hR : Hid (digR b.toNat = true) := by show _ = _; rw [digR_b]; exact hd
    obtain ⟨d1, d2, d3⟩ := digit_is b hd
    have HX : Hid ((hexOf b : Int) = (b.toNat : Int) - 48) := by show _ = _; rw [d3]; omega
    clear hd h h2 d3
    go_enter Tryz.func129, Tryz.ntmps129
    go_wp2_with (go_at_call 44; refine (wisDigit_b _ true _ hR.out).mono ?_; rintro e w' ⟨rfl, rfl⟩)
    go_ret
    exact ⟨ret_int (by rw [HX.out]), rfl⟩

def hexPair (r : L) : UInt8 × Nat := if spanN hexB (r.take 2) = 0 then (92, 1) else (hexGo ((r.take 2).take (spanN hexB (r.take 2))), 2 + spanN hexB (r.take 2))
def pairV (p : UInt8 × Nat) : Value := .tuple #[.int .u8 p.1.toNat, .int .i64 p.2]
theorem hexB_low (b : UInt8) (h : hexB b = true) : b.toNat < 128 := by
  rw [← hexR_b] at h
  simp only [hexR, digR, Bool.or_eq_true, Bool.and_eq_true, decide_eq_true_eq] at h
  omega
theorem valA_snoc (base a : Nat) (l : L) (b : UInt8) : valA base a (l ++ [b]) = valA base a l * base + hexOf b := by simp [valA]
theorem valA_small (l : L) (hl : l.length ≤ 2) (h : ∀ b ∈ l, hexB b = true) : valA 16 0 l < 256 := by
  match l with
  | [] => decide
  | [a] => have := hexOf_lt a (h a (by simp)); simp [valA]; omega
  | [a, b] => have := hexOf_lt a (h a (by simp)); have := hexOf_lt b (h b (by simp)); simp [valA]; omega
  | a :: b :: c :: t => simp at hl

set_option maxHeartbeats 1000000 in
set_option maxRecDepth 100000 in
theorem hexByte_any (s : ByteArray) (w : World) (h2 : 2 ≤ s.size) (hs : s.size ≤ 4294967280) :
    Calls Tryz.prog 119 #[.string s] w fun e w' => e = .returned (pairV (hexPair (s.data.toList.drop 2))) ∧ Below w.heap.size w w' := by
  obtain ⟨m, hm⟩ : ∃ m, m = min 4 s.size := ⟨_, rfl⟩
  have hm1 : 2 ≤ m := by omega
  have hm2 : m ≤ s.size := by omega
  have hm3 : m ≤ 4 := by omega
  have hmi : min (4 : Int) (s.size : Int) = m := by omega
  have HMI := Lib.hid hmi
  obtain ⟨D, hD⟩ : ∃ D, D = s.extract 2 m := ⟨_, rfl⟩
  have hDl : D.data.toList = (s.data.toList.drop 2).take 2 := by
    rw [hD, extract_list]
    by_cases h4 : 4 ≤ s.size
    · rw [show m - 2 = 2 from by omega]
    · rw [List.take_of_length_le (by rw [List.length_drop, ← Lib.size_eq]; omega), List.take_of_length_le (by rw [List.length_drop, ← Lib.size_eq]; omega)]
  obtain ⟨n, hn⟩ : ∃ n, n = spanN hexB D.data.toList := ⟨_, rfl⟩
  have hnl := spanN_le hexB D.data.toList
  have hD2 : D.data.toList.length ≤ 2 := by rw [hDl, List.length_take]; omega
  rw [← hn] at hnl
  have hDs : D.size ≤ 2 := by rw [Lib.size_eq]; exact hD2
  have hnD : n ≤ D.size := by rw [Lib.size_eq]; exact hnl
  have HP : Hid (hexPair (s.data.toList.drop 2) = if n = 0 then (92, 1) else (hexGo (D.data.toList.take n), 2 + n)) := by
    show _ = _; rw [hexPair, ← hDl, ← hn]
  have hall : ∀ b ∈ D.data.toList.take n, hexB b = true := by rw [hn]; exact takeWhile_all hexB _
  have HALL := hide hall
  have HD := Lib.hid hD
  have Hn := Lib.hid hn.symm
  have hs2 : D.size ≤ 4294967280 := by omega
  clear hmi hm hDl hn hD hall hnl hD2
  go_enter Tryz.func119, Tryz.ntmps119
  go_wp2_with fail
  rw [HMI.out, Int.toNat_natCast, ← HD.out]
  refine (runLen_isHex _ _ hs2).mono ?_
  rintro e w1 ⟨rfl, hb1⟩
  rw [Hn.out]
  by_cases h0 : n = 0
  · have HR : Hid (hexPair (s.data.toList.drop 2) = (92, 1)) := by show _ = _; rw [HP.out, if_pos h0]
    subst h0
    clear HP
    go_wp2_with fail
    go_ret2
    exact ⟨by rw [HR.out]; rfl, hb1⟩
  · have h0' : ((n : Int) == 0) = false := by rw [beq_eq_false_iff_ne]; omega
    have HR : Hid (hexPair (s.data.toList.drop 2) = (hexGo (D.data.toList.take n), 2 + n)) := by show _ = _; rw [HP.out, if_neg h0]
    obtain ⟨U, hU⟩ : ∃ U, U = D.extract 0 n := ⟨_, rfl⟩
    have hUl : U.data.toList = D.data.toList.take n := by rw [hU, extract_pre]
    have hUs : U.size = n := by rw [Lib.size_eq, hUl, List.length_take, ← Lib.size_eq]; omega
    have HALL2 := hide (p := ∀ b ∈ U.data.toList, hexB b = true) (by rw [hUl]; exact unhide HALL)
    have HU := Lib.hid hU
    have HUL := Lib.hid hUl
    have HUS := Lib.hid hUs
    have hU2 : U.size ≤ 2 := by omega
    clear HP HALL hU hUl hUs
    go_wp2_with fail
    rw [← HU.out]
    have hI : ∀ p, Below w.heap.size w (w1.iter U p) := fun p => hb1.trans (((Below.refl _ _).alloc (Nat.le_refl _) _).mono hb1.size)
    have HIB := hide hI
    clear hI
    go_wp2_with fail
    go_loopw [6] (fun v wr => ∃ (k a : Nat), v = .int .i64 a ∧ k ≤ U.size ∧ wr = w1.iter U k ∧ Hid (a = valA 16 0 (U.data.toList.take k)) ∧ a < 256 ∧ (k ≤ 1 → a < 16) ∧ (k = 0 → a = 0)) (fun _ wr => U.size - wr.iterPos w1.heap.size)
    case atStart => exact ⟨0, 0, rfl, Nat.zero_le _, rfl, rfl, by omega, by omega, fun _ => rfl⟩
    case round =>
      obtain ⟨k, a, rfl, hk, rfl, hrel, ha, ha16, ha0⟩ := hrel
      by_cases hlt : k < U.size
      · have hmem : U[k] ∈ U.data.toList := by
          have := drop_at U k hlt
          exact List.mem_of_mem_drop (by rw [this]; exact List.mem_cons_self)
        have hx := unhide HALL2 _ hmem
        have hlow := hexB_low _ hx
        have hnx := fun ty => run_next_ascii (P := Tryz.prog) w1 U k ty hlt hlow
        have hxo := hexOf_lt _ hx
        have ha2 : a < 16 := ha16 (by omega)
        have HS : Hid (a * 16 + hexOf U[k] = valA 16 0 (U.data.toList.take (k + 1))) := by
          show _ = _
          rw [List.take_succ_eq_append_getElem (by rw [← Lib.size_eq]; exact hlt), valA_snoc, ← hrel.out]
          rfl
        have HX := Lib.hid hx
        clear hx hmem hlow
        go_wp2_with (go_at_call 129; refine (hexValue_any _ _ HX.out).mono ?_; rintro e w' ⟨rfl, rfl⟩)
        go_roundw
        case rel => exact ⟨k + 1, a * 16 + hexOf U[k], by go_num, by omega, rfl, HS, by omega, by omega, by omega⟩
        case measure => simp; omega
      · have hnx := fun ty => run_next_end (P := Tryz.prog) w1 U k ty hlt
        have HV : Hid ((hexGo (D.data.toList.take n)).toNat = a) := by
          show _ = _
          have e1 : k = U.size := by omega
          rw [← HUL.out, hexGo]
          have e2 : valN 16 U.data.toList = a := by
            have := hrel.out
            rw [e1, List.take_of_length_le (by rw [← Lib.size_eq]; exact Nat.le_refl _)] at this
            exact this.symm
          rw [e2, UInt8.toNat_ofNat']
          omega
        go_wp2_with fail
        go_ret2
        refine ⟨?_, unhide HIB _⟩
        rw [HR.out, pairV]
        dsimp only
        rw [HV.out]
        first | rfl | (congr 1; simp) | skip

def escV (p : UInt8 × Nat) : Value := .tuple #[.int .u8 p.1.toNat, .int .i64 p.2]
theorem escN_at (s : L) (q : Bool) : escN s q = match s.drop 1 with
  | [] => (92, 1)
  | c :: r => if c = 110 then (10, 2) else if c = 116 then (9, 2) else if c = 114 then (13, 2) else if c = 92 ∨ c = 36 then (c, 2)
    else if c = 120 then hexPair r else if c = 34 ∧ q = true then (34, 2) else (92, 1) := by
  unfold escN hexPair
  cases s.drop 1 with
  | nil => rfl
  | cons c r => simp
set_option maxHeartbeats 4000000 in
set_option maxRecDepth 100000 in
theorem escaped_any (s : ByteArray) (q : Bool) (w : World) (h0 : 0 < s.size) (hs : s.size ≤ 4294967280) :
    Calls Tryz.prog 107 #[.string s, .bool q] w fun e w' => e = .returned (pairV (escN s.data.toList q)) ∧ Below w.heap.size w w' := by
  by_cases h1 : s.size = 1
  · have HR : Hid (escN s.data.toList q = (92, 1)) := by
      show _ = _; rw [escN_at, drop_nil s 1 (by omega)]
    go_enter Tryz.func107, Tryz.ntmps107
    go_wp2_with fail
    go_ret2
    exact ⟨by rw [HR.out]; rfl, Below.refl _ _⟩
  · have hlt : 1 < s.size := by omega
    have hb1 : ((s.size : Int) == 1) = false := by rw [beq_eq_false_iff_ne]; omega
    have hd := drop_at s 1 hlt
    have h8 : s[1].toNat < 256 := s[1].toNat_lt
    have hE : Hid (escN s.data.toList q = if s[1] = 110 then ((10 : UInt8), (2 : Nat)) else if s[1] = 116 then (9, 2) else if s[1] = 114 then (13, 2) else if s[1] = 92 ∨ s[1] = 36 then (s[1], 2)
        else if s[1] = 120 then hexPair (s.data.toList.drop 2) else if s[1] = 34 ∧ q = true then (34, 2) else (92, 1)) := by
      show _ = _; rw [escN_at, hd]
    clear hd h1
    have HHX : Hid (∀ W : World, Calls Tryz.prog 119 #[.string s] W fun e w' => e = .returned (pairV (hexPair (s.data.toList.drop 2))) ∧ Below W.heap.size W w') := fun W => hexByte_any s W hlt hs
    have eqs : ∀ c : UInt8, (s[1] = c → ((s[1].toNat : Int) == (c.toNat : Int)) = true) ∧ (s[1] ≠ c → ((s[1].toNat : Int) == (c.toNat : Int)) = false) := fun c =>
      ⟨fun h => by rw [h]; simp, fun h => by rw [beq_eq_false_iff_ne]; intro h2; exact h (u8_of _ _ h2)⟩
    by_cases c1 : s[1] = 110
    · have t1 : ((s[1].toNat : Int) == 110) = true := (eqs 110).1 c1
      have HR : Hid (escN s.data.toList q = (10, 2)) := by show _ = _; rw [hE.out, if_pos c1]
      clear eqs hE c1
      go_enter Tryz.func107, Tryz.ntmps107
      go_wp2_with fail
      go_ret2
      exact ⟨by rw [HR.out]; rfl, Below.refl _ _⟩
    · have t1 : ((s[1].toNat : Int) == 110) = false := (eqs 110).2 c1
      by_cases c2 : s[1] = 116
      · have t2 : ((s[1].toNat : Int) == 116) = true := (eqs 116).1 c2
        have HR : Hid (escN s.data.toList q = (9, 2)) := by show _ = _; rw [hE.out, if_neg c1, if_pos c2]
        clear eqs hE c1 c2
        go_enter Tryz.func107, Tryz.ntmps107
        go_wp2_with fail
        go_ret2
        exact ⟨by rw [HR.out]; rfl, Below.refl _ _⟩
      · have t2 : ((s[1].toNat : Int) == 116) = false := (eqs 116).2 c2
        by_cases c3 : s[1] = 114
        · have t3 : ((s[1].toNat : Int) == 114) = true := (eqs 114).1 c3
          have HR : Hid (escN s.data.toList q = (13, 2)) := by show _ = _; rw [hE.out, if_neg c1, if_neg c2, if_pos c3]
          clear eqs hE c1 c2 c3
          go_enter Tryz.func107, Tryz.ntmps107
          go_wp2_with fail
          go_ret2
          exact ⟨by rw [HR.out]; rfl, Below.refl _ _⟩
        · have t3 : ((s[1].toNat : Int) == 114) = false := (eqs 114).2 c3
          by_cases c4 : s[1] = 92
          · have t4 : ((s[1].toNat : Int) == 92) = true := (eqs 92).1 c4
            have HR : Hid (escN s.data.toList q = (s[1], 2)) := by show _ = _; rw [hE.out, if_neg c1, if_neg c2, if_neg c3, if_pos (.inl c4)]
            clear eqs hE c1 c2 c3 c4
            go_enter Tryz.func107, Tryz.ntmps107
            go_wp2_with fail
            go_ret2
            exact ⟨by rw [HR.out]; rfl, Below.refl _ _⟩
          · have t4 : ((s[1].toNat : Int) == 92) = false := (eqs 92).2 c4
            by_cases c5 : s[1] = 36
            · have t5 : ((s[1].toNat : Int) == 36) = true := (eqs 36).1 c5
              have HR : Hid (escN s.data.toList q = (s[1], 2)) := by show _ = _; rw [hE.out, if_neg c1, if_neg c2, if_neg c3, if_pos (.inr c5)]
              clear eqs hE c1 c2 c3 c4 c5
              go_enter Tryz.func107, Tryz.ntmps107
              go_wp2_with fail
              go_ret2
              exact ⟨by rw [HR.out]; rfl, Below.refl _ _⟩
            · have t5 : ((s[1].toNat : Int) == 36) = false := (eqs 36).2 c5
              have c45 : ¬ (s[1] = 92 ∨ s[1] = 36) := by rintro (h | h); exact c4 h; exact c5 h
              by_cases c6 : s[1] = 120
              · have t6 : ((s[1].toNat : Int) == 120) = true := (eqs 120).1 c6
                have HR : Hid (escN s.data.toList q = hexPair (s.data.toList.drop 2)) := by show _ = _; rw [hE.out, if_neg c1, if_neg c2, if_neg c3, if_neg c45, if_pos c6]
                clear eqs hE c1 c2 c3 c4 c5 c6 c45
                go_enter Tryz.func107, Tryz.ntmps107
                go_wp2_with fail
                refine (unhide HHX _).mono ?_
                rintro e w1 ⟨rfl, hb⟩
                unfold pairV
                go_wp2_with fail
                go_ret2
                exact ⟨by rw [HR.out]; rfl, hb⟩
              · have t6 : ((s[1].toNat : Int) == 120) = false := (eqs 120).2 c6
                by_cases c7 : s[1] = 34
                · have t7 : ((s[1].toNat : Int) == 34) = true := (eqs 34).1 c7
                  cases q
                  · have HR : Hid (escN s.data.toList false = (92, 1)) := by show _ = _; rw [hE.out, if_neg c1, if_neg c2, if_neg c3, if_neg c45, if_neg c6, if_neg (by simp)]
                    clear eqs hE c1 c2 c3 c4 c5 c6 c45 c7
                    go_enter Tryz.func107, Tryz.ntmps107
                    go_wp2_with fail
                    go_ret2
                    exact ⟨by rw [HR.out]; rfl, Below.refl _ _⟩
                  · have HR : Hid (escN s.data.toList true = (34, 2)) := by show _ = _; rw [hE.out, if_neg c1, if_neg c2, if_neg c3, if_neg c45, if_neg c6, if_pos ⟨c7, rfl⟩]
                    clear eqs hE c1 c2 c3 c4 c5 c6 c45 c7
                    go_enter Tryz.func107, Tryz.ntmps107
                    go_wp2_with fail
                    go_ret2
                    exact ⟨by rw [HR.out]; rfl, Below.refl _ _⟩
                · have t7 : ((s[1].toNat : Int) == 34) = false := (eqs 34).2 c7
                  have HR : Hid (escN s.data.toList q = (92, 1)) := by show _ = _; rw [hE.out, if_neg c1, if_neg c2, if_neg c3, if_neg c45, if_neg c6, if_neg (fun h => c7 h.1)]
                  clear eqs hE c1 c2 c3 c4 c5 c6 c45 c7
                  go_enter Tryz.func107, Tryz.ntmps107
                  go_wp2_with fail
                  go_ret2
                  exact ⟨by rw [HR.out]; rfl, Below.refl _ _⟩
theorem escN_le (s : L) (q : Bool) (h : s ≠ []) : 1 ≤ (escN s q).2 ∧ (escN s q).2 ≤ s.length := by
  match s, h with
  | [a], _ => simp [escN]
  | a :: c :: r, _ =>
    rw [escN_at]
    simp only [List.drop_succ_cons, List.drop_zero, List.length_cons]
    have hp : 1 ≤ (hexPair r).2 ∧ (hexPair r).2 ≤ 2 + r.length := by
      unfold hexPair
      have := spanN_le hexB (r.take 2)
      rw [List.length_take] at this
      split <;> (dsimp only; omega)
    split
    · dsimp only; omega
    · split
      · dsimp only; omega
      · split
        · dsimp only; omega
        · split
          · dsimp only; omega
          · split
            · omega
            · split <;> (dsimp only; omega)

/- ---- a number's own form -/
theorem isKeyNumber_any (s : ByteArray) (w : World) (hs : s.size ≤ 4294967280) :
    Calls Tryz.prog 130 #[.string s] w fun e w' => e = .returned (.bool (keyNumB s.data.toList)) ∧ Below w.heap.size w w' := by
  obtain ⟨D, hD⟩ := bytes_of (Lib.trimPrefix s.data.toList [45])
  have hDd : D.data.toList = if Lib.hasPrefix s.data.toList [45] then s.data.toList.drop 1 else s.data.toList := hD
  have hDs : D.size ≤ s.size := by rw [Lib.size_eq, hDd, Lib.size_eq]; split <;> simp
  have HT : Hid ((⟨(Lib.trimPrefix s.data.toList [45]).toArray⟩ : ByteArray) = D) := by show _ = _; rw [← hD, Lib.mk_data]
  have HK : Hid (keyNumB s.data.toList = (s.data.toList == [48] || (decide (D.data.toList ≠ []) && decide (D.data.toList.head? ≠ some 48) && decide (spanN digB D.data.toList = D.data.toList.length)))) := by
    show _ = _; unfold keyNumB; rw [hDd]
  clear hD hDd
  cases h0 : (s.toList == [48])
  · have HK2 : Hid (keyNumB s.data.toList = (decide (D.data.toList ≠ []) && decide (D.data.toList.head? ≠ some 48) && decide (spanN digB D.data.toList = D.data.toList.length))) := by
      show _ = _; rw [HK.out, ← Lib.toList_data s, h0]; rfl
    clear HK
    rcases Nat.eq_zero_or_pos D.size with hz | hz
    · have hn := nil_of D hz
      have hn' : D.toList = [] := by rw [Lib.toList_data]; exact hn
      have HR : Hid (keyNumB s.data.toList = false) := by show _ = _; rw [HK2.out, hn]; rfl
      clear HK2 hn hz
      go_enter Tryz.func130, Tryz.ntmps130
      go_wp2_with fail
      refine (Tryz.strings_TrimPrefix s ⟨#[45]⟩ _).mono ?_
      rintro e w' ⟨rfl, rfl⟩
      rw [HT.out]
      go_wp2_with fail
      go_ret
      exact ⟨ret_bool (by rw [HR.out]), Below.refl _ _⟩
    · have he := isEmpty_of D hz
      have hen : D.toList ≠ [] := fun h => by rw [h] at he; cases he
      have hne : D.data.toList ≠ [] := by rw [← Lib.toList_data]; exact hen
      have hhd := head_at D hz
      have h8 : D[0].toNat < 256 := D[0].toNat_lt
      by_cases h48 : D[0] = 48
      · have t1 : ((D[0].toNat : Int) != 48) = false := by rw [h48]; rfl
        have HR : Hid (keyNumB s.data.toList = false) := by show _ = _; rw [HK2.out, hhd, h48]; simp
        clear HK2 hne hhd h48
        go_enter Tryz.func130, Tryz.ntmps130
        go_wp2_with fail
        refine (Tryz.strings_TrimPrefix s ⟨#[45]⟩ _).mono ?_
        rintro e w' ⟨rfl, rfl⟩
        rw [HT.out]
        go_wp2_with fail
        go_ret
        exact ⟨ret_bool (by rw [HR.out]), Below.refl _ _⟩
      · have t1 : ((D[0].toNat : Int) != 48) = true := by rw [bne_iff_ne]; intro h; exact h48 (u8_of _ 48 h)
        have HR : Hid (keyNumB s.data.toList = decide (spanN digB D.data.toList = D.size)) := by
          show _ = _; rw [HK2.out, hhd, ← Lib.size_eq]; simp [hne, h48]
        clear HK2 hne hhd h48
        go_enter Tryz.func130, Tryz.ntmps130
        go_wp2_with fail
        refine (Tryz.strings_TrimPrefix s ⟨#[45]⟩ _).mono ?_
        rintro e w' ⟨rfl, rfl⟩
        rw [HT.out]
        go_wp2_with fail
        refine (runLen_isDigit D _ (by omega)).mono ?_
        rintro e w1 ⟨rfl, hb1⟩
        go_wp2_with fail
        go_ret
        exact ⟨ret_bool (by rw [HR.out, Bool.eq_iff_iff]; simp; omega), hb1⟩
  · have HR : Hid (keyNumB s.data.toList = true) := by show _ = _; rw [HK.out, ← Lib.toList_data s, h0]; rfl
    clear HK
    go_enter Tryz.func130, Tryz.ntmps130
    go_wp2_with fail
    go_ret
    exact ⟨ret_bool (by rw [HR.out]), Below.refl _ _⟩
end Go.Proofs.YtjcldgogjgchiaaGreatDoor
