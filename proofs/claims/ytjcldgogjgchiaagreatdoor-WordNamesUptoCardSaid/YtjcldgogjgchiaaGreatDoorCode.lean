/-
  The contract of package cut's codeEnd.
-/
import Derived.Test.YtjcldgogjgchiaaGreatDoorLong2
import Derived.Deep.DeepMust
namespace Go.Proofs.YtjcldgogjgchiaaGreatDoor
open Go Go.RowKit Cutting

theorem HasMax.lt {w : World} (h : HasMax w) : 2 < w.heap.size := by
  obtain ⟨m, hm⟩ := h
  rcases Nat.lt_or_ge 2 w.heap.size with h0 | h0
  · exact h0
  · have : w.heap[2]? = none := Array.getElem?_eq_none (by omega)
    simp [World.cell?, this] at hm
theorem HasMax.below {B : Nat} {w w' : World} (h : HasMax w) (hb : Below B w w') (hB : 2 < B) : HasMax w' := by
  obtain ⟨m, hm⟩ := h
  exact ⟨m, by rw [hb.cell (p := ⟨2, 0, none⟩) hB]; exact hm⟩
theorem stepN_text (b : UInt8) (r : List UInt8) (h : (b == 39 || b == 34) = true) : stepN (b :: r) = textN (b :: r) := by simp only [stepN]; rw [if_pos h]
theorem stepN_comment (b : UInt8) (r : List UInt8) (h : (b == 39 || b == 34) = false) (h2 : Lib.hasPrefix (b :: r) [47, 42] = true) : stepN (b :: r) = commentN (b :: r) := by
  simp only [stepN]; rw [if_neg (by rw [h]; simp), if_pos h2]
theorem stepN_remark (b : UInt8) (r : List UInt8) (h : (b == 39 || b == 34) = false) (h2 : Lib.hasPrefix (b :: r) [47, 42] = false) (h3 : (Lib.hasPrefix (b :: r) [47, 47] || b == 35) = true) : stepN (b :: r) = remarkN (b :: r) := by
  simp only [stepN]; rw [if_neg (by rw [h]; simp), if_neg (by rw [h2]; simp), if_pos h3]
theorem stepN_long (b : UInt8) (r : List UInt8) (h : (b == 39 || b == 34) = false) (h2 : Lib.hasPrefix (b :: r) [47, 42] = false) (h3 : (Lib.hasPrefix (b :: r) [47, 47] || b == 35) = false) (h4 : Lib.hasPrefix (b :: r) [60, 60, 60] = true) : stepN (b :: r) = longN (b :: r) := by
  simp only [stepN]; rw [if_neg (by rw [h]; simp), if_neg (by rw [h2]; simp), if_neg (by rw [h3]; simp), if_pos h4]
theorem stepN_one (b : UInt8) (r : List UInt8) (h : (b == 39 || b == 34) = false) (h2 : Lib.hasPrefix (b :: r) [47, 42] = false) (h3 : (Lib.hasPrefix (b :: r) [47, 47] || b == 35) = false) (h4 : Lib.hasPrefix (b :: r) [60, 60, 60] = false) : stepN (b :: r) = 1 := by
  simp only [stepN]; rw [if_neg (by rw [h]; simp), if_neg (by rw [h2]; simp), if_neg (by rw [h3]; simp), if_neg (by rw [h4]; simp)]
theorem codeN_step (r : List UInt8) (h : r ≠ []) (h2 : Lib.hasPrefix r [63, 62] = false) : codeN r = stepN r + codeN (r.drop (stepN r)) := by
  rw [codeN_eq, if_neg]
  rw [h2]
  cases r with
  | nil => exact absurd rfl h
  | cons => simp

/-- The relation of codeEnd's loop. -/
def CodeAt (s : ByteArray) (from_ : Nat) (k : Nat) : Prop := k ≤ s.size ∧ from_ + codeN (s.data.toList.drop from_) = k + codeN (s.data.toList.drop k)
theorem CodeAt.next {s : ByteArray} {from_ k n : Nat} (h : CodeAt s from_ k) (hk : k < s.size) (hp : Lib.hasPrefix (s.data.toList.drop k) [63, 62] = false) (hn : stepN (s.data.toList.drop k) = n) :
    CodeAt s from_ (k + n) ∧ 1 ≤ n ∧ k + n ≤ s.size := by
  have hne : s.data.toList.drop k ≠ [] := by rw [drop_at s k hk]; simp
  have hle := stepN_le _ hne
  rw [List.length_drop, ← Lib.size_eq, hn] at hle
  refine ⟨⟨by omega, ?_⟩, by omega, by omega⟩
  rw [h.2, codeN_step _ hne hp, hn, List.drop_drop]
  omega

set_option maxHeartbeats 4000000 in
theorem codeEnd_any (s : ByteArray) (f : Nat) (w : World) (hf : f ≤ s.size) (hs : s.size ≤ 2147483640) (hm : HasMax w) :
    Calls Tryz.prog 30 #[.string s, .int .i64 f] w fun e w' => e = .returned (.int .i64 ((f + codeN (s.data.toList.drop f) : Nat) : Int)) ∧ Below w.heap.size w w' := by
  have hw0 := hm.lt
  go_enter Tryz.func30, Tryz.ntmps30
  go_wp2_with fail
  go_step3
  go_wp2_with fail
  go_step3
  go_wp2_with fail
  go_loopw [5] (fun i wr => ∃ k : Nat, i = .int .i64 k ∧ Hid (CodeAt s f k) ∧ HasMax wr ∧ Below w.heap.size w wr) (fun i _ => s.size - (intOf i).toNat)
  case atStart => exact ⟨f, rfl, ⟨hf, rfl⟩, hm, Below.refl _ _⟩
  case round =>
    obtain ⟨k, rfl, hrel, hmr, hbr⟩ := hrel
    have hk := hrel.out.1
    by_cases hlt : k < s.size
    · obtain ⟨L, hL⟩ : ∃ L, L = s.extract k s.size := ⟨_, rfl⟩
      have hLl : L.data.toList = s.data.toList.drop k := by rw [hL, tail_list]
      have hLs : L.size = s.size - k := by rw [hL]; simp
      have hLb : L.size ≤ 2147483640 := by omega
      have hL0 : 0 < L.size := by omega
      have hLd := drop_at L 0 hL0
      rw [List.drop_zero] at hLd
      have HLd := Lib.hid hLd
      have HLl := Lib.hid hLl
      have HLs := Lib.hid hLs
      have HLL := Lib.hid hL
      clear hLl hLs hL hLd
      cases hp : Lib.hasPrefix L.data.toList [63, 62]
      · have HP := Lib.hid hp
        have HQ : Hid (Lib.hasPrefix (s.data.toList.drop k) [63, 62] = false) := by show _ = _; rw [← HLl.out]; exact hp
        clear hp
        by_cases h39 : (L[0].toNat : Int) = 39
        · have hst := hrel.out.next hlt HQ.out (n := textN L.data.toList) (by rw [← HLl.out, HLd.out]; exact stepN_text _ _ (by rw [u8_of _ 39 h39]; rfl))
          obtain ⟨n, hn⟩ : ∃ n, n = textN L.data.toList := ⟨_, rfl⟩
          rw [← hn] at hst
          have HN := Lib.hid hn
          have HX := Lib.hid hst.1
          obtain ⟨_, hn1, hn2⟩ := hst
          clear hn
          go_wp2_with fail
          rw [← HLL.out]
          refine (hasPrefix_b _ _ false _ (by exact HP.out)).mono ?_
          rintro e w' ⟨rfl, rfl⟩
          go_wp2_with fail
          refine (textLen_any L _ hL0 (by omega)).mono ?_
          rintro e w' ⟨rfl, rfl⟩
          rw [← HN.out]
          go_wp2_with fail
          go_roundw
          case rel => exact ⟨k + n, by go_num, HX.out, hmr, hbr⟩
          case measure => simp [intOf]; omega
        · by_cases h34 : (L[0].toNat : Int) = 34
          · have hst := hrel.out.next hlt HQ.out (n := textN L.data.toList) (by rw [← HLl.out, HLd.out]; exact stepN_text _ _ (by rw [u8_of _ 34 h34]; rfl))
            obtain ⟨n, hn⟩ : ∃ n, n = textN L.data.toList := ⟨_, rfl⟩
            rw [← hn] at hst
            have HN := Lib.hid hn
            have HX := Lib.hid hst.1
            obtain ⟨_, hn1, hn2⟩ := hst
            clear hn
            go_wp2_with fail
            rw [← HLL.out]
            refine (hasPrefix_b _ _ false _ (by exact HP.out)).mono ?_
            rintro e w' ⟨rfl, rfl⟩
            go_wp2_with fail
            refine (textLen_any L _ hL0 (by omega)).mono ?_
            rintro e w' ⟨rfl, rfl⟩
            rw [← HN.out]
            go_wp2_with fail
            go_roundw
            case rel => exact ⟨k + n, by go_num, HX.out, hmr, hbr⟩
            case measure => simp [intOf]; omega
          · have hq : (L[0] == 39 || L[0] == 34) = false := by
              rw [beqU, beqU]
              simp only [Bool.or_eq_false_iff, beq_eq_false_iff_ne]
              exact ⟨h39, h34⟩
            have HNQ := Lib.hid hq
            have b39 : ((L[0].toNat : Int) == 39) = false := by rw [beq_eq_false_iff_ne]; exact h39
            have b34 : ((L[0].toNat : Int) == 34) = false := by rw [beq_eq_false_iff_ne]; exact h34
            clear hq
            cases hc : Lib.hasPrefix L.data.toList [47, 42]
            · have HC := Lib.hid hc
              have HC' : Hid (Lib.hasPrefix (L[0] :: L.data.toList.drop (0 + 1)) [47, 42] = false) := by show _ = _; rw [← HLd.out]; exact hc
              clear hc
              cases hr : Lib.hasPrefix L.data.toList [47, 47]
              · have HR := Lib.hid hr
                have HR' : Hid (Lib.hasPrefix (L[0] :: L.data.toList.drop (0 + 1)) [47, 47] = false) := by show _ = _; rw [← HLd.out]; exact hr
                clear hr
                by_cases h35 : (L[0].toNat : Int) = 35
                · have hst := hrel.out.next hlt HQ.out (n := remarkN L.data.toList) (by rw [← HLl.out, HLd.out]; exact stepN_remark _ _ HNQ.out HC'.out (by rw [u8_of _ 35 h35]; simp))
                  obtain ⟨n, hn⟩ : ∃ n, n = remarkN L.data.toList := ⟨_, rfl⟩
                  rw [← hn] at hst
                  have HN := Lib.hid hn
                  have HX := Lib.hid hst.1
                  obtain ⟨_, hn1, hn2⟩ := hst
                  clear hn
                  go_wp2_with fail
                  rw [← HLL.out]
                  refine (hasPrefix_b _ _ false _ (by exact HP.out)).mono ?_
                  rintro e w' ⟨rfl, rfl⟩
                  go_wp2_with fail
                  refine (hasPrefix_b _ _ false _ (by exact HC.out)).mono ?_
                  rintro e w' ⟨rfl, rfl⟩
                  go_wp2_with fail
                  refine (hasPrefix_b _ _ false _ (by exact HR.out)).mono ?_
                  rintro e w' ⟨rfl, rfl⟩
                  go_wp2_with fail
                  refine (remarkLen_any L _ (by omega)).mono ?_
                  rintro e w' ⟨rfl, rfl⟩
                  rw [← HN.out]
                  go_wp2_with fail
                  go_roundw
                  case rel => exact ⟨k + n, by go_num, HX.out, hmr, hbr⟩
                  case measure => simp [intOf]; omega
                · have b35 : ((L[0].toNat : Int) == 35) = false := by rw [beq_eq_false_iff_ne]; exact h35
                  have HR2 : Hid ((Lib.hasPrefix (L[0] :: L.data.toList.drop (0 + 1)) [47, 47] || L[0] == 35) = false) := by
                    show _ = _
                    rw [HR'.out, beqU, Bool.false_or, beq_eq_false_iff_ne]
                    exact h35
                  cases hg : Lib.hasPrefix L.data.toList [60, 60, 60]
                  · have HG := Lib.hid hg
                    have HG' : Hid (Lib.hasPrefix (L[0] :: L.data.toList.drop (0 + 1)) [60, 60, 60] = false) := by show _ = _; rw [← HLd.out]; exact hg
                    clear hg
                    have hst := hrel.out.next hlt HQ.out (n := 1) (by rw [← HLl.out, HLd.out]; exact stepN_one _ _ HNQ.out HC'.out HR2.out HG'.out)
                    have HX := Lib.hid hst.1
                    obtain ⟨_, hn1, hn2⟩ := hst
                    go_wp2_with fail
                    rw [← HLL.out]
                    refine (hasPrefix_b _ _ false _ (by exact HP.out)).mono ?_
                    rintro e w' ⟨rfl, rfl⟩
                    go_wp2_with fail
                    refine (hasPrefix_b _ _ false _ (by exact HC.out)).mono ?_
                    rintro e w' ⟨rfl, rfl⟩
                    go_wp2_with fail
                    refine (hasPrefix_b _ _ false _ (by exact HR.out)).mono ?_
                    rintro e w' ⟨rfl, rfl⟩
                    go_wp2_with fail
                    refine (hasPrefix_b _ _ false _ (by exact HG.out)).mono ?_
                    rintro e w' ⟨rfl, rfl⟩
                    go_wp2_with fail
                    go_roundw
                    case rel => exact ⟨k + 1, by go_num, HX.out, hmr, hbr⟩
                    case measure => simp [intOf]; omega
                  · have HG := Lib.hid hg
                    have HG' : Hid (Lib.hasPrefix (L[0] :: L.data.toList.drop (0 + 1)) [60, 60, 60] = true) := by show _ = _; rw [← HLd.out]; exact hg
                    have hsz : 3 ≤ L.size := by rw [Lib.size_eq]; exact hasPrefix_length hg
                    clear hg
                    have hst := hrel.out.next hlt HQ.out (n := longN L.data.toList) (by rw [← HLl.out, HLd.out]; exact stepN_long _ _ HNQ.out HC'.out HR2.out HG'.out)
                    obtain ⟨n, hn⟩ : ∃ n, n = longN L.data.toList := ⟨_, rfl⟩
                    rw [← hn] at hst
                    have HN := Lib.hid hn
                    have HX := Lib.hid hst.1
                    obtain ⟨_, hn1, hn2⟩ := hst
                    clear hn
                    go_wp2_with fail
                    rw [← HLL.out]
                    refine (hasPrefix_b _ _ false _ (by exact HP.out)).mono ?_
                    rintro e w' ⟨rfl, rfl⟩
                    go_wp2_with fail
                    refine (hasPrefix_b _ _ false _ (by exact HC.out)).mono ?_
                    rintro e w' ⟨rfl, rfl⟩
                    go_wp2_with fail
                    refine (hasPrefix_b _ _ false _ (by exact HR.out)).mono ?_
                    rintro e w' ⟨rfl, rfl⟩
                    go_wp2_with fail
                    refine (hasPrefix_b _ _ true _ (by exact HG.out)).mono ?_
                    rintro e w' ⟨rfl, rfl⟩
                    go_wp2_with fail
                    refine (longLen_any L _ hsz hLb).mono ?_
                    rintro e w' ⟨rfl, rfl⟩
                    rw [← HN.out]
                    go_wp2_with fail
                    go_roundw
                    case rel => exact ⟨k + n, by go_num, HX.out, hmr, hbr⟩
                    case measure => simp [intOf]; omega
              · have HR := Lib.hid hr
                have HR' : Hid (Lib.hasPrefix (L[0] :: L.data.toList.drop (0 + 1)) [47, 47] = true) := by show _ = _; rw [← HLd.out]; exact hr
                clear hr
                have hst := hrel.out.next hlt HQ.out (n := remarkN L.data.toList) (by rw [← HLl.out, HLd.out]; exact stepN_remark _ _ HNQ.out HC'.out (by rw [HR'.out]; rfl))
                obtain ⟨n, hn⟩ : ∃ n, n = remarkN L.data.toList := ⟨_, rfl⟩
                rw [← hn] at hst
                have HN := Lib.hid hn
                have HX := Lib.hid hst.1
                obtain ⟨_, hn1, hn2⟩ := hst
                clear hn
                go_wp2_with fail
                rw [← HLL.out]
                refine (hasPrefix_b _ _ false _ (by exact HP.out)).mono ?_
                rintro e w' ⟨rfl, rfl⟩
                go_wp2_with fail
                refine (hasPrefix_b _ _ false _ (by exact HC.out)).mono ?_
                rintro e w' ⟨rfl, rfl⟩
                go_wp2_with fail
                refine (hasPrefix_b _ _ true _ (by exact HR.out)).mono ?_
                rintro e w' ⟨rfl, rfl⟩
                go_wp2_with fail
                refine (remarkLen_any L _ (by omega)).mono ?_
                rintro e w' ⟨rfl, rfl⟩
                rw [← HN.out]
                go_wp2_with fail
                go_roundw
                case rel => exact ⟨k + n, by go_num, HX.out, hmr, hbr⟩
                case measure => simp [intOf]; omega
            · have HC := Lib.hid hc
              have HC' : Hid (Lib.hasPrefix (L[0] :: L.data.toList.drop (0 + 1)) [47, 42] = true) := by show _ = _; rw [← HLd.out]; exact hc
              have hsz : 2 ≤ L.size := by rw [Lib.size_eq]; exact hasPrefix_length hc
              clear hc
              have hst := hrel.out.next hlt HQ.out (n := commentN L.data.toList) (by rw [← HLl.out, HLd.out]; exact stepN_comment _ _ HNQ.out HC'.out)
              obtain ⟨n, hn⟩ : ∃ n, n = commentN L.data.toList := ⟨_, rfl⟩
              rw [← hn] at hst
              have HN := Lib.hid hn
              have HX := Lib.hid hst.1
              obtain ⟨_, hn1, hn2⟩ := hst
              clear hn
              go_wp2_with fail
              rw [← HLL.out]
              refine (hasPrefix_b _ _ false _ (by exact HP.out)).mono ?_
              rintro e w' ⟨rfl, rfl⟩
              go_wp2_with fail
              refine (hasPrefix_b _ _ true _ (by exact HC.out)).mono ?_
              rintro e w' ⟨rfl, rfl⟩
              go_wp2_with fail
              refine (commentLen_any L _ hsz (by omega) hmr).mono ?_
              rintro e w' ⟨rfl, hb1⟩
              rw [← HN.out]
              have hb2 := hbr.trans (hb1.mono hbr.size)
              have hm2 := hmr.below hb1 hmr.lt
              go_wp2_with fail
              go_roundw
              case rel => exact ⟨k + n, by go_num, HX.out, hm2, hb2⟩
              case measure => simp [intOf]; omega
      · have HP := Lib.hid hp
        have hN : Hid (codeN (s.data.toList.drop k) = 0) := by show _ = _; rw [← HLl.out, codeN_eq, hp]; simp
        clear hp
        go_wp2_with fail
        rw [← HLL.out]
        refine (hasPrefix_b _ _ true _ HP.out).mono ?_
        rintro e w' ⟨rfl, rfl⟩
        go_wp2_with fail
        rw [Exit.noGoto_ret]
        go_ret
        exact ⟨ret_int (by rw [hrel.out.2, hN.out]; omega), hbr⟩
    · have hdk : Hid (codeN (s.data.toList.drop k) = 0) := by show _ = _; rw [drop_nil s k (by omega)]; rfl
      go_wp2_with fail
      rw [Exit.noGoto_ret]
      go_ret
      exact ⟨ret_int (by rw [hrel.out.2, hdk.out]; omega), hbr⟩
end Go.Proofs.YtjcldgogjgchiaaGreatDoor
