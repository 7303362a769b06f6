/-
  Contracts of the document's answer for layer 1: where a long text ends.
-/
import Derived.Test.YtbeglmolgloepaaDoorRefC
import Derived.Deep.LoopGhost
namespace Go.Proofs.YtbeglmolgloepaaDoor
open Go Go.RowKit Cutting

/-- Where the line begins that ends a long text, from where it is looked for. -/
def longAt (name : List UInt8) : Bool → List UInt8 → Option Nat
  | _, [] => none
  | st, b :: r => if st && (Lib.hasPrefix (b :: r) name && wordN (b :: r) == name.length) then some 0 else (longAt name (b == 10) r).map (· + 1)
def resAt (name : List UInt8) (st : Bool) (k : Nat) (r : List UInt8) : Int := match longAt name st r with | some j => ((k + j : Nat) : Int) | none => -1
theorem resAt_nil (name : List UInt8) (st : Bool) (k : Nat) : resAt name st k [] = -1 := rfl
theorem resAt_yes (name : List UInt8) (k : Nat) (b : UInt8) (r : List UInt8) (h : (Lib.hasPrefix (b :: r) name && wordN (b :: r) == name.length) = true) : resAt name true k (b :: r) = k := by
  simp [resAt, longAt, h]
theorem resAt_no (name : List UInt8) (k : Nat) (b : UInt8) (r : List UInt8) (h : (Lib.hasPrefix (b :: r) name && wordN (b :: r) == name.length) = false) : resAt name true k (b :: r) = resAt name false k (b :: r) := by
  simp [resAt, longAt, h]
theorem resAt_next (name : List UInt8) (k : Nat) (b : UInt8) (r : List UInt8) : resAt name false k (b :: r) = resAt name (b == 10) (k + 1) r := by
  simp only [resAt, longAt, Bool.false_and]
  cases longAt name (b == 10) r with
  | none => rfl
  | some j => simp; omega
theorem longGo_at (name : List UInt8) : ∀ (r : List UInt8) (st : Bool), longGo name st r = (match longAt name st r with | some j => j + name.length | none => r.length) := by
  intro r
  induction r with
  | nil => intro st; rfl
  | cons b r ih =>
    intro st
    rw [longGo, longAt]
    split
    · simp
    · rw [ih (b == 10)]
      cases longAt name (b == 10) r with
      | none => show 1 + r.length = r.length + 1; omega
      | some j => show 1 + (j + name.length) = j + 1 + name.length; omega

set_option maxHeartbeats 4000000 in
theorem Ends_any (s N : ByteArray) (i : Int) (n : Nat) (w : World) (hi : i = n) (hn : n ≤ s.size) (hs : s.size ≤ 65536) (hN : N.size ≤ 65536) (hN0 : 0 < N.size) :
    Calls Tryd.prog 32 #[.string s, .string N, .int .i64 i] w fun e w' => e = .returned (.int .i64 (resAt N.data.toList true n (s.data.toList.drop n))) ∧ w = w' := by
  subst hi
  have hNl : N.data.toList.length = N.size := (Lib.size_eq N).symm
  have HNl := Lib.hid hNl
  clear hNl
  go_enter Tryd.func32, Tryd.ntmps32
  go_wp2_with fail
  go_loop [2] (fun i => ∃ k : Nat, k ≤ s.size + 1 ∧ i = .int .i64 k ∧ Hid (resAt N.data.toList true n (s.data.toList.drop n) = resAt N.data.toList true k (s.data.toList.drop k))) (fun i => s.size + 1 - (intOf i).toNat)
  case atStart => exact ⟨n, by omega, rfl, rfl⟩
  case round =>
    obtain ⟨k, hk, rfl, hrel⟩ := hrel
    by_cases hle : k ≤ s.size
    · by_cases hlt : k < s.size
      · have hdk := Lib.hid (drop_at s k hlt)
        cases hb : Lib.hasPrefix (s.data.toList.drop k) N.data.toList
        · have hno : Hid (resAt N.data.toList true k (s.data.toList.drop k) = resAt N.data.toList false k (s.data.toList.drop k)) := by
            have h1 := hdk.out
            show _ = _
            rw [h1]
            refine resAt_no _ _ _ _ ?_
            rw [← h1, hb]
            rfl
          have HB := Lib.hid hb
          clear hb
          go_wp2_with (go_at_call 20; refine (At_n _ _ _ k false _ (by omega) (by omega) hs hN (.inl hN0) (by exact HB.out)).mono ?_; rintro e w' ⟨rfl, rfl⟩)
          go_loop [2] (fun i => ∃ j : Nat, k ≤ j ∧ j ≤ s.size ∧ i = .int .i64 j ∧ Hid (resAt N.data.toList true n (s.data.toList.drop n) = resAt N.data.toList false j (s.data.toList.drop j))) (fun i => s.size - (intOf i).toNat)
          case atStart => exact ⟨k, Nat.le_refl _, hle, rfl, hrel.out.trans hno.out⟩
          case round =>
            obtain ⟨j, hkj, hj, rfl, hrj⟩ := hrel
            by_cases hjlt : j < s.size
            · have hdj := Lib.hid (drop_at s j hjlt)
              by_cases hc : (s[j].toNat : Int) = 10
              · have hst : Hid (resAt N.data.toList true n (s.data.toList.drop n) = resAt N.data.toList true (j + 1) (s.data.toList.drop (j + 1))) := by
                  show _ = _
                  rw [hrj.out, hdj.out, resAt_next, u8_of s[j] 10 hc]
                  rfl
                go_wp2_with fail
                go_round
                case rel => exact ⟨j + 1, by omega, by go_num, hst⟩
                case measure => simp [intOf]; omega
              · have hst : Hid (resAt N.data.toList true n (s.data.toList.drop n) = resAt N.data.toList false (j + 1) (s.data.toList.drop (j + 1))) := by
                  show _ = _
                  rw [hrj.out, hdj.out, resAt_next]
                  have : (s[j] == 10) = false := by rw [beqU, beq_eq_false_iff_ne]; exact hc
                  rw [this]
                go_wp2_with fail
                go_round
                case rel => exact ⟨j + 1, by omega, by omega, by go_num, hst⟩
                case measure => simp [intOf]; omega
            · have hst : Hid (resAt N.data.toList true n (s.data.toList.drop n) = resAt N.data.toList true (j + 1) (s.data.toList.drop (j + 1))) := by
                show _ = _
                rw [hrj.out, drop_nil s j (by omega), drop_nil s (j + 1) (by omega)]
                rfl
              go_wp2_with fail
              go_round
              case rel => exact ⟨j + 1, by omega, by go_num, hst⟩
              case measure => simp [intOf]; omega
        · obtain ⟨m, hm⟩ : ∃ m, wordN (s.data.toList.drop k) = m := ⟨_, rfl⟩
          by_cases hmm : m = N.size
          · have hyes : Hid (resAt N.data.toList true k (s.data.toList.drop k) = k) := by
              have h1 := hdk.out
              show _ = _
              rw [h1]
              refine resAt_yes _ _ _ _ ?_
              rw [← h1, hb, hm, HNl.out, hmm]
              simp
            have heq : ((m : Int) == (N.size : Int)) = true := by rw [beq_iff_eq]; omega
            have HB := Lib.hid hb
            have HM := Lib.hid hm
            clear hb hm hmm
            go_wp2_with (first
              | (go_at_call 20; refine (At_n _ _ _ k true _ (by omega) (by omega) hs hN (.inl hN0) (by exact HB.out)).mono ?_; rintro e w' ⟨rfl, rfl⟩)
              | (go_at_call 44; refine (Word_n _ _ k m _ (by omega) (by omega) hs (by exact HM.out)).mono ?_; rintro e w' ⟨rfl, rfl⟩))
            go_ret
            exact ⟨ret_int (by rw [hrel.out, hyes.out]), rfl⟩
          · have hno : Hid (resAt N.data.toList true k (s.data.toList.drop k) = resAt N.data.toList false k (s.data.toList.drop k)) := by
              have h1 := hdk.out
              show _ = _
              rw [h1]
              refine resAt_no _ _ _ _ ?_
              rw [← h1, hb, hm, HNl.out]
              simpa using hmm
            have heq : ((m : Int) == (N.size : Int)) = false := by rw [beq_eq_false_iff_ne]; omega
            have HB := Lib.hid hb
            have HM := Lib.hid hm
            clear hb hm hmm
            go_wp2_with (first
              | (go_at_call 20; refine (At_n _ _ _ k true _ (by omega) (by omega) hs hN (.inl hN0) (by exact HB.out)).mono ?_; rintro e w' ⟨rfl, rfl⟩)
              | (go_at_call 44; refine (Word_n _ _ k m _ (by omega) (by omega) hs (by exact HM.out)).mono ?_; rintro e w' ⟨rfl, rfl⟩))
            go_loop [2] (fun i => ∃ j : Nat, k ≤ j ∧ j ≤ s.size ∧ i = .int .i64 j ∧ Hid (resAt N.data.toList true n (s.data.toList.drop n) = resAt N.data.toList false j (s.data.toList.drop j))) (fun i => s.size - (intOf i).toNat)
            case atStart => exact ⟨k, Nat.le_refl _, hle, rfl, hrel.out.trans hno.out⟩
            case round =>
              obtain ⟨j, hkj, hj, rfl, hrj⟩ := hrel
              by_cases hjlt : j < s.size
              · have hdj := Lib.hid (drop_at s j hjlt)
                by_cases hc : (s[j].toNat : Int) = 10
                · have hst : Hid (resAt N.data.toList true n (s.data.toList.drop n) = resAt N.data.toList true (j + 1) (s.data.toList.drop (j + 1))) := by
                    show _ = _
                    rw [hrj.out, hdj.out, resAt_next, u8_of s[j] 10 hc]
                    rfl
                  go_wp2_with fail
                  go_round
                  case rel => exact ⟨j + 1, by omega, by go_num, hst⟩
                  case measure => simp [intOf]; omega
                · have hst : Hid (resAt N.data.toList true n (s.data.toList.drop n) = resAt N.data.toList false (j + 1) (s.data.toList.drop (j + 1))) := by
                    show _ = _
                    rw [hrj.out, hdj.out, resAt_next]
                    have : (s[j] == 10) = false := by rw [beqU, beq_eq_false_iff_ne]; exact hc
                    rw [this]
                  go_wp2_with fail
                  go_round
                  case rel => exact ⟨j + 1, by omega, by omega, by go_num, hst⟩
                  case measure => simp [intOf]; omega
              · have hst : Hid (resAt N.data.toList true n (s.data.toList.drop n) = resAt N.data.toList true (j + 1) (s.data.toList.drop (j + 1))) := by
                  show _ = _
                  rw [hrj.out, drop_nil s j (by omega), drop_nil s (j + 1) (by omega)]
                  rfl
                go_wp2_with fail
                go_round
                case rel => exact ⟨j + 1, by omega, by go_num, hst⟩
                case measure => simp [intOf]; omega
      · have hdk := Lib.hid (drop_nil s k (by omega))
        have hno : Hid (resAt N.data.toList true k (s.data.toList.drop k) = resAt N.data.toList false k (s.data.toList.drop k)) := by show _ = _; rw [hdk.out]; rfl
        have HB : Hid (Lib.hasPrefix (s.data.toList.drop k) N.data.toList = false) := by
          show _ = _
          rw [hdk.out, prefix_take, HNl.out, decide_eq_false (by show ¬ N.size ≤ 0; omega), Bool.false_and]
        go_wp2_with (go_at_call 20; refine (At_n _ _ _ k false _ (by omega) (by omega) hs hN (.inl hN0) (by exact HB.out)).mono ?_; rintro e w' ⟨rfl, rfl⟩)
        go_loop [2] (fun i => ∃ j : Nat, k ≤ j ∧ j ≤ s.size ∧ i = .int .i64 j ∧ Hid (resAt N.data.toList true n (s.data.toList.drop n) = resAt N.data.toList false j (s.data.toList.drop j))) (fun i => s.size - (intOf i).toNat)
        case atStart => exact ⟨k, Nat.le_refl _, hle, rfl, hrel.out.trans hno.out⟩
        case round =>
          obtain ⟨j, hkj, hj, rfl, hrj⟩ := hrel
          by_cases hjlt : j < s.size
          · omega
          · have hst : Hid (resAt N.data.toList true n (s.data.toList.drop n) = resAt N.data.toList true (j + 1) (s.data.toList.drop (j + 1))) := by
              show _ = _
              rw [hrj.out, drop_nil s j (by omega), drop_nil s (j + 1) (by omega)]
              rfl
            go_wp2_with fail
            go_round
            case rel => exact ⟨j + 1, by omega, by go_num, hst⟩
            case measure => simp [intOf]; omega
    · have hend : Hid (resAt N.data.toList true k (s.data.toList.drop k) = -1) := by show _ = _; rw [drop_nil s k (by omega)]; rfl
      go_wp2_with fail
      go_ret
      exact ⟨ret_int (by rw [hrel.out, hend.out]), rfl⟩
end Go.Proofs.YtbeglmolgloepaaDoor
