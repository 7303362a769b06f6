/-
  The contract of package word's linesLen.
-/
import Derived.Test.YtjcldgogjgchiaaGreatDoorLongT
namespace Go.Proofs.YtjcldgogjgchiaaGreatDoor
open Go Go.RowKit Cutting Wording

def optZ (o : Option Nat) : Int := match o with | some n => n | none => -1
theorem indexByte_upto (q : UInt8) (r : L) : Lib.indexByte r q = optZ (upto q r) := by
  induction r with
  | nil => rfl
  | cons b r ih =>
    by_cases hb : b = q
    · simp [Lib.indexByte, upto, hb, optZ]
    · simp only [Lib.indexByte, upto, hb, if_false]
      rw [if_neg (by simpa using hb), ih]
      cases upto q r with
      | none => rfl
      | some n =>
        have : ¬ (optZ (some n) == -1) = true := by simp [optZ]
        rw [if_neg this]
        simp [optZ]
def testL (name r : L) : Bool := Lib.hasPrefix r name && wordN r == name.length
theorem lines_false (name : L) (r : L) : linesGo name false r = match upto 10 r with | none => none | some i => (linesGo name true (r.drop (i + 1))).map (· + (i + 1)) := by
  induction r with
  | nil => simp [linesGo, upto]
  | cons b r ih =>
    simp only [linesGo, Bool.false_and, Bool.false_eq_true, if_false]
    by_cases hb : b = 10
    · subst hb
      simp [upto]
    · have h2 : (b == 10) = false := by simpa using hb
      rw [h2, ih]
      simp only [upto, hb, if_false]
      cases upto 10 r with
      | none => rfl
      | some i =>
        simp only [Option.map_some, List.drop_succ_cons]
        rw [map_add _ (i + 1) 1 (i + 1 + 1) (by omega)]
theorem lines_yes (name : L) (_hn : name ≠ []) (r : L) (h : testL name r = true) : linesGo name true r = some 0 := by
  unfold testL at h
  cases r with
  | nil => simp only [linesGo, Bool.true_and]; rw [if_pos h]
  | cons b r => simp only [linesGo, Bool.true_and]; rw [if_pos h]
theorem lines_no (name : L) (_hn : name ≠ []) (r : L) (h : testL name r = false) : linesGo name true r = match upto 10 r with | none => none | some i => (linesGo name true (r.drop (i + 1))).map (· + (i + 1)) := by
  have h' : ¬ (Lib.hasPrefix r name && wordN r == name.length) = true := by unfold testL at h; rw [h]; decide
  cases r with
  | nil =>
    simp only [linesGo, Bool.true_and]
    rw [if_neg h']
    simp [upto]
  | cons b r =>
    simp only [linesGo, Bool.true_and]
    rw [if_neg h']
    by_cases hb : b = 10
    · subst hb
      simp [upto]
    · have h2 : (b == 10) = false := by simpa using hb
      rw [h2, lines_false]
      simp only [upto, hb, if_false]
      cases upto 10 r with
      | none => rfl
      | some i =>
        simp only [Option.map_some, List.drop_succ_cons]
        rw [map_add _ (i + 1) 1 (i + 1 + 1) (by omega)]
def linesAt (name : L) (s : ByteArray) (k : Nat) : Option Nat := (linesGo name true (s.data.toList.drop k)).map (· + k)
theorem linesAt_yes (name : L) (hn : name ≠ []) (s : ByteArray) (k : Nat) (h : testL name (s.data.toList.drop k) = true) : linesAt name s k = some k := by
  simp [linesAt, lines_yes name hn _ h]
theorem linesAt_end (name : L) (hn : name ≠ []) (s : ByteArray) (k : Nat) (h : testL name (s.data.toList.drop k) = false) (hu : upto 10 (s.data.toList.drop k) = none) : linesAt name s k = none := by
  simp [linesAt, lines_no name hn _ h, hu]
theorem linesAt_go (name : L) (hn : name ≠ []) (s : ByteArray) (k i : Nat) (h : testL name (s.data.toList.drop k) = false) (hu : upto 10 (s.data.toList.drop k) = some i) : linesAt name s k = linesAt name s (k + (i + 1)) := by
  rw [linesAt, lines_no name hn _ h, hu]
  dsimp only
  rw [List.drop_drop, map_add _ _ _ _ (show i + 1 + k = k + (i + 1) from by omega)]
  rfl

set_option maxHeartbeats 2000000 in
set_option maxRecDepth 100000 in
theorem linesLen_any (s nm : ByteArray) (w : World) (hs : s.size ≤ 4294967280) (hn : nm.data.toList ≠ []) (_hns : nm.size ≤ 4294967280) :
    Calls Tryz.prog 97 #[.string s, .string nm] w fun e w' => e = .returned (.int .i64 (optZ (linesGo nm.data.toList true s.data.toList))) ∧ Below w.heap.size w w' := by
  have h00 : Hid (linesGo nm.data.toList true s.data.toList = linesAt nm.data.toList s 0) := by show _ = _; simp [linesAt]
  have HN := Lib.hid hn
  clear hn
  go_enter Tryz.func97, Tryz.ntmps97
  go_wp2_with fail
  go_loopw [5] (fun i wr => ∃ k : Nat, i = .int .i64 k ∧ k ≤ s.size ∧ Below w.heap.size w wr ∧ Hid (linesGo nm.data.toList true s.data.toList = linesAt nm.data.toList s k)) (fun i _ => s.size - (intOf i).toNat)
  case atStart => exact ⟨0, rfl, Nat.zero_le _, Below.refl _ _, h00⟩
  case round =>
    obtain ⟨k, rfl, hk, hbr, hrel⟩ := hrel
    have ht := Lib.hid (tail_list s k)
    have hsz : Hid ((s.extract k s.size).size ≤ 4294967280) := by show _ ≤ _; rw [Lib.size_eq, tail_list, List.length_drop, ← Lib.size_eq]; omega
    obtain ⟨m, hm⟩ : ∃ m, m = wordN (s.data.toList.drop k) := ⟨_, rfl⟩
    have HM := Lib.hid hm.symm
    have HT : Hid (testL nm.data.toList (s.data.toList.drop k) = (Lib.hasPrefix (s.data.toList.drop k) nm.data.toList && m == nm.size)) := by show _ = _; rw [testL, ← hm, Lib.size_eq]
    clear hm
    -- the rest of a round whose line is not the last
    by_cases hyes : testL nm.data.toList (s.data.toList.drop k) = true
    · have HY := Lib.hid (linesAt_yes nm.data.toList HN.out s k hyes)
      rw [HT.out, Bool.and_eq_true, beq_iff_eq] at hyes
      obtain ⟨hp, hme⟩ := hyes
      have HP := Lib.hid hp
      have hme' : ((m : Int) == (nm.size : Int)) = true := by rw [beq_iff_eq]; omega
      clear hp hme
      go_wp2_with fail
      refine (hasPrefix_b _ nm true _ (by rw [ht.out]; exact HP.out)).mono ?_
      rintro e w' ⟨rfl, rfl⟩
      go_wp2_with fail
      refine (wwordLen_any _ _ hsz.out).mono ?_
      rintro e w1 ⟨rfl, hb1⟩
      rw [ht.out, HM.out]
      go_wp2_with fail
      go_ret
      exact ⟨ret_int (by rw [hrel.out, HY.out]; rfl), hbr.trans (hb1.mono hbr.size)⟩
    · have hno : testL nm.data.toList (s.data.toList.drop k) = false := by simpa using hyes
      have hor : Lib.hasPrefix (s.data.toList.drop k) nm.data.toList = false ∨ (Lib.hasPrefix (s.data.toList.drop k) nm.data.toList = true ∧ m ≠ nm.size) := by
        cases h1 : Lib.hasPrefix (s.data.toList.drop k) nm.data.toList
        · exact .inl rfl
        · right
          rw [HT.out, h1, Bool.true_and, beq_eq_false_iff_ne] at hno
          exact ⟨rfl, hno⟩
      cases hu : upto 10 (s.data.toList.drop k) with
      | none =>
        have HE := Lib.hid (linesAt_end nm.data.toList HN.out s k hno hu)
        have HI : Hid (Lib.indexByte (s.data.toList.drop k) 10 = -1) := by show _ = _; rw [indexByte_upto, hu]; rfl
        clear hno hyes hu
        rcases hor with h1 | ⟨h1, h2⟩
        · have HP := Lib.hid h1
          clear h1
          go_wp2_with fail
          refine (hasPrefix_b _ nm false _ (by rw [ht.out]; exact HP.out)).mono ?_
          rintro e w' ⟨rfl, rfl⟩
          go_wp2_with fail
          refine (Tryz.strings_IndexByte _ 10 _).mono ?_
          rintro e w' ⟨rfl, rfl⟩
          rw [ht.out, show ((10 : Int).toNat.toUInt8) = 10 from rfl, HI.out]
          go_wp2_with fail
          go_ret
          exact ⟨ret_int (by rw [hrel.out, HE.out]; rfl), hbr⟩
        · have HP := Lib.hid h1
          have hme' : ((m : Int) == (nm.size : Int)) = false := by rw [beq_eq_false_iff_ne]; omega
          clear h1
          go_wp2_with fail
          refine (hasPrefix_b _ nm true _ (by rw [ht.out]; exact HP.out)).mono ?_
          rintro e w' ⟨rfl, rfl⟩
          go_wp2_with fail
          refine (wwordLen_any _ _ hsz.out).mono ?_
          rintro e w1 ⟨rfl, hb1⟩
          rw [ht.out, HM.out]
          go_wp2_with fail
          refine (Tryz.strings_IndexByte _ 10 _).mono ?_
          rintro e w' ⟨rfl, rfl⟩
          rw [ht.out, show ((10 : Int).toNat.toUInt8) = 10 from rfl, HI.out]
          go_wp2_with fail
          go_ret
          exact ⟨ret_int (by rw [hrel.out, HE.out]; rfl), hbr.trans (hb1.mono hbr.size)⟩
      | some i =>
        have HE := Lib.hid (linesAt_go nm.data.toList HN.out s k i hno hu)
        have hil := upto_lt 10 _ i hu
        rw [List.length_drop, ← Lib.size_eq] at hil
        have HI : Hid (Lib.indexByte (s.data.toList.drop k) 10 = i) := by show _ = _; rw [indexByte_upto, hu]; rfl
        clear hno hyes hu
        rcases hor with h1 | ⟨h1, h2⟩
        · have HP := Lib.hid h1
          clear h1
          go_wp2_with fail
          refine (hasPrefix_b _ nm false _ (by rw [ht.out]; exact HP.out)).mono ?_
          rintro e w' ⟨rfl, rfl⟩
          go_wp2_with fail
          refine (Tryz.strings_IndexByte _ 10 _).mono ?_
          rintro e w' ⟨rfl, rfl⟩
          rw [ht.out, show ((10 : Int).toNat.toUInt8) = 10 from rfl, HI.out]
          go_wp2_with fail
          go_roundw
          case rel => exact ⟨k + (i + 1), by go_num, by omega, hbr, by show _ = _; rw [hrel.out, HE.out]⟩
          case measure => simp [intOf]; omega
        · have HP := Lib.hid h1
          have hme' : ((m : Int) == (nm.size : Int)) = false := by rw [beq_eq_false_iff_ne]; omega
          clear h1
          go_wp2_with fail
          refine (hasPrefix_b _ nm true _ (by rw [ht.out]; exact HP.out)).mono ?_
          rintro e w' ⟨rfl, rfl⟩
          go_wp2_with fail
          refine (wwordLen_any _ _ hsz.out).mono ?_
          rintro e w1 ⟨rfl, hb1⟩
          rw [ht.out, HM.out]
          go_wp2_with fail
          refine (Tryz.strings_IndexByte _ 10 _).mono ?_
          rintro e w' ⟨rfl, rfl⟩
          rw [ht.out, show ((10 : Int).toNat.toUInt8) = 10 from rfl, HI.out]
          go_wp2_with fail
          go_roundw
          case rel => exact ⟨k + (i + 1), by go_num, by omega, hbr.trans (hb1.mono hbr.size), by show _ = _; rw [hrel.out, HE.out]⟩
          case measure => simp [intOf]; omega
end Go.Proofs.YtjcldgogjgchiaaGreatDoor
