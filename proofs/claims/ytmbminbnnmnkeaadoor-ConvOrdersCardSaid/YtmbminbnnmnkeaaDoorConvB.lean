/-
  Contracts of package conv's beginning, Numeric and Begins: the number with which a text begins, and how far it goes.
-/
import Derived.Test.YtmbminbnnmnkeaaDoorConvA
namespace Go.Proofs.YtmbminbnnmnkeaaDoor
open Go Go.RowKit Convs

theorem drop_at (s : ByteArray) (k : Nat) (h : k < s.size) : s.data.toList.drop k = s[k] :: s.data.toList.drop (k + 1) := by
  rw [List.drop_eq_getElem_cons (by rw [← Lib.size_eq]; exact h)]; rfl
theorem drop_nil (s : ByteArray) (k : Nat) (h : s.size ≤ k) : s.data.toList.drop k = [] := List.drop_eq_nil_of_le (by rw [← Lib.size_eq]; exact h)

/-- The number of a text's longest numeric beginning, and how long that is. -/
def begN (s : L) : Int × Nat := match begT s with | some (n, r) => (n, s.length - r.length) | none => (0, 0)
theorem begN_le (s : L) : (begN s).2 ≤ s.length := by
  unfold begN; split
  · exact Nat.sub_le _ _
  · exact Nat.zero_le _

/-- The walk stands here: what is behind goes on from these places. -/
def At (s : L) (c : Sc) : Prop := scan ⟨0, 0, 0, 0⟩ s = scan c (s.drop c.n)
theorem At.step {s : L} {c : Sc} {x : UInt8} {p : Nat} (h : At s c) (hd : s.drop c.n = x :: s.drop (c.n + 1)) (hp : placeT c.at_ x = p) (h4 : p ≠ 4) :
    At s ⟨p, if p = 0 then c.n + 1 else c.a, if p = 2 then c.n + 1 else c.b, c.n + 1⟩ := by
  unfold At at *
  rw [h, hd, scan]
  simp only [hp, h4, if_false]
theorem At.stop {s : L} {c : Sc} {x : UInt8} (h : At s c) (hd : s.drop c.n = x :: s.drop (c.n + 1)) (hp : placeT c.at_ x = 4) : scan ⟨0, 0, 0, 0⟩ s = c := by
  unfold At at h
  rw [h, hd, scan]
  simp only [hp, if_true]
theorem At.ends {s : L} {c : Sc} (h : At s c) (hd : s.drop c.n = []) : scan ⟨0, 0, 0, 0⟩ s = c := by
  unfold At at h
  rw [h, hd, scan]
/-- What the walk comes to: none, or the number's text and its reach. -/
theorem begN_scan (s : L) (c : Sc) (h : scan ⟨0, 0, 0, 0⟩ s = c) :
    (c.b = 0 → begN s = (0, 0)) ∧ (c.b ≠ 0 → c.a ≤ c.b ∧ c.b ≤ s.length ∧ begN s = (atoiNum ((s.drop c.a).take (c.b - c.a)), c.n) ∧ saysNum ((s.drop c.a).take (c.b - c.a))) := by
  have hb := begT_scan s
  rw [h] at hb
  simp only at hb
  refine ⟨fun h0 => ?_, fun h0 => ?_⟩
  · rw [if_pos h0] at hb
    unfold begN; rw [hb]
  · rw [if_neg h0] at hb
    obtain ⟨h1, h2, h3, h4, h5⟩ := hb
    refine ⟨h1, by omega, ?_, h5⟩
    unfold begN; rw [h4]
    simp only [List.length_drop]
    congr 1
    omega

set_option maxRecDepth 100000 in
theorem beginning_any (s : ByteArray) (w : World) (hM : Met w) (hs : s.size ≤ 281474976710656) :
    Calls Tryd.prog 29 #[.string s] w fun e w' => e = .returned (.tuple #[.int .i64 (begN s.data.toList).1, .int .i64 (begN s.data.toList).2]) ∧ Below w.heap.size w w' := by
  have hk0 : (w.iter s 0).heap[w.heap.size]? = some (.stringIter s 0) := World.iter_heap w s 0
  have hb0 : Below w.heap.size w (w.iter s 0) := (Below.refl _ w).alloc (Nat.le_refl _) _
  have hA0 : Hid (At s.data.toList ⟨0, 0, 0, 0⟩) := by show _ = _; rfl
  have HM := hide hM
  clear hM
  go_enter Tryd.func29, Tryd.ntmps29
  go_wp2_with fail
  go_loopw [3, 4, 5, 6, 7, 8] (fun v3 v4 v5 v6 _ _ wr => ∃ c : Sc, c.n ≤ s.size ∧ v3 = .int .i64 c.n ∧ v4 = .int .i64 c.a ∧ v5 = .int .i64 c.b ∧ v6 = .int .i64 c.at_ ∧ wr.heap[w.heap.size]? = some (.stringIter s c.n) ∧ Below w.heap.size w wr ∧ Hid (At s.data.toList c))
    (fun _ _ _ _ _ _ wr => s.size - wr.iterPos w.heap.size)
  case atStart => exact ⟨⟨0, 0, 0, 0⟩, Nat.zero_le _, rfl, rfl, rfl, rfl, hk0, hb0, hA0⟩
  case round =>
    obtain ⟨c, hcn, rfl, rfl, rfl, rfl, hk, hnx, hAt⟩ := hrel
    clear hA0 hk0 hb0
    by_cases hp : c.n < s.size
    · have hdk := Lib.hid (drop_at s c.n hp)
      by_cases hlow : s[c.n].toNat < 128
      · have hnext : ∀ ty, (Instr.next (.pointer (some ⟨w.heap.size, 0, none⟩)) true ty).run Tryd.prog wr = _ := fun ty => Lib.run_next_ascii_at wr w.heap.size s c.n ty hk hp hlow
        have hk1 := Lib.iterAt_heap wr w.heap.size s c.n (c.n + 1) hk
        have hnx1 : Below w.heap.size w (wr.iterAt w.heap.size s (c.n + 1)) := Lib.below_iterAt hnx (by omega) s (c.n + 1)
        have hmu : wr.iterPos w.heap.size = c.n := by simp [World.iterPos, hk]
        generalize wr.iterAt w.heap.size s (c.n + 1) = W1 at hnext hk1 hnx1
        have hmu1 : W1.iterPos w.heap.size = c.n + 1 := by simp [World.iterPos, hk1]
        have hpl0 := place_any c.at_ s[c.n].toNat W1
        rw [placeZ_byte] at hpl0
        rcases placeT_cases c.at_ s[c.n] with HP | HP | HP | HP | HP
        all_goals rw [HP] at hpl0
        all_goals have HP1 := Lib.hid HP
        all_goals have HPL := hide hpl0
        all_goals clear HP hpl0 hlow hk
        · go_wp2_with (go_at_call 41; refine (unhide HPL).mono ?_; rintro e w' ⟨rfl, rfl⟩)
          go_roundw
          case rel => exact ⟨⟨0, c.n + 1, c.b, c.n + 1⟩, Nat.succ_le_of_lt hp, by go_num, by go_num, rfl, rfl, hk1, hnx1, by have := At.step (unhide hAt) hdk.out HP1.out (by decide); show At _ _; simpa using this⟩
          case measure => rw [hmu, hmu1]; omega
        · go_wp2_with (go_at_call 41; refine (unhide HPL).mono ?_; rintro e w' ⟨rfl, rfl⟩)
          go_roundw
          case rel => exact ⟨⟨1, c.a, c.b, c.n + 1⟩, Nat.succ_le_of_lt hp, by go_num, rfl, rfl, rfl, hk1, hnx1, by have := At.step (unhide hAt) hdk.out HP1.out (by decide); show At _ _; simpa using this⟩
          case measure => rw [hmu, hmu1]; omega
        · go_wp2_with (go_at_call 41; refine (unhide HPL).mono ?_; rintro e w' ⟨rfl, rfl⟩)
          go_roundw
          case rel => exact ⟨⟨2, c.a, c.n + 1, c.n + 1⟩, Nat.succ_le_of_lt hp, by go_num, rfl, by go_num, rfl, hk1, hnx1, by have := At.step (unhide hAt) hdk.out HP1.out (by decide); show At _ _; simpa using this⟩
          case measure => rw [hmu, hmu1]; omega
        · go_wp2_with (go_at_call 41; refine (unhide HPL).mono ?_; rintro e w' ⟨rfl, rfl⟩)
          go_roundw
          case rel => exact ⟨⟨3, c.a, c.b, c.n + 1⟩, Nat.succ_le_of_lt hp, by go_num, rfl, rfl, rfl, hk1, hnx1, by have := At.step (unhide hAt) hdk.out HP1.out (by decide); show At _ _; simpa using this⟩
          case measure => rw [hmu, hmu1]; omega
        · have hfin := begN_scan _ c (At.stop (unhide hAt) hdk.out HP1.out)
          by_cases hz : c.b = 0
          · have HE := Lib.hid (hfin.1 hz)
            have hz' : (c.b : Int) = 0 := by omega
            clear hfin
            go_wp2_with (go_at_call 41; refine (unhide HPL).mono ?_; rintro e w' ⟨rfl, rfl⟩)
            go_ret2
            exact ⟨by rw [HE.out]; rfl, hnx1⟩
          · obtain ⟨h1, h2, h3, h4⟩ := hfin.2 hz
            have hz' : (c.b : Int) ≠ 0 := by omega
            rw [← Lib.size_eq] at h2
            have hex : (s.extract c.a c.b).data.toList = (s.data.toList.drop c.a).take (c.b - c.a) := Lib.extract_data s c.a c.b
            rw [← hex] at h4
            have hsz : (s.extract c.a c.b).size ≤ 281474976710656 := by rw [ByteArray.size_extract]; omega
            have HL := hide (limited_any (s.extract c.a c.b) W1 ((unhide HM).below hnx1) hsz h4)
            have HE := Lib.hid h3
            clear hfin h3 h4 hex hsz
            go_wp2_with (go_at_call 41; refine (unhide HPL).mono ?_; rintro e w' ⟨rfl, rfl⟩)
            go_wp2_with (go_at_call 42; refine (unhide HL).mono ?_; rintro e w2 ⟨rfl, hb2⟩)
            go_ret2
            exact ⟨by rw [HE.out]; rfl, hnx1.trans (hb2.mono hnx1.size)⟩
      · have hhi : 128 ≤ s[c.n].toNat := by omega
        have hdec := decode_high s c.n hp hhi
        have hnext : ∀ ty, (Instr.next (.pointer (some ⟨w.heap.size, 0, none⟩)) true ty).run Tryd.prog wr = _ := fun ty => Lib.run_next_any_at wr w.heap.size s c.n ty hk hp
        have hnx1 : Below w.heap.size w (wr.iterAt w.heap.size s (c.n + (Utf8.decode s c.n).2)) := Lib.below_iterAt hnx (by omega) s _
        obtain ⟨r, hr⟩ : ∃ r : Int, r = ((Utf8.decode s c.n).1 : Int) := ⟨_, rfl⟩
        have hr1 : 128 ≤ r := by omega
        rw [← hr] at hnext
        have HP1 : Hid (placeT c.at_ s[c.n] = 4) := by
          show _ = _
          have := placeZ_byte c.at_ s[c.n]
          rw [placeZ_high _ _ (by omega)] at this
          omega
        generalize wr.iterAt w.heap.size s (c.n + (Utf8.decode s c.n).2) = W1 at hnext hnx1
        have hpl0 := place_any c.at_ r W1
        rw [placeZ_high _ _ hr1] at hpl0
        have HPL := hide hpl0
        clear hpl0 hr1 hr hdec hk hlow hhi
        have hfin := begN_scan _ c (At.stop (unhide hAt) hdk.out HP1.out)
        by_cases hz : c.b = 0
        · have HE := Lib.hid (hfin.1 hz)
          have hz' : (c.b : Int) = 0 := by omega
          clear hfin
          go_wp2_with (go_at_call 41; refine (unhide HPL).mono ?_; rintro e w' ⟨rfl, rfl⟩)
          go_ret2
          exact ⟨by rw [HE.out]; rfl, hnx1⟩
        · obtain ⟨h1, h2, h3, h4⟩ := hfin.2 hz
          have hz' : (c.b : Int) ≠ 0 := by omega
          rw [← Lib.size_eq] at h2
          have hex : (s.extract c.a c.b).data.toList = (s.data.toList.drop c.a).take (c.b - c.a) := Lib.extract_data s c.a c.b
          rw [← hex] at h4
          have hsz : (s.extract c.a c.b).size ≤ 281474976710656 := by rw [ByteArray.size_extract]; omega
          have HL := hide (limited_any (s.extract c.a c.b) W1 ((unhide HM).below hnx1) hsz h4)
          have HE := Lib.hid h3
          clear hfin h3 h4 hex hsz
          go_wp2_with (go_at_call 41; refine (unhide HPL).mono ?_; rintro e w' ⟨rfl, rfl⟩)
          go_wp2_with (go_at_call 42; refine (unhide HL).mono ?_; rintro e w2 ⟨rfl, hb2⟩)
          go_ret2
          exact ⟨by rw [HE.out]; rfl, hnx1.trans (hb2.mono hnx1.size)⟩
    · have hdk := Lib.hid (drop_nil s c.n (by omega))
      have hnext : ∀ ty, (Instr.next (.pointer (some ⟨w.heap.size, 0, none⟩)) true ty).run Tryd.prog wr = _ := fun ty => Lib.run_next_end_at wr w.heap.size s c.n ty hk hp
      clear hk
      have hfin := begN_scan _ c (At.ends (unhide hAt) hdk.out)
      by_cases hz : c.b = 0
      · have HE := Lib.hid (hfin.1 hz)
        have hz' : (c.b : Int) = 0 := by omega
        clear hfin
        go_wp2_with fail
        go_ret2
        exact ⟨by rw [HE.out]; rfl, hnx⟩
      · obtain ⟨h1, h2, h3, h4⟩ := hfin.2 hz
        have hz' : (c.b : Int) ≠ 0 := by omega
        rw [← Lib.size_eq] at h2
        have hex : (s.extract c.a c.b).data.toList = (s.data.toList.drop c.a).take (c.b - c.a) := Lib.extract_data s c.a c.b
        rw [← hex] at h4
        have hsz : (s.extract c.a c.b).size ≤ 281474976710656 := by rw [ByteArray.size_extract]; omega
        have HL := hide (limited_any (s.extract c.a c.b) wr ((unhide HM).below hnx) hsz h4)
        have HE := Lib.hid h3
        clear hfin h3 h4 hex hsz
        go_wp2_with fail
        go_wp2_with (go_at_call 42; refine (unhide HL).mono ?_; rintro e w2 ⟨rfl, hb2⟩)
        go_ret2
        exact ⟨by rw [HE.out]; rfl, hnx.trans (hb2.mono hnx.size)⟩

theorem begT_rest (s : L) (n : Int) (r : L) (h : begT s = some (n, r)) : r.length < s.length := by
  have hb := begT_scan s
  simp only at hb
  generalize scan ⟨0, 0, 0, 0⟩ s = c at hb
  by_cases h0 : c.b = 0
  · rw [if_pos h0] at hb; rw [hb] at h; cases h
  · rw [if_neg h0] at hb
    obtain ⟨h1, h2, h3, h4, h5⟩ := hb
    rw [h4] at h
    simp only [Option.some.injEq, Prod.mk.injEq] at h
    rw [← h.2, List.length_drop]
    omega
theorem numericT_begN (s : L) : numericT s = if (begN s).2 = 0 ∨ (begN s).2 < s.length then none else some (begN s).1 := by
  unfold numericT begN
  cases h : begT s with
  | none => simp
  | some p =>
    obtain ⟨n, r⟩ := p
    have hl := begT_rest s n r h
    cases r with
    | nil => simp only [List.length_nil, Nat.sub_zero]; rw [if_neg (by simp only [List.length_nil] at hl; omega)]
    | cons x r => simp only [List.length_cons] at hl ⊢; rw [if_pos (by omega)]
theorem beginsT_begN (s : L) : beginsT s = (begN s).1 := by
  unfold beginsT begN
  cases begT s with
  | none => rfl
  | some p => rfl

/-- What Numeric answers. -/
def numN (s : L) : Int × Bool := ((numericT s).getD 0, (numericT s).isSome)
theorem Numeric_any (s : ByteArray) (w : World) (hM : Met w) (hs : s.size ≤ 281474976710656) :
    Calls Tryd.prog 18 #[.string s] w fun e w' => e = .returned (.tuple #[.int .i64 (numN s.data.toList).1, .bool (numN s.data.toList).2]) ∧ Below w.heap.size w w' := by
  have hB := beginning_any s w hM hs
  have hN := numericT_begN s.data.toList
  rw [← Lib.size_eq] at hN
  have hle := begN_le s.data.toList
  rw [← Lib.size_eq] at hle
  clear hM
  by_cases hc : (begN s.data.toList).2 = 0 ∨ (begN s.data.toList).2 < s.size
  · rw [if_pos hc] at hN
    have HE : Hid (numN s.data.toList = (0, false)) := by show _ = _; unfold numN; rw [hN]; rfl
    generalize numN s.data.toList = q at HE ⊢
    obtain ⟨m, hm⟩ : ∃ m, m = (begN s.data.toList).2 := ⟨_, rfl⟩
    rw [← hm] at hB hc hle
    have HB := hide hB
    clear hB hm hN
    rcases hc with hc | hc
    · subst hc
      go_enter Tryd.func18, Tryd.ntmps18
      go_wp2_with (go_at_call 29; refine (unhide HB).mono ?_; rintro e w2 ⟨rfl, hb2⟩)
      all_goals go_ret2
      all_goals exact ⟨by rw [HE.out]; rfl, hb2⟩
    · have hc' : (m : Int) < (s.size : Int) := by omega
      go_enter Tryd.func18, Tryd.ntmps18
      go_wp2_with (go_at_call 29; refine (unhide HB).mono ?_; rintro e w2 ⟨rfl, hb2⟩)
      all_goals go_ret2
      all_goals exact ⟨by rw [HE.out]; rfl, hb2⟩
  · rw [if_neg hc] at hN
    have HE : Hid (numN s.data.toList = ((begN s.data.toList).1, true)) := by show _ = _; unfold numN; rw [hN]; rfl
    have hme : (begN s.data.toList).2 = s.size := by omega
    rw [hme] at hB hc
    have HB := hide hB
    have h0 : (s.size : Int) ≠ 0 := by omega
    have hne : s ≠ ByteArray.empty := by rintro rfl; exact h0 rfl
    clear hB hme hN hle hc
    go_enter Tryd.func18, Tryd.ntmps18
    go_wp2_with (go_at_call 29; refine (unhide HB).mono ?_; rintro e w2 ⟨rfl, hb2⟩)
    all_goals go_ret2
    all_goals exact ⟨by rw [HE.out]; rfl, hb2⟩
theorem Begins_any (s : ByteArray) (w : World) (hM : Met w) (hs : s.size ≤ 281474976710656) :
    Calls Tryd.prog 20 #[.string s] w fun e w' => e = .returned (.int .i64 (beginsT s.data.toList)) ∧ Below w.heap.size w w' := by
  have HB := hide (beginning_any s w hM hs)
  have HE := hide (beginsT_begN s.data.toList)
  clear hM
  go_enter Tryd.func20, Tryd.ntmps20
  go_wp2_with (go_at_call 29; refine (unhide HB).mono ?_; rintro e w2 ⟨rfl, hb2⟩)
  go_ret
  exact ⟨by rw [HE.out]; rfl, hb2⟩
end Go.Proofs.YtmbminbnnmnkeaaDoor
