/-
  The contract of the document's answer for layer 1: its Cut.
-/
import Derived.Test.YtbeglmolgloepaaDoorRefE
import Derived.Test.YtbeglmolgloepaaDoorRefB
import Derived.Test.YtbeglmolgloepaaDoorCut
namespace Go.Proofs.YtbeglmolgloepaaDoor
open Go Go.RowKit Cutting

theorem php_any (s : ByteArray) (n : Nat) (w : World) (hs : s.size ≤ 65536) (hn : n ≤ s.size) :
    Calls Tryd.prog 21 #[.string s, .int .i64 n] w fun e w' => e = .returned (.int .i64 (phpN (s.data.toList.drop n))) ∧ Below w.heap.size w w' := by
  have same : (Lib.hasPrefix (s.data.toList.drop n) [60, 63] = false ∨ s.size < n + 5) → Calls Tryd.prog 21 #[.string s, .int .i64 n] w fun e w' => e = .returned (.int .i64 (phpN (s.data.toList.drop n))) ∧ Below w.heap.size w w' := by
    intro h
    refine (php_none s n w hs hn h).mono ?_
    rintro e w' ⟨rfl, rfl⟩
    exact ⟨rfl, Below.refl _ _⟩
  cases ha : Lib.hasPrefix (s.data.toList.drop n) [60, 63]
  · exact same (.inl ha)
  · by_cases h5 : s.size < n + 5
    · exact same (.inr h5)
    · exact php_some s n w hs (by omega) ha

/-- Code ends at the file's end, or where it is closed. -/
theorem code_end (n : Nat) : ∀ r : List UInt8, r.length ≤ n → r.drop (codeN r) = [] ∨ Lib.hasPrefix (r.drop (codeN r)) [63, 62] = true := by
  induction n with
  | zero => intro r h; have := List.eq_nil_of_length_eq_zero (Nat.le_zero.1 h); subst this; exact .inl rfl
  | succ n ih =>
    intro r h
    by_cases hr : r = []
    · subst hr; exact .inl rfl
    · cases hp : Lib.hasPrefix r [63, 62]
      · have hs := stepN_le r hr
        rw [codeN_eq, if_neg (by rw [hp]; cases r with | nil => exact absurd rfl hr | cons => simp), ← List.drop_drop]
        exact ih _ (by rw [List.length_drop]; omega)
      · right
        have : codeN r = 0 := by rw [codeN_eq, if_pos (by rw [hp]; simp)]
        rw [this]
        exact hp
theorem close_at (r : List UInt8) (h : Lib.hasPrefix r [63, 62] = true) :
    closeN r = if Lib.hasPrefix (r.drop 2) [13, 10] then 4 else if Lib.hasPrefix (r.drop 2) [10] then 3 else 2 := by
  unfold closeN
  rw [if_pos h]
  cases h1 : Lib.hasPrefix (r.drop 2) [13, 10]
  · simp
  · have : Lib.hasPrefix (r.drop 2) [10] = false := by
      obtain ⟨t, ht⟩ := List.isPrefixOf_iff_prefix.1 h1
      rw [← ht]
      rfl
    rw [this]
    rfl

/-- The relation of the answer's loop: what was found, where the text outside of code begins, how far it was looked. -/
structure RAt (s : ByteArray) (l : List Pc) (f i : Nat) : Prop where
  open_ : OpenAt s f i
  rest : pieces s.data.toList = l ++ piecesN f (s.data.toList.drop f)
theorem RAt.html {s : ByteArray} {l : List Pc} {f i K C E n : Nat} (h : RAt s l f i) (_hi : i ≤ s.size) (ho : openN (s.data.toList.drop i) = ⟨K, 0, C - i⟩) (hK : K ≠ 0) (hC : i ≤ C) (hE : E = C + codeN (s.data.toList.drop C)) (hn : n = closeN (s.data.toList.drop E)) :
    pieces s.data.toList = (l ++ (if f < i then [⟨1, (s.data.toList.drop f).take (i - f), f⟩] else [])) ++ [⟨K, (s.data.toList.drop C).take (E - C), C⟩] ++ piecesN (E + n) (s.data.toList.drop (E + n)) := by
  have a := h.open_.kind; have b := h.open_.mark; have c := h.open_.code
  rw [ho] at a b c
  have c' := c (by rw [a]; exact hK)
  have hfi := h.open_.from_
  have hlt : f < s.size := by
    rcases Nat.lt_or_ge f s.size with h1 | h1
    · exact h1
    · rw [drop_nil s f h1] at a
      exact absurd a.symm hK
  refine cut_step s f K i C E n l hlt a.symm ?_ ?_ hK hE hn h.rest
  · dsimp only at b; omega
  · dsimp only at c'; omega
theorem RAt.last {s : ByteArray} {l : List Pc} {f : Nat} (h : RAt s l f s.size) :
    pieces s.data.toList = l ++ (if f < s.size then [⟨1, (s.data.toList.drop f).take (s.size - f), f⟩] else []) := by
  have a := h.open_.kind; have b := h.open_.mark
  rw [drop_nil s s.size (Nat.le_refl _)] at a b
  have a' : (openN (s.data.toList.drop f)).kind = 0 := a
  have b' : f + (openN (s.data.toList.drop f)).mark = s.size := b
  by_cases hlt : f < s.size
  · exact cut_last s f s.size l hlt b'.symm a' h.rest
  · rw [if_neg hlt, h.rest, drop_nil s f (by omega)]
    rfl

theorem RCut_long (s : ByteArray) (w : World) (hs : 65536 < s.size) :
    Calls Tryd.prog 9 #[.string s] w fun e w' => e = .returned (.tuple #[.slice none 0 0, .int .i64 2]) ∧ w = w' := by
  have hbig : decide ((65536 : Int) < (s.size : Int)) = true := by simpa using (by omega : (65536 : Int) < (s.size : Int))
  go_enter Tryd.func9, Tryd.ntmps9
  go_wp2_with fail
  go_ret2
  exact ⟨rfl, rfl⟩

set_option maxRecDepth 100000 in
set_option maxHeartbeats 8000000 in
theorem RCut_any (s : ByteArray) (w : World) (hs : s.size ≤ 65536) :
    Calls Tryd.prog 9 #[.string s] w fun e w' => ∃ v, e = .returned (.tuple #[v, .int .i64 0]) ∧ St w.heap.size w w' v (pieces s.data.toList) := by
  obtain ⟨i0, hi, hz0, hz1, hz2⟩ := info_parts pieceInfo
  have hbig : decide ((65536 : Int) < (s.size : Int)) = false := by simpa using (by omega : (s.size : Int) ≤ 65536)
  go_enter Tryd.func9, Tryd.ntmps9
  go_wp2_with fail
  obtain ⟨B, hB⟩ : ∃ B, B = w.heap.size := ⟨_, rfl⟩
  have HB := Lib.hid hB
  clear hB
  go_loopw [4, 5, 6] (fun v z y wr => ∃ (f i : Nat) (l : List Pc), z = .int .i64 f ∧ y = .int .i64 i ∧ i ≤ s.size + 1 ∧ St B w wr v l ∧ Hid ((i ≤ s.size → RAt s l f i ∧ f ≤ i) ∧ (i = s.size + 1 → pieces s.data.toList = l))) (fun _ _ y _ => s.size + 1 - (intOf y).toNat)
  case atStart => exact ⟨0, 0, [], rfl, rfl, by omega, ⟨World.ownsRow_nil _ _ _ _, Below.refl _ _, by rw [HB.out]; exact Nat.le_refl _⟩, fun _ => ⟨⟨⟨Nat.zero_le _, Nat.le_refl _, rfl, rfl, fun _ => rfl⟩, rfl⟩, Nat.le_refl _⟩, fun h => by omega⟩
  case round =>
    obtain ⟨f, i, l, rfl, rfl, hik, hst, hrel⟩ := hrel
    by_cases hle : i ≤ s.size
    · have hR := (hrel.out.1 hle).1
      have hfi := (hrel.out.1 hle).2
      have HR := Lib.hid hR
      have hlen : l.length ≤ s.size := pcs_room hR.rest
      clear hR hrel
      cases he : Lib.hasPrefix (s.data.toList.drop i) [60, 63, 61]
      · have HE := Lib.hid he
        clear he
        obtain ⟨n, hn⟩ : ∃ n, n = phpN (s.data.toList.drop i) := ⟨_, rfl⟩
        have hnle := phpN_le (s.data.toList.drop i)
        rw [← hn, List.length_drop, ← Lib.size_eq] at hnle
        have HN := Lib.hid hn
        clear hn
        rcases Nat.eq_zero_or_pos n with h0 | h0
        · subst h0
          by_cases hil : i < s.size
          · have hne : s.data.toList.drop i ≠ [] := by rw [drop_at s i hil]; simp
            have hnx : Hid (RAt s l f (i + 1)) := ⟨HR.out.open_.next hil HE.out HN.out.symm, HR.out.rest⟩
            have heq : ((i : Int) == (s.size : Int)) = false := by rw [beq_eq_false_iff_ne]; omega
            go_wp2_with fail
            refine (At_n _ _ _ (i) false _ (by omega) (by omega) hs (by show 3 ≤ 65536; omega) (.inl (by show 0 < 3; omega)) (by exact HE.out)).mono ?_
            rintro e w' ⟨rfl, rfl⟩
            go_wp2_with fail
            refine (php_any s i _ hs hle).mono ?_
            rintro e wp ⟨rfl, hbp⟩
            have hst0 := hst.step hbp
            rw [← HN.out]
            go_wp2_with fail
            go_roundw
            case rel => exact ⟨f, i + 1, l, rfl, by go_num, by omega, hst0, fun _ => ⟨hnx.out, by omega⟩, fun h => by omega⟩
            case measure => simp [intOf]; omega
          · have his : i = s.size := by omega
            subst his
            have hlast := Lib.hid HR.out.last
            have heq : ((s.size : Int) == (s.size : Int)) = true := by simp
            by_cases hfl : f < s.size
            · go_wp2_with fail
              refine (At_n _ _ _ (s.size) false _ (by omega) (by omega) hs (by show 3 ≤ 65536; omega) (.inl (by show 0 < 3; omega)) (by exact HE.out)).mono ?_
              rintro e w' ⟨rfl, rfl⟩
              go_wp2_with fail
              refine (php_any s s.size _ hs hle).mono ?_
              rintro e wp ⟨rfl, hbp⟩
              have hst0 := hst.step hbp
              rw [← HN.out]
              go_wp2_with (at_builtin; refine wpList_append_own _ rfl _ _ 22 rfl B 32 i0 _ 3 32 Tryd.underlying22 hi hz0 hz1 hz2 rfl (by decide) _ _ _ rfl (hst0.alloc _).own ⟨wp.heap.size, 0, none⟩ 1 1 [.int .i64 1, .string (s.extract f s.size), .int .i64 f] rfl rfl ?c1x11 ?c2x11 ?c3x11 ?c4x11 ?c5x11 ?_)
              case c1x11 => exact three_cells _ _ _ _ _ _ (by simp)
              case c2x11 => intro u hu; simp at hu; rcases hu with rfl | rfl | rfl <;> rfl
              case c3x11 => unfold maxLen; omega
              case c4x11 => omega
              case c5x11 => exact (hst0.alloc _).base
              intro v1 w2 hown1 hg1 _
              have hst3 : St B w w2 v1 (l ++ [⟨1, (s.data.toList.drop f).take (s.size - f), f⟩]) := (hst0.alloc _).grown (p := ⟨1, (s.data.toList.drop f).take (s.size - f), f⟩) (by rw [encPc_code]; exact hown1) hg1
              clear hown1 hg1
              go_wp2_with fail
              go_roundw
              case rel => exact ⟨f, s.size + 1, _, rfl, by go_num, by omega, hst3, fun h => by omega, fun _ => by rw [hlast.out, if_pos hfl]⟩
              case measure => simp [intOf]
            · go_wp2_with fail
              refine (At_n _ _ _ (s.size) false _ (by omega) (by omega) hs (by show 3 ≤ 65536; omega) (.inl (by show 0 < 3; omega)) (by exact HE.out)).mono ?_
              rintro e w' ⟨rfl, rfl⟩
              go_wp2_with fail
              refine (php_any s s.size _ hs hle).mono ?_
              rintro e wp ⟨rfl, hbp⟩
              have hst0 := hst.step hbp
              rw [← HN.out]
              go_wp2_with fail
              go_roundw
              case rel => exact ⟨f, s.size + 1, l, rfl, by go_num, by omega, hst0, fun h => by omega, fun _ => by rw [hlast.out, if_neg hfl, List.append_nil]⟩
              case measure => simp [intOf]
        · obtain ⟨C, hC⟩ : ∃ C, C = i + n := ⟨_, rfl⟩
          have hCs : C ≤ s.size := by omega
          have hCi : ((i : Int) + (n : Int)) = (C : Int) := by omega
          have hiC : i ≤ C := by omega
          have hd : s.data.toList.drop i ≠ [] := by
            intro h
            have := congrArg List.length h
            rw [List.length_drop, ← Lib.size_eq] at this
            simp only [List.length_nil] at this
            omega
          have HO : Hid (openN (s.data.toList.drop i) = ⟨2, 0, C - i⟩) := by
            show _ = _
            rw [hC, Nat.add_sub_cancel_left]
            cases hdd : s.data.toList.drop i with
            | nil => exact absurd hdd hd
            | cons b r => rw [HN.out, hdd]; exact openN_php b r (by rw [← hdd]; exact HE.out) (by rw [← hdd, ← HN.out]; exact h0)
          have hK : (2 : Nat) ≠ 0 := by omega
          clear hC hd
          by_cases hfl : f < i
          · go_wp2_with fail
            refine (At_n _ _ _ (i) false _ (by omega) (by omega) hs (by show 3 ≤ 65536; omega) (.inl (by show 0 < 3; omega)) (by exact HE.out)).mono ?_
            rintro e w' ⟨rfl, rfl⟩
            go_wp2_with fail
            refine (php_any s i _ hs hle).mono ?_
            rintro e wp ⟨rfl, hbp⟩
            rw [← HN.out]
            have hst0 := hst.step hbp
            clear hst hbp
            go_wp2_with (at_builtin; refine wpList_append_own _ rfl _ _ 22 rfl B 32 i0 _ 3 32 Tryd.underlying22 hi hz0 hz1 hz2 rfl (by decide) _ _ _ rfl (hst0.alloc _).own ⟨wp.heap.size, 0, none⟩ 1 1 [.int .i64 1, .string (s.extract f i), .int .i64 f] rfl rfl ?c1x6 ?c2x6 ?c3x6 ?c4x6 ?c5x6 ?_)
            case c1x6 => exact three_cells _ _ _ _ _ _ (by simp)
            case c2x6 => intro u hu; simp at hu; rcases hu with rfl | rfl | rfl <;> rfl
            case c3x6 => unfold maxLen; omega
            case c4x6 => omega
            case c5x6 => exact (hst0.alloc _).base
            intro v1 w2 hown1 hg1 _
            have hst3' : St B w w2 v1 (l ++ [⟨1, (s.data.toList.drop f).take (i - f), f⟩]) := (hst0.alloc _).grown (p := ⟨1, (s.data.toList.drop f).take (i - f), f⟩) (by rw [encPc_code]; exact hown1) hg1
            have hlen2 : (l ++ [(⟨1, (s.data.toList.drop f).take (i - f), f⟩ : Pc)]).length ≤ 65537 := by rw [List.length_append]; simp only [List.length_cons, List.length_nil]; omega
            obtain ⟨l1, hl1⟩ : ∃ l1, l1 = l ++ [(⟨1, (s.data.toList.drop f).take (i - f), f⟩ : Pc)] := ⟨_, rfl⟩
            rw [← hl1] at hst3' hlen2
            have HL : Hid (l ++ (if f < i then [(⟨1, (s.data.toList.drop f).take (i - f), f⟩ : Pc)] else []) = l1) := by show _ = _; rw [if_pos hfl]; exact hl1.symm
            have hst3 := hst3'

            clear hown1 hg1 hl1 hst3' hCi
            go_wp2_with fail
            go_loopw [10] (fun z W => ∃ k : Nat, z = .int .i64 k ∧ Hid (CodeAt s C k) ∧ C ≤ k ∧ St B w W v1 l1) (fun z _ => s.size - (intOf z).toNat)
            case atStart => exact ⟨C, rfl, ⟨hCs, rfl⟩, Nat.le_refl _, hst3⟩
            case round =>
              obtain ⟨k, rfl, hck, hCk, hstk⟩ := hrel
              have hks := hck.out.1
              have hx0 : (C : Int) ≤ (k : Int) := by omega
              have hx1 : (k : Int) ≤ (s.size : Int) := by omega
              by_cases hlt : k < s.size
              · cases hp : Lib.hasPrefix (s.data.toList.drop k) [63, 62]
                · have HP := Lib.hid hp
                  have hne : s.data.toList.drop k ≠ [] := by rw [drop_at s k hlt]; simp
                  have hsn := hid_step _ hne
                  obtain ⟨h, hh⟩ : ∃ h, h = hidN (s.data.toList.drop k) := ⟨_, rfl⟩
                  rw [← hh] at hsn
                  have HH := Lib.hid hh
                  rcases Nat.eq_zero_or_pos h with hh0 | hh0
                  · rw [if_pos hh0] at hsn
                    have hnx := hck.out.next hlt hp hsn
                    have HX := Lib.hid hnx.1
                    obtain ⟨_, _, hk1⟩ := hnx
                    have heq : ((k : Int) + (h : Int) == (k : Int)) = true := by rw [beq_iff_eq]; omega
                    have hkh : Hid (((k + h : Nat) : Int) = (k : Int)) := by show _ = _; omega
                    clear hp hne hsn hh
                    go_wp2_with fail
                    refine (At_n _ _ _ (k) false _ (by omega) (by omega) hs (by show 2 ≤ 65536; omega) (.inl (by show 0 < 2; omega)) (by exact HP.out)).mono ?_
                    rintro e w' ⟨rfl, rfl⟩
                    go_wp2_with fail
                    refine (hidden_any s k _ hs hlt).mono ?_
                    rintro e w8 ⟨rfl, hb8⟩
                    have hst8 := hstk.step hb8
                    rw [← HH.out, hkh.out]
                    go_wp2_with fail
                    refine (At_n _ _ _ (k) false _ (by omega) (by omega) hs (by show 2 ≤ 65536; omega) (.inl (by show 0 < 2; omega)) (by exact HP.out)).mono ?_
                    rintro e w' ⟨rfl, rfl⟩
                    go_wp2_with fail
                    go_roundw
                    case rel => exact ⟨k + 1, by go_num, HX.out, by omega, hst8⟩
                    case measure => simp [intOf]; omega
                  · rw [if_neg (by omega)] at hsn
                    have hnx := hck.out.next hlt hp hsn
                    have HX := Lib.hid hnx.1
                    obtain ⟨_, _, hk1⟩ := hnx
                    have heq : ((k : Int) + (h : Int) == (k : Int)) = false := by rw [beq_eq_false_iff_ne]; omega
                    clear hp hne hsn hh
                    go_wp2_with fail
                    refine (At_n _ _ _ (k) false _ (by omega) (by omega) hs (by show 2 ≤ 65536; omega) (.inl (by show 0 < 2; omega)) (by exact HP.out)).mono ?_
                    rintro e w' ⟨rfl, rfl⟩
                    go_wp2_with fail
                    refine (hidden_any s k _ hs hlt).mono ?_
                    rintro e w8 ⟨rfl, hb8⟩
                    have hst8 := hstk.step hb8
                    rw [← HH.out]
                    go_wp2_with fail
                    go_roundw
                    case rel => exact ⟨k + h, by go_num, HX.out, by omega, hst8⟩
                    case measure => simp [intOf]; omega
                · have HP := Lib.hid hp
                  have hEk : Hid (k = C + codeN (s.data.toList.drop C)) := by
                    have := hck.out.2
                    have h0 : codeN (s.data.toList.drop k) = 0 := by rw [codeN_eq, if_pos (by rw [hp]; simp)]
                    show _ = _
                    omega
                  clear hp hck
                  go_wp2_with fail
                  refine (At_n _ _ _ (k) true _ (by omega) (by omega) hs (by show 2 ≤ 65536; omega) (.inl (by show 0 < 2; omega)) (by exact HP.out)).mono ?_
                  rintro e w' ⟨rfl, rfl⟩
                  go_wp2_with (at_builtin; refine wpList_append_own _ rfl _ _ 22 rfl B 32 i0 _ 3 32 Tryd.underlying22 hi hz0 hz1 hz2 rfl (by decide) _ _ _ rfl (hstk.alloc _).own ⟨wr.heap.size, 0, none⟩ 1 1 [.int .i64 2, .string (s.extract C k), .int .i64 C] rfl rfl ?c1x7 ?c2x7 ?c3x7 ?c4x7 ?c5x7 ?_)
                  case c1x7 => exact three_cells _ _ _ _ _ _ (by simp)
                  case c2x7 => intro u hu; simp at hu; rcases hu with rfl | rfl | rfl <;> rfl
                  case c3x7 => unfold maxLen; omega
                  case c4x7 => omega
                  case c5x7 => exact (hstk.alloc _).base
                  intro v5 w5 hown5 hg5 _
                  have hst6 : St B w w5 v5 (l1 ++ [⟨2, (s.data.toList.drop C).take (k - C), C⟩]) := (hstk.alloc _).grown (p := ⟨2, (s.data.toList.drop C).take (k - C), C⟩) (by rw [encPc_code]; exact hown5) hg5
                  clear hown5 hg5
                  go_wp2_with fail
                  cases hn1 : Lib.hasPrefix (s.data.toList.drop (k + 2)) [13, 10]
                  · have H1 := Lib.hid hn1
                    cases hn2 : Lib.hasPrefix (s.data.toList.drop (k + 2)) [10]
                    · have H2 := Lib.hid hn2
                      have hn : 2 = closeN (s.data.toList.drop k) := by rw [close_at _ HP.out, List.drop_drop, hn1, hn2]; rfl
                      have hkn : k + 2 ≤ s.size := by
                        have := (closeN_le (s.data.toList.drop k)).1
                        rw [← hn, List.length_drop, ← Lib.size_eq] at this
                        omega
                      have hst9 := Lib.hid (HR.out.html hle HO.out hK (by omega) hEk.out hn)
                      clear hn hn1 hn2
                      refine (At_n _ _ _ (k + 2) false _ (by omega) (by omega) hs (by show 2 ≤ 65536; omega) (.inl (by show 0 < 2; omega)) (by exact H1.out)).mono ?_
                      rintro e w' ⟨rfl, rfl⟩
                      go_wp2_with fail
                      refine (At_n _ _ _ (k + 2) false _ (by omega) (by omega) hs (by show 1 ≤ 65536; omega) (.inl (by show 0 < 1; omega)) (by exact H2.out)).mono ?_
                      rintro e w' ⟨rfl, rfl⟩
                      go_wp2_with fail
                      go_roundw
                      case rel => exact ⟨k + 2, k + 2, _, by go_num, by go_num, by omega, hst6, fun _ => ⟨⟨⟨hkn, Nat.le_refl _, rfl, rfl, fun _ => rfl⟩, by have h9 := hst9.out; rw [HL.out] at h9; exact h9⟩, Nat.le_refl _⟩, fun h => by omega⟩
                      case measure => simp [intOf]; omega
                    · have H2 := Lib.hid hn2
                      have hn : 3 = closeN (s.data.toList.drop k) := by rw [close_at _ HP.out, List.drop_drop, hn1, hn2]; rfl
                      have hkn : k + 3 ≤ s.size := by
                        have := (closeN_le (s.data.toList.drop k)).1
                        rw [← hn, List.length_drop, ← Lib.size_eq] at this
                        omega
                      have hst9 := Lib.hid (HR.out.html hle HO.out hK (by omega) hEk.out hn)
                      clear hn hn1 hn2
                      refine (At_n _ _ _ (k + 2) false _ (by omega) (by omega) hs (by show 2 ≤ 65536; omega) (.inl (by show 0 < 2; omega)) (by exact H1.out)).mono ?_
                      rintro e w' ⟨rfl, rfl⟩
                      go_wp2_with fail
                      refine (At_n _ _ _ (k + 2) true _ (by omega) (by omega) hs (by show 1 ≤ 65536; omega) (.inl (by show 0 < 1; omega)) (by exact H2.out)).mono ?_
                      rintro e w' ⟨rfl, rfl⟩
                      go_wp2_with fail
                      go_roundw
                      case rel => exact ⟨k + 3, k + 3, _, by go_num, by go_num, by omega, hst6, fun _ => ⟨⟨⟨hkn, Nat.le_refl _, rfl, rfl, fun _ => rfl⟩, by have h9 := hst9.out; rw [HL.out] at h9; exact h9⟩, Nat.le_refl _⟩, fun h => by omega⟩
                      case measure => simp [intOf]; omega
                  · have H1 := Lib.hid hn1
                    have hn : 4 = closeN (s.data.toList.drop k) := by rw [close_at _ HP.out, List.drop_drop, hn1]; rfl
                    have hkn : k + 4 ≤ s.size := by
                      have := (closeN_le (s.data.toList.drop k)).1
                      rw [← hn, List.length_drop, ← Lib.size_eq] at this
                      omega
                    have hst9 := Lib.hid (HR.out.html hle HO.out hK (by omega) hEk.out hn)
                    clear hn hn1
                    refine (At_n _ _ _ (k + 2) true _ (by omega) (by omega) hs (by show 2 ≤ 65536; omega) (.inl (by show 0 < 2; omega)) (by exact H1.out)).mono ?_
                    rintro e w' ⟨rfl, rfl⟩
                    go_wp2_with fail
                    go_roundw
                    case rel => exact ⟨k + 4, k + 4, _, by go_num, by go_num, by omega, hst6, fun _ => ⟨⟨⟨hkn, Nat.le_refl _, rfl, rfl, fun _ => rfl⟩, by have h9 := hst9.out; rw [HL.out] at h9; exact h9⟩, Nat.le_refl _⟩, fun h => by omega⟩
                    case measure => simp [intOf]; omega
              · have hEk : Hid (k = C + codeN (s.data.toList.drop C)) := by
                  have := hck.out.2
                  have h0 : codeN (s.data.toList.drop k) = 0 := by rw [drop_nil s k (by omega)]; rfl
                  show _ = _
                  omega
                have hkk : k = s.size := by omega
                have hfin := Lib.hid (HR.out.html hle HO.out hK (by omega) hEk.out (n := 0) (by rw [drop_nil s k (by omega)]; rfl))
                have HK := Lib.hid hkk
                clear hck hkk
                go_wp2_with (at_builtin; refine wpList_append_own _ rfl _ _ 22 rfl B 32 i0 _ 3 32 Tryd.underlying22 hi hz0 hz1 hz2 rfl (by decide) _ _ _ rfl (hstk.alloc _).own ⟨wr.heap.size, 0, none⟩ 1 1 [.int .i64 2, .string (s.extract C k), .int .i64 C] rfl rfl ?c1x8 ?c2x8 ?c3x8 ?c4x8 ?c5x8 ?_)
                case c1x8 => exact three_cells _ _ _ _ _ _ (by simp)
                case c2x8 => intro u hu; simp at hu; rcases hu with rfl | rfl | rfl <;> rfl
                case c3x8 => unfold maxLen; omega
                case c4x8 => omega
                case c5x8 => exact (hstk.alloc _).base
                intro v5 w5 hown5 hg5 _
                have hst6 : St B w w5 v5 (l1 ++ [⟨2, (s.data.toList.drop C).take (k - C), C⟩]) := (hstk.alloc _).grown (p := ⟨2, (s.data.toList.drop C).take (k - C), C⟩) (by rw [encPc_code]; exact hown5) hg5
                clear hown5 hg5
                go_wp2_with fail
                go_ret2
                refine ⟨v5, rfl, ?_⟩
                have h9 := hfin.out
                rw [Nat.add_zero, drop_nil s k (by omega), piecesN_nil, List.append_nil] at h9
                rw [HL.out] at h9
                rw [h9, ← HB.out]
                exact hst6
          · go_wp2_with fail
            refine (At_n _ _ _ (i) false _ (by omega) (by omega) hs (by show 3 ≤ 65536; omega) (.inl (by show 0 < 3; omega)) (by exact HE.out)).mono ?_
            rintro e w' ⟨rfl, rfl⟩
            go_wp2_with fail
            refine (php_any s i _ hs hle).mono ?_
            rintro e wp ⟨rfl, hbp⟩
            rw [← HN.out]
            have hst0 := hst.step hbp
            clear hst hbp
            have hst3 := hst0
            have HL : Hid (l ++ (if f < i then [(⟨1, (s.data.toList.drop f).take (i - f), f⟩ : Pc)] else []) = l) := by show _ = _; rw [if_neg hfl, List.append_nil]
            have hlen2 : l.length ≤ 65537 := by omega
            go_wp2_with fail

            clear hCi
            go_wp2_with fail
            go_loopw [10] (fun z W => ∃ k : Nat, z = .int .i64 k ∧ Hid (CodeAt s C k) ∧ C ≤ k ∧ St B w W u4 l) (fun z _ => s.size - (intOf z).toNat)
            case atStart => exact ⟨C, rfl, ⟨hCs, rfl⟩, Nat.le_refl _, hst3⟩
            case round =>
              obtain ⟨k, rfl, hck, hCk, hstk⟩ := hrel
              have hks := hck.out.1
              have hx0 : (C : Int) ≤ (k : Int) := by omega
              have hx1 : (k : Int) ≤ (s.size : Int) := by omega
              by_cases hlt : k < s.size
              · cases hp : Lib.hasPrefix (s.data.toList.drop k) [63, 62]
                · have HP := Lib.hid hp
                  have hne : s.data.toList.drop k ≠ [] := by rw [drop_at s k hlt]; simp
                  have hsn := hid_step _ hne
                  obtain ⟨h, hh⟩ : ∃ h, h = hidN (s.data.toList.drop k) := ⟨_, rfl⟩
                  rw [← hh] at hsn
                  have HH := Lib.hid hh
                  rcases Nat.eq_zero_or_pos h with hh0 | hh0
                  · rw [if_pos hh0] at hsn
                    have hnx := hck.out.next hlt hp hsn
                    have HX := Lib.hid hnx.1
                    obtain ⟨_, _, hk1⟩ := hnx
                    have heq : ((k : Int) + (h : Int) == (k : Int)) = true := by rw [beq_iff_eq]; omega
                    have hkh : Hid (((k + h : Nat) : Int) = (k : Int)) := by show _ = _; omega
                    clear hp hne hsn hh
                    go_wp2_with fail
                    refine (At_n _ _ _ (k) false _ (by omega) (by omega) hs (by show 2 ≤ 65536; omega) (.inl (by show 0 < 2; omega)) (by exact HP.out)).mono ?_
                    rintro e w' ⟨rfl, rfl⟩
                    go_wp2_with fail
                    refine (hidden_any s k _ hs hlt).mono ?_
                    rintro e w8 ⟨rfl, hb8⟩
                    have hst8 := hstk.step hb8
                    rw [← HH.out, hkh.out]
                    go_wp2_with fail
                    refine (At_n _ _ _ (k) false _ (by omega) (by omega) hs (by show 2 ≤ 65536; omega) (.inl (by show 0 < 2; omega)) (by exact HP.out)).mono ?_
                    rintro e w' ⟨rfl, rfl⟩
                    go_wp2_with fail
                    go_roundw
                    case rel => exact ⟨k + 1, by go_num, HX.out, by omega, hst8⟩
                    case measure => simp [intOf]; omega
                  · rw [if_neg (by omega)] at hsn
                    have hnx := hck.out.next hlt hp hsn
                    have HX := Lib.hid hnx.1
                    obtain ⟨_, _, hk1⟩ := hnx
                    have heq : ((k : Int) + (h : Int) == (k : Int)) = false := by rw [beq_eq_false_iff_ne]; omega
                    clear hp hne hsn hh
                    go_wp2_with fail
                    refine (At_n _ _ _ (k) false _ (by omega) (by omega) hs (by show 2 ≤ 65536; omega) (.inl (by show 0 < 2; omega)) (by exact HP.out)).mono ?_
                    rintro e w' ⟨rfl, rfl⟩
                    go_wp2_with fail
                    refine (hidden_any s k _ hs hlt).mono ?_
                    rintro e w8 ⟨rfl, hb8⟩
                    have hst8 := hstk.step hb8
                    rw [← HH.out]
                    go_wp2_with fail
                    go_roundw
                    case rel => exact ⟨k + h, by go_num, HX.out, by omega, hst8⟩
                    case measure => simp [intOf]; omega
                · have HP := Lib.hid hp
                  have hEk : Hid (k = C + codeN (s.data.toList.drop C)) := by
                    have := hck.out.2
                    have h0 : codeN (s.data.toList.drop k) = 0 := by rw [codeN_eq, if_pos (by rw [hp]; simp)]
                    show _ = _
                    omega
                  clear hp hck
                  go_wp2_with fail
                  refine (At_n _ _ _ (k) true _ (by omega) (by omega) hs (by show 2 ≤ 65536; omega) (.inl (by show 0 < 2; omega)) (by exact HP.out)).mono ?_
                  rintro e w' ⟨rfl, rfl⟩
                  go_wp2_with (at_builtin; refine wpList_append_own _ rfl _ _ 22 rfl B 32 i0 _ 3 32 Tryd.underlying22 hi hz0 hz1 hz2 rfl (by decide) _ _ _ rfl (hstk.alloc _).own ⟨wr.heap.size, 0, none⟩ 1 1 [.int .i64 2, .string (s.extract C k), .int .i64 C] rfl rfl ?c1x9 ?c2x9 ?c3x9 ?c4x9 ?c5x9 ?_)
                  case c1x9 => exact three_cells _ _ _ _ _ _ (by simp)
                  case c2x9 => intro u hu; simp at hu; rcases hu with rfl | rfl | rfl <;> rfl
                  case c3x9 => unfold maxLen; omega
                  case c4x9 => omega
                  case c5x9 => exact (hstk.alloc _).base
                  intro v5 w5 hown5 hg5 _
                  have hst6 : St B w w5 v5 (l ++ [⟨2, (s.data.toList.drop C).take (k - C), C⟩]) := (hstk.alloc _).grown (p := ⟨2, (s.data.toList.drop C).take (k - C), C⟩) (by rw [encPc_code]; exact hown5) hg5
                  clear hown5 hg5
                  go_wp2_with fail
                  cases hn1 : Lib.hasPrefix (s.data.toList.drop (k + 2)) [13, 10]
                  · have H1 := Lib.hid hn1
                    cases hn2 : Lib.hasPrefix (s.data.toList.drop (k + 2)) [10]
                    · have H2 := Lib.hid hn2
                      have hn : 2 = closeN (s.data.toList.drop k) := by rw [close_at _ HP.out, List.drop_drop, hn1, hn2]; rfl
                      have hkn : k + 2 ≤ s.size := by
                        have := (closeN_le (s.data.toList.drop k)).1
                        rw [← hn, List.length_drop, ← Lib.size_eq] at this
                        omega
                      have hst9 := Lib.hid (HR.out.html hle HO.out hK (by omega) hEk.out hn)
                      clear hn hn1 hn2
                      refine (At_n _ _ _ (k + 2) false _ (by omega) (by omega) hs (by show 2 ≤ 65536; omega) (.inl (by show 0 < 2; omega)) (by exact H1.out)).mono ?_
                      rintro e w' ⟨rfl, rfl⟩
                      go_wp2_with fail
                      refine (At_n _ _ _ (k + 2) false _ (by omega) (by omega) hs (by show 1 ≤ 65536; omega) (.inl (by show 0 < 1; omega)) (by exact H2.out)).mono ?_
                      rintro e w' ⟨rfl, rfl⟩
                      go_wp2_with fail
                      go_roundw
                      case rel => exact ⟨k + 2, k + 2, _, by go_num, by go_num, by omega, hst6, fun _ => ⟨⟨⟨hkn, Nat.le_refl _, rfl, rfl, fun _ => rfl⟩, by have h9 := hst9.out; rw [HL.out] at h9; exact h9⟩, Nat.le_refl _⟩, fun h => by omega⟩
                      case measure => simp [intOf]; omega
                    · have H2 := Lib.hid hn2
                      have hn : 3 = closeN (s.data.toList.drop k) := by rw [close_at _ HP.out, List.drop_drop, hn1, hn2]; rfl
                      have hkn : k + 3 ≤ s.size := by
                        have := (closeN_le (s.data.toList.drop k)).1
                        rw [← hn, List.length_drop, ← Lib.size_eq] at this
                        omega
                      have hst9 := Lib.hid (HR.out.html hle HO.out hK (by omega) hEk.out hn)
                      clear hn hn1 hn2
                      refine (At_n _ _ _ (k + 2) false _ (by omega) (by omega) hs (by show 2 ≤ 65536; omega) (.inl (by show 0 < 2; omega)) (by exact H1.out)).mono ?_
                      rintro e w' ⟨rfl, rfl⟩
                      go_wp2_with fail
                      refine (At_n _ _ _ (k + 2) true _ (by omega) (by omega) hs (by show 1 ≤ 65536; omega) (.inl (by show 0 < 1; omega)) (by exact H2.out)).mono ?_
                      rintro e w' ⟨rfl, rfl⟩
                      go_wp2_with fail
                      go_roundw
                      case rel => exact ⟨k + 3, k + 3, _, by go_num, by go_num, by omega, hst6, fun _ => ⟨⟨⟨hkn, Nat.le_refl _, rfl, rfl, fun _ => rfl⟩, by have h9 := hst9.out; rw [HL.out] at h9; exact h9⟩, Nat.le_refl _⟩, fun h => by omega⟩
                      case measure => simp [intOf]; omega
                  · have H1 := Lib.hid hn1
                    have hn : 4 = closeN (s.data.toList.drop k) := by rw [close_at _ HP.out, List.drop_drop, hn1]; rfl
                    have hkn : k + 4 ≤ s.size := by
                      have := (closeN_le (s.data.toList.drop k)).1
                      rw [← hn, List.length_drop, ← Lib.size_eq] at this
                      omega
                    have hst9 := Lib.hid (HR.out.html hle HO.out hK (by omega) hEk.out hn)
                    clear hn hn1
                    refine (At_n _ _ _ (k + 2) true _ (by omega) (by omega) hs (by show 2 ≤ 65536; omega) (.inl (by show 0 < 2; omega)) (by exact H1.out)).mono ?_
                    rintro e w' ⟨rfl, rfl⟩
                    go_wp2_with fail
                    go_roundw
                    case rel => exact ⟨k + 4, k + 4, _, by go_num, by go_num, by omega, hst6, fun _ => ⟨⟨⟨hkn, Nat.le_refl _, rfl, rfl, fun _ => rfl⟩, by have h9 := hst9.out; rw [HL.out] at h9; exact h9⟩, Nat.le_refl _⟩, fun h => by omega⟩
                    case measure => simp [intOf]; omega
              · have hEk : Hid (k = C + codeN (s.data.toList.drop C)) := by
                  have := hck.out.2
                  have h0 : codeN (s.data.toList.drop k) = 0 := by rw [drop_nil s k (by omega)]; rfl
                  show _ = _
                  omega
                have hkk : k = s.size := by omega
                have hfin := Lib.hid (HR.out.html hle HO.out hK (by omega) hEk.out (n := 0) (by rw [drop_nil s k (by omega)]; rfl))
                have HK := Lib.hid hkk
                clear hck hkk
                go_wp2_with (at_builtin; refine wpList_append_own _ rfl _ _ 22 rfl B 32 i0 _ 3 32 Tryd.underlying22 hi hz0 hz1 hz2 rfl (by decide) _ _ _ rfl (hstk.alloc _).own ⟨wr.heap.size, 0, none⟩ 1 1 [.int .i64 2, .string (s.extract C k), .int .i64 C] rfl rfl ?c1x10 ?c2x10 ?c3x10 ?c4x10 ?c5x10 ?_)
                case c1x10 => exact three_cells _ _ _ _ _ _ (by simp)
                case c2x10 => intro u hu; simp at hu; rcases hu with rfl | rfl | rfl <;> rfl
                case c3x10 => unfold maxLen; omega
                case c4x10 => omega
                case c5x10 => exact (hstk.alloc _).base
                intro v5 w5 hown5 hg5 _
                have hst6 : St B w w5 v5 (l ++ [⟨2, (s.data.toList.drop C).take (k - C), C⟩]) := (hstk.alloc _).grown (p := ⟨2, (s.data.toList.drop C).take (k - C), C⟩) (by rw [encPc_code]; exact hown5) hg5
                clear hown5 hg5
                go_wp2_with fail
                go_ret2
                refine ⟨v5, rfl, ?_⟩
                have h9 := hfin.out
                rw [Nat.add_zero, drop_nil s k (by omega), piecesN_nil, List.append_nil] at h9
                rw [HL.out] at h9
                rw [h9, ← HB.out]
                exact hst6
      · have hh := hasPrefix_length he
        rw [List.length_drop, ← Lib.size_eq] at hh
        simp only [List.length_cons, List.length_nil] at hh
        have HE := Lib.hid he
        clear he
        obtain ⟨C, hC⟩ : ∃ C, C = i + 3 := ⟨_, rfl⟩
        have hCs : C ≤ s.size := by omega
        have hCi : ((i : Int) + 3) = (C : Int) := by omega
        have hiC : i ≤ C := by omega
        have hd : s.data.toList.drop i ≠ [] := by
          intro h
          have := congrArg List.length h
          rw [List.length_drop, ← Lib.size_eq] at this
          simp only [List.length_nil] at this
          omega
        have HO : Hid (openN (s.data.toList.drop i) = ⟨3, 0, C - i⟩) := by
          show _ = _
          rw [hC, Nat.add_sub_cancel_left]
          cases hdd : s.data.toList.drop i with
          | nil => exact absurd hdd hd
          | cons b r => exact openN_echo b r (by rw [← hdd]; exact HE.out)
        have hK : (3 : Nat) ≠ 0 := by omega
        clear hC hd
        by_cases hfl : f < i
        · go_wp2_with fail
          refine (At_n _ _ _ (i) true _ (by omega) (by omega) hs (by show 3 ≤ 65536; omega) (.inl (by show 0 < 3; omega)) (by exact HE.out)).mono ?_
          rintro e w' ⟨rfl, rfl⟩
          go_wp2_with (at_builtin; refine wpList_append_own _ rfl _ _ 22 rfl B 32 i0 _ 3 32 Tryd.underlying22 hi hz0 hz1 hz2 rfl (by decide) _ _ _ rfl (hst.alloc _).own ⟨wr.heap.size, 0, none⟩ 1 1 [.int .i64 1, .string (s.extract f i), .int .i64 f] rfl rfl ?c1x1 ?c2x1 ?c3x1 ?c4x1 ?c5x1 ?_)
          case c1x1 => exact three_cells _ _ _ _ _ _ (by simp)
          case c2x1 => intro u hu; simp at hu; rcases hu with rfl | rfl | rfl <;> rfl
          case c3x1 => unfold maxLen; omega
          case c4x1 => omega
          case c5x1 => exact (hst.alloc _).base
          intro v1 w2 hown1 hg1 _
          have hst3' : St B w w2 v1 (l ++ [⟨1, (s.data.toList.drop f).take (i - f), f⟩]) := (hst.alloc _).grown (p := ⟨1, (s.data.toList.drop f).take (i - f), f⟩) (by rw [encPc_code]; exact hown1) hg1
          have hlen2 : (l ++ [(⟨1, (s.data.toList.drop f).take (i - f), f⟩ : Pc)]).length ≤ 65537 := by rw [List.length_append]; simp only [List.length_cons, List.length_nil]; omega
          obtain ⟨l1, hl1⟩ : ∃ l1, l1 = l ++ [(⟨1, (s.data.toList.drop f).take (i - f), f⟩ : Pc)] := ⟨_, rfl⟩
          rw [← hl1] at hst3' hlen2
          have HL : Hid (l ++ (if f < i then [(⟨1, (s.data.toList.drop f).take (i - f), f⟩ : Pc)] else []) = l1) := by show _ = _; rw [if_pos hfl]; exact hl1.symm
          have hst3 := hst3'

          clear hown1 hg1 hl1 hst3' hCi
          go_wp2_with fail
          go_loopw [10] (fun z W => ∃ k : Nat, z = .int .i64 k ∧ Hid (CodeAt s C k) ∧ C ≤ k ∧ St B w W v1 l1) (fun z _ => s.size - (intOf z).toNat)
          case atStart => exact ⟨C, rfl, ⟨hCs, rfl⟩, Nat.le_refl _, hst3⟩
          case round =>
            obtain ⟨k, rfl, hck, hCk, hstk⟩ := hrel
            have hks := hck.out.1
            have hx0 : (C : Int) ≤ (k : Int) := by omega
            have hx1 : (k : Int) ≤ (s.size : Int) := by omega
            by_cases hlt : k < s.size
            · cases hp : Lib.hasPrefix (s.data.toList.drop k) [63, 62]
              · have HP := Lib.hid hp
                have hne : s.data.toList.drop k ≠ [] := by rw [drop_at s k hlt]; simp
                have hsn := hid_step _ hne
                obtain ⟨h, hh⟩ : ∃ h, h = hidN (s.data.toList.drop k) := ⟨_, rfl⟩
                rw [← hh] at hsn
                have HH := Lib.hid hh
                rcases Nat.eq_zero_or_pos h with hh0 | hh0
                · rw [if_pos hh0] at hsn
                  have hnx := hck.out.next hlt hp hsn
                  have HX := Lib.hid hnx.1
                  obtain ⟨_, _, hk1⟩ := hnx
                  have heq : ((k : Int) + (h : Int) == (k : Int)) = true := by rw [beq_iff_eq]; omega
                  have hkh : Hid (((k + h : Nat) : Int) = (k : Int)) := by show _ = _; omega
                  clear hp hne hsn hh
                  go_wp2_with fail
                  refine (At_n _ _ _ (k) false _ (by omega) (by omega) hs (by show 2 ≤ 65536; omega) (.inl (by show 0 < 2; omega)) (by exact HP.out)).mono ?_
                  rintro e w' ⟨rfl, rfl⟩
                  go_wp2_with fail
                  refine (hidden_any s k _ hs hlt).mono ?_
                  rintro e w8 ⟨rfl, hb8⟩
                  have hst8 := hstk.step hb8
                  rw [← HH.out, hkh.out]
                  go_wp2_with fail
                  refine (At_n _ _ _ (k) false _ (by omega) (by omega) hs (by show 2 ≤ 65536; omega) (.inl (by show 0 < 2; omega)) (by exact HP.out)).mono ?_
                  rintro e w' ⟨rfl, rfl⟩
                  go_wp2_with fail
                  go_roundw
                  case rel => exact ⟨k + 1, by go_num, HX.out, by omega, hst8⟩
                  case measure => simp [intOf]; omega
                · rw [if_neg (by omega)] at hsn
                  have hnx := hck.out.next hlt hp hsn
                  have HX := Lib.hid hnx.1
                  obtain ⟨_, _, hk1⟩ := hnx
                  have heq : ((k : Int) + (h : Int) == (k : Int)) = false := by rw [beq_eq_false_iff_ne]; omega
                  clear hp hne hsn hh
                  go_wp2_with fail
                  refine (At_n _ _ _ (k) false _ (by omega) (by omega) hs (by show 2 ≤ 65536; omega) (.inl (by show 0 < 2; omega)) (by exact HP.out)).mono ?_
                  rintro e w' ⟨rfl, rfl⟩
                  go_wp2_with fail
                  refine (hidden_any s k _ hs hlt).mono ?_
                  rintro e w8 ⟨rfl, hb8⟩
                  have hst8 := hstk.step hb8
                  rw [← HH.out]
                  go_wp2_with fail
                  go_roundw
                  case rel => exact ⟨k + h, by go_num, HX.out, by omega, hst8⟩
                  case measure => simp [intOf]; omega
              · have HP := Lib.hid hp
                have hEk : Hid (k = C + codeN (s.data.toList.drop C)) := by
                  have := hck.out.2
                  have h0 : codeN (s.data.toList.drop k) = 0 := by rw [codeN_eq, if_pos (by rw [hp]; simp)]
                  show _ = _
                  omega
                clear hp hck
                go_wp2_with fail
                refine (At_n _ _ _ (k) true _ (by omega) (by omega) hs (by show 2 ≤ 65536; omega) (.inl (by show 0 < 2; omega)) (by exact HP.out)).mono ?_
                rintro e w' ⟨rfl, rfl⟩
                go_wp2_with (at_builtin; refine wpList_append_own _ rfl _ _ 22 rfl B 32 i0 _ 3 32 Tryd.underlying22 hi hz0 hz1 hz2 rfl (by decide) _ _ _ rfl (hstk.alloc _).own ⟨wr.heap.size, 0, none⟩ 1 1 [.int .i64 3, .string (s.extract C k), .int .i64 C] rfl rfl ?c1x2 ?c2x2 ?c3x2 ?c4x2 ?c5x2 ?_)
                case c1x2 => exact three_cells _ _ _ _ _ _ (by simp)
                case c2x2 => intro u hu; simp at hu; rcases hu with rfl | rfl | rfl <;> rfl
                case c3x2 => unfold maxLen; omega
                case c4x2 => omega
                case c5x2 => exact (hstk.alloc _).base
                intro v5 w5 hown5 hg5 _
                have hst6 : St B w w5 v5 (l1 ++ [⟨3, (s.data.toList.drop C).take (k - C), C⟩]) := (hstk.alloc _).grown (p := ⟨3, (s.data.toList.drop C).take (k - C), C⟩) (by rw [encPc_code]; exact hown5) hg5
                clear hown5 hg5
                go_wp2_with fail
                cases hn1 : Lib.hasPrefix (s.data.toList.drop (k + 2)) [13, 10]
                · have H1 := Lib.hid hn1
                  cases hn2 : Lib.hasPrefix (s.data.toList.drop (k + 2)) [10]
                  · have H2 := Lib.hid hn2
                    have hn : 2 = closeN (s.data.toList.drop k) := by rw [close_at _ HP.out, List.drop_drop, hn1, hn2]; rfl
                    have hkn : k + 2 ≤ s.size := by
                      have := (closeN_le (s.data.toList.drop k)).1
                      rw [← hn, List.length_drop, ← Lib.size_eq] at this
                      omega
                    have hst9 := Lib.hid (HR.out.html hle HO.out hK (by omega) hEk.out hn)
                    clear hn hn1 hn2
                    refine (At_n _ _ _ (k + 2) false _ (by omega) (by omega) hs (by show 2 ≤ 65536; omega) (.inl (by show 0 < 2; omega)) (by exact H1.out)).mono ?_
                    rintro e w' ⟨rfl, rfl⟩
                    go_wp2_with fail
                    refine (At_n _ _ _ (k + 2) false _ (by omega) (by omega) hs (by show 1 ≤ 65536; omega) (.inl (by show 0 < 1; omega)) (by exact H2.out)).mono ?_
                    rintro e w' ⟨rfl, rfl⟩
                    go_wp2_with fail
                    go_roundw
                    case rel => exact ⟨k + 2, k + 2, _, by go_num, by go_num, by omega, hst6, fun _ => ⟨⟨⟨hkn, Nat.le_refl _, rfl, rfl, fun _ => rfl⟩, by have h9 := hst9.out; rw [HL.out] at h9; exact h9⟩, Nat.le_refl _⟩, fun h => by omega⟩
                    case measure => simp [intOf]; omega
                  · have H2 := Lib.hid hn2
                    have hn : 3 = closeN (s.data.toList.drop k) := by rw [close_at _ HP.out, List.drop_drop, hn1, hn2]; rfl
                    have hkn : k + 3 ≤ s.size := by
                      have := (closeN_le (s.data.toList.drop k)).1
                      rw [← hn, List.length_drop, ← Lib.size_eq] at this
                      omega
                    have hst9 := Lib.hid (HR.out.html hle HO.out hK (by omega) hEk.out hn)
                    clear hn hn1 hn2
                    refine (At_n _ _ _ (k + 2) false _ (by omega) (by omega) hs (by show 2 ≤ 65536; omega) (.inl (by show 0 < 2; omega)) (by exact H1.out)).mono ?_
                    rintro e w' ⟨rfl, rfl⟩
                    go_wp2_with fail
                    refine (At_n _ _ _ (k + 2) true _ (by omega) (by omega) hs (by show 1 ≤ 65536; omega) (.inl (by show 0 < 1; omega)) (by exact H2.out)).mono ?_
                    rintro e w' ⟨rfl, rfl⟩
                    go_wp2_with fail
                    go_roundw
                    case rel => exact ⟨k + 3, k + 3, _, by go_num, by go_num, by omega, hst6, fun _ => ⟨⟨⟨hkn, Nat.le_refl _, rfl, rfl, fun _ => rfl⟩, by have h9 := hst9.out; rw [HL.out] at h9; exact h9⟩, Nat.le_refl _⟩, fun h => by omega⟩
                    case measure => simp [intOf]; omega
                · have H1 := Lib.hid hn1
                  have hn : 4 = closeN (s.data.toList.drop k) := by rw [close_at _ HP.out, List.drop_drop, hn1]; rfl
                  have hkn : k + 4 ≤ s.size := by
                    have := (closeN_le (s.data.toList.drop k)).1
                    rw [← hn, List.length_drop, ← Lib.size_eq] at this
                    omega
                  have hst9 := Lib.hid (HR.out.html hle HO.out hK (by omega) hEk.out hn)
                  clear hn hn1
                  refine (At_n _ _ _ (k + 2) true _ (by omega) (by omega) hs (by show 2 ≤ 65536; omega) (.inl (by show 0 < 2; omega)) (by exact H1.out)).mono ?_
                  rintro e w' ⟨rfl, rfl⟩
                  go_wp2_with fail
                  go_roundw
                  case rel => exact ⟨k + 4, k + 4, _, by go_num, by go_num, by omega, hst6, fun _ => ⟨⟨⟨hkn, Nat.le_refl _, rfl, rfl, fun _ => rfl⟩, by have h9 := hst9.out; rw [HL.out] at h9; exact h9⟩, Nat.le_refl _⟩, fun h => by omega⟩
                  case measure => simp [intOf]; omega
            · have hEk : Hid (k = C + codeN (s.data.toList.drop C)) := by
                have := hck.out.2
                have h0 : codeN (s.data.toList.drop k) = 0 := by rw [drop_nil s k (by omega)]; rfl
                show _ = _
                omega
              have hkk : k = s.size := by omega
              have hfin := Lib.hid (HR.out.html hle HO.out hK (by omega) hEk.out (n := 0) (by rw [drop_nil s k (by omega)]; rfl))
              have HK := Lib.hid hkk
              clear hck hkk
              go_wp2_with (at_builtin; refine wpList_append_own _ rfl _ _ 22 rfl B 32 i0 _ 3 32 Tryd.underlying22 hi hz0 hz1 hz2 rfl (by decide) _ _ _ rfl (hstk.alloc _).own ⟨wr.heap.size, 0, none⟩ 1 1 [.int .i64 3, .string (s.extract C k), .int .i64 C] rfl rfl ?c1x3 ?c2x3 ?c3x3 ?c4x3 ?c5x3 ?_)
              case c1x3 => exact three_cells _ _ _ _ _ _ (by simp)
              case c2x3 => intro u hu; simp at hu; rcases hu with rfl | rfl | rfl <;> rfl
              case c3x3 => unfold maxLen; omega
              case c4x3 => omega
              case c5x3 => exact (hstk.alloc _).base
              intro v5 w5 hown5 hg5 _
              have hst6 : St B w w5 v5 (l1 ++ [⟨3, (s.data.toList.drop C).take (k - C), C⟩]) := (hstk.alloc _).grown (p := ⟨3, (s.data.toList.drop C).take (k - C), C⟩) (by rw [encPc_code]; exact hown5) hg5
              clear hown5 hg5
              go_wp2_with fail
              go_ret2
              refine ⟨v5, rfl, ?_⟩
              have h9 := hfin.out
              rw [Nat.add_zero, drop_nil s k (by omega), piecesN_nil, List.append_nil] at h9
              rw [HL.out] at h9
              rw [h9, ← HB.out]
              exact hst6
        · go_wp2_with fail
          refine (At_n _ _ _ (i) true _ (by omega) (by omega) hs (by show 3 ≤ 65536; omega) (.inl (by show 0 < 3; omega)) (by exact HE.out)).mono ?_
          rintro e w' ⟨rfl, rfl⟩
          have hst3 := hst
          have HL : Hid (l ++ (if f < i then [(⟨1, (s.data.toList.drop f).take (i - f), f⟩ : Pc)] else []) = l) := by show _ = _; rw [if_neg hfl, List.append_nil]
          have hlen2 : l.length ≤ 65537 := by omega
          go_wp2_with fail

          clear hCi
          go_wp2_with fail
          go_loopw [10] (fun z W => ∃ k : Nat, z = .int .i64 k ∧ Hid (CodeAt s C k) ∧ C ≤ k ∧ St B w W u4 l) (fun z _ => s.size - (intOf z).toNat)
          case atStart => exact ⟨C, rfl, ⟨hCs, rfl⟩, Nat.le_refl _, hst3⟩
          case round =>
            obtain ⟨k, rfl, hck, hCk, hstk⟩ := hrel
            have hks := hck.out.1
            have hx0 : (C : Int) ≤ (k : Int) := by omega
            have hx1 : (k : Int) ≤ (s.size : Int) := by omega
            by_cases hlt : k < s.size
            · cases hp : Lib.hasPrefix (s.data.toList.drop k) [63, 62]
              · have HP := Lib.hid hp
                have hne : s.data.toList.drop k ≠ [] := by rw [drop_at s k hlt]; simp
                have hsn := hid_step _ hne
                obtain ⟨h, hh⟩ : ∃ h, h = hidN (s.data.toList.drop k) := ⟨_, rfl⟩
                rw [← hh] at hsn
                have HH := Lib.hid hh
                rcases Nat.eq_zero_or_pos h with hh0 | hh0
                · rw [if_pos hh0] at hsn
                  have hnx := hck.out.next hlt hp hsn
                  have HX := Lib.hid hnx.1
                  obtain ⟨_, _, hk1⟩ := hnx
                  have heq : ((k : Int) + (h : Int) == (k : Int)) = true := by rw [beq_iff_eq]; omega
                  have hkh : Hid (((k + h : Nat) : Int) = (k : Int)) := by show _ = _; omega
                  clear hp hne hsn hh
                  go_wp2_with fail
                  refine (At_n _ _ _ (k) false _ (by omega) (by omega) hs (by show 2 ≤ 65536; omega) (.inl (by show 0 < 2; omega)) (by exact HP.out)).mono ?_
                  rintro e w' ⟨rfl, rfl⟩
                  go_wp2_with fail
                  refine (hidden_any s k _ hs hlt).mono ?_
                  rintro e w8 ⟨rfl, hb8⟩
                  have hst8 := hstk.step hb8
                  rw [← HH.out, hkh.out]
                  go_wp2_with fail
                  refine (At_n _ _ _ (k) false _ (by omega) (by omega) hs (by show 2 ≤ 65536; omega) (.inl (by show 0 < 2; omega)) (by exact HP.out)).mono ?_
                  rintro e w' ⟨rfl, rfl⟩
                  go_wp2_with fail
                  go_roundw
                  case rel => exact ⟨k + 1, by go_num, HX.out, by omega, hst8⟩
                  case measure => simp [intOf]; omega
                · rw [if_neg (by omega)] at hsn
                  have hnx := hck.out.next hlt hp hsn
                  have HX := Lib.hid hnx.1
                  obtain ⟨_, _, hk1⟩ := hnx
                  have heq : ((k : Int) + (h : Int) == (k : Int)) = false := by rw [beq_eq_false_iff_ne]; omega
                  clear hp hne hsn hh
                  go_wp2_with fail
                  refine (At_n _ _ _ (k) false _ (by omega) (by omega) hs (by show 2 ≤ 65536; omega) (.inl (by show 0 < 2; omega)) (by exact HP.out)).mono ?_
                  rintro e w' ⟨rfl, rfl⟩
                  go_wp2_with fail
                  refine (hidden_any s k _ hs hlt).mono ?_
                  rintro e w8 ⟨rfl, hb8⟩
                  have hst8 := hstk.step hb8
                  rw [← HH.out]
                  go_wp2_with fail
                  go_roundw
                  case rel => exact ⟨k + h, by go_num, HX.out, by omega, hst8⟩
                  case measure => simp [intOf]; omega
              · have HP := Lib.hid hp
                have hEk : Hid (k = C + codeN (s.data.toList.drop C)) := by
                  have := hck.out.2
                  have h0 : codeN (s.data.toList.drop k) = 0 := by rw [codeN_eq, if_pos (by rw [hp]; simp)]
                  show _ = _
                  omega
                clear hp hck
                go_wp2_with fail
                refine (At_n _ _ _ (k) true _ (by omega) (by omega) hs (by show 2 ≤ 65536; omega) (.inl (by show 0 < 2; omega)) (by exact HP.out)).mono ?_
                rintro e w' ⟨rfl, rfl⟩
                go_wp2_with (at_builtin; refine wpList_append_own _ rfl _ _ 22 rfl B 32 i0 _ 3 32 Tryd.underlying22 hi hz0 hz1 hz2 rfl (by decide) _ _ _ rfl (hstk.alloc _).own ⟨wr.heap.size, 0, none⟩ 1 1 [.int .i64 3, .string (s.extract C k), .int .i64 C] rfl rfl ?c1x4 ?c2x4 ?c3x4 ?c4x4 ?c5x4 ?_)
                case c1x4 => exact three_cells _ _ _ _ _ _ (by simp)
                case c2x4 => intro u hu; simp at hu; rcases hu with rfl | rfl | rfl <;> rfl
                case c3x4 => unfold maxLen; omega
                case c4x4 => omega
                case c5x4 => exact (hstk.alloc _).base
                intro v5 w5 hown5 hg5 _
                have hst6 : St B w w5 v5 (l ++ [⟨3, (s.data.toList.drop C).take (k - C), C⟩]) := (hstk.alloc _).grown (p := ⟨3, (s.data.toList.drop C).take (k - C), C⟩) (by rw [encPc_code]; exact hown5) hg5
                clear hown5 hg5
                go_wp2_with fail
                cases hn1 : Lib.hasPrefix (s.data.toList.drop (k + 2)) [13, 10]
                · have H1 := Lib.hid hn1
                  cases hn2 : Lib.hasPrefix (s.data.toList.drop (k + 2)) [10]
                  · have H2 := Lib.hid hn2
                    have hn : 2 = closeN (s.data.toList.drop k) := by rw [close_at _ HP.out, List.drop_drop, hn1, hn2]; rfl
                    have hkn : k + 2 ≤ s.size := by
                      have := (closeN_le (s.data.toList.drop k)).1
                      rw [← hn, List.length_drop, ← Lib.size_eq] at this
                      omega
                    have hst9 := Lib.hid (HR.out.html hle HO.out hK (by omega) hEk.out hn)
                    clear hn hn1 hn2
                    refine (At_n _ _ _ (k + 2) false _ (by omega) (by omega) hs (by show 2 ≤ 65536; omega) (.inl (by show 0 < 2; omega)) (by exact H1.out)).mono ?_
                    rintro e w' ⟨rfl, rfl⟩
                    go_wp2_with fail
                    refine (At_n _ _ _ (k + 2) false _ (by omega) (by omega) hs (by show 1 ≤ 65536; omega) (.inl (by show 0 < 1; omega)) (by exact H2.out)).mono ?_
                    rintro e w' ⟨rfl, rfl⟩
                    go_wp2_with fail
                    go_roundw
                    case rel => exact ⟨k + 2, k + 2, _, by go_num, by go_num, by omega, hst6, fun _ => ⟨⟨⟨hkn, Nat.le_refl _, rfl, rfl, fun _ => rfl⟩, by have h9 := hst9.out; rw [HL.out] at h9; exact h9⟩, Nat.le_refl _⟩, fun h => by omega⟩
                    case measure => simp [intOf]; omega
                  · have H2 := Lib.hid hn2
                    have hn : 3 = closeN (s.data.toList.drop k) := by rw [close_at _ HP.out, List.drop_drop, hn1, hn2]; rfl
                    have hkn : k + 3 ≤ s.size := by
                      have := (closeN_le (s.data.toList.drop k)).1
                      rw [← hn, List.length_drop, ← Lib.size_eq] at this
                      omega
                    have hst9 := Lib.hid (HR.out.html hle HO.out hK (by omega) hEk.out hn)
                    clear hn hn1 hn2
                    refine (At_n _ _ _ (k + 2) false _ (by omega) (by omega) hs (by show 2 ≤ 65536; omega) (.inl (by show 0 < 2; omega)) (by exact H1.out)).mono ?_
                    rintro e w' ⟨rfl, rfl⟩
                    go_wp2_with fail
                    refine (At_n _ _ _ (k + 2) true _ (by omega) (by omega) hs (by show 1 ≤ 65536; omega) (.inl (by show 0 < 1; omega)) (by exact H2.out)).mono ?_
                    rintro e w' ⟨rfl, rfl⟩
                    go_wp2_with fail
                    go_roundw
                    case rel => exact ⟨k + 3, k + 3, _, by go_num, by go_num, by omega, hst6, fun _ => ⟨⟨⟨hkn, Nat.le_refl _, rfl, rfl, fun _ => rfl⟩, by have h9 := hst9.out; rw [HL.out] at h9; exact h9⟩, Nat.le_refl _⟩, fun h => by omega⟩
                    case measure => simp [intOf]; omega
                · have H1 := Lib.hid hn1
                  have hn : 4 = closeN (s.data.toList.drop k) := by rw [close_at _ HP.out, List.drop_drop, hn1]; rfl
                  have hkn : k + 4 ≤ s.size := by
                    have := (closeN_le (s.data.toList.drop k)).1
                    rw [← hn, List.length_drop, ← Lib.size_eq] at this
                    omega
                  have hst9 := Lib.hid (HR.out.html hle HO.out hK (by omega) hEk.out hn)
                  clear hn hn1
                  refine (At_n _ _ _ (k + 2) true _ (by omega) (by omega) hs (by show 2 ≤ 65536; omega) (.inl (by show 0 < 2; omega)) (by exact H1.out)).mono ?_
                  rintro e w' ⟨rfl, rfl⟩
                  go_wp2_with fail
                  go_roundw
                  case rel => exact ⟨k + 4, k + 4, _, by go_num, by go_num, by omega, hst6, fun _ => ⟨⟨⟨hkn, Nat.le_refl _, rfl, rfl, fun _ => rfl⟩, by have h9 := hst9.out; rw [HL.out] at h9; exact h9⟩, Nat.le_refl _⟩, fun h => by omega⟩
                  case measure => simp [intOf]; omega
            · have hEk : Hid (k = C + codeN (s.data.toList.drop C)) := by
                have := hck.out.2
                have h0 : codeN (s.data.toList.drop k) = 0 := by rw [drop_nil s k (by omega)]; rfl
                show _ = _
                omega
              have hkk : k = s.size := by omega
              have hfin := Lib.hid (HR.out.html hle HO.out hK (by omega) hEk.out (n := 0) (by rw [drop_nil s k (by omega)]; rfl))
              have HK := Lib.hid hkk
              clear hck hkk
              go_wp2_with (at_builtin; refine wpList_append_own _ rfl _ _ 22 rfl B 32 i0 _ 3 32 Tryd.underlying22 hi hz0 hz1 hz2 rfl (by decide) _ _ _ rfl (hstk.alloc _).own ⟨wr.heap.size, 0, none⟩ 1 1 [.int .i64 3, .string (s.extract C k), .int .i64 C] rfl rfl ?c1x5 ?c2x5 ?c3x5 ?c4x5 ?c5x5 ?_)
              case c1x5 => exact three_cells _ _ _ _ _ _ (by simp)
              case c2x5 => intro u hu; simp at hu; rcases hu with rfl | rfl | rfl <;> rfl
              case c3x5 => unfold maxLen; omega
              case c4x5 => omega
              case c5x5 => exact (hstk.alloc _).base
              intro v5 w5 hown5 hg5 _
              have hst6 : St B w w5 v5 (l ++ [⟨3, (s.data.toList.drop C).take (k - C), C⟩]) := (hstk.alloc _).grown (p := ⟨3, (s.data.toList.drop C).take (k - C), C⟩) (by rw [encPc_code]; exact hown5) hg5
              clear hown5 hg5
              go_wp2_with fail
              go_ret2
              refine ⟨v5, rfl, ?_⟩
              have h9 := hfin.out
              rw [Nat.add_zero, drop_nil s k (by omega), piecesN_nil, List.append_nil] at h9
              rw [HL.out] at h9
              rw [h9, ← HB.out]
              exact hst6
    · have hend : Hid (pieces s.data.toList = l) := hrel.out.2 (by omega)
      go_wp2_with fail
      go_ret2
      refine ⟨_, rfl, ?_⟩
      rw [hend.out, ← HB.out]
      exact hst
end Go.Proofs.YtbeglmolgloepaaDoor
