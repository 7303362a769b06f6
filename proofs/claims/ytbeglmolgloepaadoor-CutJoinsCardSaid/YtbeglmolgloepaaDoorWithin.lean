/-
  The walk of the law CutWithin.
-/
import Derived.Test.YtbeglmolgloepaaDoorAlive
import Derived.BigQuiet
import Derived.Deep.QuietTactic
import Derived.IntWalk
namespace Go.Proofs.YtbeglmolgloepaaDoor
open Go Go.RowKit Cutting

/-- Each piece stands where it is told to, behind the one ahead; no two texts outside of code are neighbours. -/
def Within (s : List UInt8) : Nat → Bool → List Pc → Prop
  | _, _, [] => True
  | a, h, p :: l => a ≤ p.at_ ∧ p.at_ + p.text.length ≤ s.length ∧ (s.drop p.at_).take p.text.length = p.text ∧ ¬ (p.kind = 1 ∧ (h = true ∨ p.text = [])) ∧ Within s (p.at_ + p.text.length) (p.kind == 1) l
theorem openN_kind (r : List UInt8) : (openN r).kind = 0 ∨ (openN r).kind = 2 ∨ (openN r).kind = 3 := by
  induction r with
  | nil => exact .inl rfl
  | cons b r ih =>
    simp only [openN]
    split
    · exact .inr (.inr rfl)
    · split
      · exact .inr (.inl rfl)
      · split
        · exact .inl rfl
        · exact ih
theorem within_pieces (s : List UInt8) : ∀ (n k a : Nat), s.length - k ≤ n → a ≤ k → Within s a false (piecesN k (s.drop k)) := by
  intro n
  induction n with
  | zero =>
    intro k a hk ha
    rw [List.drop_eq_nil_of_le (by omega)]
    trivial
  | succ n ih =>
    intro k a hk ha
    by_cases hr : s.drop k = []
    · rw [hr]; trivial
    · have hlk : k < s.length := by
        rcases Nat.lt_or_ge k s.length with h | h
        · exact h
        · exact absurd (List.drop_eq_nil_of_le h) hr
      rw [piecesN_eq _ _ hr]
      have hle := openN_le (s.drop k)
      rw [List.length_drop] at hle
      -- the code and what comes behind it
      have hcode : ∀ (b : Nat) (h : Bool), b ≤ k + (openN (s.drop k)).mark → Within s b h (if (openN (s.drop k)).kind = 0 then [] else codePc k (s.drop k) :: piecesN (k + nextN (s.drop k)) ((s.drop k).drop (nextN (s.drop k)))) := by
        intro b h hb
        split
        · trivial
        · next hK =>
          have h1 := hle.2.2 hK
          have h2 := codeN_le ((s.drop k).drop (openN (s.drop k)).code)
          have h3 := nextN_le (s.drop k) hK
          rw [List.length_drop, List.length_drop] at h2
          rw [List.length_drop] at h3
          have hlen : (codePc k (s.drop k)).text.length = codeN ((s.drop k).drop (openN (s.drop k)).code) := by
            simp only [codePc, List.length_take, List.length_drop]; omega
          refine ⟨?_, ?_, ?_, ?_, ?_⟩
          · simp only [codePc]; omega
          · rw [hlen]; simp only [codePc]; omega
          · rw [hlen]; simp only [codePc, List.drop_drop]
          · rintro ⟨hk1, _⟩
            have := openN_kind (s.drop k)
            simp only [codePc] at hk1
            omega
          · have hk1 : ((codePc k (s.drop k)).kind == 1) = false := by
              rw [beq_eq_false_iff_ne]
              have := openN_kind (s.drop k)
              simp only [codePc]
              omega
            have e4 : (s.drop k).drop (nextN (s.drop k)) = s.drop (k + nextN (s.drop k)) := List.drop_drop
            rw [hk1, hlen, e4]
            refine ih (k + nextN (s.drop k)) _ (by omega) ?_
            simp only [codePc]
            unfold nextN
            omega
      by_cases hm : 0 < (openN (s.drop k)).mark
      · rw [htmlN, if_pos hm]
        have hlen : ((s.drop k).take (openN (s.drop k)).mark).length = (openN (s.drop k)).mark := by rw [List.length_take, List.length_drop]; omega
        refine ⟨ha, ?_, ?_, ?_, ?_⟩
        · simp only [hlen]; omega
        · simp only [hlen]
        · rintro ⟨_, h | h⟩
          · cases h
          · have := congrArg List.length h
            simp only [hlen, List.length_nil] at this
            omega
        · exact hcode _ _ (by simp only [hlen]; omega)
      · rw [htmlN, if_neg hm, List.nil_append]
        exact hcode _ _ (by omega)
theorem within_all (s : List UInt8) : Within s 0 false (pieces s) := by
  have := within_pieces s s.length 0 0 (by omega) (Nat.le_refl _)
  rw [List.drop_zero] at this
  exact this
theorem Within.at_ {s : List UInt8} {a : Nat} {h : Bool} {l : List Pc} {i : Nat} (hi : i < l.length) (hw : Within s a h (l.drop i)) :
    a ≤ l[i].at_ ∧ l[i].at_ + l[i].text.length ≤ s.length ∧ (s.drop l[i].at_).take l[i].text.length = l[i].text ∧ ¬ (l[i].kind = 1 ∧ (h = true ∨ l[i].text = [])) ∧ Within s (l[i].at_ + l[i].text.length) (l[i].kind == 1) (l.drop (i + 1)) := by
  rw [List.drop_eq_getElem_cons hi] at hw
  exact hw

set_option maxHeartbeats 4000000 in
theorem CutWithin_any (s : ByteArray) (w : World) (hs : s.size ≤ 140737488351232) (hm : HasMax w) (hF : FoldTab w) :
    Calls Tryd.prog 5 #[.string s] w fun e w' => e = .returned (.bool true) ∧ Below w.heap.size w w' := by
  by_cases hbig : 65536 < s.size
  · go_enter Tryd.func5, Tryd.ntmps5
    go_wp2_with fail
    refine (Cut_long s _ hbig).mono ?_
    rintro e w' ⟨rfl, rfl⟩
    go_wp2_with fail
    refine (alive_any _ hm hF).mono ?_
    rintro e w1 ⟨rfl, hb1⟩
    go_wp2_with fail
    go_ret
    exact ⟨rfl, hb1⟩
  · have hin := within_all s.data.toList
    obtain ⟨l, hl⟩ : ∃ l, l = pieces s.data.toList := ⟨_, rfl⟩
    rw [← hl] at hin
    have hll : l.length ≤ s.size := by
      have h1 := piecesN_length _ 0 s.data.toList (Nat.le_refl _)
      rw [← pieces_eq, ← hl, ← Lib.size_eq] at h1
      exact h1
    have HL := Lib.hid hl
    have HI := Lib.hid hin
    clear hl hin
    go_enter Tryd.func5, Tryd.ntmps5
    go_wp2_with fail
    refine (Cut_any s _ (by omega) hm hF).mono ?_
    rintro e w1 ⟨v, rfl, hst⟩
    rw [← HL.out] at hst
    have hB1 := hF.lt
    obtain ⟨B, hB⟩ : ∃ B, B = w.heap.size := ⟨_, rfl⟩
    have HB := Lib.hid hB
    rw [← hB] at hst hB1
    clear hB
    have hform : ∃ A cap, v = .slice A l.length cap := by
      rcases hst.own.2 with ⟨rfl, h0⟩ | ⟨g, cap, cur, rfl, _⟩
      · exact ⟨none, 0, by rw [h0]⟩
      · exact ⟨_, cap, rfl⟩
    obtain ⟨A, cap, hv⟩ := hform
    rw [hv]
    have HV := Lib.hid hv
    clear hv
    go_wp2_with fail
    go_loopw [24, 5, 6] (fun i a h wr => ∃ (k m : Nat) (b : Bool), i = .int .i64 k ∧ a = .int .i64 m ∧ h = .bool b ∧ k ≤ l.length ∧ Hid (m ≤ s.size ∧ Within s.data.toList m b (l.drop k)) ∧ St B w wr v l) (fun i _ _ _ => l.length - (intOf i).toNat)
    case atStart => exact ⟨0, 0, false, rfl, rfl, rfl, Nat.zero_le _, ⟨Nat.zero_le _, HI.out⟩, hst⟩
    case round =>
      obtain ⟨k, m, b, rfl, rfl, rfl, hk, hrel, hstr⟩ := hrel
      by_cases hlt : k < l.length
      · obtain ⟨g, cap2, hv2, hcap⟩ := hstr.form (by omega)
        have hc := hstr.cells hv2 k hlt
        obtain ⟨w1', w2', w3', w4', w5'⟩ := hrel.out.2.at_ hlt
        obtain ⟨K, hK⟩ : ∃ K, K = l[k].kind := ⟨_, rfl⟩
        obtain ⟨X, hX⟩ : ∃ X, X = l[k].at_ := ⟨_, rfl⟩
        obtain ⟨T, hT⟩ := bytes_of l[k].text
        have hTl : T.size = l[k].text.length := by rw [Lib.size_eq, hT]
        have hTe : (⟨l[k].text.toArray⟩ : ByteArray) = T := by rw [← hT, Lib.mk_data]
        rw [hTe, ← hK, ← hX] at hc
        rw [← Lib.size_eq, ← hTl, ← hX] at w2'
        rw [← hX] at w1'
        rw [← hX, ← hTl] at w3'
        have hTx : s.extract X (X + T.size) = T := by
          rw [Lib.extract_eq, Nat.add_sub_cancel_left, w3', hTe]
        rw [← hTl, ← hK, ← hX] at w5'
        rw [← hK] at w4'
        have hA : A = some ⟨g, 0, none⟩ ∧ cap = cap2 := by
          have := HV.out.symm.trans hv2
          injection this with h1 h2 h3
          exact ⟨h1, h3⟩
        obtain ⟨rfl, rfl⟩ := hA
        obtain ⟨c0, c1, c2⟩ := hc
        have HW := Lib.hid w5'
        have hK1 : Hid (K = 1 → b = false ∧ T.toList.isEmpty = false) := by
          intro hk1
          refine ⟨?_, ?_⟩
          · cases b with
            | false => rfl
            | true => exact absurd ⟨hk1, .inl rfl⟩ w4'
          · rw [Lib.toList_data, hT]
            cases e : l[k].text with
            | nil => exact absurd ⟨hk1, .inr e⟩ w4'
            | cons => rfl
        have hst2 : ∀ W, Below wr.heap.size wr W → St B w W v l := fun W hW => hstr.step hW
        have HS2 := Lib.hid hst2
        have HSz : Hid (X + T.size ≤ s.size) := w2'
        clear hK hX hT hTl hTe w4' w5' w3' hv2 hst2 hstr hcap
        by_cases hk1 : K = 1
        · obtain ⟨rfl, he⟩ := hK1.out hk1
          subst hk1
          have hd1 : decide ((X : Int) < (m : Int)) = false := by simpa using (by omega : (m : Int) ≤ (X : Int))
          have hd2 : decide ((s.size : Int) < (X : Int) + (T.size : Int)) = false := by simpa using (by omega : (X : Int) + (T.size : Int) ≤ (s.size : Int))
          have hx0 : (0 : Int) ≤ (X : Int) := Int.natCast_nonneg _
          have hx1 : (X : Int) ≤ (X : Int) + (T.size : Int) := by omega
          have hx2 : (X : Int) + (T.size : Int) ≤ (s.size : Int) := by omega
          have hsum : IntKind.i64.wrap ((X : Int) + (T.size : Int)) = (X : Int) + (T.size : Int) := IntWalk.i64_in _ (by omega)
          have hnat : ((X : Int) + (T.size : Int)).toNat = X + T.size := by omega
          go_wp2_with fail
          go_quiet (fail)
          clear hsum hnat hd1 hd2 hTx
          go_wp2_with fail
          go_roundw
          case rel => exact ⟨k + 1, X + T.size, true, by go_num, by go_num, rfl, by omega, ⟨HSz.out, by exact HW.out⟩, HS2.out _ (below_drewN ((Below.refl _ _).alloc (Nat.le_refl _) _) _)⟩
          case measure => simp [intOf]; omega
        · have hb1 : ((K : Int) == 1) = false := by rw [beq_eq_false_iff_ne]; omega
          have hd1 : decide ((X : Int) < (m : Int)) = false := by simpa using (by omega : (m : Int) ≤ (X : Int))
          have hd2 : decide ((s.size : Int) < (X : Int) + (T.size : Int)) = false := by simpa using (by omega : (X : Int) + (T.size : Int) ≤ (s.size : Int))
          have hx0 : (0 : Int) ≤ (X : Int) := Int.natCast_nonneg _
          have hx1 : (X : Int) ≤ (X : Int) + (T.size : Int) := by omega
          have hx2 : (X : Int) + (T.size : Int) ≤ (s.size : Int) := by omega
          have hsum : IntKind.i64.wrap ((X : Int) + (T.size : Int)) = (X : Int) + (T.size : Int) := IntWalk.i64_in _ (by omega)
          have hnat : ((X : Int) + (T.size : Int)).toNat = X + T.size := by omega
          go_wp2_with fail
          go_quiet (fail)
          clear hsum hnat hd1 hd2 hTx
          go_wp2_with fail
          go_roundw
          case rel => exact ⟨k + 1, X + T.size, false, by go_num, by go_num, rfl, by omega, ⟨HSz.out, by have h := HW.out; rw [beq_eq_false_iff_ne.2 hk1] at h; exact h⟩, HS2.out _ (below_drewN ((Below.refl _ _).alloc (Nat.le_refl _) _) _)⟩
          case measure => simp [intOf]; omega
      · go_wp2_with fail
        refine (alive_any _ (hm.below hstr.below (by omega)) (hF.below hstr.below hB1)).mono ?_
        rintro e w2 ⟨rfl, hb2⟩
        have hb3 := hstr.below.trans (hb2.mono hstr.base)
        go_wp2_with fail
        go_ret
        exact ⟨rfl, by rw [← HB.out]; exact hb3⟩
end Go.Proofs.YtbeglmolgloepaaDoor
