/-
  The walk of the law CutPlain.
-/
import Derived.Test.YtbeglmolgloepaaDoorAlive
namespace Go.Proofs.YtbeglmolgloepaaDoor
open Go Go.RowKit Cutting

def noTag : List UInt8 → Bool
  | [] => true
  | b :: r => !(b == 60 && r.head? == some 63) && noTag r
theorem noTag_open : ∀ r : List UInt8, noTag r = true → openN r = ⟨0, r.length, 0⟩ := by
  intro r
  induction r with
  | nil => intro _; rfl
  | cons b r ih =>
    intro h
    simp only [noTag, Bool.and_eq_true, Bool.not_eq_true'] at h
    have h1 : Lib.hasPrefix (b :: r) [60, 63, 61] = false := by
      rw [← Bool.not_eq_true]
      intro hp
      obtain ⟨t, ht⟩ := List.isPrefixOf_iff_prefix.1 hp
      simp at ht
      rw [← ht.1, ← ht.2] at h
      simp at h
    have h2 : isPhp (b :: r) = false := by
      rw [← Bool.not_eq_true]
      intro hp
      have h5 := isPhp_len _ hp
      match r, h5 with
      | c :: r', _ =>
        simp only [isPhp, beq_iff_eq, List.take_succ_cons, List.map_cons, List.cons.injEq] at hp
        have low : ∀ x y : UInt8, (y = 60 ∨ y = 63 ∨ y = 104 ∨ y = 112) → lowB x = y → (y = 60 ∨ y = 63) → x = y := by
          intro x y hy hx hz
          have hf := foldEq_low x y hy
          rw [hx, beq_self_eq_true] at hf
          simp only [Lib.foldEq, decide_eq_true_eq] at hf
          apply UInt8.toNat_inj.1
          rcases hz with rfl | rfl <;> simp at hf ⊢ <;> omega
        have e1 := low b 60 (.inl rfl) hp.1 (.inl rfl)
        have e2 := low c 63 (.inr (.inl rfl)) hp.2.1 (.inr rfl)
        rw [e1, e2] at h
        simp at h
    have h3 : phpN (b :: r) = 0 := by simp [phpN, h2]
    have hn := ih h.2
    simp only [openN]
    rw [if_neg (by rw [h1]; simp), if_neg (by omega), if_pos (by rw [hn]), hn]
    rfl
theorem noTag_pieces (r : List UInt8) (h : noTag r = true) (hr : r ≠ []) : pieces r = [⟨1, r, 0⟩] := by
  rw [pieces_eq, piecesN_eq _ _ hr, noTag_open r h]
  simp only [htmlN, noTag_open r h, if_true, List.append_nil]
  rw [if_pos (List.length_pos_iff.2 hr), List.take_length]

/-- The first k places hold no tag. -/
def Clear (s : ByteArray) (k : Nat) : Prop := noTag s.data.toList = noTag (s.data.toList.drop k)
theorem Clear.next {s : ByteArray} {k : Nat} (h : Clear s k) (hk : k + 1 < s.size) (hn : ¬ (s[k] = 60 ∧ s[k + 1] = 63)) : Clear s (k + 1) := by
  unfold Clear at h ⊢
  rw [h, drop_at s k (by omega), noTag, drop_at s (k + 1) hk]
  have : (!(s[k] == 60 && (s[k + 1] :: s.data.toList.drop (k + 1 + 1)).head? == some 63)) = true := by
    simp only [List.head?_cons, Bool.not_eq_true', Bool.and_eq_false_iff, beq_eq_false_iff_ne]
    by_cases h1 : s[k] = 60
    · right; intro h2; exact hn ⟨h1, by simpa using h2⟩
    · left; exact h1
  rw [this, Bool.true_and]
theorem Clear.last {s : ByteArray} {k : Nat} (h : Clear s k) (hk : s.size ≤ k + 1) : noTag s.data.toList = true := by
  unfold Clear at h
  rw [h]
  by_cases hk2 : k < s.size
  · rw [drop_at s k hk2, drop_nil s (k + 1) hk]; simp [noTag]
  · rw [drop_nil s k (by omega)]; rfl

set_option maxHeartbeats 4000000 in
theorem CutPlain_any (s : ByteArray) (w : World) (hs : s.size ≤ 140737488351232) (hm : HasMax w) (hF : FoldTab w) :
    Calls Tryd.prog 6 #[.string s] w fun e w' => e = .returned (.bool true) ∧ Below w.heap.size w w' := by
  go_enter Tryd.func6, Tryd.ntmps6
  go_wp2_with fail
  go_loop [3] (fun i => ∃ k : Nat, i = .int .i64 k ∧ k ≤ s.size ∧ Hid (Clear s k)) (fun i => s.size - (intOf i).toNat)
  case atStart => exact ⟨0, rfl, Nat.zero_le _, rfl⟩
  case round =>
    obtain ⟨k, rfl, hk, hrel⟩ := hrel
    by_cases hlt : k + 1 < s.size
    · by_cases ha : (s[k].toNat : Int) = 60
      · by_cases hb : (s[k + 1].toNat : Int) = 63
        · go_wp2_with fail
          refine (alive_any _ hm hF).mono ?_
          rintro e w1 ⟨rfl, hb1⟩
          go_wp2_with fail
          go_ret
          exact ⟨rfl, hb1⟩
        · have hn : Hid (¬ (s[k] = 60 ∧ s[k + 1] = 63)) := fun h => hb (by rw [h.2]; rfl)
          go_wp2_with fail
          go_round
          case rel => exact ⟨k + 1, by go_num, by omega, hrel.out.next hlt hn.out⟩
          case measure => simp [intOf]; omega
      · have hn : Hid (¬ (s[k] = 60 ∧ s[k + 1] = 63)) := fun h => ha (by rw [h.1]; rfl)
        go_wp2_with fail
        go_round
        case rel => exact ⟨k + 1, by go_num, by omega, hrel.out.next hlt hn.out⟩
        case measure => simp [intOf]; omega
    · have hT := Lib.hid (hrel.out.last (by omega))
      by_cases hbig : 65536 < s.size
      · go_wp2_with fail
        refine (Cut_long s _ hbig).mono ?_
        rintro e w' ⟨rfl, rfl⟩
        go_wp2_with fail
        refine (alive_any _ hm hF).mono ?_
        rintro e w1 ⟨rfl, hb1⟩
        go_wp2_with fail
        go_ret
        exact ⟨rfl, hb1⟩
      · rcases Nat.eq_zero_or_pos s.size with h0 | h0
        · have hn' : s.toList = [] := by rw [Lib.toList_data]; exact nil_of s h0
          have hp : Hid (pieces s.data.toList = []) := by show _ = _; rw [nil_of s h0]; rfl
          go_wp2_with fail
          refine (Cut_any s _ (by omega) hm hF).mono ?_
          rintro e w1 ⟨v, rfl, hst⟩
          rw [hp.out] at hst
          have hb1 := hst.below
          have hv : v = .slice none 0 0 ∨ ∃ A cap, v = .slice A 0 cap := by
            rcases hst.own.2 with ⟨rfl, _⟩ | ⟨g, cap, cur, rfl, _⟩
            · exact .inl rfl
            · exact .inr ⟨_, cap, rfl⟩
          have hv' : ∃ A cap, v = .slice A 0 cap := by
            rcases hv with rfl | h
            · exact ⟨_, _, rfl⟩
            · exact h
          obtain ⟨A, cap, hv⟩ := hv'
          rw [hv]
          have hm1 := hm.below hb1 hm.lt
          have hF1 := hF.below hb1 hF.lt
          clear hst hv
          go_wp2_with fail
          refine (alive_any _ hm1 hF1).mono ?_
          rintro e w2 ⟨rfl, hb2⟩
          go_wp2_with fail
          go_ret
          exact ⟨rfl, hb1.trans (hb2.mono hb1.size)⟩
        · have he := isEmpty_of s h0
          have hen : s.toList ≠ [] := fun h => by rw [h] at he; cases he
          have hne : s.data.toList ≠ [] := fun h => by have h2 := Lib.size_eq s; rw [h] at h2; simp only [List.length_nil] at h2; omega
          have hp : Hid (pieces s.data.toList = [⟨1, s.data.toList, 0⟩]) := noTag_pieces _ hT.out hne
          have hss : Hid ((⟨s.data.toList.toArray⟩ : ByteArray) = s) := Lib.mk_data s
          clear hne
          go_wp2_with fail
          refine (Cut_any s _ (by omega) hm hF).mono ?_
          rintro e w1 ⟨v, rfl, hst⟩
          rw [hp.out] at hst
          obtain ⟨g, cap, hv, hcap⟩ := hst.form (Nat.zero_lt_one)
          have h1 := hst.cells hv 0 (Nat.zero_lt_one)
          have hb1 := hst.below
          obtain ⟨a1, a2, a3⟩ := h1
          simp only [List.getElem_cons_zero] at a2
          rw [hv]
          have hm1 := hm.below hb1 hm.lt
          have hF1 := hF.below hb1 hF.lt
          clear hst hv
          go_wp2_with fail
          refine (alive_any _ hm1 hF1).mono ?_
          rintro e w2 ⟨rfl, hb2⟩
          go_wp2_with fail
          go_ret
          exact ⟨rfl, hb1.trans (hb2.mono hb1.size)⟩
end Go.Proofs.YtbeglmolgloepaaDoor
