/-
  The walk of the law WordPlain.
-/
import Derived.Test.YtjcldgogjgchiaaGreatDoorAlive2
namespace Go.Proofs.YtjcldgogjgchiaaGreatDoor
open Go Go.RowKit Cutting Wording

def noTag : List UInt8 → Bool
  | [] => true
  | b :: r => !(b == 60 && r.head? == some 63) && noTag r
theorem noTag_open : ∀ r : List UInt8, noTag r = true → openN r = ⟨0, r.length, 0⟩ := by
  intro r
  induction r with
  | nil => intro _; rfl
  | cons b r ih =>
    intro h
    simp only [noTag, Bool.and_eq_true, Bool.not_eq_true'] at h
    have h1 : Lib.hasPrefix (b :: r) [60, 63, 61] = false := by
      rw [← Bool.not_eq_true]
      intro hp
      obtain ⟨t, ht⟩ := List.isPrefixOf_iff_prefix.1 hp
      simp at ht
      rw [← ht.1, ← ht.2] at h
      simp at h
    have h2 : isPhp (b :: r) = false := by
      rw [← Bool.not_eq_true]
      intro hp
      have h5 := isPhp_len _ hp
      match r, h5 with
      | c :: r', _ =>
        simp only [isPhp, beq_iff_eq, List.take_succ_cons, List.map_cons, List.cons.injEq] at hp
        have low : ∀ x y : UInt8, (y = 60 ∨ y = 63 ∨ y = 104 ∨ y = 112) → lowB x = y → (y = 60 ∨ y = 63) → x = y := by
          intro x y hy hx hz
          have hf := foldEq_low x y hy
          rw [hx, beq_self_eq_true] at hf
          simp only [Lib.foldEq, decide_eq_true_eq] at hf
          apply UInt8.toNat_inj.1
          rcases hz with rfl | rfl <;> simp at hf ⊢ <;> omega
        have e1 := low b 60 (.inl rfl) hp.1 (.inl rfl)
        have e2 := low c 63 (.inr (.inl rfl)) hp.2.1 (.inr rfl)
        rw [e1, e2] at h
        simp at h
    have h3 : phpN (b :: r) = 0 := by simp [phpN, h2]
    have hn := ih h.2
    simp only [openN]
    rw [if_neg (by rw [h1]; simp), if_neg (by omega), if_pos (by rw [hn]), hn]
    rfl
theorem noTag_pieces (r : List UInt8) (h : noTag r = true) (hr : r ≠ []) : pieces r = [⟨1, r, 0⟩] := by
  rw [pieces_eq, piecesN_eq _ _ hr, noTag_open r h]
  simp only [htmlN, noTag_open r h, if_true, List.append_nil]
  rw [if_pos (List.length_pos_iff.2 hr), List.take_length]

/-- The first k places hold no tag. -/
def Clear (s : ByteArray) (k : Nat) : Prop := noTag s.data.toList = noTag (s.data.toList.drop k)
theorem Clear.next {s : ByteArray} {k : Nat} (h : Clear s k) (hk : k + 1 < s.size) (hn : ¬ (s[k] = 60 ∧ s[k + 1] = 63)) : Clear s (k + 1) := by
  unfold Clear at h ⊢
  rw [h, drop_at s k (by omega), noTag, drop_at s (k + 1) hk]
  have : (!(s[k] == 60 && (s[k + 1] :: s.data.toList.drop (k + 1 + 1)).head? == some 63)) = true := by
    simp only [List.head?_cons, Bool.not_eq_true', Bool.and_eq_false_iff, beq_eq_false_iff_ne]
    by_cases h1 : s[k] = 60
    · right; intro h2; exact hn ⟨h1, by simpa using h2⟩
    · left; exact h1
  rw [this, Bool.true_and]
theorem Clear.last {s : ByteArray} {k : Nat} (h : Clear s k) (hk : s.size ≤ k + 1) : noTag s.data.toList = true := by
  unfold Clear at h
  rw [h]
  by_cases hk2 : k < s.size
  · rw [drop_at s k hk2, drop_nil s (k + 1) hk]; simp [noTag]
  · rw [drop_nil s k (by omega)]; rfl

theorem fileT_nil (s : L) (h : s = []) : fileT s = .ok [] := by subst h; rfl
theorem fileT_plain (s : L) (h : noTag s = true) (hn : s ≠ []) : fileT s = .ok [(⟨1, s, 0, []⟩, 0)] := by
  unfold fileT
  rw [noTag_pieces s h hn]
  rfl
set_option maxHeartbeats 8000000 in
set_option maxRecDepth 100000 in
theorem WordPlain_any (s : ByteArray) (w : World) (hs : s.size ≤ 140737488351232) (hM : Met w) :
    Calls Tryz.prog 6 #[.string s] w fun e w' => e = .returned (.bool true) ∧ Below w.heap.size w w' := by
  have hml := hM.lt
  go_enter Tryz.func6, Tryz.ntmps6
  go_wp2_with fail
  go_loop [3] (fun i => ∃ k : Nat, i = .int .i64 k ∧ k ≤ s.size ∧ Hid (Clear s k)) (fun i => s.size - (intOf i).toNat)
  case atStart => exact ⟨0, rfl, Nat.zero_le _, rfl⟩
  case round =>
    obtain ⟨k, rfl, hk, hrel⟩ := hrel
    by_cases hlt : k + 1 < s.size
    · by_cases ha : (s[k].toNat : Int) = 60
      · by_cases hb : (s[k + 1].toNat : Int) = 63
        · go_wp2_with fail
          refine (alive2_any _ hM).mono ?_
          rintro e w1 ⟨rfl, hb1⟩
          go_wp2_with fail
          go_ret
          exact ⟨rfl, hb1⟩
        · have hn : Hid (¬ (s[k] = 60 ∧ s[k + 1] = 63)) := fun h => hb (by rw [h.2]; rfl)
          go_wp2_with fail
          go_round
          case rel => exact ⟨k + 1, by go_num, by omega, hrel.out.next hlt hn.out⟩
          case measure => simp [intOf]; omega
      · have hn : Hid (¬ (s[k] = 60 ∧ s[k + 1] = 63)) := fun h => ha (by rw [h.1]; rfl)
        go_wp2_with fail
        go_round
        case rel => exact ⟨k + 1, by go_num, by omega, hrel.out.next hlt hn.out⟩
        case measure => simp [intOf]; omega
    · have hT := Lib.hid (hrel.out.last (by omega))
      by_cases hbig : 65536 < s.size
      · go_wp2_with fail
        refine (Tokens_long s _ hbig).mono ?_
        rintro e w1 ⟨rfl, hb1⟩
        have hM1 := hM.below hb1 hml
        unfold faultV
        go_wp2_with fail
        refine (alive2_any _ (hM1.below ((Below.refl _ _).alloc (Nat.le_refl _) _) hM1.lt)).mono ?_
        rintro e w2 ⟨rfl, hb2⟩
        have hb3 : Below w.heap.size w w2 := (hb1.alloc hb1.size _).trans (hb2.mono (Nat.le_trans hb1.size (by simp)))
        go_wp2_with fail
        go_ret
        exact ⟨rfl, hb3⟩
      · rcases Nat.eq_zero_or_pos s.size with h0 | h0
        · have hn' : s.toList = [] := by rw [Lib.toList_data]; exact nil_of s h0
          have hp : Hid (fileT s.data.toList = .ok []) := by show _ = _; exact fileT_nil _ (nil_of s h0)
          go_wp2_with fail
          refine (Tokens_any s _ (by omega) hM).mono ?_
          rintro e w1 ⟨hb1, hp1⟩
          rw [hp.out] at hp1
          obtain ⟨v, l, rfl, ht, hmap, _⟩ := hp1
          have hl0 : l.length = 0 := by have := congrArg List.length hmap; rwa [List.length_map] at this
          obtain ⟨A, cap, rfl⟩ := own_form ht.own
          rw [hl0]
          have hM1 := hM.below hb1 hml
          clear ht hmap
          unfold faultV
          go_wp2_with fail
          refine (alive2_any _ (hM1.below ((Below.refl _ _).alloc (Nat.le_refl _) _) hM1.lt)).mono ?_
          rintro e w2 ⟨rfl, hb2⟩
          have hb3 : Below w.heap.size w w2 := (hb1.alloc hb1.size _).trans (hb2.mono (Nat.le_trans hb1.size (by simp)))
          go_wp2_with fail
          go_ret
          exact ⟨rfl, hb3⟩
        · have he := isEmpty_of s h0
          have hen : s.toList ≠ [] := fun h => by rw [h] at he; cases he
          have hne : s.data.toList ≠ [] := fun h => by have h2 := Lib.size_eq s; rw [h] at h2; simp only [List.length_nil] at h2; omega
          have hp : Hid (fileT s.data.toList = .ok [(⟨1, s.data.toList, 0, []⟩, 0)]) := fileT_plain _ hT.out hne
          clear hne
          go_wp2_with fail
          refine (Tokens_any s _ (by omega) hM).mono ?_
          rintro e w1 ⟨hb1, hp1⟩
          rw [hp.out] at hp1
          obtain ⟨v, l, rfl, ht, hmap, _⟩ := hp1
          have hl0 : l.length = 1 := by have := congrArg List.length hmap; rwa [List.length_map] at this
          obtain ⟨g, cap, hv, hcap⟩ := ht.form (by omega)
          have hx : (l[0].1, l[0].2.1) = ((⟨1, s.data.toList, 0, []⟩ : Tk), 0) := by
            have h1 : (l.map (fun x => (x.1, x.2.1)))[0]'(by rw [List.length_map]; omega) = ((⟨1, s.data.toList, 0, []⟩ : Tk), 0) := List.getElem_of_eq hmap _
            rwa [List.getElem_map] at h1
          injection hx with hx1 hx2
          have a0 := ht.cell hv 0 0 (by omega) (by decide) (u := .int .i64 1) (by rw [encT, hx1]; rfl)
          have a1 := ht.cell hv 0 1 (by omega) (by decide) (u := .string s) (by rw [encT, hx1]; show some (Value.string ⟨s.data.toList.toArray⟩) = _; rw [Lib.mk_data])
          have a5 := ht.cell hv 0 5 (by omega) (by decide) (u := .int .i64 1) (by rw [encT, hx2]; rfl)
          have hg := World.block_lt_of_cell? w1 _ a0
          dsimp only at hg
          change w1.cell? ⟨g, 0, none⟩ = _ at a0
          change w1.cell? ⟨g, 1, none⟩ = _ at a1
          change w1.cell? ⟨g, 5, none⟩ = _ at a5
          rw [hv, hl0]
          have hM1 := hM.below hb1 hml
          clear ht hmap hx1 hx2 hv
          unfold faultV
          go_wp2_with fail
          refine (alive2_any _ (hM1.below ((Below.refl _ _).alloc (Nat.le_refl _) _) hM1.lt)).mono ?_
          rintro e w2 ⟨rfl, hb2⟩
          have hb3 : Below w.heap.size w w2 := (hb1.alloc hb1.size _).trans (hb2.mono (Nat.le_trans hb1.size (by simp)))
          go_wp2_with fail
          go_ret
          exact ⟨rfl, hb3⟩
end Go.Proofs.YtjcldgogjgchiaaGreatDoor
