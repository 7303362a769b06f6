/-
  Contracts of package cut's functions over strings alone: remarks, comments, long texts, what closes code.
-/
import Derived.Test.YtjcldgogjgchiaaGreatDoorSmall
import Derived.Test.YtjcldgogjgchiaaGreatDoorShelf
import Derived.WalkSmall
import Derived.Lib.IndexMore
namespace Go.Proofs.YtjcldgogjgchiaaGreatDoor
open Go Go.RowKit Cutting

theorem tail_list (s : ByteArray) (k : Nat) : (s.extract k s.size).data.toList = s.data.toList.drop k := by
  rw [Lib.extract_data]; exact List.take_of_length_le (by rw [List.length_drop, ← Lib.size_eq]; omega)

/-- strings.HasPrefix where the answer is known. -/
theorem hasPrefix_b (s p : ByteArray) (b : Bool) (w : World) (h : Lib.hasPrefix s.data.toList p.data.toList = b) :
    Calls Tryz.prog 28 #[.string s, .string p] w fun e w' => e = .returned (.bool b) ∧ w = w' := by
  refine (Tryz.strings_HasPrefix s p w).mono ?_
  rintro e w' ⟨rfl, rfl⟩
  exact ⟨by rw [h], rfl⟩

theorem remarkLen_any (s : ByteArray) (w : World) (hs : s.size ≤ 4294967280) :
    Calls Tryz.prog 51 #[.string s] w fun e w' => e = .returned (.int .i64 (remarkN s.data.toList)) ∧ w = w' := by
  go_enter Tryz.func51, Tryz.ntmps51
  go_wp2_with fail
  go_loop [3] (fun i => ∃ k : Nat, k ≤ s.size ∧ i = .int .i64 k ∧ Hid (remarkN s.data.toList = k + remarkN (s.data.toList.drop k))) (fun i => s.size - (intOf i).toNat)
  case atStart => exact ⟨0, by omega, rfl, by show _ = _; rw [List.drop_zero, Nat.zero_add]⟩
  case round =>
    obtain ⟨k, hk, rfl, hrel⟩ := hrel
    by_cases hlt : k < s.size
    · have hdk := Lib.hid (drop_at s k hlt)
      by_cases hc : (s[k].toNat : Int) = 10
      · have hu := Lib.hid (u8_of s[k] 10 hc)
        go_wp2_with fail
        go_ret
        exact ⟨ret_int (by rw [hrel.out, hdk.out, hu.out]; simp [remarkN]), rfl⟩
      · have hu : s[k] ≠ 10 := fun e => hc (by rw [e]; rfl)
        have hp := Lib.hid (tail_list s k)
        have hdk2 : Hid (remarkN (s.data.toList.drop k) = if Lib.hasPrefix (s.data.toList.drop k) [63, 62] then 0 else 1 + remarkN (s.data.toList.drop (k + 1))) := by
          show _ = _
          rw [hdk.out, remarkN]
          simp [hu]
        cases hb : Lib.hasPrefix (s.data.toList.drop k) [63, 62]
        · have HB := Lib.hid hb
          clear hb
          go_wp2_with (go_at_call 28; refine (hasPrefix_b _ _ false _ (by rw [hp.out]; exact HB.out)).mono ?_; rintro e w' ⟨rfl, rfl⟩)
          go_round
          case rel => exact ⟨k + 1, by omega, by go_num, by show _ = _; rw [hrel.out, hdk2.out, HB.out]; simp; omega⟩
          case measure => simp [intOf]; omega
        · have HB := Lib.hid hb
          clear hb
          go_wp2_with (go_at_call 28; refine (hasPrefix_b _ _ true _ (by rw [hp.out]; exact HB.out)).mono ?_; rintro e w' ⟨rfl, rfl⟩)
          go_ret
          exact ⟨ret_int (by rw [hrel.out, hdk2.out, HB.out]; simp), rfl⟩
    · have hdk := Lib.hid (drop_nil s k (by omega))
      go_wp2_with fail
      go_ret
      exact ⟨ret_int (by rw [hrel.out, hdk.out]; simp [remarkN]), rfl⟩

/-- What a comment's end is, by the place of the first of its marks. -/
theorem commentGo_cut (r : List UInt8) : commentGo r = r.length - (Lib.cut r [42, 47]).2.1.length := by
  have key : ∀ r : List UInt8, (Lib.index r [42, 47] = -1 → commentGo r = r.length) ∧ (0 ≤ Lib.index r [42, 47] → commentGo r = (Lib.index r [42, 47]).toNat + 2 ∧ commentGo r ≤ r.length) := by
    intro r
    induction r with
    | nil => exact ⟨fun _ => rfl, fun h => by simp [Lib.index] at h⟩
    | cons b r ih =>
      have hge := Lib.index_ge r [42, 47]
      by_cases hp : Lib.hasPrefix (b :: r) [42, 47] = true
      · have hi : Lib.index (b :: r) [42, 47] = 0 := by rw [Lib.index]; exact if_pos hp
        have hl : 2 ≤ (b :: r).length := List.IsPrefix.length_le (List.isPrefixOf_iff_prefix.1 hp)
        refine ⟨fun h => absurd h (by rw [hi]; decide), fun _ => ?_⟩
        rw [hi, commentGo, if_pos hp]
        exact ⟨rfl, hl⟩
      · have hi : Lib.index (b :: r) [42, 47] = if Lib.index r [42, 47] == -1 then -1 else Lib.index r [42, 47] + 1 := by rw [Lib.index]; exact if_neg hp
        rw [hi, commentGo, if_neg hp]
        by_cases h1 : Lib.index r [42, 47] = -1
        · have h2 := ih.1 h1
          simp [h1, h2]; omega
        · have h2 := ih.2 (by omega)
          simp [h1]
          omega
  have hk := key r
  have hge := Lib.index_ge r [42, 47]
  unfold Lib.cut
  by_cases h1 : 0 ≤ Lib.index r [42, 47]
  · have h2 := hk.2 h1
    rw [if_pos h1]
    simp only [List.length_drop]
    have : ([42, 47] : List UInt8).length = 2 := rfl
    omega
  · rw [if_neg h1, hk.1 (by omega)]; simp
theorem commentGo_found (r : List UInt8) (h : (Lib.cut r [42, 47]).2.2 = false) : commentGo r = r.length := by
  rw [commentGo_cut]
  unfold Lib.cut at h ⊢
  by_cases h1 : 0 ≤ Lib.index r [42, 47]
  · rw [if_pos h1] at h; cases h
  · rw [if_neg h1]; simp
theorem cut_le (r sep : List UInt8) : (Lib.cut r sep).2.1.length ≤ r.length := by
  unfold Lib.cut
  split <;> simp

/-- What the walks want of a world: the library's word on how long a text its fast search takes. -/
def HasMax (w : World) : Prop := ∃ m : Int, w.cell? ⟨2, 0, none⟩ = some (.int .i64 m)

theorem cut_b (s sep a b : ByteArray) (f : Bool) (w : World) (hs : s.size < 4294967281) (hm : HasMax w) (h : Lib.cut s.data.toList sep.data.toList = (a.data.toList, b.data.toList, f)) :
    Calls Tryz.prog 63 #[.string s, .string sep] w fun e w' => e = .returned (.tuple #[.string a, .string b, .bool f]) ∧ ∃ n, w' = w.drewN n := by
  obtain ⟨m, hm⟩ := hm
  refine (Tryz.strings_Cut s sep m w hs hm).mono ?_
  rintro e w' ⟨rfl, hw⟩
  refine ⟨?_, hw⟩
  simp only [h, Lib.mk_data]
theorem bytes_of (l : List UInt8) : ∃ a : ByteArray, a.data.toList = l := ⟨⟨l.toArray⟩, by simp⟩
theorem below_drewN {B : Nat} {a w : World} (h : Below B a w) (n : Nat) : Below B a (w.drewN n) := ⟨h.os, h.tape, h.output, h.size, h.block⟩

set_option maxHeartbeats 1000000 in
theorem commentLen_any (s : ByteArray) (w : World) (h2 : 2 ≤ s.size) (hs : s.size ≤ 4294967280) (hm : HasMax w) :
    Calls Tryz.prog 50 #[.string s] w fun e w' => e = .returned (.int .i64 (commentN s.data.toList)) ∧ Below w.heap.size w w' := by
  obtain ⟨a, ha⟩ := bytes_of (Lib.cut (s.data.toList.drop 2) [42, 47]).1
  obtain ⟨b, hb⟩ := bytes_of (Lib.cut (s.data.toList.drop 2) [42, 47]).2.1
  have hbl : b.size ≤ s.size - 2 := by
    rw [Lib.size_eq, hb, Lib.size_eq, ← List.length_drop]
    exact cut_le _ _
  have hN : Hid (commentN s.data.toList = s.size - b.size) := by
    show _ = _
    rw [commentN, commentGo_cut, ← hb, ← Lib.size_eq, List.length_drop, ← Lib.size_eq]
    omega
  have h3 : ∀ n, (w.drewN n).heap.size = w.heap.size := fun _ => rfl
  have HS : Hid ((s.extract 2 s.size).size < 4294967281) := by show _ < _; rw [Lib.size_eq, tail_list, List.length_drop, ← Lib.size_eq]; omega
  cases hf : (Lib.cut (s.data.toList.drop 2) [42, 47]).2.2
  · have hc : Hid (Lib.cut (s.extract 2 s.size).data.toList [42, 47] = (a.data.toList, b.data.toList, false)) := by
      show _ = _
      rw [tail_list, ha, hb, ← hf]
    have hN2 : Hid (commentN s.data.toList = s.size) := by
      show _ = _
      rw [commentN, commentGo_found _ hf, List.length_drop, ← Lib.size_eq]
      omega
    clear ha hb hf h3
    go_enter Tryz.func50, Tryz.ntmps50
    go_wp2_with (go_at_call 63; refine (cut_b _ _ a b false _ HS.out hm hc.out).mono ?_; rintro e w' ⟨rfl, n, rfl⟩)
    go_ret
    exact ⟨ret_int (by rw [hN2.out]), below_drewN (Below.refl _ _) _⟩
  · have hc : Hid (Lib.cut (s.extract 2 s.size).data.toList [42, 47] = (a.data.toList, b.data.toList, true)) := by
      show _ = _
      rw [tail_list, ha, hb, ← hf]
    clear ha hb hf h3
    go_enter Tryz.func50, Tryz.ntmps50
    go_wp2_with (go_at_call 63; refine (cut_b _ _ a b true _ HS.out hm hc.out).mono ?_; rintro e w' ⟨rfl, n, rfl⟩)
    go_ret
    exact ⟨ret_int (by rw [hN.out]; omega), below_drewN (Below.refl _ _) _⟩
end Go.Proofs.YtjcldgogjgchiaaGreatDoor
