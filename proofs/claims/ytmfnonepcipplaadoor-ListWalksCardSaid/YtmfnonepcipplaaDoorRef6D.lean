/-
  The document's answer of layer 6: a number's digits.
-/
import Derived.Test.YtmfnonepcipplaaDoorConvC
import Derived.Test.YtmfnonepcipplaaDoorRef6C
import Derived.Laws.AppendOwn
import Derived.Laws.AppendOwnNone
import Derived.Laws.IdiomStrings
import Derived.Laws.BytesArg
import Derived.Laws.Concat
import Derived.Maps.AppendAt
namespace Go.Proofs.YtmfnonepcipplaaDoor
open Go Go.RowKit Convs

theorem addr_add (g i j : Nat) : ((⟨g, i, none⟩ : Addr).add j) = ⟨g, i + j, none⟩ := by
  unfold Addr.add
  by_cases h : j = 0 <;> simp [h]
def encB (l : L) : List Value := l.map fun b => .int .u8 b.toNat
theorem byteInfo : (Tryd.prog.info? 5).map (fun i => (i.zero, i.size, i.bytes)) = some (some (.int .u8 0), 1, 1) := by kernel_rfl
/-- Bytes so far, in the round's world. -/
structure Bs (B : Nat) (w wr : World) (v : Value) (l : L) : Prop where
  own : wr.ownsRow B 5 1 v l.length (encB l)
  below : Below B w wr
  base : B ≤ wr.heap.size
theorem Bs.nil (w : World) : Bs w.heap.size w w (.slice none 0 0) [] := ⟨World.ownsRow_nil _ _ _ _, Below.refl _ _, Nat.le_refl _⟩
theorem Bs.str {B : Nat} {w wr : World} {v : Value} {l : L} (h : Bs B w wr v l) :
    (convert 85 9 v).run Tryd.prog wr = .ok (.string ⟨l.toArray⟩) wr := by
  rcases h.own.2 with ⟨rfl, h0⟩ | ⟨g, cap, cur, rfl, hb, hh, hn, hc, hcs, ht⟩
  · have : l = [] := List.eq_nil_of_length_eq_zero h0
    subst this
    exact run_convert_bytes_nil wr 85 5 Tryd.underlying85 Tryd.underlying5 0 0 9 Tryd.underlying9
  · refine run_convert_bytes_back wr 85 9 5 ⟨g, 0, none⟩ cap l Tryd.underlying85 Tryd.underlying5 Tryd.underlying9 ?_
    intro j hj
    rw [addr_add, Nat.zero_add, h.own.cellAt j (by simpa [encB] using hj)]
    simp [encB, hj]
theorem Bs.form {B : Nat} {w wr : World} {v : Value} {l : L} (h : Bs B w wr v l) : (v = .slice none 0 0 ∧ l = []) ∨ ∃ g cap, v = .slice (some ⟨g, 0, none⟩) l.length cap ∧ B ≤ g ∧ g < wr.heap.size := by
  rcases h.own.2 with ⟨rfl, h0⟩ | ⟨g, cap, cur, rfl, hb, hh, hn, hc, hcs, ht⟩
  · exact .inl ⟨rfl, List.eq_nil_of_length_eq_zero h0⟩
  · exact .inr ⟨g, cap, rfl, hb, by rcases Nat.lt_or_ge g wr.heap.size with h1 | h1; exact h1; rw [Array.getElem?_eq_none h1] at hh; cases hh⟩
theorem one_row (W : World) (B : Nat) (c : UInt8) (hB : B ≤ W.heap.size) : (W.alloc (.cells #[.int .u8 c.toNat] 5)).ownsRow B 5 1 (.slice (some ⟨W.heap.size, 0, none⟩) 1 1) 1 [.int .u8 c.toNat] :=
  World.ownsRow_lit W #[.int .u8 c.toNat] 1 hB (by unfold maxLen; omega) rfl

theorem Bs.news {B : Nat} {w wr : World} {g cap : Nat} {l : L} (h : Bs B w wr (.slice (some ⟨g, 0, none⟩) l.length cap) l) (hg : g < wr.heap.size) (o : Obj) :
    ∀ (j : Nat) (u : Value), (encB l)[j]? = some u → (wr.alloc o).cell? ((⟨g, 0, none⟩ : Addr).add j) = some u := by
  intro j u hu
  have hj : j < (encB l).length := (List.getElem?_eq_some_iff.1 hu).1
  rw [addr_add, Nat.zero_add, ((Below.refl wr.heap.size wr).alloc (Nat.le_refl _) o).cell (p := ⟨g, j, none⟩) hg, h.own.cellAt j (by simpa [encB] using hj)]
  exact hu
theorem Bs.front {B : Nat} {w wr w3 : World} {v v1 : Value} {l : L} {c : UInt8} {o : Obj} (h : Bs B w wr v l) (hown : w3.ownsRow B 5 1 v1 (1 + l.length) ([.int .u8 c.toNat] ++ encB l))
    (hg : (wr.alloc o).grownBy w3 (some wr.heap.size)) : Bs B w w3 v1 (c :: l) :=
  ⟨by rw [List.length_cons, Nat.add_comm]; exact hown, (h.below.alloc h.base o).grown hg (Nat.le_trans h.base (by simp)) (fun k hk => by cases hk; exact h.base), Nat.le_trans h.base (Nat.le_trans (by simp) hg.size)⟩
theorem Bs.single {B : Nat} {w wr : World} {v : Value} (h : Bs B w wr v []) (c : UInt8) : Bs B w (wr.alloc (.cells #[.int .u8 c.toNat] 5)) (.slice (some ⟨wr.heap.size, 0, none⟩) 1 1) [c] :=
  ⟨one_row wr B c h.base, h.below.alloc h.base _, Nat.le_trans h.base (by simp)⟩
theorem encB_one (l : L) : ∀ u ∈ encB l, u.oneCell' = true := by
  intro u hu
  obtain ⟨b, _, rfl⟩ := List.mem_map.1 hu
  rfl
theorem digit_byte (k : Nat) (h : k < 10) : ((48 + k).toUInt8.toNat : Int) = 48 + k := by
  have : (48 + k).toUInt8.toNat = 48 + k := by simp [Nat.toUInt8]; omega
  omega

set_option maxHeartbeats 8000000 in
set_option maxRecDepth 1000000 in
theorem refDigits_any (n : Int) (w : World) (h0 : -9223372036854775808 ≤ n) (h1 : n ≤ 9223372036854775807) :
    Calls Tryd.prog 37 #[.int .i64 n] w fun e w' => e = .returned (.string ⟨(digitsT n).toArray⟩) ∧ Below w.heap.size w w' := by
  by_cases hz : n = 0
  · subst hz
    have HE : Hid (digitsT 0 = [48]) := by show _ = _; unfold digitsT; rw [if_neg (by decide)]; exact natDig_small 0 (by decide)
    go_enter Tryd.func37, Tryd.ntmps37
    go_wp2_with fail
    go_ret
    exact ⟨by rw [HE.out]; rfl, Below.refl _ _⟩
  have hzb : (n == 0) = false := beq_eq_false_iff_ne.2 hz
  obtain ⟨i0, hi, hz0, hz1, hz2⟩ := info_parts byteInfo
  have HI := Lib.hid hi
  have HZ0 := Lib.hid hz0
  have HZ1 := Lib.hid hz1
  have HZ2 := Lib.hid hz2
  clear hi hz0 hz1 hz2
  have H20 : Hid ((natDig n.natAbs).length ≤ 20) := by
    show _ ≤ _
    have := natDig_len 19 n.natAbs (by omega) (by omega)
    omega
  have HN : Hid (digTo n.natAbs ++ [] = natDig n.natAbs) := by show _ = _; rw [List.append_nil, digTo_all _ (by omega)]
  go_enter Tryd.func37, Tryd.ntmps37
  go_wp2_with fail
  go_loopw [3, 4, 5] (fun v3 v4 _ wr => ∃ (m : Int) (l : L), v4 = .int .i64 m ∧ -9223372036854775808 ≤ m ∧ m ≤ 9223372036854775807 ∧ Bs w.heap.size w wr v3 l ∧ Hid (digTo m.natAbs ++ l = natDig n.natAbs)) (fun _ v4 _ _ => (intOf v4).natAbs)
  case atStart => exact ⟨n, [], rfl, h0, h1, Bs.nil w, HN⟩
  case round =>
    obtain ⟨m, l, rfl, hm0, hm1, hbs, hrel⟩ := hrel
    by_cases hm : m = 0
    · subst hm
      have hl : l = natDig n.natAbs := by have h := unhide hrel; simpa [digTo] using h
      subst hl
      have hcv := hbs.str
      have hbl := hbs.below
      have hsz : (⟨(natDig n.natAbs).toArray⟩ : ByteArray).size ≤ 20 := by rw [Lib.size_eq]; exact unhide H20
      by_cases hneg : n < 0
      · have HE : Hid (digitsT n = 45 :: natDig n.natAbs) := by show _ = _; unfold digitsT; rw [if_pos hneg]
        obtain ⟨t, ht⟩ : ∃ t : ByteArray, (⟨#[45]⟩ : ByteArray) ++ ⟨(natDig n.natAbs).toArray⟩ = t := ⟨_, rfl⟩
        have hadd : ∀ W, (Op.stringOp .add ⟨#[45]⟩ ⟨(natDig n.natAbs).toArray⟩).run Tryd.prog W = .ok (.string t) W := fun W => by
          have h := run_string_add_sum (P := Tryd.prog) (w := W) ⟨#[45]⟩ ⟨(natDig n.natAbs).toArray⟩ (by show 1 + _ ≤ _; omega)
          rw [ht] at h
          exact h
        have HT : Hid (t = ⟨(digitsT n).toArray⟩) := by
          show _ = _
          rw [HE.out, ← ht]
          rw [eq_lit, ByteArray.data_append, Array.toList_append]
          rfl
        clear hbs hsz ht
        generalize (natDig n.natAbs).toArray = bs at *
        go_wp2_with fail
        go_ret
        exact ⟨by rw [← HT.out]; rfl, hbl⟩
      · have HE : Hid (digitsT n = natDig n.natAbs) := by show _ = _; unfold digitsT; rw [if_neg hneg]
        clear hbs hsz
        go_wp2_with fail
        go_ret
        exact ⟨by rw [HE.out]; rfl, hbl⟩
    · have hst := digTo_step m.natAbs (by omega) l
      obtain ⟨r, hr⟩ : ∃ r, m.tmod 10 = r := ⟨_, rfl⟩
      obtain ⟨q, hq⟩ : ∃ q, m.tdiv 10 = q := ⟨_, rfl⟩
      have hra : r.natAbs = m.natAbs % 10 := by rw [← hr]; exact natAbs_tmod m
      have hqa : q.natAbs = m.natAbs / 10 := by rw [← hq]; exact natAbs_tdiv m
      rw [← hra, ← hqa] at hst
      have hr9 : r.natAbs < 10 := by omega
      have hq0 : -9223372036854775808 ≤ q ∧ q ≤ 9223372036854775807 := by omega
      have hqm : q.natAbs < m.natAbs := by omega
      have hlen : l.length ≤ 20 := by have h := congrArg List.length (unhide hrel); rw [List.length_append] at h; have := unhide H20; omega
      have hcb := digit_byte r.natAbs hr9
      have HST := Lib.hid (hst.symm.trans (unhide hrel))
      clear hst hra hqa hrel
      generalize hc : (48 + r.natAbs).toUInt8 = c at hcb HST
      have hbase := hbs.base
      rcases hbs.form with ⟨rfl, rfl⟩ | ⟨g, cap, rfl, hg0, hg1⟩
      · by_cases hneg : r < 0
        · have hcv : (48 : Int) + -r = c.toNat := by omega
          clear hcb hc
          go_wp2_with fail
          go_roundw
          case rel => exact ⟨q, [c], rfl, hq0.1, hq0.2, hbs.single c, HST⟩
          case measure => simpa [intOf] using hqm
        · have hcv : (48 : Int) + r = c.toNat := by omega
          clear hcb hc
          go_wp2_with fail
          go_roundw
          case rel => exact ⟨q, [c], rfl, hq0.1, hq0.2, hbs.single c, HST⟩
          case measure => simpa [intOf] using hqm
      · by_cases hneg : r < 0
        · have hcv : (48 : Int) + -r = c.toNat := by omega
          clear hcb hc
          go_wp2_with (at_builtin; refine wpList_append_own _ rfl _ _ 85 rfl w.heap.size 5 i0 _ 1 1 Tryd.underlying85 HI.out HZ0.out HZ1.out HZ2.out rfl (by decide) _ _ _ rfl (one_row wr w.heap.size c hbase) ⟨g, 0, none⟩ l.length cap (encB l) rfl (by simp [encB]) (hbs.news hg1 _) (encB_one l) (by unfold maxLen; omega) (by omega) (Nat.le_trans hbase (by simp)) ?_)
          intro v1 w3 hown1 hg1 _
          have hbs1 := hbs.front hown1 hg1
          clear hown1 hg1
          go_wp2_with fail
          go_roundw
          case rel => exact ⟨q, c :: l, rfl, hq0.1, hq0.2, hbs1, HST⟩
          case measure => simpa [intOf] using hqm
        · have hcv : (48 : Int) + r = c.toNat := by omega
          clear hcb hc
          go_wp2_with (at_builtin; refine wpList_append_own _ rfl _ _ 85 rfl w.heap.size 5 i0 _ 1 1 Tryd.underlying85 HI.out HZ0.out HZ1.out HZ2.out rfl (by decide) _ _ _ rfl (one_row wr w.heap.size c hbase) ⟨g, 0, none⟩ l.length cap (encB l) rfl (by simp [encB]) (hbs.news hg1 _) (encB_one l) (by unfold maxLen; omega) (by omega) (Nat.le_trans hbase (by simp)) ?_)
          intro v1 w3 hown1 hg1 _
          have hbs1 := hbs.front hown1 hg1
          clear hown1 hg1
          go_wp2_with fail
          go_roundw
          case rel => exact ⟨q, c :: l, rfl, hq0.1, hq0.2, hbs1, HST⟩
          case measure => simpa [intOf] using hqm
end Go.Proofs.YtmfnonepcipplaaDoor
