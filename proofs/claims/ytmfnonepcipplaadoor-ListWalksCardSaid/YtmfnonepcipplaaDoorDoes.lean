/-
  One call on the program's list and on the document's: both answer alike, and stand alike behind it.
-/
import Derived.Test.YtmfnonepcipplaaDoorRTo
import Derived.Test.YtmfnonepcipplaaDoorLRnd
namespace Go.Proofs.YtmfnonepcipplaaDoor
open Go Go.RowKit Convs Lists

/-- Both lists, of the same items. -/
structure Both (B : Nat) (w : World) (lb mb : Nat) (iv : Value) (lent : Bool) (rb : Nat) (A : Option Addr) (cap : Nat) (l : Ls) : Prop where
  lst : Lst B w lb mb iv lent l
  ref : RLst B w rb A cap (toQ l.items) l.next
section
variable {B : Nat} {w : World} {lb mb : Nat} {iv : Value} {lent : Bool} {rb : Nat} {A : Option Addr} {cap : Nat} {l : Ls}
theorem Both.below (h : Both B w lb mb iv lent rb A cap l) {w' : World} (hb : Below w.heap.size w w') : Both B w' lb mb iv lent rb A cap l := ⟨h.lst.below hb, h.ref.below hb⟩
theorem Both.ne (h : Both B w lb mb iv lent rb A cap l) {k : Nat} (hk : Lst.own lb mb iv false k) : ¬ rown rb A k := by
  intro hr
  obtain ⟨_, _, cs, T, hb, hT⟩ := h.ref.fp hr
  rcases hT with rfl | rfl
  · exact h.lst.apart hb (by decide) (by decide) hk
  · exact h.lst.apart hb (by decide) (by decide) hk
/-- The document's list behind a step of the program's. -/
theorem Both.refOf (h : Both B w lb mb iv lent rb A cap l) {w' : World} {mb' : Nat} {iv' : Value} {lent' : Bool} (hs : Stepped w w' lb mb iv lent mb' iv' lent') : RLst B w' rb A cap (toQ l.items) l.next :=
  h.ref.same fun k hk => hs.turned.block k (h.ref.fp hk).1 fun e => h.ne (own_false e) hk
/-- The program's list behind a step of the document's. -/
theorem lstOf {w' : World} (h : Lst B w lb mb iv lent l) {A : Option Addr} {cap : Nat} {xs : List (K × Q)} {nx : Int} (hr : RLst B w rb A cap xs nx) (ht : Turned (fun k => k = rb) w w') : Lst B w' lb mb iv lent l :=
  h.same fun k hk => ht.block k (h.fp_lt hk) fun e => h.apart hr.blk (by decide) (by decide) (by have e' : k = rb := e; rw [← e']; exact hk)

/-- Behind a call: both lists, and what has turned. -/
def DPost (B : Nat) (w : World) (lb mb : Nat) (iv : Value) (lent : Bool) (rb : Nat) (l' : Ls) (w' : World) : Prop :=
  ∃ mb' iv' lent' A' cap', Both B w' lb mb' iv' lent' rb A' cap' l' ∧ Turned (fun k => k = rb ∨ Lst.own lb mb iv lent k) w w' ∧
    (∀ k, Lst.own lb mb' iv' lent' k → Lst.own lb mb iv lent k ∨ w.heap.size ≤ k) ∧ (∀ k, Lst.own lb mb' iv' false k → Lst.own lb mb iv false k ∨ w.heap.size ≤ k)
/-- First the program's, then the document's. -/
theorem DPost.mk1 {w1 w2 : World} {mb' : Nat} {iv' : Value} {lent' : Bool} {l' : Ls} (hl : Lst B w1 lb mb' iv' lent' l') (hs : Stepped w w1 lb mb iv lent mb' iv' lent') {A' : Option Addr} {cap' : Nat} {A0 : Option Addr} {cap0 : Nat} {xs0 : List (K × Q)} {nx0 : Int}
    (hr0 : RLst B w1 rb A0 cap0 xs0 nx0) (hr : RLst B w2 rb A' cap' (toQ l'.items) l'.next) (ht : Turned (fun k => k = rb) w1 w2) : DPost B w lb mb iv lent rb l' w2 :=
  ⟨mb', iv', lent', A', cap', ⟨lstOf hl hr0 ht, hr⟩, (hs.turned.mono (fun k hk _ => .inr hk)).trans (ht.mono (fun k hk _ => .inl hk)), hs.own, hs.fp⟩
/-- First the document's, then the program's. -/
theorem DPost.mk2 {w1 w2 : World} {mb' : Nat} {iv' : Value} {lent' : Bool} {l' : Ls} (hl : Lst B w1 lb mb iv lent l) (hl' : Lst B w2 lb mb' iv' lent' l') (hs : Stepped w1 w2 lb mb iv lent mb' iv' lent') {A' : Option Addr} {cap' : Nat}
    (hr : RLst B w1 rb A' cap' (toQ l'.items) l'.next) (ht : Turned (fun k => k = rb) w w1) : DPost B w lb mb iv lent rb l' w2 := by
  have hne : ∀ k, Lst.own lb mb iv false k → ¬ rown rb A' k := by
    intro k hk hr'
    obtain ⟨_, _, cs, T, hb, hT⟩ := hr.fp hr'
    rcases hT with rfl | rfl
    · exact hl.apart hb (by decide) (by decide) hk
    · exact hl.apart hb (by decide) (by decide) hk
  refine ⟨mb', iv', lent', A', cap', ⟨hl', hr.same fun k hk => hs.turned.block k (hr.fp hk).1 fun e => hne k (own_false e) hk⟩, (ht.mono (fun k hk _ => .inl hk)).trans (hs.turned.mono (fun k hk _ => .inr hk)), fun k hk => ?_, fun k hk => ?_⟩
  · exact (hs.own k hk).imp id (Nat.le_trans ht.size)
  · exact (hs.fp k hk).imp id (Nat.le_trans ht.size)
end
def Small (l : Ls) : Prop := ∀ j ∈ l.keys, j.s.length ≤ 281474976710656
theorem small_set {l : Ls} (h : Small l) {k : K} (v : Int) (hk : k.s.length ≤ 281474976710656) : Small (l.set k v).1 := fun j hj => by
  rcases (set_facts l k v).2 j hj with h1 | h1
  · exact h j h1
  · rw [h1]; exact hk
theorem small_del {l : Ls} (h : Small l) (hg : l.Good) (k : K) : Small (l.del k).1 := fun j hj => h j ((del_facts l k hg).2 j hj)
theorem small_app {l : Ls} (h : Small l) (v : Int) : Small (l.append v).1 := fun j hj => by
  rcases (append_facts l v).2 j hj with h1 | h1
  · exact h j h1
  · rw [h1]; simp

set_option maxRecDepth 100000 in
set_option maxHeartbeats 4000000 in
theorem does_any {B : Nat} {w : World} {lb mb : Nat} {iv : Value} {lent : Bool} {rb : Nat} {A : Option Addr} {cap : Nat} {l : Ls} (h : Both B w lb mb iv lent rb A cap l) (hM : ∀ u, Below B w u → Met u) (kd nn : Int) (t : Bool) (n : Int) (s : ByteArray)
    (hk : Kok ⟨t, n, s.data.toList⟩) (hs : s.size ≤ 281474976710656) (h0 : -9223372036854775808 ≤ kd) (h1 : kd ≤ 9223372036854775807) (hsm : Small l) :
    Calls Tryd.prog 8 #[.pointer (some ⟨lb, 0, none⟩), .pointer (some ⟨rb, 0, none⟩), .agg #[.int .i64 kd, .int .i64 nn, .bool t, .int .i64 n, .string s]] w fun e w' =>
      e = .returned (.bool true) ∧ ∃ l', DPost B w lb mb iv lent rb l' w' ∧ Small l' := by
  have hb0 := below_box w (.cells #[.int .i64 kd, .int .i64 nn, .bool t, .int .i64 n, .string s] 32)
  have ka := Blk.new w #[.int .i64 kd, .int .i64 nn, .bool t, .int .i64 n, .string s] 32
  obtain ⟨W, hW⟩ : ∃ W, w.alloc (.cells #[.int .i64 kd, .int .i64 nn, .bool t, .int .i64 n, .string s] 32) = W := ⟨_, rfl⟩
  rw [hW] at hb0 ka
  have hB := h.below hb0
  have HW := hide hW
  have HB0 := hide hb0
  have HBO := hide hB
  have HKA := hide ka
  have hBl : B ≤ w.heap.size := by have := h.ref.hrb; have := h.ref.blk.lt; omega
  have HM : Hid (∀ u, Below B W u → Met u) := fun u hu => hM u ((hb0.mono hBl).trans hu)
  have HBL := hide hBl
  have HK := hide hk
  have HSM := hide hsm
  have hnl : (normT ⟨t, n, s.data.toList⟩).s.length ≤ 281474976710656 := Nat.le_trans (normT_len _) (by rw [← Lib.size_eq]; exact hs)
  have HNL := hide hnl
  have CLOSE : Hid (∀ W' l' w', Below w.heap.size w W' → DPost B W' lb mb iv lent rb l' w' → DPost B w lb mb iv lent rb l' w') := by
    intro W' l' w' hb ⟨mb', iv', lent', A', cap', d1, d2, d3, d4⟩
    exact ⟨mb', iv', lent', A', cap', d1, (Turned.of_below hb).trans d2, fun k hk => (d3 k hk).imp id (Nat.le_trans hb.size), fun k hk => (d4 k hk).imp id (Nat.le_trans hb.size)⟩
  obtain ⟨a0, a1, a2, a3, a4, -⟩ := ka.five
  clear h hb0 ka hW hB hM hk hsm hnl hBl
  go_enter Tryd.func8, Tryd.ntmps8
  go_upto_region 1 with fail
  rw [HW.out]
  go_upto_region 2 with fail
  obtain ⟨c, hc⟩ : ∃ c, (wrap64 (kd.tmod 5 + 5)).tmod 5 = c := ⟨_, rfl⟩
  rw [hc]
  clear hc
  by_cases c0 : c = 0
  · as_aux_lemma =>
      subst c0
      cases hf : (l.set (normT ⟨t, n, s.data.toList⟩) nn).2
      · have hS := Set_any HBO.out.lst (HM.out W (Below.refl _ _)) t n s nn HK.out hs
        have hrs : ∀ W1, RLst B W1 rb A cap (toQ l.items) l.next → ∀ u, Below W1.heap.size W1 u → Calls Tryd.prog 17 #[.pointer (some ⟨rb, 0, none⟩), .agg #[.bool t, .int .i64 n, .string s], .agg #[.int .i64 2, .int .i64 nn, .string ⟨#[]⟩, .slice none 0 0]] u (RPost B u rb (toQ (l.set (normT ⟨t, n, s.data.toList⟩) nn).1.items) (l.set (normT ⟨t, n, s.data.toList⟩) nn).1.next (.int .i64 0)) := fun W1 hr u hu => by
          have := RSet_any (hr.below hu) t n s (numQ nn) HK.out hs
          rw [set_to, hf] at this
          exact this
        rw [hf, show fullN false = 0 from rfl] at hS
        have HSm := hide (small_set HSM.out (k := normT ⟨t, n, s.data.toList⟩) nn HNL.out)
        obtain ⟨l', hl'⟩ : ∃ l', (l.set (normT ⟨t, n, s.data.toList⟩) nn).1 = l' := ⟨_, rfl⟩
        rw [hl'] at hS hrs HSm
        have HS := hide hS
        have HRS := hide hrs
        clear hS hrs hf hl'
        go_upto_region 4 with (first | (go_at_call 12; refine (unhide HS).mono ?_; rintro e W1 ⟨mb1, iv1, lent1, rfl, hl1, hs1⟩))
        have ka1 := hs1.blk HBO.out.lst HKA.out (by decide) (by decide)
        have hr1 := HBO.out.refOf hs1
        have hne : w.heap.size ≠ rb := fun e => absurd (e ▸ ka1 : Blk W1 rb _ _) (fun h => absurd (h.inj hr1.blk) (by decide))
        have HR1 := hide hr1
        have HL1 := hide hl1
        have HS1 := hide hs1
        have HKT : Hid (∀ u, Turned (fun k => k = rb) W1 u → (Turned (fun k => k = rb) W1 u ∧ u.cell? ⟨w.heap.size, 1, none⟩ = some (.int .i64 nn) ∧ u.cell? ⟨w.heap.size, 2, none⟩ = some (.bool t) ∧ u.cell? ⟨w.heap.size, 3, none⟩ = some (.int .i64 n) ∧ u.cell? ⟨w.heap.size, 4, none⟩ = some (.string s))) := fun u hu => by
          have kb := (hu.blk ka1 hne).five
          exact ⟨hu, kb.2.1, kb.2.2.1, kb.2.2.2.1, kb.2.2.2.2.1⟩
        obtain ⟨a0, a1, a2, a3, a4, -⟩ := ka1.five
        clear hl1 hs1 ka1 hr1 HS hne
        go_region_held3 (fun u => Turned (fun k => k = rb) W1 u ∧ u.cell? ⟨w.heap.size, 1, none⟩ = some (.int .i64 nn) ∧ u.cell? ⟨w.heap.size, 2, none⟩ = some (.bool t) ∧ u.cell? ⟨w.heap.size, 3, none⟩ = some (.int .i64 n) ∧ u.cell? ⟨w.heap.size, 4, none⟩ = some (.string s))
          (first | exact HKT.out _ (by first | assumption | exact .drew _ _))
          (first
            | (go_at_call 18; refine (number_law nn _).mono ?_; rintro e w5 ⟨rfl, hb5⟩; have hb5' := below_undrew hb5; have T5 : Turned (fun k => k = rb) W1 w5 := .of_below hb5')
            | (go_at_call 17; refine (HRS.out _ HR1.out _ hb5').mono ?_; rintro e w6 ⟨rfl, A6, cap6, hl6, ht6⟩; have T6 : Turned (fun k => k = rb) W1 w6 := T5.trans ht6))
        go_split_ands
        have HL6 := hide hl6
        have HT6 := hide T6
        clear hl6 ht6 T6 T5 hb5 hb5'
        go_wp2_with fail
        go_ret
        exact ⟨rfl, l', CLOSE.out _ _ _ HB0.out (DPost.mk1 HL1.out HS1.out HR1.out HL6.out HT6.out), HSm.out⟩
      · have hS := Set_any HBO.out.lst (HM.out W (Below.refl _ _)) t n s nn HK.out hs
        have hrs : ∀ W1, RLst B W1 rb A cap (toQ l.items) l.next → ∀ u, Below W1.heap.size W1 u → Calls Tryd.prog 17 #[.pointer (some ⟨rb, 0, none⟩), .agg #[.bool t, .int .i64 n, .string s], .agg #[.int .i64 2, .int .i64 nn, .string ⟨#[]⟩, .slice none 0 0]] u (RPost B u rb (toQ (l.set (normT ⟨t, n, s.data.toList⟩) nn).1.items) (l.set (normT ⟨t, n, s.data.toList⟩) nn).1.next (.int .i64 8)) := fun W1 hr u hu => by
          have := RSet_any (hr.below hu) t n s (numQ nn) HK.out hs
          rw [set_to, hf] at this
          exact this
        rw [hf, show fullN true = 8 from rfl] at hS
        have HSm := hide (small_set HSM.out (k := normT ⟨t, n, s.data.toList⟩) nn HNL.out)
        obtain ⟨l', hl'⟩ : ∃ l', (l.set (normT ⟨t, n, s.data.toList⟩) nn).1 = l' := ⟨_, rfl⟩
        rw [hl'] at hS hrs HSm
        have HS := hide hS
        have HRS := hide hrs
        clear hS hrs hf hl'
        go_upto_region 4 with (first | (go_at_call 12; refine (unhide HS).mono ?_; rintro e W1 ⟨mb1, iv1, lent1, rfl, hl1, hs1⟩))
        have ka1 := hs1.blk HBO.out.lst HKA.out (by decide) (by decide)
        have hr1 := HBO.out.refOf hs1
        have hne : w.heap.size ≠ rb := fun e => absurd (e ▸ ka1 : Blk W1 rb _ _) (fun h => absurd (h.inj hr1.blk) (by decide))
        have HR1 := hide hr1
        have HL1 := hide hl1
        have HS1 := hide hs1
        have HKT : Hid (∀ u, Turned (fun k => k = rb) W1 u → (Turned (fun k => k = rb) W1 u ∧ u.cell? ⟨w.heap.size, 1, none⟩ = some (.int .i64 nn) ∧ u.cell? ⟨w.heap.size, 2, none⟩ = some (.bool t) ∧ u.cell? ⟨w.heap.size, 3, none⟩ = some (.int .i64 n) ∧ u.cell? ⟨w.heap.size, 4, none⟩ = some (.string s))) := fun u hu => by
          have kb := (hu.blk ka1 hne).five
          exact ⟨hu, kb.2.1, kb.2.2.1, kb.2.2.2.1, kb.2.2.2.2.1⟩
        obtain ⟨a0, a1, a2, a3, a4, -⟩ := ka1.five
        clear hl1 hs1 ka1 hr1 HS hne
        go_region_held3 (fun u => Turned (fun k => k = rb) W1 u ∧ u.cell? ⟨w.heap.size, 1, none⟩ = some (.int .i64 nn) ∧ u.cell? ⟨w.heap.size, 2, none⟩ = some (.bool t) ∧ u.cell? ⟨w.heap.size, 3, none⟩ = some (.int .i64 n) ∧ u.cell? ⟨w.heap.size, 4, none⟩ = some (.string s))
          (first | exact HKT.out _ (by first | assumption | exact .drew _ _))
          (first
            | (go_at_call 18; refine (number_law nn _).mono ?_; rintro e w5 ⟨rfl, hb5⟩; have hb5' := below_undrew hb5; have T5 : Turned (fun k => k = rb) W1 w5 := .of_below hb5')
            | (go_at_call 17; refine (HRS.out _ HR1.out _ hb5').mono ?_; rintro e w6 ⟨rfl, A6, cap6, hl6, ht6⟩; have T6 : Turned (fun k => k = rb) W1 w6 := T5.trans ht6))
        go_split_ands
        have HL6 := hide hl6
        have HT6 := hide T6
        clear hl6 ht6 T6 T5 hb5 hb5'
        go_wp2_with fail
        go_ret
        exact ⟨rfl, l', CLOSE.out _ _ _ HB0.out (DPost.mk1 HL1.out HS1.out HR1.out HL6.out HT6.out), HSm.out⟩

  by_cases c2 : c = 2
  · as_aux_lemma =>
      subst c2
      obtain ⟨l', hl'⟩ : ∃ l', (l.del (normT ⟨t, n, s.data.toList⟩)).1 = l' := ⟨_, rfl⟩
      obtain ⟨db, hdb⟩ : ∃ db, (l.del (normT ⟨t, n, s.data.toList⟩)).2 = db := ⟨_, rfl⟩
      have HSm : Hid (Small l') := by rw [← hl']; exact small_del HSM.out HBO.out.lst.good _
      have HD : Hid (∀ u, Lst B u lb mb iv lent l → Met u → Calls Tryd.prog 20 #[.pointer (some ⟨lb, 0, none⟩), .agg #[.bool t, .int .i64 n, .string s]] u (LPost B u lb mb iv lent l' (.bool db))) := fun u hl hm => by
        have := Del_any hl hm t n s HK.out hs
        rw [hl', hdb] at this
        exact this
      have HRD : Hid (∀ u, RLst B u rb A cap (toQ l.items) l.next → Calls Tryd.prog 21 #[.pointer (some ⟨rb, 0, none⟩), .agg #[.bool t, .int .i64 n, .string s]] u (RPost B u rb (toQ l'.items) l'.next (.bool db))) := fun u hr => by
        have := RDel_any hr t n s HK.out hs
        rw [(del_to l HBO.out.lst.good.nodup _).1, hl', hdb, ← (del_to l HBO.out.lst.good.nodup (normT ⟨t, n, s.data.toList⟩)).2, hl'] at this
        exact this
      have hbd : Both B W.drew lb mb iv lent rb A cap l := ⟨HBO.out.lst.same (fun _ _ => rfl), HBO.out.ref.drew⟩
      have hne : w.heap.size ≠ rb := fun e => absurd (e ▸ HKA.out : Blk W rb _ _) (fun h => absurd (h.inj HBO.out.ref.blk) (by decide))
      have hmd : ∀ u, Below B W.drew u → Met u := fun u hu => HM.out u ⟨hu.os, hu.tape, hu.output, hu.size, hu.block⟩
      have HBD := hide hbd
      have HNE := hide hne
      have HMD := hide hmd
      have HKS : Hid (∀ u, Blk u w.heap.size #[.int .i64 kd, .int .i64 nn, .bool t, .int .i64 n, .string s] 32 → (u.cell? ⟨w.heap.size, 2, none⟩ = some (.bool t) ∧ u.cell? ⟨w.heap.size, 3, none⟩ = some (.int .i64 n) ∧ u.cell? ⟨w.heap.size, 4, none⟩ = some (.string s))) := fun u hu => ⟨hu.five.2.2.1, hu.five.2.2.2.1, hu.five.2.2.2.2.1⟩
      clear hl' hdb hbd hne hmd
      go_upto_region 10 with fail
      go_region_held3 (fun u => u.cell? ⟨w.heap.size, 2, none⟩ = some (.bool t) ∧ u.cell? ⟨w.heap.size, 3, none⟩ = some (.int .i64 n) ∧ u.cell? ⟨w.heap.size, 4, none⟩ = some (.string s))
        (first | exact HKS.out _ HKA.out.drew | exact HKS.out _ ka2 | exact HKS.out _ ka1)
        (first
          | (go_at_call 20; refine (HD.out _ HBD.out.lst (HMD.out _ (Below.refl _ _))).mono ?_; rintro e W1 ⟨mb1, iv1, lent1, rfl, hl1, hs1⟩; have ka1 := hs1.blk HBD.out.lst HKA.out.drew (by decide) (by decide); have hr1 := HBD.out.refOf hs1)
          | (go_at_call 20; refine (HD.out _ hl1 hm1).mono ?_; rintro e W2 ⟨mb2, iv2, lent2, rfl, hl2, hs2⟩; have ka2 := hs2.blk hl1 ka1 (by decide) (by decide); have DP := DPost.mk2 hl1 hl2 hs2 hr1 ht1)
          | (go_at_call 21; refine (HRD.out _ HBD.out.ref).mono ?_; rintro e W1 ⟨rfl, A1, cap1, hr1, ht1⟩; have ka1 := ht1.blk HKA.out.drew HNE.out; have hl1 := lstOf HBD.out.lst HBD.out.ref ht1; have hm1 := HMD.out _ (ht1.below (Nat.le_trans HBL.out (by have := HB0.out.size; exact this)) (fun k hk => by have hk' : k = rb := hk; rw [hk']; exact HBD.out.ref.hrb)))
          | (go_at_call 21; refine (HRD.out _ hr1).mono ?_; rintro e W2 ⟨rfl, A2, cap2, hr2, ht2⟩; have ka2 := ht2.blk ka1 HNE.out; have DP := DPost.mk1 hl1 hs1 hr1 hr2 ht2))
      all_goals
        have HDP := hide DP
        clear DP
        go_split_ands
        go_wp2_with fail
        go_ret
        exact ⟨rfl, l', CLOSE.out _ _ _ HB0.out.drew HDP.out, HSm.out⟩
  by_cases c1 : c = 1
  · as_aux_lemma =>
      subst c1
      have hkok : Kok (l.append nn).2.1 := by
        have g1 := HBO.out.lst.good.lo
        have g2 := HBO.out.lst.good.hi
        unfold most at g2
        unfold Ls.append
        split
        · exact ⟨by simp only; omega, by simp only; omega, by simp⟩
        · simp only
          split
          · exact ⟨by simp only; omega, by simp only; omega, by simp⟩
          · exact ⟨by simp only; omega, by simp only; omega, by simp⟩
      cases hf : (l.append nn).2.2
      · have hA := Append_any HBO.out.lst nn
        have hra : ∀ u, RLst B u rb A cap (toQ l.items) l.next → Calls Tryd.prog 19 #[.pointer (some ⟨rb, 0, none⟩), .agg #[.int .i64 2, .int .i64 nn, .string ⟨#[]⟩, .slice none 0 0]] u (RPost B u rb (toQ (l.append nn).1.items) (l.append nn).1.next (.tuple #[kv (l.append nn).2.1, .int .i64 0])) := fun u hr => by
          have := RApp_any hr (numQ nn)
          rw [app_to, hf] at this
          exact this
        rw [hf, show fullN false = 0 from rfl] at hA
        have HSm := hide (small_app HSM.out nn)
        obtain ⟨l', hl'⟩ : ∃ l', (l.append nn).1 = l' := ⟨_, rfl⟩
        obtain ⟨⟨tk, nk, sk⟩, hkk⟩ : ∃ kk, (l.append nn).2.1 = kk := ⟨_, rfl⟩
        rw [hl'] at hA hra HSm
        rw [hkk] at hA hra hkok
        obtain ⟨sb, hsb⟩ : ∃ sb : ByteArray, (⟨sk.toArray⟩ : ByteArray) = sb := ⟨_, rfl⟩
        have hsk : sk = sb.data.toList := by rw [← hsb]
        subst hsk
        have heq := fun W => key_equal W ⟨tk, nk, sb.data.toList⟩ ⟨tk, nk, sb.data.toList⟩ hkok hkok
        rw [kv_of] at hA hra heq
        simp only [decide_true] at heq
        have HA := hide hA
        have HRA := hide hra
        clear hA hra hf hl' hkk hsb hkok
        go_upto_region 7 with (first | (go_at_call 13; refine (unhide HA).mono ?_; rintro e W1 ⟨mb1, iv1, lent1, rfl, hl1, hs1⟩))
        have ka1 := (hs1.blk HBO.out.lst HKA.out (by decide) (by decide)).alloc (.cells #[.bool tk, .int .i64 nk, .string sb] 30)
        have hr1 := (HBO.out.refOf hs1).below (below_box W1 (.cells #[.bool tk, .int .i64 nk, .string sb] 30))
        have hl1' := hl1.alloc (.cells #[.bool tk, .int .i64 nk, .string sb] 30)
        have hs1' : Stepped W (W1.alloc (.cells #[.bool tk, .int .i64 nk, .string sb] 30)) lb mb iv lent mb1 iv1 lent1 := ⟨hs1.turned.trans (.alloc _ _ _), hs1.own, hs1.fp⟩
        have k8 := Blk.new W1 #[.bool tk, .int .i64 nk, .string sb] 30
        obtain ⟨b8, hb8⟩ : ∃ b8, W1.heap.size = b8 := ⟨_, rfl⟩
        obtain ⟨W2, hW2⟩ : ∃ W2, W1.alloc (.cells #[.bool tk, .int .i64 nk, .string sb] 30) = W2 := ⟨_, rfl⟩
        rw [hb8] at k8 ⊢
        rw [hW2] at ka1 hr1 hl1' hs1' k8 ⊢
        have n8 : b8 ≠ rb := fun e => absurd (e ▸ k8 : Blk W2 rb _ _) (fun h => absurd (h.inj hr1.blk) (by decide))
        obtain ⟨a0, a1, a2, a3, a4, -⟩ := ka1.five
        have HR1 := hide hr1
        have HL1 := hide hl1'
        have HS1 := hide hs1'
        have HK8 := hide k8
        have HN8 := hide n8
        clear ka1 hr1 hl1' hs1' k8 n8 hl1 hs1 hb8 hW2
        go_upto_region 8 with (first
          | (go_at_call 18; refine (number_law nn _).mono ?_; rintro e W3 ⟨rfl, hb3⟩; have hr3 := HR1.out.below hb3; have k83 := HK8.out.below hb3 HK8.out.lt)
          | (go_at_call 19; refine (HRA.out _ hr3).mono ?_; rintro e W4 ⟨rfl, A4, cap4, hr4, ht4⟩))
        have k84 := (ht4.blk k83 HN8.out).alloc (.cells #[.bool tk, .int .i64 nk, .string sb] 30)
        have k10 := Blk.new W4 #[.bool tk, .int .i64 nk, .string sb] 30
        have hr5 := hr4.below (below_box W4 (.cells #[.bool tk, .int .i64 nk, .string sb] 30))
        have ht5 := ((Turned.of_below (S := fun k => k = rb) hb3).trans ht4).trans (.alloc _ W4 (.cells #[.bool tk, .int .i64 nk, .string sb] 30))
        obtain ⟨W5, hW5⟩ : ∃ W5, W4.alloc (.cells #[.bool tk, .int .i64 nk, .string sb] 30) = W5 := ⟨_, rfl⟩
        rw [hW5] at k84 k10 hr5 ht5 ⊢
        have HDP := hide (DPost.mk1 HL1.out HS1.out HR1.out hr5 ht5)
        obtain ⟨d0, d1, d2, -⟩ := k84.three
        obtain ⟨e0, e1, e2, -⟩ := k10.three
        clear hb3 hr3 k83 hr4 ht4 k84 k10 hr5 ht5 hW5
        go_wp2_with fail
        go_ret
        exact ⟨rfl, l', CLOSE.out _ _ _ HB0.out HDP.out, HSm.out⟩
      · have hA := Append_any HBO.out.lst nn
        have hra : ∀ u, RLst B u rb A cap (toQ l.items) l.next → Calls Tryd.prog 19 #[.pointer (some ⟨rb, 0, none⟩), .agg #[.int .i64 2, .int .i64 nn, .string ⟨#[]⟩, .slice none 0 0]] u (RPost B u rb (toQ (l.append nn).1.items) (l.append nn).1.next (.tuple #[kv (l.append nn).2.1, .int .i64 8])) := fun u hr => by
          have := RApp_any hr (numQ nn)
          rw [app_to, hf] at this
          exact this
        rw [hf, show fullN true = 8 from rfl] at hA
        have HSm := hide (small_app HSM.out nn)
        obtain ⟨l', hl'⟩ : ∃ l', (l.append nn).1 = l' := ⟨_, rfl⟩
        obtain ⟨⟨tk, nk, sk⟩, hkk⟩ : ∃ kk, (l.append nn).2.1 = kk := ⟨_, rfl⟩
        rw [hl'] at hA hra HSm
        rw [hkk] at hA hra hkok
        obtain ⟨sb, hsb⟩ : ∃ sb : ByteArray, (⟨sk.toArray⟩ : ByteArray) = sb := ⟨_, rfl⟩
        have hsk : sk = sb.data.toList := by rw [← hsb]
        subst hsk
        have heq := fun W => key_equal W ⟨tk, nk, sb.data.toList⟩ ⟨tk, nk, sb.data.toList⟩ hkok hkok
        rw [kv_of] at hA hra heq
        simp only [decide_true] at heq
        have HA := hide hA
        have HRA := hide hra
        clear hA hra hf hl' hkk hsb hkok
        go_upto_region 7 with (first | (go_at_call 13; refine (unhide HA).mono ?_; rintro e W1 ⟨mb1, iv1, lent1, rfl, hl1, hs1⟩))
        have ka1 := (hs1.blk HBO.out.lst HKA.out (by decide) (by decide)).alloc (.cells #[.bool tk, .int .i64 nk, .string sb] 30)
        have hr1 := (HBO.out.refOf hs1).below (below_box W1 (.cells #[.bool tk, .int .i64 nk, .string sb] 30))
        have hl1' := hl1.alloc (.cells #[.bool tk, .int .i64 nk, .string sb] 30)
        have hs1' : Stepped W (W1.alloc (.cells #[.bool tk, .int .i64 nk, .string sb] 30)) lb mb iv lent mb1 iv1 lent1 := ⟨hs1.turned.trans (.alloc _ _ _), hs1.own, hs1.fp⟩
        have k8 := Blk.new W1 #[.bool tk, .int .i64 nk, .string sb] 30
        obtain ⟨b8, hb8⟩ : ∃ b8, W1.heap.size = b8 := ⟨_, rfl⟩
        obtain ⟨W2, hW2⟩ : ∃ W2, W1.alloc (.cells #[.bool tk, .int .i64 nk, .string sb] 30) = W2 := ⟨_, rfl⟩
        rw [hb8] at k8 ⊢
        rw [hW2] at ka1 hr1 hl1' hs1' k8 ⊢
        have n8 : b8 ≠ rb := fun e => absurd (e ▸ k8 : Blk W2 rb _ _) (fun h => absurd (h.inj hr1.blk) (by decide))
        obtain ⟨a0, a1, a2, a3, a4, -⟩ := ka1.five
        have HR1 := hide hr1
        have HL1 := hide hl1'
        have HS1 := hide hs1'
        have HK8 := hide k8
        have HN8 := hide n8
        clear ka1 hr1 hl1' hs1' k8 n8 hl1 hs1 hb8 hW2
        go_upto_region 8 with (first
          | (go_at_call 18; refine (number_law nn _).mono ?_; rintro e W3 ⟨rfl, hb3⟩; have hr3 := HR1.out.below hb3; have k83 := HK8.out.below hb3 HK8.out.lt)
          | (go_at_call 19; refine (HRA.out _ hr3).mono ?_; rintro e W4 ⟨rfl, A4, cap4, hr4, ht4⟩))
        have k84 := (ht4.blk k83 HN8.out).alloc (.cells #[.bool tk, .int .i64 nk, .string sb] 30)
        have k10 := Blk.new W4 #[.bool tk, .int .i64 nk, .string sb] 30
        have hr5 := hr4.below (below_box W4 (.cells #[.bool tk, .int .i64 nk, .string sb] 30))
        have ht5 := ((Turned.of_below (S := fun k => k = rb) hb3).trans ht4).trans (.alloc _ W4 (.cells #[.bool tk, .int .i64 nk, .string sb] 30))
        obtain ⟨W5, hW5⟩ : ∃ W5, W4.alloc (.cells #[.bool tk, .int .i64 nk, .string sb] 30) = W5 := ⟨_, rfl⟩
        rw [hW5] at k84 k10 hr5 ht5 ⊢
        have HDP := hide (DPost.mk1 HL1.out HS1.out HR1.out hr5 ht5)
        obtain ⟨d0, d1, d2, -⟩ := k84.three
        obtain ⟨e0, e1, e2, -⟩ := k10.three
        clear hb3 hr3 k83 hr4 ht4 k84 k10 hr5 ht5 hW5
        go_wp2_with fail
        go_ret
        exact ⟨rfl, l', CLOSE.out _ _ _ HB0.out HDP.out, HSm.out⟩

  · as_aux_lemma =>
      have q0 : (c == 0) = false := by simpa using c0
      have q1 : (c == 1) = false := by simpa using c1
      have q2 : (c == 2) = false := by simpa using c2
      have hG := Get_any HBO.out.lst (HM.out W (Below.refl _ _)) t n s HK.out hs
      have hRG : ∀ u, RLst B u rb A cap (toQ l.items) l.next → _ := fun u hr => RGet_any hr t n s HK.out hs
      obtain ⟨⟨gv, gb⟩, hg⟩ : ∃ g, getN l.items (normT ⟨t, n, s.data.toList⟩) = g := ⟨_, rfl⟩
      obtain ⟨hq1, hq2⟩ := get_to l.items (normT ⟨t, n, s.data.toList⟩)
      obtain ⟨⟨⟨qk, qn, qs, qA, ql, qc⟩, qb⟩, hq⟩ : ∃ q, getQ (toQ l.items) (normT ⟨t, n, s.data.toList⟩) = q := ⟨_, rfl⟩
      rw [hg] at hG hq1 hq2
      rw [hq] at hq1 hq2
      simp only [hq] at hRG
      simp only at hq1 hq2
      subst hq1 hq2
      unfold qval at hRG
      simp only [Q.iv] at hRG
      have HG := hide hG
      have HRG := hide hRG
      clear hG hRG hg hq c0 c1 c2
      go_upto_region 12 with (first | (go_at_call 14; refine (unhide HG).mono ?_; rintro e W1 ⟨rfl, hb1⟩))
      have ka1 := HKA.out.below hb1 HKA.out.lt
      have hr1 := HBO.out.ref.below hb1
      obtain ⟨a0, a1, a2, a3, a4, -⟩ := ka1.five
      have HR1 := hide hr1
      have HB1 := hide hb1
      clear hr1 hb1 ka1
      go_upto_region 13 with (first | (go_at_call 22; refine (HRG.out _ HR1.out).mono ?_; rintro e W2 ⟨rfl, hb2⟩))
      have k3 := Blk.new W2 #[.int .i64 qk, .int .i64 qn, .string qs, .slice qA ql qc] 43
      have hb3 := (HB1.out.trans (hb2.mono HB1.out.size)).alloc (by have := HB1.out.size; have := hb2.size; omega) (.cells #[.int .i64 qk, .int .i64 qn, .string qs, .slice qA ql qc] 43)
      obtain ⟨W3, hW3⟩ : ∃ W3, W2.alloc (.cells #[.int .i64 qk, .int .i64 qn, .string qs, .slice qA ql qc] 43) = W3 := ⟨_, rfl⟩
      rw [hW3] at k3 hb3 ⊢
      have v1 : W3.cell? ⟨W2.heap.size, 1, none⟩ = some (.int .i64 qn) := k3.cell 1
      have HB3 := hide hb3
      clear k3 hb3 hb2 hW3
      go_wp2_with fail
      go_ret
      have hbo := HBO.out.below HB3.out
      exact ⟨rfl, l, CLOSE.out _ _ _ HB0.out ⟨mb, iv, lent, A, cap, hbo, .of_below HB3.out, fun k hk => .inl hk, fun k hk => .inl hk⟩, HSM.out⟩
end Go.Proofs.YtmfnonepcipplaaDoor
