/-
  The walk of the law CutJoins.
-/
import Derived.Test.YtbeglmolgloepaaDoorJoinE
import Derived.Test.YtbeglmolgloepaaDoorCuts
import Derived.Laws.Concat
import Derived.Deep.QuietTactic
import Derived.IntWalk
namespace Go.Proofs.YtbeglmolgloepaaDoor
open Go Go.RowKit Cutting

def xB : ByteArray := ⟨#[120]⟩
def midBs : ByteArray := ⟨#[120, 63, 62, 60, 63, 61, 49, 63, 62]⟩
theorem bytes_x (a x : ByteArray) (h : a ++ xB = x) : x.data.toList = a.data.toList ++ [120] := by
  rw [← h, ByteArray.data_append, Array.toList_append]
  rfl
theorem bytes_s (a b t s : ByteArray) (h : a ++ midBs = t) (h2 : t ++ b = s) : s.data.toList = a.data.toList ++ 120 :: midB b.data.toList := by
  rw [← h2, ← h, ByteArray.data_append, ByteArray.data_append, Array.toList_append, Array.toList_append, List.append_assoc]
  rfl

theorem within_ats (s : List UInt8) : ∀ (l : List Pc) (a : Nat) (h : Bool), Within s a h l → ∀ p ∈ l, p.at_ ≤ s.length := by
  intro l
  induction l with
  | nil => intro a h _ p hp; cases hp
  | cons q l ih =>
    intro a h hw p hp
    obtain ⟨_, h2, _, _, h5⟩ := hw
    rcases List.mem_cons.1 hp with rfl | hp
    · omega
    · exact ih _ _ h5 p hp
theorem pieces_at (s : List UInt8) : ∀ p ∈ pieces s, p.at_ ≤ s.length := within_ats _ _ _ _ (within_all s)

set_option maxHeartbeats 4000000 in
theorem CutJoins_any (a b : ByteArray) (w : World) (ha : a.size ≤ 140737488351232) (hb : b.size ≤ 140737488351232) (hm : HasMax w) (hF : FoldTab w) :
    Calls Tryd.prog 7 #[.string a, .string b] w fun e w' => e = .returned (.bool true) ∧ Below w.heap.size w w' := by
  obtain ⟨x, hx⟩ : ∃ x, a ++ xB = x := ⟨_, rfl⟩
  obtain ⟨t, ht⟩ : ∃ t, a ++ midBs = t := ⟨_, rfl⟩
  obtain ⟨s, hs⟩ : ∃ s, t ++ b = s := ⟨_, rfl⟩
  have bx := Lib.hid (bytes_x a x hx)
  have bs := Lib.hid (bytes_s a b t s ht hs)
  have sx : x.size = a.size + 1 := by rw [← hx, ByteArray.size_append']; rfl
  have st : t.size = a.size + 9 := by rw [← ht, ByteArray.size_append']; rfl
  have ss : s.size = a.size + 9 + b.size := by rw [← hs, ByteArray.size_append', st]
  have add1 : ∀ W, (Op.stringOp .add a ⟨#[120]⟩).run Tryd.prog W = .ok (.string x) W := fun W => by
    have h := run_string_add_sum (P := Tryd.prog) (w := W) a xB (by show a.size + 1 ≤ _; omega)
    rw [hx] at h
    exact h
  have add2 : ∀ W, (Op.stringOp .add a ⟨#[120, 63, 62, 60, 63, 61, 49, 63, 62]⟩).run Tryd.prog W = .ok (.string t) W := fun W => by
    have h := run_string_add_sum (P := Tryd.prog) (w := W) a midBs (by show a.size + 9 ≤ _; omega)
    rw [ht] at h
    exact h
  have add3 : ∀ W, (Op.stringOp .add t b).run Tryd.prog W = .ok (.string s) W := fun W => by
    have h := run_string_add_sum (P := Tryd.prog) (w := W) t b (by omega)
    rw [hs] at h
    exact h
  have HSx := Lib.hid sx
  have HSs := Lib.hid ss
  clear hx ht hs sx st ss
  by_cases hS : 65536 < s.size
  · by_cases hX : 65536 < x.size
    · by_cases hB : 65536 < b.size
      · go_enter Tryd.func7, Tryd.ntmps7
        go_wp2_with fail
        refine (Cut_long x _ (by omega)).mono ?_
        rintro e w' ⟨rfl, rfl⟩
        go_wp2_with fail
        refine (Cut_long b _ (by omega)).mono ?_
        rintro e w' ⟨rfl, rfl⟩
        go_wp2_with fail
        refine (Cut_long s _ (by omega)).mono ?_
        rintro e w' ⟨rfl, rfl⟩
        go_wp2_with fail
        refine (alive_any _ hm hF).mono ?_
        rintro e w9 ⟨rfl, hb9⟩
        go_wp2_with fail
        go_ret
        exact ⟨rfl, hb9⟩
      · go_enter Tryd.func7, Tryd.ntmps7
        go_wp2_with fail
        refine (Cut_long x _ (by omega)).mono ?_
        rintro e w' ⟨rfl, rfl⟩
        go_wp2_with fail
        refine (Cut_any b _ (by omega) hm hF).mono ?_
        rintro e w2 ⟨v2, rfl, hst2⟩
        have hc2 := hst2.below
        clear hst2
        go_wp2_with fail
        refine (Cut_long s _ (by omega)).mono ?_
        rintro e w' ⟨rfl, rfl⟩
        go_wp2_with fail
        refine (alive_any _ (hm.below hc2 hm.lt) (hF.below hc2 hF.lt)).mono ?_
        rintro e w9 ⟨rfl, hb9⟩
        go_wp2_with fail
        go_ret
        exact ⟨rfl, hc2.trans (hb9.mono hc2.size)⟩
    · by_cases hB : 65536 < b.size
      · go_enter Tryd.func7, Tryd.ntmps7
        go_wp2_with fail
        refine (Cut_any x _ (by omega) hm hF).mono ?_
        rintro e w1 ⟨v1, rfl, hst1⟩
        have hc1 := hst1.below
        clear hst1
        go_wp2_with fail
        refine (Cut_long b _ (by omega)).mono ?_
        rintro e w' ⟨rfl, rfl⟩
        go_wp2_with fail
        refine (Cut_long s _ (by omega)).mono ?_
        rintro e w' ⟨rfl, rfl⟩
        go_wp2_with fail
        refine (alive_any _ (hm.below hc1 hm.lt) (hF.below hc1 hF.lt)).mono ?_
        rintro e w9 ⟨rfl, hb9⟩
        go_wp2_with fail
        go_ret
        exact ⟨rfl, hc1.trans (hb9.mono hc1.size)⟩
      · go_enter Tryd.func7, Tryd.ntmps7
        go_wp2_with fail
        refine (Cut_any x _ (by omega) hm hF).mono ?_
        rintro e w1 ⟨v1, rfl, hst1⟩
        have hc1 := hst1.below
        clear hst1
        go_wp2_with fail
        refine (Cut_any b _ (by omega) (hm.below hc1 hm.lt) (hF.below hc1 hF.lt)).mono ?_
        rintro e w2 ⟨v2, rfl, hst2⟩
        have hc2 := hc1.trans (hst2.below.mono hc1.size)
        clear hst2
        go_wp2_with fail
        refine (Cut_long s _ (by omega)).mono ?_
        rintro e w' ⟨rfl, rfl⟩
        go_wp2_with fail
        refine (alive_any _ (hm.below hc2 hm.lt) (hF.below hc2 hF.lt)).mono ?_
        rintro e w9 ⟨rfl, hb9⟩
        go_wp2_with fail
        go_ret
        exact ⟨rfl, hc2.trans (hb9.mono hc2.size)⟩
  · have hxs : x.size ≤ 65536 := by have := HSx.out; have := HSs.out; omega
    have hbs : b.size ≤ 65536 := by have := HSs.out; omega
    obtain ⟨l, hl⟩ : ∃ l, l = pieces x.data.toList := ⟨_, rfl⟩
    obtain ⟨m, hmm⟩ : ∃ m, m = pieces b.data.toList := ⟨_, rfl⟩
    obtain ⟨k, hk⟩ : ∃ k, k = pieces s.data.toList := ⟨_, rfl⟩
    obtain ⟨L, hL⟩ : ∃ L, l.length = L + 1 := ⟨l.length - 1, by rw [hl, bx.out]; have := pieces_pos a.data.toList; omega⟩
    have hll : l.length ≤ x.size := by
      have h1 := piecesN_length _ 0 x.data.toList (Nat.le_refl _)
      rw [← pieces_eq, ← hl, ← Lib.size_eq] at h1
      exact h1
    have hml : m.length ≤ b.size := by
      have h1 := piecesN_length _ 0 b.data.toList (Nat.le_refl _)
      rw [← pieces_eq, ← hmm, ← Lib.size_eq] at h1
      exact h1
    have hkl : k.length ≤ s.size := by
      have h1 := piecesN_length _ 0 s.data.toList (Nat.le_refl _)
      rw [← pieces_eq, ← hk, ← Lib.size_eq] at h1
      exact h1
    have hLl : L < l.length := by omega
    have hjoin : Hid (l[L].kind = 1 → Lib.hasPrefix b.data.toList [10] = false → Lib.hasPrefix b.data.toList [13] = false → Joined (L + 1) m.length a.size m k) := by
      intro h1 h2 h3
      have hL' : L + 1 = (pieces (a.data.toList ++ [120])).length := by rw [← bx.out, ← hl, hL]
      have hgl : l[L] = (pieces (a.data.toList ++ [120]))[L] := by simp only [hl, bx.out]
      have := joins_pieces a.data.toList b.data.toList h2 h3 L hL' (by rw [← hgl]; exact h1)
      rw [← bs.out, ← hk, ← hmm, ← Lib.size_eq] at this
      exact this
    have HL := Lib.hid hl
    have HMM := Lib.hid hmm
    have HK := Lib.hid hk
    clear hl hmm hk
    go_enter Tryd.func7, Tryd.ntmps7
    go_wp2_with fail
    refine (Cut_any x _ hxs hm hF).mono ?_
    rintro e w1 ⟨v1, rfl, hst1⟩
    rw [← HL.out] at hst1
    have hc1 := hst1.below
    go_wp2_with fail
    refine (Cut_any b _ hbs (hm.below hc1 hm.lt) (hF.below hc1 hF.lt)).mono ?_
    rintro e w2 ⟨v2, rfl, hst2⟩
    rw [← HMM.out] at hst2
    have hc2 := hc1.trans (hst2.below.mono hc1.size)
    go_wp2_with fail
    refine (Cut_any s _ (by omega) (hm.below hc2 hm.lt) (hF.below hc2 hF.lt)).mono ?_
    rintro e w3 ⟨v3, rfl, hst3⟩
    rw [← HK.out] at hst3
    have hc3 := hc2.trans (hst3.below.mono hc2.size)
    have r1 := (hst1.rd.below hst2.below).below hst3.below
    have r2 := hst2.rd.below hst3.below
    have r3 := hst3.rd
    have HC := Lib.hid hc3
    clear hst1 hst2 hst3 hc1 hc2 hc3
    obtain ⟨A1, cap1, hv1, hcp1, hA1, ho1⟩ := r1.form
    obtain ⟨A2, cap2, hv2, hcp2, hA2, ho2⟩ := r2.form
    obtain ⟨A3, cap3, hv3, hcp3, hA3, ho3⟩ := r3.form
    obtain ⟨g1, rfl, hg1⟩ := hA1 (by omega)
    obtain ⟨P, hP⟩ : ∃ P, P = l.length := ⟨_, rfl⟩
    obtain ⟨M, hM⟩ : ∃ M, M = m.length := ⟨_, rfl⟩
    obtain ⟨N, hN⟩ : ∃ N, N = k.length := ⟨_, rfl⟩
    have q1 := r1.cells g1 cap1 hv1 L hLl
    obtain ⟨q10, q11, q12⟩ := q1
    rw [← hP] at hv1
    rw [← hM] at hv2
    rw [← hN] at hv3
    have R2 := Lib.hid r2
    have R3 := Lib.hid r3
    have HV2 := Lib.hid hv2
    have HV3 := Lib.hid hv3
    have HA2 := Lib.hid hA2
    have HA3 := Lib.hid hA3
    have HP := Lib.hid (hP.trans hL)
    have HM := Lib.hid hM
    have HN := Lib.hid hN
    have hLP : L < P := by omega
    have hPs : P ≤ 65536 := by omega
    have hMs : M ≤ 65536 := by omega
    have hNs : N ≤ 65536 := by omega
    obtain ⟨K1, hK1⟩ : ∃ K1, K1 = l[L].kind := ⟨_, rfl⟩
    rw [← hK1] at q10 hjoin
    have hsub : IntKind.i64.wrap ((P : Int) - 1) = (L : Int) := by rw [IntWalk.i64_in _ (by omega)]; omega
    have hPz : ((P : Int) == 0) = false := by rw [beq_eq_false_iff_ne]; omega
    have HJ : Hid (K1 = 1 → Lib.hasPrefix b.data.toList [10] = false → Lib.hasPrefix b.data.toList [13] = false → Joined P M a.size m k) := by
      rw [HP.out, hM]; exact hjoin.out
    clear ho1 ho2 ho3 hg1 hL hP hM hN hK1 r1 r2 r3 hcp1 hcp2 hcp3 hA1 hA2 hA3 q11 q12 hjoin hll hml hkl
    rw [hv1, hv2, hv3]
    clear hv1 hv2 hv3
    by_cases hk1 : K1 = 1
    · subst hk1
      rcases Nat.eq_zero_or_pos b.size with h0 | h0
      · have hb10 : Hid (Lib.hasPrefix b.data.toList [10] = false) := by show _ = _; rw [nil_of b h0]; rfl
        have hb13 : Hid (Lib.hasPrefix b.data.toList [13] = false) := by show _ = _; rw [nil_of b h0]; rfl
        have hn' : b.toList = [] := by rw [Lib.toList_data]; exact nil_of b h0
        have HJJ := Lib.hid (HJ.out rfl hb10.out hb13.out)
        have hNe : N = P + 1 + M := by rw [HN.out, HJJ.out.len, HM.out]
        obtain ⟨g3, rfl, hg3⟩ := HA3.out (by have := HN.out; omega)
        have hPN : P < k.length := by have := HN.out; omega
        have hkP : k[P] = ⟨3, [49], a.size + 6⟩ := by have := HJJ.out.mid; rw [List.getElem?_eq_getElem hPN] at this; injection this
        obtain ⟨d0, d1, d2⟩ := R3.out.cells g3 cap3 (by rw [← HN.out]; exact HV3.out) P hPN
        rw [hkP] at d0 d1 d2
        have d2' : w3.cell? ⟨g3, P * 3 + 2, none⟩ = some (.int .i64 ((a.size : Int) + 6)) := d2
        have d1' : w3.cell? ⟨g3, P * 3 + 1, none⟩ = some (.string ⟨#[49]⟩) := d1
        have d0' : w3.cell? ⟨g3, P * 3, none⟩ = some (.int .i64 3) := d0
        clear d0 d1 d2 hkP
        have s1 : IntKind.i64.wrap ((P : Int) + 1) = (P : Int) + 1 := IntWalk.i64_in _ (by omega)
        have s2 : IntKind.i64.wrap ((P : Int) + 1 + (M : Int)) = (P : Int) + 1 + (M : Int) := IntWalk.i64_in _ (by omega)
        have s3 : IntKind.i64.wrap ((a.size : Int) + 6) = (a.size : Int) + 6 := IntWalk.i64_in _ (by omega)
        have s4 : (N : Int) = (P : Int) + 1 + (M : Int) := by omega
        have hPN' : P < N := by omega
        have HNe := Lib.hid hNe
        have HPN := Lib.hid hPN
        clear hNe hPN
        go_wp2_with fail
        clear s4 s3 s2 d0' d1' d2' q10 hsub hPz HJ
        go_loopw [95] (fun z wr => ∃ i : Nat, z = .int .i64 i ∧ i ≤ M ∧ Hid (Below w3.heap.size w3 wr)) (fun z _ => M - (intOf z).toNat)
        case atStart => exact ⟨0, rfl, Nat.zero_le _, Below.refl _ _⟩
        case round =>
          obtain ⟨i, rfl, hiM, hbr⟩ := hrel
          by_cases hlt : i < M
          · have him : i < m.length := by have := HM.out; omega
            obtain ⟨g2, rfl, _⟩ := HA2.out (by omega)
            have hik : P + 1 + i < k.length := by have := HN.out; have := HNe.out; omega
            have hkI : k[P + 1 + i] = ⟨m[i].kind, m[i].text, m[i].at_ + (a.size + 9)⟩ := by have := HJJ.out.rest i him; rw [List.getElem?_eq_getElem hik] at this; injection this
            have e2 := (R2.out.below hbr.out).cells g2 cap2 (by rw [← HM.out]; exact HV2.out) i him
            have e3 := (R3.out.below hbr.out).cells g3 cap3 (by rw [← HN.out]; exact HV3.out) (P + 1 + i) hik
            rw [hkI] at e3
            have hXb : m[i].at_ ≤ b.size := by
              have h7 := pieces_at b.data.toList m[i] (by rw [← HMM.out]; exact List.getElem_mem him)
              rw [← Lib.size_eq] at h7
              exact h7
            obtain ⟨Km, hKm⟩ : ∃ K, K = m[i].kind := ⟨_, rfl⟩
            obtain ⟨Xm, hXm⟩ : ∃ X, X = m[i].at_ := ⟨_, rfl⟩
            obtain ⟨Tm, hTm⟩ : ∃ T, T = (⟨m[i].text.toArray⟩ : ByteArray) := ⟨_, rfl⟩
            simp only [← hKm, ← hXm, ← hTm] at e2 e3 hXb
            obtain ⟨a0, a1, a2⟩ := e2
            obtain ⟨b0, b1, b2⟩ := e3
            have b2' : wr.cell? ⟨g3, (P + 1 + i) * 3 + 2, none⟩ = some (.int .i64 ((Xm : Int) + ((a.size : Int) + 9))) := b2
            have as9 : a.size ≤ 65536 := by have := HSx.out; omega
            have z1 : IntKind.i64.wrap ((a.size : Int) + 9) = (a.size : Int) + 9 := IntWalk.i64_in _ (by omega)
            have z2 : IntKind.i64.wrap ((Xm : Int) + ((a.size : Int) + 9)) = (Xm : Int) + ((a.size : Int) + 9) := IntWalk.i64_in _ (by omega)
            have z3 : IntKind.i64.wrap ((P : Int) + 1 + (i : Int)) = (P : Int) + 1 + (i : Int) := IntWalk.i64_in _ (by omega)
            have z4 : ((P : Int) + 1 + (i : Int)).toNat = P + 1 + i := by omega
            have z5 : (0 : Int) ≤ (P : Int) + 1 + (i : Int) := by omega
            have z6 : (P : Int) + 1 + (i : Int) < (N : Int) := by have := HNe.out; omega
            have hw2 : ∀ W, Below wr.heap.size wr W → Below w3.heap.size w3 W := fun W h => hbr.out.trans (h.mono hbr.out.size)
            have HW := Lib.hid hw2
            clear hw2 b2 hKm hXm hTm hkI
            go_wp2_with fail
            have hbx : Below wr.heap.size wr (wr.alloc (.cells #[.int .i64 Km, .string Tm, .int .i64 ((Xm : Int) + ((a.size : Int) + 9))] 32)) := (Below.refl _ _).alloc (Nat.le_refl _) _
            have hgl : g3 < wr.heap.size := Nat.lt_of_lt_of_le hg3 hbr.out.size
            have f0 : (wr.alloc (.cells #[.int .i64 Km, .string Tm, .int .i64 ((Xm : Int) + ((a.size : Int) + 9))] 32)).cell? ⟨g3, (P + 1 + i) * 3, none⟩ = some (.int .i64 Km) := by rw [hbx.cell (p := ⟨g3, (P + 1 + i) * 3, none⟩) hgl]; exact b0
            have f1 : (wr.alloc (.cells #[.int .i64 Km, .string Tm, .int .i64 ((Xm : Int) + ((a.size : Int) + 9))] 32)).cell? ⟨g3, (P + 1 + i) * 3 + 1, none⟩ = some (.string Tm) := by rw [hbx.cell (p := ⟨g3, (P + 1 + i) * 3 + 1, none⟩) hgl]; exact b1
            have f2 : (wr.alloc (.cells #[.int .i64 Km, .string Tm, .int .i64 ((Xm : Int) + ((a.size : Int) + 9))] 32)).cell? ⟨g3, (P + 1 + i) * 3 + 2, none⟩ = some (.int .i64 ((Xm : Int) + ((a.size : Int) + 9))) := by rw [hbx.cell (p := ⟨g3, (P + 1 + i) * 3 + 2, none⟩) hgl]; exact b2'
            clear a0 a1 a2 z1 z2 b0 b1 b2' hbx hgl
            go_quiet (fail)
            clear f0 f1 f2 s1 z3 z4 z5 z6
            go_wp2_with fail
            go_roundw
            case rel => exact ⟨i + 1, by go_num, by omega, HW.out _ (below_drewN ((Below.refl _ _).alloc (Nat.le_refl _) _) _)⟩
            case measure => simp [intOf]; omega
          · go_wp2_with fail
            have hbw := HC.out.trans (hbr.out.mono HC.out.size)
            refine (alive_any _ (hm.below hbw hm.lt) (hF.below hbw hF.lt)).mono ?_
            rintro e w5 ⟨rfl, hb5⟩
            have hb6 := hbw.trans (hb5.mono hbw.size)
            go_wp2_with fail
            go_ret
            exact ⟨rfl, hb6⟩
      · have he := isEmpty_of b h0
        have hen : b.toList ≠ [] := fun h => by rw [h] at he; cases he
        by_cases h10 : (b[0].toNat : Int) = 10
        · go_wp2_with fail
          refine (alive_any _ (hm.below HC.out hm.lt) (hF.below HC.out hF.lt)).mono ?_
          rintro e w4 ⟨rfl, hb4⟩
          have hb5 := HC.out.trans (hb4.mono HC.out.size)
          go_wp2_with fail
          go_ret
          exact ⟨rfl, hb5⟩
        · by_cases h13 : (b[0].toNat : Int) = 13
          · go_wp2_with fail
            refine (alive_any _ (hm.below HC.out hm.lt) (hF.below HC.out hF.lt)).mono ?_
            rintro e w4 ⟨rfl, hb4⟩
            have hb5 := HC.out.trans (hb4.mono HC.out.size)
            go_wp2_with fail
            go_ret
            exact ⟨rfl, hb5⟩
          · have hd := drop_at b 0 h0
            rw [List.drop_zero] at hd
            have hb10 : Hid (Lib.hasPrefix b.data.toList [10] = false) := by show _ = _; rw [hd]; exact hp_head (fun h => h10 (by rw [h]; rfl))
            have hb13 : Hid (Lib.hasPrefix b.data.toList [13] = false) := by show _ = _; rw [hd]; exact hp_head (fun h => h13 (by rw [h]; rfl))
            have h10b : ((b[0].toNat : Int) == 10) = false := beq_eq_false_iff_ne.2 h10
            have h13b : ((b[0].toNat : Int) == 13) = false := beq_eq_false_iff_ne.2 h13
            clear hd h10 h13
            have HJJ := Lib.hid (HJ.out rfl hb10.out hb13.out)
            have hNe : N = P + 1 + M := by rw [HN.out, HJJ.out.len, HM.out]
            obtain ⟨g3, rfl, hg3⟩ := HA3.out (by have := HN.out; omega)
            have hPN : P < k.length := by have := HN.out; omega
            have hkP : k[P] = ⟨3, [49], a.size + 6⟩ := by have := HJJ.out.mid; rw [List.getElem?_eq_getElem hPN] at this; injection this
            obtain ⟨d0, d1, d2⟩ := R3.out.cells g3 cap3 (by rw [← HN.out]; exact HV3.out) P hPN
            rw [hkP] at d0 d1 d2
            have d2' : w3.cell? ⟨g3, P * 3 + 2, none⟩ = some (.int .i64 ((a.size : Int) + 6)) := d2
            have d1' : w3.cell? ⟨g3, P * 3 + 1, none⟩ = some (.string ⟨#[49]⟩) := d1
            have d0' : w3.cell? ⟨g3, P * 3, none⟩ = some (.int .i64 3) := d0
            clear d0 d1 d2 hkP
            have s1 : IntKind.i64.wrap ((P : Int) + 1) = (P : Int) + 1 := IntWalk.i64_in _ (by omega)
            have s2 : IntKind.i64.wrap ((P : Int) + 1 + (M : Int)) = (P : Int) + 1 + (M : Int) := IntWalk.i64_in _ (by omega)
            have s3 : IntKind.i64.wrap ((a.size : Int) + 6) = (a.size : Int) + 6 := IntWalk.i64_in _ (by omega)
            have s4 : (N : Int) = (P : Int) + 1 + (M : Int) := by omega
            have hPN' : P < N := by omega
            have HNe := Lib.hid hNe
            have HPN := Lib.hid hPN
            clear hNe hPN
            go_wp2_with fail
            clear s4 s3 s2 d0' d1' d2' q10 hsub hPz HJ
            go_loopw [95] (fun z wr => ∃ i : Nat, z = .int .i64 i ∧ i ≤ M ∧ Hid (Below w3.heap.size w3 wr)) (fun z _ => M - (intOf z).toNat)
            case atStart => exact ⟨0, rfl, Nat.zero_le _, Below.refl _ _⟩
            case round =>
              obtain ⟨i, rfl, hiM, hbr⟩ := hrel
              by_cases hlt : i < M
              · have him : i < m.length := by have := HM.out; omega
                obtain ⟨g2, rfl, _⟩ := HA2.out (by omega)
                have hik : P + 1 + i < k.length := by have := HN.out; have := HNe.out; omega
                have hkI : k[P + 1 + i] = ⟨m[i].kind, m[i].text, m[i].at_ + (a.size + 9)⟩ := by have := HJJ.out.rest i him; rw [List.getElem?_eq_getElem hik] at this; injection this
                have e2 := (R2.out.below hbr.out).cells g2 cap2 (by rw [← HM.out]; exact HV2.out) i him
                have e3 := (R3.out.below hbr.out).cells g3 cap3 (by rw [← HN.out]; exact HV3.out) (P + 1 + i) hik
                rw [hkI] at e3
                have hXb : m[i].at_ ≤ b.size := by
                  have h7 := pieces_at b.data.toList m[i] (by rw [← HMM.out]; exact List.getElem_mem him)
                  rw [← Lib.size_eq] at h7
                  exact h7
                obtain ⟨Km, hKm⟩ : ∃ K, K = m[i].kind := ⟨_, rfl⟩
                obtain ⟨Xm, hXm⟩ : ∃ X, X = m[i].at_ := ⟨_, rfl⟩
                obtain ⟨Tm, hTm⟩ : ∃ T, T = (⟨m[i].text.toArray⟩ : ByteArray) := ⟨_, rfl⟩
                simp only [← hKm, ← hXm, ← hTm] at e2 e3 hXb
                obtain ⟨a0, a1, a2⟩ := e2
                obtain ⟨b0, b1, b2⟩ := e3
                have b2' : wr.cell? ⟨g3, (P + 1 + i) * 3 + 2, none⟩ = some (.int .i64 ((Xm : Int) + ((a.size : Int) + 9))) := b2
                have as9 : a.size ≤ 65536 := by have := HSx.out; omega
                have z1 : IntKind.i64.wrap ((a.size : Int) + 9) = (a.size : Int) + 9 := IntWalk.i64_in _ (by omega)
                have z2 : IntKind.i64.wrap ((Xm : Int) + ((a.size : Int) + 9)) = (Xm : Int) + ((a.size : Int) + 9) := IntWalk.i64_in _ (by omega)
                have z3 : IntKind.i64.wrap ((P : Int) + 1 + (i : Int)) = (P : Int) + 1 + (i : Int) := IntWalk.i64_in _ (by omega)
                have z4 : ((P : Int) + 1 + (i : Int)).toNat = P + 1 + i := by omega
                have z5 : (0 : Int) ≤ (P : Int) + 1 + (i : Int) := by omega
                have z6 : (P : Int) + 1 + (i : Int) < (N : Int) := by have := HNe.out; omega
                have hw2 : ∀ W, Below wr.heap.size wr W → Below w3.heap.size w3 W := fun W h => hbr.out.trans (h.mono hbr.out.size)
                have HW := Lib.hid hw2
                clear hw2 b2 hKm hXm hTm hkI
                go_wp2_with fail
                have hbx : Below wr.heap.size wr (wr.alloc (.cells #[.int .i64 Km, .string Tm, .int .i64 ((Xm : Int) + ((a.size : Int) + 9))] 32)) := (Below.refl _ _).alloc (Nat.le_refl _) _
                have hgl : g3 < wr.heap.size := Nat.lt_of_lt_of_le hg3 hbr.out.size
                have f0 : (wr.alloc (.cells #[.int .i64 Km, .string Tm, .int .i64 ((Xm : Int) + ((a.size : Int) + 9))] 32)).cell? ⟨g3, (P + 1 + i) * 3, none⟩ = some (.int .i64 Km) := by rw [hbx.cell (p := ⟨g3, (P + 1 + i) * 3, none⟩) hgl]; exact b0
                have f1 : (wr.alloc (.cells #[.int .i64 Km, .string Tm, .int .i64 ((Xm : Int) + ((a.size : Int) + 9))] 32)).cell? ⟨g3, (P + 1 + i) * 3 + 1, none⟩ = some (.string Tm) := by rw [hbx.cell (p := ⟨g3, (P + 1 + i) * 3 + 1, none⟩) hgl]; exact b1
                have f2 : (wr.alloc (.cells #[.int .i64 Km, .string Tm, .int .i64 ((Xm : Int) + ((a.size : Int) + 9))] 32)).cell? ⟨g3, (P + 1 + i) * 3 + 2, none⟩ = some (.int .i64 ((Xm : Int) + ((a.size : Int) + 9))) := by rw [hbx.cell (p := ⟨g3, (P + 1 + i) * 3 + 2, none⟩) hgl]; exact b2'
                clear a0 a1 a2 z1 z2 b0 b1 b2' hbx hgl
                go_quiet (fail)
                clear f0 f1 f2 s1 z3 z4 z5 z6
                go_wp2_with fail
                go_roundw
                case rel => exact ⟨i + 1, by go_num, by omega, HW.out _ (below_drewN ((Below.refl _ _).alloc (Nat.le_refl _) _) _)⟩
                case measure => simp [intOf]; omega
              · go_wp2_with fail
                have hbw := HC.out.trans (hbr.out.mono HC.out.size)
                refine (alive_any _ (hm.below hbw hm.lt) (hF.below hbw hF.lt)).mono ?_
                rintro e w5 ⟨rfl, hb5⟩
                have hb6 := hbw.trans (hb5.mono hbw.size)
                go_wp2_with fail
                go_ret
                exact ⟨rfl, hb6⟩
    · have hkz : ((K1 : Int) == 1) = false := by rw [beq_eq_false_iff_ne]; omega
      go_wp2_with fail
      refine (alive_any _ (hm.below HC.out hm.lt) (hF.below HC.out hF.lt)).mono ?_
      rintro e w4 ⟨rfl, hb4⟩
      have hb5 := HC.out.trans (hb4.mono HC.out.size)
      go_wp2_with fail
      go_ret
      exact ⟨rfl, hb5⟩
end Go.Proofs.YtbeglmolgloepaaDoor
