/-
  The document's answer on whether two rows of tokens are the same but for places (ostlerref02.Same).
-/
import Derived.Test.YtjcldgogjgchiaaGreatDoorAlive2
namespace Go.Proofs.YtjcldgogjgchiaaGreatDoor
open Go Go.RowKit Cutting Wording

theorem two_vars (w : World) (cx cy : Array Value) (T : TypeId) : Blk w.heap.size ((w.alloc (.cells cx T)).alloc (.cells cy T)).drew cx T ∧ Blk (w.heap.size + 1) ((w.alloc (.cells cx T)).alloc (.cells cy T)).drew cy T ∧ Below w.heap.size w ((w.alloc (.cells cx T)).alloc (.cells cy T)).drew := by
  have h1 := (Blk.new w cx T).alloc (.cells cy T)
  have h2 := Blk.new (w.alloc (.cells cx T)) cy T
  have e : (w.alloc (.cells cx T)).heap.size = w.heap.size + 1 := by simp
  rw [e] at h2
  exact ⟨⟨h1.blk⟩, ⟨h2.blk⟩, (((Below.refl _ _).alloc (Nat.le_refl _) _).alloc (by simp) _).drew⟩
theorem own_le {w : World} {B : Nat} {e : TypeId} {size n : Nat} {v : Value} {xs : List Value} (h : w.ownsRow B e size v n xs) : n ≤ 9223372036854775807 := by
  rcases h.2 with ⟨_, h0⟩ | ⟨g, cap, cur, _, _, _, hn, hc, _⟩
  · omega
  · simp only [maxLen] at hc; omega
set_option maxHeartbeats 4000000 in
set_option maxRecDepth 100000 in
theorem Same_any {f f2 : L} {C C2 : Nat} {w0 w2 w : World} {l m : List TkV} {A B : Option Addr} {ca cb : Nat} (h1 : Toks C w0 w f (.slice A l.length ca) l) (h2 : Toks C2 w2 w f2 (.slice B m.length cb) m) (hs : m.map (·.1) = l.map (·.1)) (hl : l.length ≤ 1073741820) :
    Calls Tryz.prog 13 #[.slice A l.length ca, .slice B m.length cb, .bool false] w fun e w' => e = .returned (.bool true) ∧ Below w.heap.size w w' := by
  have hm : m.length = l.length := by have := congrArg List.length hs; simpa using this
  have H1 := hide h1
  have H2 := hide h2
  rw [hm]
  clear h1 h2
  go_enter Tryz.func13, Tryz.ntmps13
  go_wp2_with fail
  go_loopw [7] (fun i wr => ∃ k : Nat, i = .int .i64 k ∧ k ≤ l.length ∧ Hid (Below w.heap.size w wr)) (fun i _ => l.length - (intOf i).toNat)
  case atStart => exact ⟨0, rfl, Nat.zero_le _, Below.refl _ _⟩
  case round =>
    obtain ⟨k, rfl, hk, hrel⟩ := hrel
    by_cases hlt : k < l.length
    · have hb := unhide hrel
      have t1 := (unhide H1).step hb
      have t2 := (unhide H2).step hb
      have hkm : k < m.length := by omega
      have hmk : m[k].1 = l[k].1 := by
        have h := List.getElem_of_eq hs (i := k) (by rw [List.length_map]; exact hkm)
        rw [List.getElem_map, List.getElem_map] at h
        exact h
      obtain ⟨g, cap1, hv1, _⟩ := t1.form (by omega)
      obtain ⟨g2, cap2, hv2, _⟩ := t2.form (by omega)
      obtain ⟨K, hK⟩ : ∃ a, a = l[k].1.kind := ⟨_, rfl⟩
      obtain ⟨T, hT⟩ := bytes_of l[k].1.text
      obtain ⟨I, hI⟩ : ∃ a, a = l[k].1.int := ⟨_, rfl⟩
      obtain ⟨np, hnp⟩ : ∃ np, np = l[k].1.parts.length := ⟨_, rfl⟩
      have p1 := t1.prt l[k] (List.getElem_mem _)
      have p2 := t2.prt m[k] (List.getElem_mem _)
      rw [hmk] at p2
      obtain ⟨P1, q1, hp1⟩ := own_form p1
      obtain ⟨P2, q2, hp2⟩ := own_form p2
      rw [← hnp] at hp1 hp2
      rw [hp1] at p1
      rw [hp2] at p2
      obtain ⟨a1, ha1⟩ : ∃ a, a = l[k].2.1 := ⟨_, rfl⟩
      obtain ⟨a2, ha2⟩ : ∃ a, a = m[k].2.1 := ⟨_, rfl⟩
      obtain ⟨n1, hn1⟩ : ∃ b, b = lnN f a1 := ⟨_, rfl⟩
      obtain ⟨n2, hn2⟩ : ∃ b, b = lnN f2 a2 := ⟨_, rfl⟩
      have e1 : encT f l[k] = [.int .i64 K, .string T, .int .i64 I, .slice P1 np q1, .int .i64 a1, .int .i64 n1] := by rw [encT, ← ha1, ← hK, ← hI, hp1, hn1, ← hT, Lib.mk_data]
      have e2 : encT f2 m[k] = [.int .i64 K, .string T, .int .i64 I, .slice P2 np q2, .int .i64 a2, .int .i64 n2] := by rw [encT, ← ha2, hmk, ← hK, ← hI, hp2, hn2, ← hT, Lib.mk_data]
      have c0 := t1.cell hv1 k 0 hlt (by decide) (u := .int .i64 K) (by rw [e1]; rfl)
      have c1 := t1.cell hv1 k 1 hlt (by decide) (u := .string T) (by rw [e1]; rfl)
      have c2 := t1.cell hv1 k 2 hlt (by decide) (u := .int .i64 I) (by rw [e1]; rfl)
      have c3 := t1.cell hv1 k 3 hlt (by decide) (u := .slice P1 np q1) (by rw [e1]; rfl)
      have c4 := t1.cell hv1 k 4 hlt (by decide) (u := .int .i64 a1) (by rw [e1]; rfl)
      have c5 := t1.cell hv1 k 5 hlt (by decide) (u := .int .i64 n1) (by rw [e1]; rfl)
      have d0 := t2.cell hv2 k 0 hkm (by decide) (u := .int .i64 K) (by rw [e2]; rfl)
      have d1 := t2.cell hv2 k 1 hkm (by decide) (u := .string T) (by rw [e2]; rfl)
      have d2 := t2.cell hv2 k 2 hkm (by decide) (u := .int .i64 I) (by rw [e2]; rfl)
      have d3 := t2.cell hv2 k 3 hkm (by decide) (u := .slice P2 np q2) (by rw [e2]; rfl)
      have d4 := t2.cell hv2 k 4 hkm (by decide) (u := .int .i64 a2) (by rw [e2]; rfl)
      have d5 := t2.cell hv2 k 5 hkm (by decide) (u := .int .i64 n2) (by rw [e2]; rfl)
      rw [Nat.add_zero] at c0 d0
      obtain ⟨ps, hps⟩ : ∃ ps, ps = l[k].1.parts := ⟨_, rfl⟩
      rw [← hps] at hnp p1 p2
      have hA : A = some ⟨g, 0, none⟩ ∧ ca = cap1 := by injection hv1 with x1 x2 x3; exact ⟨x1, x3⟩
      have hB : B = some ⟨g2, 0, none⟩ ∧ cb = cap2 := by injection hv2 with x1 x2 x3; exact ⟨x1, x3⟩
      obtain ⟨rfl, rfl⟩ := hA
      obtain ⟨rfl, rfl⟩ := hB
      have hgl := World.block_lt_of_cell? wr _ c0
      have hgl2 := World.block_lt_of_cell? wr _ d0
      have hnpl : np ≤ 9223372036854775807 := by rw [hnp]; exact own_le p1
      have HP1 := hide p1
      have HP2 := hide p2
      have HNP := Lib.hid hnp
      have HMK := Lib.hid hmk
      clear t1 t2 hb p1 p2 hmk hv1 hv2 hK hT hI hnp hp1 hp2 ha1 ha2 hn1 hn2 e1 e2 hps
      go_wp2_with fail
      have hn0 : wr.heap.size ≠ g := by omega
      have hn1 : wr.heap.size ≠ g2 := by omega
      have hn2 : wr.heap.size + 1 ≠ g := by omega
      have hn3 : wr.heap.size + 1 ≠ g2 := by omega
      go_region_held3 (fun w' => (w'.cell? ⟨g, k * 6, none⟩ = some (.int .i64 K) ∧ w'.cell? ⟨g, k * 6 + 1, none⟩ = some (.string T) ∧ w'.cell? ⟨g, k * 6 + 2, none⟩ = some (.int .i64 I) ∧ w'.cell? ⟨g, k * 6 + 3, none⟩ = some (.slice P1 np q1) ∧ w'.cell? ⟨g, k * 6 + 4, none⟩ = some (.int .i64 a1) ∧ w'.cell? ⟨g, k * 6 + 5, none⟩ = some (.int .i64 n1)) ∧
          w'.cell? ⟨g2, k * 6, none⟩ = some (.int .i64 K) ∧ w'.cell? ⟨g2, k * 6 + 1, none⟩ = some (.string T) ∧ w'.cell? ⟨g2, k * 6 + 2, none⟩ = some (.int .i64 I) ∧ w'.cell? ⟨g2, k * 6 + 3, none⟩ = some (.slice P2 np q2) ∧ w'.cell? ⟨g2, k * 6 + 4, none⟩ = some (.int .i64 a2) ∧ w'.cell? ⟨g2, k * 6 + 5, none⟩ = some (.int .i64 n2))
        (go_keep) (fail)
      all_goals clear c0 c1 c2 c3 c4 c5 d0 d1 d2 d3 d4 d5 hn0 hn1 hn2 hn3 hgl hgl2
      all_goals go_split_ands
      · go_wp2_with fail
        have htv := two_vars wr #[.int .i64 K, .string T, .int .i64 I, .slice P1 np q1, .int .i64 a1, .int .i64 n1] #[.int .i64 K, .string T, .int .i64 I, .slice P2 np q2, .int .i64 a2, .int .i64 n2] 32
        obtain ⟨W1, hW1⟩ : ∃ W, W = ((wr.alloc (.cells #[.int .i64 K, .string T, .int .i64 I, .slice P1 np q1, .int .i64 a1, .int .i64 n1] 32)).alloc (.cells #[.int .i64 K, .string T, .int .i64 I, .slice P2 np q2, .int .i64 a2, .int .i64 n2] 32)).drew := ⟨_, rfl⟩
        rw [← hW1] at htv ⊢
        obtain ⟨b1, b2, hBW⟩ := htv
        obtain ⟨Y, hY⟩ : ∃ X, X = wr.heap.size + 1 := ⟨_, rfl⟩
        rw [← hY] at b2 ⊢
        obtain ⟨X, hX⟩ : ∃ X, X = wr.heap.size := ⟨_, rfl⟩
        rw [← hX] at b1 ⊢
        have x3 := hide (b1.cell 3 rfl)
        have y3 := hide (b2.cell 3 rfl)
        have p1 := hide (ownsRow_below (unhide HP1) hBW)
        have p2 := hide (ownsRow_below (unhide HP2) hBW)
        have HB1 := hide ((unhide hrel).trans (hBW.mono (unhide hrel).size))
        have hXl := World.block_lt_of_cell? W1 _ (unhide x3)
        have hYl := World.block_lt_of_cell? W1 _ (unhide y3)
        dsimp only at hXl hYl
        clear b1 b2 hBW hW1 hX hY
        go_loopw [10] (fun i wv => ∃ j : Nat, i = .int .i64 j ∧ j ≤ np ∧ Hid (Below W1.heap.size W1 wv)) (fun i _ => np - (intOf i).toNat)
        case atStart => exact ⟨0, rfl, Nat.zero_le _, Below.refl _ _⟩
        case round =>
          obtain ⟨j, rfl, hj, hrel2⟩ := hrel
          have x3' := ((unhide hrel2).cell (p := ⟨X, 3, none⟩) hXl).trans (unhide x3)
          have y3' := ((unhide hrel2).cell (p := ⟨Y, 3, none⟩) hYl).trans (unhide y3)
          by_cases hjl : j < np
          · have r1 := ownsRow_below (unhide p1) (unhide hrel2)
            have r2 := ownsRow_below (unhide p2) (unhide hrel2)
            have hjp : j < ps.length := by rw [← HNP.out]; exact hjl
            obtain ⟨gp, cp, hv1⟩ := part_form r1 (by omega)
            obtain ⟨gp2, cp2, hv2⟩ := part_form r2 (by omega)
            injection hv1 with z1 z2 z3
            injection hv2 with y1 y2 y4
            subst z1 y1
            rw [HNP.out] at r1 r2
            obtain ⟨kd, hkd⟩ : ∃ a, a = ps[j].kind := ⟨_, rfl⟩
            obtain ⟨TX, hTX⟩ := bytes_of ps[j].text
            obtain ⟨KY, hKY⟩ := bytes_of ps[j].key
            have en : encPrt ps[j] = [.int .i64 kd, .string TX, .string KY] := by rw [encPrt, ← hkd, ← hTX, ← hKY, Lib.mk_data, Lib.mk_data]
            have c0 := part_cell r1 j 0 hjp (by decide) (u := .int .i64 kd) (by rw [en]; rfl)
            have c1 := part_cell r1 j 1 hjp (by decide) (u := .string TX) (by rw [en]; rfl)
            have c2 := part_cell r1 j 2 hjp (by decide) (u := .string KY) (by rw [en]; rfl)
            have d0 := part_cell r2 j 0 hjp (by decide) (u := .int .i64 kd) (by rw [en]; rfl)
            have d1 := part_cell r2 j 1 hjp (by decide) (u := .string TX) (by rw [en]; rfl)
            have d2 := part_cell r2 j 2 hjp (by decide) (u := .string KY) (by rw [en]; rfl)
            rw [Nat.add_zero] at c0 d0
            have HW := hide (unhide hrel2)
            clear r1 r2 hkd hTX hKY en z2 z3 y2 y4
            go_wp2_with fail
            go_quiet (fail)
            go_wp2_with fail
            go_roundw
            case rel => exact ⟨j + 1, by go_num, by omega, below_drewN (unhide HW) _⟩
            case measure => simp [intOf]; omega
          · go_wp2_with fail
            go_roundw
            case rel => exact ⟨k + 1, by go_num, by omega, (unhide HB1).trans ((unhide hrel2).mono (unhide HB1).size)⟩
            case measure => simp [intOf]; omega
      · go_wp2_with fail
        have htv := two_vars wr #[.int .i64 K, .string T, .int .i64 I, .slice P2 np q2, .int .i64 a2, .int .i64 n2] #[.int .i64 K, .string T, .int .i64 I, .slice P1 np q1, .int .i64 a1, .int .i64 n1] 32
        obtain ⟨W1, hW1⟩ : ∃ W, W = ((wr.alloc (.cells #[.int .i64 K, .string T, .int .i64 I, .slice P2 np q2, .int .i64 a2, .int .i64 n2] 32)).alloc (.cells #[.int .i64 K, .string T, .int .i64 I, .slice P1 np q1, .int .i64 a1, .int .i64 n1] 32)).drew := ⟨_, rfl⟩
        rw [← hW1] at htv ⊢
        obtain ⟨b1, b2, hBW⟩ := htv
        obtain ⟨X, hX⟩ : ∃ X, X = wr.heap.size + 1 := ⟨_, rfl⟩
        rw [← hX] at b2 ⊢
        obtain ⟨Y, hY⟩ : ∃ X, X = wr.heap.size := ⟨_, rfl⟩
        rw [← hY] at b1 ⊢
        have x3 := hide (b2.cell 3 rfl)
        have y3 := hide (b1.cell 3 rfl)
        have p1 := hide (ownsRow_below (unhide HP1) hBW)
        have p2 := hide (ownsRow_below (unhide HP2) hBW)
        have HB1 := hide ((unhide hrel).trans (hBW.mono (unhide hrel).size))
        have hXl := World.block_lt_of_cell? W1 _ (unhide x3)
        have hYl := World.block_lt_of_cell? W1 _ (unhide y3)
        dsimp only at hXl hYl
        clear b1 b2 hBW hW1 hY hX
        go_loopw [10] (fun i wv => ∃ j : Nat, i = .int .i64 j ∧ j ≤ np ∧ Hid (Below W1.heap.size W1 wv)) (fun i _ => np - (intOf i).toNat)
        case atStart => exact ⟨0, rfl, Nat.zero_le _, Below.refl _ _⟩
        case round =>
          obtain ⟨j, rfl, hj, hrel2⟩ := hrel
          have x3' := ((unhide hrel2).cell (p := ⟨X, 3, none⟩) hXl).trans (unhide x3)
          have y3' := ((unhide hrel2).cell (p := ⟨Y, 3, none⟩) hYl).trans (unhide y3)
          by_cases hjl : j < np
          · have r1 := ownsRow_below (unhide p1) (unhide hrel2)
            have r2 := ownsRow_below (unhide p2) (unhide hrel2)
            have hjp : j < ps.length := by rw [← HNP.out]; exact hjl
            obtain ⟨gp, cp, hv1⟩ := part_form r1 (by omega)
            obtain ⟨gp2, cp2, hv2⟩ := part_form r2 (by omega)
            injection hv1 with z1 z2 z3
            injection hv2 with y1 y2 y4
            subst z1 y1
            rw [HNP.out] at r1 r2
            obtain ⟨kd, hkd⟩ : ∃ a, a = ps[j].kind := ⟨_, rfl⟩
            obtain ⟨TX, hTX⟩ := bytes_of ps[j].text
            obtain ⟨KY, hKY⟩ := bytes_of ps[j].key
            have en : encPrt ps[j] = [.int .i64 kd, .string TX, .string KY] := by rw [encPrt, ← hkd, ← hTX, ← hKY, Lib.mk_data, Lib.mk_data]
            have c0 := part_cell r1 j 0 hjp (by decide) (u := .int .i64 kd) (by rw [en]; rfl)
            have c1 := part_cell r1 j 1 hjp (by decide) (u := .string TX) (by rw [en]; rfl)
            have c2 := part_cell r1 j 2 hjp (by decide) (u := .string KY) (by rw [en]; rfl)
            have d0 := part_cell r2 j 0 hjp (by decide) (u := .int .i64 kd) (by rw [en]; rfl)
            have d1 := part_cell r2 j 1 hjp (by decide) (u := .string TX) (by rw [en]; rfl)
            have d2 := part_cell r2 j 2 hjp (by decide) (u := .string KY) (by rw [en]; rfl)
            rw [Nat.add_zero] at c0 d0
            have HW := hide (unhide hrel2)
            clear r1 r2 hkd hTX hKY en z2 z3 y2 y4
            go_wp2_with fail
            go_quiet (fail)
            go_wp2_with fail
            go_roundw
            case rel => exact ⟨j + 1, by go_num, by omega, below_drewN (unhide HW) _⟩
            case measure => simp [intOf]; omega
          · go_wp2_with fail
            go_roundw
            case rel => exact ⟨k + 1, by go_num, by omega, (unhide HB1).trans ((unhide hrel2).mono (unhide HB1).size)⟩
            case measure => simp [intOf]; omega
    · have hb := unhide hrel
      go_wp2_with fail
      go_ret
      exact ⟨rfl, hb⟩
end Go.Proofs.YtjcldgogjgchiaaGreatDoor
