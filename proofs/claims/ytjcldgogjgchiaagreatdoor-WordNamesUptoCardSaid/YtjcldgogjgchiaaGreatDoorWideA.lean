/-
  Parts and bytes that are gathered side by side; the contract of package word's withText.
-/
import Derived.Test.YtjcldgogjgchiaaGreatDoorVar
import Derived.Deep.AppendLies
namespace Go.Proofs.YtjcldgogjgchiaaGreatDoor
open Go Go.RowKit Cutting Wording

def encPs (l : List Prt) : List Value := l.flatMap encPrt
theorem encPs_length (l : List Prt) : (encPs l).length = l.length * 3 := by
  induction l with
  | nil => rfl
  | cons p l ih => simp only [encPs, List.flatMap_cons, List.length_append, List.length_cons] at ih ⊢; rw [ih]; simp [encPrt]; omega
theorem encPs_snoc (l : List Prt) (p : Prt) : encPs (l ++ [p]) = encPs l ++ encPrt p := by simp [encPs]
theorem partInfo : (Tryz.prog.info? 44).map (fun i => (i.zero, i.size, i.bytes)) = some (some (.agg #[.int .i64 0, .string ⟨#[]⟩, .string ⟨#[]⟩]), 3, 40) := by kernel_rfl

theorem own_apart {B : Nat} {w : World} {e1 e2 : TypeId} {s1 s2 n1 n2 : Nat} {v1 v2 : Value} {x1 x2 : List Value} (h1 : w.ownsRow B e1 s1 v1 n1 x1) (h2 : w.ownsRow B e2 s2 v2 n2 x2) (hne : e1 ≠ e2) : v1.ownBlock = none ∨ v1.ownBlock ≠ v2.ownBlock := by
  rcases h1.2 with ⟨rfl, _⟩ | ⟨g, cap, cur, rfl, _, hh, _⟩
  · left; rfl
  · right
    rcases h2.2 with ⟨rfl, _⟩ | ⟨g', cap', cur', rfl, _, hh', _⟩
    · simp [Value.ownBlock]
    · simp only [Value.ownBlock, ne_eq, Option.some.injEq]
      rintro rfl
      rw [hh] at hh'
      injection hh' with hh'
      injection hh' with _ ht
      exact hne ht
/-- Parts and bytes so far, in the round's world. -/
structure WideS (B : Nat) (w wr : World) (vp : Value) (ps : List Prt) (vb : Value) (bs : L) : Prop where
  prt : wr.ownsRow B 44 3 vp ps.length (encPs ps)
  byt : wr.ownsRow B 5 1 vb bs.length (encB bs)
  below : Below B w wr
  base : B ≤ wr.heap.size
theorem WideS.step {B : Nat} {w wr w' : World} {vp vb : Value} {ps : List Prt} {bs : L} (h : WideS B w wr vp ps vb bs) (hb : Below wr.heap.size wr w') : WideS B w w' vp ps vb bs :=
  ⟨ownsRow_below h.prt hb, ownsRow_below h.byt hb, h.below.trans (hb.mono h.base), Nat.le_trans h.base hb.size⟩
theorem WideS.alloc {B : Nat} {w wr : World} {vp vb : Value} {ps : List Prt} {bs : L} (h : WideS B w wr vp ps vb bs) (o : Obj) : WideS B w (wr.alloc o) vp ps vb bs := h.step ((Below.refl _ _).alloc (Nat.le_refl _) _)
theorem WideS.drew_ {B : Nat} {w wr : World} {vp vb : Value} {ps : List Prt} {bs : L} (h : WideS B w wr vp ps vb bs) : WideS B w wr.drew vp ps vb bs := h.step ((Below.refl _ _).drew)
theorem WideS.byte {B : Nat} {w wr w' : World} {vp vb vb' : Value} {ps : List Prt} {bs : L} {b : UInt8} (h : WideS B w wr vp ps vb bs) (hown : w'.ownsRow B 5 1 vb' (bs.length + 1) (encB bs ++ [.int .u8 b.toNat])) (hg : wr.grownBy w' vb.ownBlock) : WideS B w w' vp ps vb' (bs ++ [b]) :=
  ⟨h.prt.kept hg (own_apart h.prt h.byt (by decide)), by rw [List.length_append, encB_snoc]; exact hown, h.below.grown hg h.base (fun k hk => (h.byt.lt k hk).1), Nat.le_trans h.base hg.size⟩
theorem WideS.part {B : Nat} {w wr w' : World} {vp vp' vb : Value} {ps : List Prt} {bs : L} {p : Prt} (h : WideS B w wr vp ps vb bs) (hown : w'.ownsRow B 44 3 vp' (ps.length + 1) (encPs ps ++ encPrt p)) (hg : wr.grownBy w' vp.ownBlock) : WideS B w w' vp' (ps ++ [p]) vb bs :=
  ⟨by rw [List.length_append, encPs_snoc]; exact hown, h.byt.kept hg (own_apart h.byt h.prt (by decide)), h.below.grown hg h.base (fun k hk => (h.prt.lt k hk).1), Nat.le_trans h.base hg.size⟩
theorem WideS.fresh {B : Nat} {w wr : World} {vp vb : Value} {ps : List Prt} {bs : L} (h : WideS B w wr vp ps vb bs) : WideS B w wr vp ps (.slice none 0 0) [] :=
  ⟨h.prt, World.ownsRow_nil _ _ _ _, h.below, h.base⟩
theorem WideS.str {B : Nat} {w wr : World} {vp vb : Value} {ps : List Prt} {bs : L} (h : WideS B w wr vp ps vb bs) :
    (convert 55 9 vb).run Tryz.prog wr = .ok (.string ⟨bs.toArray⟩) wr :=
  (Bs.mk (w := wr) h.byt (Below.refl _ _) h.base).str
theorem own_form {B : Nat} {w : World} {e : TypeId} {s n : Nat} {v : Value} {x : List Value} (h : w.ownsRow B e s v n x) : ∃ A cap, v = .slice A n cap := by
  rcases h.2 with ⟨rfl, h0⟩ | ⟨g, cap, cur, rfl, _⟩
  · exact ⟨none, 0, by rw [h0]⟩
  · exact ⟨_, _, rfl⟩
theorem three_cells2 (w : World) (a b c : Value) (t : TypeId) : ∀ (j : Nat) (u : Value), [a, b, c][j]? = some u → (w.alloc (.cells #[a, b, c] t)).cell? ((⟨w.heap.size, 0, none⟩ : Addr).add j) = some u :=
  three_cells w a b c t w.heap.size rfl

def WtPost (B : Nat) (w0 w : World) (vp : Value) (ps : List Prt) (vb : Value) (bs : L) (e : Ending) (w' : World) : Prop :=
  ∃ v', e = .returned v' ∧ WideS B w0 w' v' (withText ps bs) vb bs ∧ w.grownBy w' vp.ownBlock ∧ (v'.ownBlock = vp.ownBlock ∨ ∃ g, v'.ownBlock = some g ∧ w.heap.size ≤ g)
set_option maxHeartbeats 2000000 in
set_option maxRecDepth 100000 in
theorem withText_any (B : Nat) (w0 w : World) (vp : Value) (ps : List Prt) (vb : Value) (bs : L) (h : WideS B w0 w vp ps vb bs) (hroom : ps.length ≤ 4294967280) (hbs : bs.length ≤ 4294967280) :
    Calls Tryz.prog 109 #[vp, vb] w (WtPost B w0 w vp ps vb bs) := by
  obtain ⟨i0, hi, hz0, hz1, hz2⟩ := info_parts partInfo
  have HI := Lib.hid hi
  have HZ0 := Lib.hid hz0
  have HZ1 := Lib.hid hz1
  have HZ2 := Lib.hid hz2
  clear hi hz0 hz1 hz2
  obtain ⟨A, cap, rfl⟩ := own_form h.byt
  by_cases h0 : bs = []
  · have hl : bs.length = 0 := by rw [h0]; rfl
    have HW : Hid (withText ps bs = ps) := by show _ = _; rw [withText, if_pos h0]
    have hl' : ((bs.length : Int) == 0) = true := by rw [hl]; rfl
    have HH := hide h
    clear h h0 hl
    go_enter Tryz.func109, Tryz.ntmps109
    go_wp2_with fail
    go_ret
    exact ⟨_, rfl, by rw [HW.out]; exact unhide HH, only_of_below (Below.refl _ _) _, .inl rfl⟩
  · have hl : 0 < bs.length := List.length_pos_iff.2 h0
    have HW : Hid (withText ps bs = ps ++ [⟨0, bs, []⟩]) := by show _ = _; rw [withText, if_neg h0]
    have hl' : ((bs.length : Int) == 0) = false := by rw [beq_eq_false_iff_ne]; omega
    have hcv := h.str
    clear h0
    go_enter Tryz.func109, Tryz.ntmps109
    go_wp2_with (at_builtin; refine wpList_append_lies _ rfl _ _ 30 rfl B 44 i0 _ 3 40 Tryz.underlying30 HI.out HZ0.out HZ1.out HZ2.out rfl (by decide) _ _ _ rfl (h.alloc _).prt ⟨w.heap.size, 0, none⟩ 1 1 [.int .i64 0, .string ⟨bs.toArray⟩, .string ⟨#[]⟩] rfl rfl (three_cells2 _ _ _ _ _) (by intro u hu; simp at hu; rcases hu with rfl | rfl | rfl <;> rfl) (by omega) (by unfold maxLen; omega) (by omega) (h.alloc _).base (w.heap.size + 1) (by simp) ?_)
    intro gg cc w3 hown1 hg1 hat _
    have hblk : (Value.slice (some ⟨gg, 0, none⟩) (ps.length + 1) cc).ownBlock = vp.ownBlock ∨ ∃ g, (Value.slice (some ⟨gg, 0, none⟩) (ps.length + 1) cc).ownBlock = some g ∧ w.heap.size ≤ g := by
      rcases hat with h | h
      · left; rw [h]; rfl
      · right; exact ⟨gg, rfl, by omega⟩
    have h1 : WideS B w0 w3 (.slice (some ⟨gg, 0, none⟩) (ps.length + 1) cc) (ps ++ [⟨0, bs, []⟩]) (.slice A bs.length cap) bs := (h.alloc _).part (p := ⟨0, bs, []⟩) hown1 hg1
    have hg2 : w.grownBy w3 vp.ownBlock := by
      have ha := only_of_below ((Below.refl w.heap.size w).alloc (Nat.le_refl _) (.cells #[.int .i64 0, .string ⟨bs.toArray⟩, .string ⟨#[]⟩] 44)) vp.ownBlock
      exact ⟨hg1.os.trans ha.os, hg1.tape.trans ha.tape, hg1.output.trans ha.output, Nat.le_trans ha.size hg1.size, fun i hlt hne => (hg1.block i (Nat.lt_of_lt_of_le hlt ha.size) hne).trans (ha.block i hlt hne)⟩
    have H1 := hide h1
    have H2 := hide hg2
    have H3 := hide hblk
    clear hown1 hg1 h1 hg2 h hcv hblk hat
    go_wp2_with fail
    go_ret
    exact ⟨_, rfl, by rw [HW.out]; exact unhide H1, unhide H2, unhide H3⟩
end Go.Proofs.YtjcldgogjgchiaaGreatDoor
