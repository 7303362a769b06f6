/-
  ListPlays: for every script, the law's function returns true, and nothing below its own memory turns.
-/
import Derived.Test.YtmfnonepcipplaaDoorStandsA
import Derived.Test.YtmfnonepcipplaaDoorLAlive
namespace Go.Proofs.YtmfnonepcipplaaDoor
open Go Go.RowKit Convs Lists

theorem Turned.fine {S : Nat → Prop} {B : Nat} {w w' : World} (h : Turned S w w') (hB : B ≤ w.heap.size) (hS : ∀ k, S k → B ≤ k) : Below B w w' := h.below hB hS
theorem Both.own_ge {B : Nat} {w : World} {lb mb : Nat} {iv : Value} {lent : Bool} {rb : Nat} {A : Option Addr} {cap : Nat} {l : Ls} (h : Both B w lb mb iv lent rb A cap l) {k : Nat} (hk : k = rb ∨ Lst.own lb mb iv lent k) : B ≤ k := by
  rcases hk with rfl | rfl | ⟨_, hk | rfl⟩
  · exact h.ref.hrb
  · exact h.lst.hlb
  · exact (ownsRow_lt h.lst.row hk).2.1
  · exact h.lst.hmb
theorem Both.size {B : Nat} {w : World} {lb mb : Nat} {iv : Value} {lent : Bool} {rb : Nat} {A : Option Addr} {cap : Nat} {l : Ls} (h : Both B w lb mb iv lent rb A cap l) : B ≤ w.heap.size := by
  have h1 := h.ref.hrb
  have h2 := h.ref.blk.lt
  omega

/-- Between two rounds: both lists, and that nothing below has turned. -/
structure Plays (w : World) (lb rb : Nat) (wr : World) (mb : Nat) (iv : Value) (lent : Bool) (A : Option Addr) (cap : Nat) (l : Ls) : Prop where
  below : Below w.heap.size w wr
  both : Both w.heap.size wr lb mb iv lent rb A cap l
  small : Small l
theorem Plays.later {w : World} {lb rb : Nat} {wr : World} {mb : Nat} {iv : Value} {lent : Bool} {A : Option Addr} {cap : Nat} {l : Ls} (h : Plays w lb rb wr mb iv lent A cap l) {w' : World} (hb : Below wr.heap.size wr w') : Plays w lb rb w' mb iv lent A cap l :=
  ⟨h.below.trans (hb.mono h.both.size), h.both.below hb, h.small⟩
theorem Plays.does {w : World} {lb rb : Nat} {wr : World} {mb : Nat} {iv : Value} {lent : Bool} {A : Option Addr} {cap : Nat} {l : Ls} (h : Plays w lb rb wr mb iv lent A cap l) {l' : Ls} {w' : World} (hd : DPost w.heap.size wr lb mb iv lent rb l' w') (hs : Small l') :
    ∃ mb' iv' lent' A' cap', Plays w lb rb w' mb' iv' lent' A' cap' l' := by
  obtain ⟨mb', iv', lent', A', cap', h1, h2, _, _⟩ := hd
  exact ⟨mb', iv', lent', A', cap', h.below.trans (h2.below h.both.size (fun k hk => h.both.own_ge hk)), h1, hs⟩
theorem Plays.stands {w : World} {lb rb : Nat} {wr : World} {mb : Nat} {iv : Value} {lent : Bool} {A : Option Addr} {cap : Nat} {l : Ls} (h : Plays w lb rb wr mb iv lent A cap l) {w' : World} (hb : Both w.heap.size w' lb mb iv true rb A cap l) (ht : Turned (fun k => k = lb) wr w') :
    Plays w lb rb w' mb iv true A cap l :=
  ⟨h.below.trans (ht.below h.both.size (fun k hk => by have hk' : k = lb := hk; rw [hk']; exact h.both.lst.hlb)), hb, h.small⟩

set_option maxRecDepth 100000 in
set_option maxHeartbeats 4000000 in
theorem ListPlays_any (v0 : Value) (A : Option Addr) (cnt cap : Nat) (hv : v0 = .slice A cnt cap) (w : World) (hM : Met w) (hcn : cnt ≤ maxLen)
    (hA : ∀ j, j < cnt → ∃ (ab ao : Nat) (kd nn : Int) (t : Bool) (n : Int) (s : ByteArray), A = some ⟨ab, ao, none⟩ ∧ w.cell? ⟨ab, ao + j * 5, none⟩ = some (.int .i64 kd) ∧ w.cell? ⟨ab, ao + j * 5 + 1, none⟩ = some (.int .i64 nn) ∧ w.cell? ⟨ab, ao + j * 5 + 2, none⟩ = some (.bool t) ∧
      w.cell? ⟨ab, ao + j * 5 + 3, none⟩ = some (.int .i64 n) ∧ w.cell? ⟨ab, ao + j * 5 + 4, none⟩ = some (.string s) ∧ Kok ⟨t, n, s.data.toList⟩ ∧ s.size ≤ 281474976710656 ∧ -9223372036854775808 ≤ kd ∧ kd ≤ 9223372036854775807) :
    Calls Tryd.prog 3 #[v0] w fun e w' => e = .returned (.bool true) ∧ Below w.heap.size w w' := by
  subst hv
  have HMW := hide hM
  have HA := hide hA
  clear hM hA
  have HNEW := hide (New_any w)
  go_enter Tryd.func3, Tryd.ntmps3
  go_upto_region 2 with (first | (go_at_call 6; refine (unhide HNEW).mono ?_; rintro e w1 ⟨rfl, hl1, hb1⟩))
  go_upto_region 3 with fail
  have hr2 : RLst w.heap.size (w1.alloc (.cells #[.slice none 0 0, .int .i64 0] 27)) w1.heap.size none 0 (toQ []) 0 :=
    ⟨Blk.new w1 _ _, World.ownsRow_nil _ _ _ _, hb1.size, fun x hx => by simp [toQ] at hx, by simp [toQ], by decide, by decide⟩
  have hl2 := hl1.alloc (.cells #[.slice none 0 0, .int .i64 0] 27)
  have hp2 : Plays w (w.heap.size + 1) w1.heap.size (w1.alloc (.cells #[.slice none 0 0, .int .i64 0] 27)) w.heap.size (.slice none 0 0) false none 0 ⟨[], 0⟩ :=
    ⟨hb1.alloc hb1.size _, ⟨hl2, hr2⟩, fun k hk => by simp [Ls.keys] at hk⟩
  obtain ⟨lb, hlb⟩ : ∃ lb, w.heap.size + 1 = lb := ⟨_, rfl⟩
  obtain ⟨rb, hrb⟩ : ∃ rb, w1.heap.size = rb := ⟨_, rfl⟩
  obtain ⟨W2, hW2⟩ : ∃ W2, w1.alloc (.cells #[.slice none 0 0, .int .i64 0] 27) = W2 := ⟨_, rfl⟩
  rw [hlb, hrb, hW2] at hp2
  rw [hlb, hrb, hW2]
  have hal := hide (alive_any W2 (HMW.out.below hp2.below))
  have hq := fun W => eqlNil W lb
  have HP2 := hide hp2
  clear hl1 hb1 hr2 hl2 hp2 hlb hrb hW2 HNEW
  go_upto_region 5 with (first | (go_at_call 7; refine (unhide hal).mono ?_; rintro e W3 ⟨rfl, hb3⟩))
  have HP3 := hide (HP2.out.later hb3)
  clear hb3 hal HP2
  go_upto_region 6 with fail
  go_loopw [17] (fun v wr => ∃ j : Nat, j ≤ cnt ∧ v = .int .i64 j ∧ ∃ (mb : Nat) (iv : Value) (lent : Bool) (A' : Option Addr) (cap' : Nat) (l : Ls), Hid (Plays w lb rb wr mb iv lent A' cap' l)) (fun v _ => cnt - (intOf v).toNat)
  case atStart => exact ⟨0, Nat.zero_le _, rfl, _, _, _, _, _, _, HP3⟩
  case round =>
    obtain ⟨j, hj, rfl, mb, iv, lent, A', cap', l, HP⟩ := hrel
    by_cases hlt : j < cnt
    · have hjb : (j : Int) + 1 ≤ 9223372036854775807 := by unfold maxLen at hcn; omega
      obtain ⟨ab, ao, kd, nn, t, n, s, rfl, p0, p1, p2, p3, p4, hko, hsz, hkd0, hkd1⟩ := HA.out j hlt
      have q0 : wr.cell? ⟨ab, ao + j * 5, none⟩ = some (.int .i64 kd) := (HP.out.below.cell (p := ⟨ab, ao + j * 5, none⟩) (World.block_lt_of_cell? w _ p0)).trans p0
      have q1 : wr.cell? ⟨ab, ao + j * 5 + 1, none⟩ = some (.int .i64 nn) := (HP.out.below.cell (p := ⟨ab, ao + j * 5 + 1, none⟩) (World.block_lt_of_cell? w _ p1)).trans p1
      have q2 : wr.cell? ⟨ab, ao + j * 5 + 2, none⟩ = some (.bool t) := (HP.out.below.cell (p := ⟨ab, ao + j * 5 + 2, none⟩) (World.block_lt_of_cell? w _ p2)).trans p2
      have q3 : wr.cell? ⟨ab, ao + j * 5 + 3, none⟩ = some (.int .i64 n) := (HP.out.below.cell (p := ⟨ab, ao + j * 5 + 3, none⟩) (World.block_lt_of_cell? w _ p3)).trans p3
      have q4 : wr.cell? ⟨ab, ao + j * 5 + 4, none⟩ = some (.string s) := (HP.out.below.cell (p := ⟨ab, ao + j * 5 + 4, none⟩) (World.block_lt_of_cell? w _ p4)).trans p4
      have KO := hide hko
      have SZ := hide hsz
      clear p0 p1 p2 p3 p4 hko hsz
      go_upto_region 8 with fail
      have hp6 := HP.out.later (below_box wr (.cells #[.int .i64 kd, .int .i64 nn, .bool t, .int .i64 n, .string s] 32))
      have k6 := Blk.new wr #[.int .i64 kd, .int .i64 nn, .bool t, .int .i64 n, .string s] 32
      obtain ⟨b6, hb6⟩ : ∃ b6, wr.heap.size = b6 := ⟨_, rfl⟩
      obtain ⟨W6, hW6⟩ : ∃ W6, wr.alloc (.cells #[.int .i64 kd, .int .i64 nn, .bool t, .int .i64 n, .string s] 32) = W6 := ⟨_, rfl⟩
      rw [hb6] at k6 ⊢
      rw [hW6] at k6 hp6 ⊢
      obtain ⟨d0, d1, d2, d3, d4, -⟩ := k6.five
      have hdo := does_any hp6.both (fun u hu => HMW.out.below (hp6.below.trans hu)) kd nn t n s KO.out SZ.out hkd0 hkd1 hp6.small
      have HDO := hide hdo
      have HP6 := hide hp6
      clear k6 hp6 hb6 hW6 hdo q0 q1 q2 q3 q4 HP
      go_wp2_with (first
        | (go_at_call 8; refine (unhide HDO).mono ?_; rintro e W7 ⟨rfl, l', hd7, hs7⟩; obtain ⟨mb7, iv7, lent7, A7, cap7, hp7⟩ := HP6.out.does hd7 hs7; have HP7 := hide hp7; clear hd7 hs7 hp7)
        | (go_at_call 9; refine (stands_any HP7.out.both (fun u hu => HMW.out.below (HP7.out.below.trans hu)) HP7.out.small).mono ?_; rintro e W8 ⟨rfl, hb8, ht8⟩; have HP8 := hide (HP7.out.stands hb8 ht8); clear hb8 ht8))
      go_roundw
      case rel => exact ⟨j + 1, by omega, by go_num, _, _, _, _, _, _, HP8⟩
      case measure => simp [intOf]; omega
    · have hje : j = cnt := by omega
      subst hje
      go_wp2_with (first
        | (go_at_call 9; refine (stands_any HP.out.both (fun u hu => HMW.out.below (HP.out.below.trans hu)) HP.out.small).mono ?_; rintro e W8 ⟨rfl, hb8, ht8⟩; have HP8 := hide (HP.out.stands hb8 ht8); clear hb8 ht8))
      go_ret
      exact ⟨rfl, HP8.out.below⟩
end Go.Proofs.YtmfnonepcipplaaDoor
