/-
  A list that nobody made: contracts of package list's calls on it.
-/
import Derived.Test.YtmfnonepcipplaaDoorLAlive
import Derived.RangeFuncNested
import Derived.RangeFuncBound
import Derived.RangeFuncCalls
import Derived.RangeFuncLeaves
namespace Go.Proofs.YtmfnonepcipplaaDoor
open Go Go.RowKit Convs Lists

/-- A pointer to a list that neither New nor Copy gave. -/
def Nob (w : World) (p : Option Addr) : Prop := p = none ∨ ∃ b, p = some ⟨b, 0, none⟩ ∧ w.cell? ⟨b, 0, none⟩ = some (.pointer none)
theorem Nob.below {w w' : World} {p : Option Addr} (h : Nob w p) (hb : Below w.heap.size w w') : Nob w' p := by
  rcases h with h | ⟨b, h1, h2⟩
  · exact .inl h
  · exact .inr ⟨b, h1, (hb.cell (p := ⟨b, 0, none⟩) (World.block_lt_of_cell? w _ h2)).trans h2⟩
theorem isMade_nob (w : World) (p : Option Addr) (h : Nob w p) : Calls Tryd.prog 24 #[.pointer p] w fun e w' => e = .returned (.bool false) ∧ w = w' := by
  rcases h with rfl | ⟨b, rfl, h2⟩
  · exact isMade_nil w
  · exact isMade_zero w b h2
theorem Len_nob (w : World) (p : Option Addr) (h : Nob w p) : Calls Tryd.prog 15 #[.pointer p] w fun e w' => e = .returned (.int .i64 0) ∧ w = w' := by
  have HM := hide (isMade_nob w p h)
  go_enter Tryd.func15, Tryd.ntmps15
  go_wp2_with (go_at_call 24; with_reducible refine (unhide HM).mono ?_; rintro e w1 ⟨rfl, rfl⟩)
  go_ret
  exact ⟨rfl, rfl⟩
theorem Next_nob (w : World) (p : Option Addr) (h : Nob w p) : Calls Tryd.prog 16 #[.pointer p] w fun e w' => e = .returned (.int .i64 (-1)) ∧ w = w' := by
  have HM := hide (isMade_nob w p h)
  go_enter Tryd.func16, Tryd.ntmps16
  go_wp2_with (go_at_call 24; with_reducible refine (unhide HM).mono ?_; rintro e w1 ⟨rfl, rfl⟩)
  go_ret
  exact ⟨rfl, rfl⟩
theorem Copy_nob (w : World) (p : Option Addr) (h : Nob w p) : Calls Tryd.prog 10 #[.pointer p] w fun e w' => e = .returned (.pointer none) ∧ w = w' := by
  have HM := hide (isMade_nob w p h)
  go_enter Tryd.func10, Tryd.ntmps10
  go_wp2_with (go_at_call 24; with_reducible refine (unhide HM).mono ?_; rintro e w1 ⟨rfl, rfl⟩)
  go_ret
  exact ⟨rfl, rfl⟩
theorem Set_nob (w : World) (p : Option Addr) (h : Nob w p) (t : Bool) (n : Int) (s : ByteArray) (v : Int) :
    Calls Tryd.prog 12 #[.pointer p, .agg #[.bool t, .int .i64 n, .string s], .int .i64 v] w fun e w' => e = .returned (.int .i64 5) ∧ Below w.heap.size w w' := by
  have hb := below_box w (.cells #[.bool t, .int .i64 n, .string s] 30)
  have HM := hide (isMade_nob _ p (h.below hb))
  go_enter Tryd.func12, Tryd.ntmps12
  go_wp2_with (go_at_call 24; with_reducible refine (unhide HM).mono ?_; rintro e w1 ⟨rfl, rfl⟩)
  go_ret
  exact ⟨rfl, hb⟩
theorem Del_nob (w : World) (p : Option Addr) (h : Nob w p) (t : Bool) (n : Int) (s : ByteArray) :
    Calls Tryd.prog 20 #[.pointer p, .agg #[.bool t, .int .i64 n, .string s]] w fun e w' => e = .returned (.bool false) ∧ Below w.heap.size w w' := by
  have hb := below_box w (.cells #[.bool t, .int .i64 n, .string s] 30)
  have HM := hide (isMade_nob _ p (h.below hb))
  go_enter Tryd.func20, Tryd.ntmps20
  go_wp2_with (go_at_call 24; with_reducible refine (unhide HM).mono ?_; rintro e w1 ⟨rfl, rfl⟩)
  go_ret
  exact ⟨rfl, hb⟩
theorem Get_nob (w : World) (p : Option Addr) (h : Nob w p) (t : Bool) (n : Int) (s : ByteArray) :
    Calls Tryd.prog 14 #[.pointer p, .agg #[.bool t, .int .i64 n, .string s]] w fun e w' => e = .returned (.tuple #[.int .i64 0, .bool false]) ∧ Below w.heap.size w w' := by
  have hb := below_box w (.cells #[.bool t, .int .i64 n, .string s] 30)
  have HM := hide (isMade_nob _ p (h.below hb))
  go_enter Tryd.func14, Tryd.ntmps14
  go_wp2_with (go_at_call 24; with_reducible refine (unhide HM).mono ?_; rintro e w1 ⟨rfl, rfl⟩)
  go_ret2
  exact ⟨rfl, hb⟩
set_option maxRecDepth 100000 in
theorem Append_nob (w : World) (p : Option Addr) (h : Nob w p) (v : Int) :
    Calls Tryd.prog 13 #[.pointer p, .int .i64 v] w fun e w' => e = .returned (.tuple #[.agg #[.bool false, .int .i64 0, .string ⟨#[]⟩], .int .i64 5]) ∧ Below w.heap.size w w' := by
  have hb := below_box w (.cells #[.bool false, .int .i64 0, .string ⟨#[]⟩] 30)
  have HM := hide (isMade_nob _ p (h.below hb))
  go_enter Tryd.func13, Tryd.ntmps13
  go_wp2_with (go_at_call 24; with_reducible refine (unhide HM).mono ?_; rintro e w1 ⟨rfl, rfl⟩)
  exact bodyPost_ret (v := .tuple #[.agg #[.bool false, .int .i64 0, .string ⟨#[]⟩], .int .i64 5]) (by simp [results, Tryd.results13, go_sem]) rfl ⟨rfl, hb⟩
set_option maxRecDepth 100000 in
theorem At_nob (w : World) (p : Option Addr) (h : Nob w p) (i : Int) :
    Calls Tryd.prog 23 #[.pointer p, .int .i64 i] w fun e w' => e = .returned (.tuple #[.agg #[.bool false, .int .i64 0, .string ⟨#[]⟩], .int .i64 0, .bool false]) ∧ Below w.heap.size w w' := by
  have hb := below_box w (.cells #[.bool false, .int .i64 0, .string ⟨#[]⟩] 30)
  have HL := hide (Len_nob _ p (h.below hb))
  by_cases hn : i < 0
  · go_enter Tryd.func23, Tryd.ntmps23
    go_wp2_with (go_at_call 15; with_reducible refine (unhide HL).mono ?_; rintro e w1 ⟨rfl, rfl⟩)
    exact bodyPost_ret (v := .tuple #[.agg #[.bool false, .int .i64 0, .string ⟨#[]⟩], .int .i64 0, .bool false]) (by simp [results, Tryd.results23, go_sem]) rfl ⟨rfl, hb⟩
  · have h2 : 0 ≤ i := by omega
    have j4 : decide (i < 0) = false := by simpa using hn
    go_enter Tryd.func23, Tryd.ntmps23
    go_wp2_with (go_at_call 15; with_reducible refine (unhide HL).mono ?_; rintro e w1 ⟨rfl, rfl⟩)
    exact bodyPost_ret (v := .tuple #[.agg #[.bool false, .int .i64 0, .string ⟨#[]⟩], .int .i64 0, .bool false]) (by simp [results, Tryd.results23, go_sem]) rfl ⟨rfl, hb⟩
/-- All: a function that holds the list in a box. -/
theorem All_any (w : World) (p : Option Addr) :
    Calls Tryd.prog 11 #[.pointer p] w fun e w' => e = .returned (.func (.func 25) #[] #[.pointer (some ⟨w.heap.size, 0, none⟩)]) ∧ w' = w.alloc (.cells #[.pointer p] 23) := by
  go_enter Tryd.func11, Tryd.ntmps11
  go_wp2_with fail
  go_ret
  exact ⟨rfl, rfl⟩
/-- What All gives of a list that nobody made has no rounds. -/
theorem allNob (n : Nat) (W0 : World) (Bn : Nat) (p : Option Addr) (hc : W0.cell? ⟨Bn, 0, none⟩ = some (.pointer p)) (hN : Nob W0 p) {α : Type} (encs : α → Array Value) (Kp : World → World → Prop) :
    SeqStopsK Fence.wide n Tryd.prog 25 #[.pointer (some ⟨Bn, 0, none⟩)] encs Kp (fun xs => xs = []) (fun _ => False) 0 W0 := by
  intro l J Jx W hW hJ hJx hY h0
  have hc' : W.cell? ⟨Bn, 0, none⟩ = some (.pointer p) := (hW.cell (p := ⟨Bn, 0, none⟩) (World.block_lt_of_cell? W0 _ hc)).trans hc
  have HM := hide (isMade_nob W p (hN.below hW))
  have HJ := hide h0
  clear hY hJ hJx h0 hN hc
  refine callsIn_wide.2 ?_
  go_enter Tryd.func25, Tryd.ntmps25
  go_wp2_with (go_at_call 24; with_reducible refine (unhide HM).mono ?_; rintro e w1 ⟨rfl, rfl⟩)
  refine bodyPost_ret (results_none rfl _ _ _) rfl ?_
  exact ⟨⟨_, rfl⟩, .inl ⟨[], rfl, HJ.out⟩⟩

/-- A function's end with marks of rounds among its deferred calls. -/
theorem leaves_marks {F : Fence} {n : Nat} {P : Program} {fn : Func} {tmps : Array Value} {R : Ending → World → Prop} : ∀ (Ds : List Nat) (w : World), Ds.Nodup → (∀ D ∈ Ds, w.heap[D]? = some (.deferred (some []))) →
    (∀ w', (∀ k, k ∉ Ds → w'.heap[k]? = w.heap[k]?) → w'.heap.size = w.heap.size → w'.os = w.os → w'.tape = w.tape → w'.output = w.output → LeavesIn F n P fn tmps R [] .returning w') →
    LeavesInM F n P fn tmps R (Ds.map fun D => { target := .collected D, args := #[] }) .returning w
  | [], w, _, _, h => h w (fun _ _ => rfl) rfl rfl rfl rfl
  | D :: Ds, w, hn, hd, h => by
    have hD := hd D (List.mem_cons_self ..)
    have hlt : D < w.heap.size := (Array.getElem?_eq_some_iff.1 hD).1
    refine ⟨by simp, .inl ⟨_, _, rfl, run_takeDeferred hD, ?_⟩⟩
    have hne : ∀ k, k ≠ D → (w.putObj D (.deferred none)).heap[k]? = w.heap[k]? := fun k hk => World.putObj_heap_other hk
    have hsz : (w.putObj D (.deferred none)).heap.size = w.heap.size := by simp [World.putObj]
    refine leaves_marks Ds _ (List.nodup_cons.1 hn).2 (fun E hE => ?_) (fun w' h1 h2 h3 h4 h5 => ?_)
    · have : E ≠ D := fun e => (List.nodup_cons.1 hn).1 (e ▸ hE)
      rw [hne E this]
      exact hd E (List.mem_cons_of_mem _ hE)
    · refine h w' (fun k hk => ?_) (h2.trans hsz) h3 h4 h5
      rw [List.mem_cons, not_or] at hk
      exact (h1 k hk.2).trans (hne k hk.1)
end Go.Proofs.YtmfnonepcipplaaDoor
