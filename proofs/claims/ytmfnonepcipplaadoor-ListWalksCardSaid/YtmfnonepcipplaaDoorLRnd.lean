/-
  Small rules of memory and of rounds that several texts of layer 7 share.
-/
import Derived.Test.YtmfnonepcipplaaDoorLGives
import Derived.Sort.QuietIn
import Derived.Sort.CutIn
import Derived.Deep.LoopGhost
import Derived.Maps.AppendAt
namespace Go.Proofs.YtmfnonepcipplaaDoor
open Go Go.RowKit Convs Lists

def marksOf (Ds : List Nat) : List Deferred := Ds.map fun D => { target := .collected D, args := #[] }

theorem cells_not_mark {W : World} {b D : Nat} {cs : Array Value} {T : TypeId} (h : Blk W b cs T) (hD : W.heap[D]? = some (.deferred (some []))) : D ≠ b := by
  rintro rfl
  unfold Blk at h
  rw [hD] at h
  cases h
variable {B : Nat} {lb mb : Nat} {iv : Value} {lent : Bool} {l : Ls}
theorem Lst.not_mark {B : Nat} {W : World} (h : Lst B W lb mb iv lent l) {D : Nat} (hD : W.heap[D]? = some (.deferred (some []))) : ¬ Lst.own lb mb iv false D := by
  rintro (rfl | ⟨_, hk | rfl⟩)
  · exact cells_not_mark h.blk hD rfl
  · obtain ⟨_, _, cs, hcs⟩ := ownsRow_lt h.row hk
    exact cells_not_mark hcs hD rfl
  · obtain ⟨es, clock, hm⟩ := h.map.isMap
    rw [hm] at hD
    cases hD
theorem own_false {k : Nat} (h : Lst.own lb mb iv lent k) : Lst.own lb mb iv false k := by
  rcases h with rfl | ⟨_, h⟩
  · exact .inl rfl
  · exact .inr ⟨rfl, h⟩
theorem name_act {F : Fence} {n : Nat} {P : Program} {C : Code} {Q : Exit → Act → World → Prop} {a : Act} {w : World} (h : ∀ a0, a0 = a → C.wpIn F n P Q a0 w) : C.wpIn F n P Q a w := h a rfl
theorem lend_size (lb : Nat) (W : World) : (lend lb W).heap.size = W.heap.size := by simp [lend, World.setCell]
theorem lend_far (lb : Nat) (W : World) (k : Nat) (h : k ≠ lb) : (lend lb W).heap[k]? = W.heap[k]? := Below.heap_setCell _ _ _ _ h
theorem lend_below {lb : Nat} {V W : World} (h : Below V.heap.size V W) (S : Nat → Prop) : Turned S (lend lb V) (lend lb W) := by
  refine ⟨h.os, h.tape, h.output, by rw [lend_size, lend_size]; exact h.size, fun k hk _ => ?_⟩
  rw [lend_size] at hk
  have hb := h.block k hk
  unfold lend World.setCell
  simp only [Array.getElem?_modify]
  rw [hb]
theorem keeps_of_turned {S : Nat → Prop} {W W' : World} (B : Nat) (h : Turned S W W') (hS : ∀ k, S k → ∃ cs T, Blk W k cs T) : KeepsFrom B W W' :=
  ⟨h.size, fun k o _ hk ho => (h.block k (Array.getElem?_eq_some_iff.1 hk).1 (fun hs => by
    obtain ⟨cs, T, hb⟩ := hS k hs
    unfold Blk at hb
    rw [hk] at hb
    cases hb
    cases ho)).trans hk⟩
theorem blk_own {A B : World} {row : Option Nat} {N b : Nat} {cs : Array Value} {T : TypeId} (h : Blk A b cs T) (hg : A.grownBy B row) (hr : ∀ r, row = some r → N ≤ r ∧ ∃ o : Obj, A.heap[r]? = some o ∧ o.isCells = false) : Blk B b cs T :=
  h.same (hg.block b h.lt (fun e => by
    obtain ⟨_, o, ho, hc⟩ := hr b e.symm
    unfold Blk at h
    rw [h] at ho
    cases ho
    cases hc))
theorem turned_own {A B V : World} {row : Option Nat} {S : Nat → Prop} (h : Turned S V A) (hg : A.grownBy B row) (hr : ∀ r, row = some r → V.heap.size ≤ r ∧ ∃ o : Obj, A.heap[r]? = some o ∧ o.isCells = false) : Turned S V B :=
  ⟨hg.os.trans h.os, hg.tape.trans h.tape, hg.output.trans h.output, Nat.le_trans h.size hg.size, fun k hk hs => (hg.block k (Nat.lt_of_lt_of_le hk h.size) (fun e => by have := (hr k e.symm).1; omega)).trans (h.block k hk hs)⟩

theorem rowStays_trans {iv : Value} {A B C : World} (h : RowStays iv A B) (k : RowStays iv B C) : RowStays iv A C := ⟨Nat.le_trans h.1 k.1, fun g hg => (k.2 g hg).trans (h.2 g hg)⟩
theorem rowStays_put {iv : Value} {N : Nat} (hN : ∀ g, iv.ownBlock = some g → g < N) (W : World) (r : Nat) (o : Obj) (hr : N ≤ r) : RowStays iv W (W.putObj r o) :=
  ⟨by simp, fun g hg => World.putObj_heap_other (by have := hN g hg; omega)⟩
theorem drop_cons {α : Type} {l : List α} {i : Nat} {a : α} (h : l[i]? = some a) : l.drop i = a :: l.drop (i + 1) := by
  obtain ⟨hl, rfl⟩ := List.getElem?_eq_some_iff.1 h
  exact List.drop_eq_getElem_cons hl
theorem pre_at {α : Type} {pre xs : List α} {x : α} (h : (pre ++ [x]) <+: xs) : xs[pre.length]? = some x := by
  obtain ⟨t, rfl⟩ := h
  simp
def noDefer (l : List Oper) : Bool := l.all fun o => match o.op with | .defer _ => false | _ => true
theorem noDefer_spec {l : List Oper} (h : noDefer l = true) : ∀ o ∈ l, ∀ c, o.op ≠ .defer c := by
  intro o ho c hc
  have := List.all_eq_true.1 h o ho
  rw [hc] at this
  cases this
def flat (F : Fence) : Fence := { F with round := none }
theorem oper_flat {F : Fence} {n : Nat} {P : Program} {o : Oper} {a : Act} {K : Act → World → Prop} {Q : Exit → Act → World → Prop} {w : World} (hd : ∀ c, o.op ≠ .defer c) (h : o.wpIn (flat F) n P a w K Q) : o.wpIn F n P a w K Q := by
  unfold Oper.wpIn at *
  rw [Oper.semAt_plain F _ _ hd]
  rw [Oper.semAt_plain (flat F) _ _ hd] at h
  exact h
theorem wpOp_flat {F : Fence} {n : Nat} {P : Program} {ops : Array Oper} {i : Nat} {K K' : Act → World → Prop} {Q : Exit → Act → World → Prop} {a : Act} {w : World} (hd : ∀ o ∈ ops.toList, ∀ c, o.op ≠ .defer c)
    (hK : ∀ a w, K a w → K' a w) (h : wpOpIn (flat F) n P ops Q i K a w) : wpOpIn F n P ops Q i K' a w := by
  unfold wpOpIn at *
  cases ho : ops[i]? with
  | none => rw [ho] at h; exact hK _ _ h
  | some o =>
    rw [ho] at h
    simp only at h ⊢
    have hm : o ∈ ops.toList := by
      obtain ⟨hl, rfl⟩ := Array.getElem?_eq_some_iff.1 ho
      exact Array.getElem_mem_toList hl
    split
    · rename_i hw
      rw [if_pos hw] at h
      exact Oper.wpIn_mono hK (oper_flat (hd o hm) h)
    · rename_i hw
      rw [if_neg hw] at h
      exact ⟨h.1, hK _ _ h.2⟩
theorem wpAny_flat {F : Fence} {n : Nat} {P : Program} {md : Region.Mode} {ops : Array Oper} {Q : Exit → Act → World → Prop} (hd : ∀ o ∈ ops.toList, ∀ c, o.op ≠ .defer c) :
    ∀ (fuel : Nat) (listed : Array Bool) (a : Act) (w : World), wpAnyIn (flat F) n P md ops Q fuel listed a w → wpAnyIn F n P md ops Q fuel listed a w
  | 0, _, _, _, h => h
  | fuel + 1, _, _, _, h => ⟨h.1, fun i hi => wpOp_flat hd (fun a w hh => wpAny_flat hd fuel _ a w hh) (h.2 i hi)⟩
theorem wpIn_region_quiet_round {F : Fence} {n : Nat} {P : Program} {id : Nat} {Q : Exit → Act → World → Prop} {a : Act} {w : World} {l : List Oper} (hm : P.follows .mixedOrders = true) (hB : Region.lexB .any l.toArray = true) (hd : noDefer l = true)
    (h : wpQuietIn (flat F) n P l.toArray (fun w' => ∃ n, w' = w.drewN n) (fun a' => ∀ w', (∃ n, w' = w.drewN n) → Q .normal a' w') l a) : (Code.region id l.toArray true).wpIn F n P Q a w := by
  simp only [Region.lexB, Bool.and_eq_true] at hB
  refine wpIn_region_any hm (wpAny_flat (by simpa using noDefer_spec hd) _ _ _ _ (wpAnyIn_of_quiet (F := flat F) (C := fun w' => ∃ n, w' = w.drewN n) (Q := fun a' => ∀ w', (∃ n, w' = w.drewN n) → Q .normal a' w') rfl (fun _ w' hw' h => h w' hw') _ _ _ _ ⟨1, rfl⟩ ?_))
  have := wpAnyQIn_lex (F := flat F) (n := n) (C := fun w' => ∃ n, w' = w.drewN n) (md := .any) hB.1 l 0 (Array.replicate l.toArray.size false) a (by simp) (by simpa using hB.2) h
  simpa using this
theorem wpIn_post {F : Fence} {n : Nat} {P : Program} {C : Code} {Q : Exit → Act → World → Prop} {a : Act} {w : World} (R : Act → World → Prop) (h : C.wpIn F n P (fun e a w => e = .normal ∧ R a w) a w) (hR : ∀ a w, R a w → Q .normal a w) : C.wpIn F n P Q a w :=
  Code.wpIn_mono (fun e a w hq => by obtain ⟨rfl, hr⟩ := hq; exact hR a w hr) h
theorem wpIn_post_at {F : Fence} {n : Nat} {P : Program} {C : Code} {Q : Exit → Act → World → Prop} {a : Act} {w : World} (B : World → Prop) {fr : Act} (reg : C.wpIn F n P (fun e a w => e = .normal ∧ a = fr ∧ B w) a w) (after : ∀ w, B w → Q .normal fr w) : C.wpIn F n P Q a w :=
  Code.wpIn_mono (fun e a w hq => by obtain ⟨rfl, rfl, hr⟩ := hq; exact after w hr) reg

theorem normT_len (k : K) : (normT k).s.length ≤ k.s.length := by
  rw [normT_keyNum]
  split
  · split
    · simp
    · simp
  · simp

theorem append_full (l : Ls) (v : Int) (h : (l.append v).2.2 = true) : (l.append v).1 = l := by
  unfold Ls.append at h ⊢
  split
  · rfl
  · rename_i hn
    rw [if_neg hn] at h
    simp only at h ⊢
    unfold Ls.set at h ⊢
    split
    · rename_i hh; rw [if_pos hh] at h; cases h
    · rename_i hh
      rw [if_neg hh] at h
      split
      · rfl
      · rename_i hf; rw [if_neg hf] at h; cases h
theorem set_full (l : Ls) (k : K) (v : Int) (h : (l.set k v).2 = true) : (l.set k v).1 = l := by
  unfold Ls.set at h ⊢
  split
  · rename_i hh; rw [if_pos hh] at h; cases h
  · rename_i hh
    rw [if_neg hh] at h
    split
    · rfl
    · rename_i hf; rw [if_neg hf] at h; cases h
theorem same_scan (get : K → Bool) (a : List K) : scanK get a a = true := by
  have := scan_app get a []
  rwa [List.append_nil] at this
theorem del_facts (l : Ls) (k : K) (hg : l.Good) : scanK (fun j => hasI (l.del k).1.items j) (l.items.map (·.1)) ((l.del k).1.items.map (·.1)) = true ∧ ∀ j ∈ (l.del k).1.keys, j ∈ l.keys := by
  unfold Ls.del
  split
  · refine ⟨scan_del _ k ?_ l.items hg.nodup, fun j hj => ((delI_sub l.items k).map (·.1)).subset hj⟩
    show hasI (delI l.items k) k = false
    unfold hasI
    rw [getI_del _ _ hg.nodup]
    rfl
  · exact ⟨same_scan _ _, fun j hj => hj⟩
theorem set_facts (l : Ls) (k : K) (v : Int) : scanK (fun j => hasI (l.set k v).1.items j) (l.items.map (·.1)) ((l.set k v).1.items.map (·.1)) = true ∧ ∀ j ∈ (l.set k v).1.keys, j ∈ l.keys ∨ j = k := by
  unfold Ls.set
  split
  · refine ⟨scan_put _ l.items k v, fun j hj => .inl ?_⟩
    have e : (⟨putI l.items k v, l.next⟩ : Ls).keys = l.keys := putI_keys _ _ _
    rwa [e] at hj
  · split
    · exact ⟨same_scan _ _, fun j hj => .inl hj⟩
    · refine ⟨?_, fun j hj => ?_⟩
      · simp only [List.map_append]
        exact scan_app _ _ _
      · have e : (⟨l.items ++ [(k, v)], nextT l.next k⟩ : Ls).keys = l.keys ++ [k] := by simp [Ls.keys]
        rw [e] at hj
        rcases List.mem_append.1 hj with h | h
        · exact .inl h
        · simp at h; exact .inr h
theorem append_facts (l : Ls) (v : Int) : scanK (fun j => hasI (l.append v).1.items j) (l.items.map (·.1)) ((l.append v).1.items.map (·.1)) = true ∧ ∀ j ∈ (l.append v).1.keys, j ∈ l.keys ∨ j.s = [] := by
  unfold Ls.append
  split
  · exact ⟨same_scan _ _, fun j hj => .inl hj⟩
  · have h := set_facts l ⟨false, l.next, []⟩ v
    exact ⟨h.1, fun j hj => (h.2 j hj).imp id (fun e => by rw [e])⟩
end Go.Proofs.YtmfnonepcipplaaDoor
