/-
  Regions that draw their order, inside a round: those whose operations only read.
-/
import Derived.Test.YtbbmfpffanhgnaaDoorLApp1
import Derived.Sort.QuietIn
import Derived.Sort.CutIn
namespace Go.Proofs.YtbbmfpffanhgnaaDoor
open Go Go.RowKit Convs Lists

def noDefer (l : List Oper) : Bool := l.all fun o => match o.op with | .defer _ => false | _ => true
theorem noDefer_spec {l : List Oper} (h : noDefer l = true) : ∀ o ∈ l, ∀ c, o.op ≠ .defer c := by
  intro o ho c hc
  have := List.all_eq_true.1 h o ho
  rw [hc] at this
  cases this
/-- A fence without a round. -/
def flat (F : Fence) : Fence := { F with round := none }
theorem oper_flat {F : Fence} {n : Nat} {P : Program} {o : Oper} {a : Act} {K : Act → World → Prop} {Q : Exit → Act → World → Prop} {w : World} (hd : ∀ c, o.op ≠ .defer c) (h : o.wpIn (flat F) n P a w K Q) : o.wpIn F n P a w K Q := by
  unfold Oper.wpIn at *
  rw [Oper.semAt_plain F _ _ hd]
  rw [Oper.semAt_plain (flat F) _ _ hd] at h
  exact h
theorem wpOp_flat {F : Fence} {n : Nat} {P : Program} {ops : Array Oper} {i : Nat} {K K' : Act → World → Prop} {Q : Exit → Act → World → Prop} {a : Act} {w : World} (hd : ∀ o ∈ ops.toList, ∀ c, o.op ≠ .defer c)
    (hK : ∀ a w, K a w → K' a w) (h : wpOpIn (flat F) n P ops Q i K a w) : wpOpIn F n P ops Q i K' a w := by
  unfold wpOpIn at *
  cases ho : ops[i]? with
  | none => rw [ho] at h; exact hK _ _ h
  | some o =>
    rw [ho] at h
    simp only at h ⊢
    have hm : o ∈ ops.toList := by
      obtain ⟨hl, rfl⟩ := Array.getElem?_eq_some_iff.1 ho
      exact Array.getElem_mem_toList hl
    split
    · rename_i hw
      rw [if_pos hw] at h
      exact Oper.wpIn_mono hK (oper_flat (hd o hm) h)
    · rename_i hw
      rw [if_neg hw] at h
      exact ⟨h.1, hK _ _ h.2⟩
theorem wpAny_flat {F : Fence} {n : Nat} {P : Program} {md : Region.Mode} {ops : Array Oper} {Q : Exit → Act → World → Prop} (hd : ∀ o ∈ ops.toList, ∀ c, o.op ≠ .defer c) :
    ∀ (fuel : Nat) (listed : Array Bool) (a : Act) (w : World), wpAnyIn (flat F) n P md ops Q fuel listed a w → wpAnyIn F n P md ops Q fuel listed a w
  | 0, _, _, _, h => h
  | fuel + 1, _, _, _, h => ⟨h.1, fun i hi => wpOp_flat hd (fun a w hh => wpAny_flat hd fuel _ a w hh) (h.2 i hi)⟩
theorem wpIn_region_quiet_round {F : Fence} {n : Nat} {P : Program} {id : Nat} {Q : Exit → Act → World → Prop} {a : Act} {w : World} {l : List Oper} (hm : P.follows .mixedOrders = true) (hB : Region.lexB .any l.toArray = true) (hd : noDefer l = true)
    (h : wpQuietIn (flat F) n P l.toArray (fun w' => ∃ n, w' = w.drewN n) (fun a' => ∀ w', (∃ n, w' = w.drewN n) → Q .normal a' w') l a) : (Code.region id l.toArray true).wpIn F n P Q a w := by
  simp only [Region.lexB, Bool.and_eq_true] at hB
  refine wpIn_region_any hm (wpAny_flat (by simpa using noDefer_spec hd) _ _ _ _ (wpAnyIn_of_quiet (F := flat F) (C := fun w' => ∃ n, w' = w.drewN n) (Q := fun a' => ∀ w', (∃ n, w' = w.drewN n) → Q .normal a' w') rfl (fun _ w' hw' h => h w' hw') _ _ _ _ ⟨1, rfl⟩ ?_))
  have := wpAnyQIn_lex (F := flat F) (n := n) (C := fun w' => ∃ n, w' = w.drewN n) (md := .any) hB.1 l 0 (Array.replicate l.toArray.size false) a (by simp) (by simpa using hB.2) h
  simpa using this
/-- What all orders of a region leave alike. -/
theorem wpIn_post {F : Fence} {n : Nat} {P : Program} {C : Code} {Q : Exit → Act → World → Prop} {a : Act} {w : World} (R : Act → World → Prop) (h : C.wpIn F n P (fun e a w => e = .normal ∧ R a w) a w) (hR : ∀ a w, R a w → Q .normal a w) : C.wpIn F n P Q a w :=
  Code.wpIn_mono (fun e a w hq => by obtain ⟨rfl, hr⟩ := hq; exact hR a w hr) h
theorem wpIn_post_at {F : Fence} {n : Nat} {P : Program} {C : Code} {Q : Exit → Act → World → Prop} {a : Act} {w : World} (B : World → Prop) {fr : Act} (reg : C.wpIn F n P (fun e a w => e = .normal ∧ a = fr ∧ B w) a w) (after : ∀ w, B w → Q .normal fr w) : C.wpIn F n P Q a w :=
  Code.wpIn_mono (fun e a w hq => by obtain ⟨rfl, rfl, hr⟩ := hq; exact after w hr) reg

theorem same_scan (get : K → Bool) (a : List K) : scanK get a a = true := by
  have := scan_app get a []
  rwa [List.append_nil] at this
theorem del_facts (l : Ls) (k : K) (hg : l.Good) : scanK (fun j => hasI (l.del k).1.items j) (l.items.map (·.1)) ((l.del k).1.items.map (·.1)) = true ∧ ∀ j ∈ (l.del k).1.keys, j ∈ l.keys := by
  unfold Ls.del
  split
  · refine ⟨scan_del _ k ?_ l.items hg.nodup, fun j hj => ((delI_sub l.items k).map (·.1)).subset hj⟩
    show hasI (delI l.items k) k = false
    unfold hasI
    rw [getI_del _ _ hg.nodup]
    rfl
  · exact ⟨same_scan _ _, fun j hj => hj⟩
theorem set_facts (l : Ls) (k : K) (v : Int) : scanK (fun j => hasI (l.set k v).1.items j) (l.items.map (·.1)) ((l.set k v).1.items.map (·.1)) = true ∧ ∀ j ∈ (l.set k v).1.keys, j ∈ l.keys ∨ j = k := by
  unfold Ls.set
  split
  · refine ⟨scan_put _ l.items k v, fun j hj => .inl ?_⟩
    have e : (⟨putI l.items k v, l.next⟩ : Ls).keys = l.keys := putI_keys _ _ _
    rwa [e] at hj
  · split
    · exact ⟨same_scan _ _, fun j hj => .inl hj⟩
    · refine ⟨?_, fun j hj => ?_⟩
      · simp only [List.map_append]
        exact scan_app _ _ _
      · have e : (⟨l.items ++ [(k, v)], nextT l.next k⟩ : Ls).keys = l.keys ++ [k] := by simp [Ls.keys]
        rw [e] at hj
        rcases List.mem_append.1 hj with h | h
        · exact .inl h
        · simp at h; exact .inr h
theorem append_facts (l : Ls) (v : Int) : scanK (fun j => hasI (l.append v).1.items j) (l.items.map (·.1)) ((l.append v).1.items.map (·.1)) = true ∧ ∀ j ∈ (l.append v).1.keys, j ∈ l.keys ∨ j.s = [] := by
  unfold Ls.append
  split
  · exact ⟨same_scan _ _, fun j hj => .inl hj⟩
  · have h := set_facts l ⟨false, l.next, []⟩ v
    exact ⟨h.1, fun j hj => (h.2 j hj).imp id (fun e => by rw [e])⟩
theorem append_full (l : Ls) (v : Int) (h : (l.append v).2.2 = true) : (l.append v).1 = l := by
  unfold Ls.append at h ⊢
  split
  · rfl
  · rename_i hn
    rw [if_neg hn] at h
    simp only at h ⊢
    unfold Ls.set at h ⊢
    split
    · rename_i hh; rw [if_pos hh] at h; cases h
    · rename_i hh
      rw [if_neg hh] at h
      split
      · rfl
      · rename_i hf; rw [if_neg hf] at h; cases h
theorem set_full (l : Ls) (k : K) (v : Int) (h : (l.set k v).2 = true) : (l.set k v).1 = l := by
  unfold Ls.set at h ⊢
  split
  · rename_i hh; rw [if_pos hh] at h; cases h
  · rename_i hh
    rw [if_neg hh] at h
    split
    · rfl
    · rename_i hf; rw [if_neg hf] at h; cases h
end Go.Proofs.YtbbmfpffanhgnaaDoor
