/-
  Contracts of slices.Clone and maps.Clone at this package's types, and of package list's own.
-/
import Derived.Test.YtmfnonepcipplaaDoorLMade
import Derived.Shelf.SlMaps.Clone
import Derived.WalkSpells
namespace Go.Proofs.YtmfnonepcipplaaDoor
open Go Go.RowKit Convs Lists

theorem itemInfo : (Tryd.prog.info? 69).map (fun i => (i.zero, i.size, i.bytes)) = some (some (.agg #[.bool false, .int .i64 0, .string ⟨#[]⟩, .int .i64 0]), 4, 40) := by kernel_rfl
theorem oneCells (l : List (K × Int)) : ∀ u ∈ encItems l, u.oneCell' = true := by
  intro u hu
  simp only [encItems, List.mem_flatMap] at hu
  obtain ⟨x, _, hx⟩ := hu
  simp only [itemV, List.mem_cons, List.not_mem_nil, or_false] at hx
  rcases hx with rfl | rfl | rfl | rfl <;> rfl
theorem ownsRow_base {w : World} {B B' : Nat} {e : TypeId} {size : Nat} {v : Value} {n : Nat} {xs : List Value} (h : w.ownsRow B' e size v n xs) (hB : B ≤ B') : w.ownsRow B e size v n xs := by
  obtain ⟨h1, h2⟩ := h
  refine ⟨h1, ?_⟩
  rcases h2 with h2 | ⟨g, cap, cur, hv, hb, r⟩
  · exact .inl h2
  · exact .inr ⟨g, cap, cur, hv, Nat.le_trans hB hb, r⟩
theorem ownsRow_same {w w' : World} {B : Nat} {e : TypeId} {size : Nat} {v : Value} {n : Nat} {xs : List Value} (h : w.ownsRow B e size v n xs) (hs : ∀ k, v.ownBlock = some k → w'.heap[k]? = w.heap[k]?) : w'.ownsRow B e size v n xs := by
  obtain ⟨h1, h2⟩ := h
  refine ⟨h1, ?_⟩
  rcases h2 with h2 | ⟨g, cap, cur, hv, hb, hh, r⟩
  · exact .inl h2
  · exact .inr ⟨g, cap, cur, hv, hb, by rw [hs g (by rw [hv]; rfl)]; exact hh, r⟩
theorem ownsRow_lt {w : World} {B : Nat} {e : TypeId} {size : Nat} {v : Value} {n : Nat} {xs : List Value} (h : w.ownsRow B e size v n xs) {k : Nat} (hk : v.ownBlock = some k) : k < w.heap.size ∧ B ≤ k ∧ ∃ cs, Blk w k cs e := by
  rcases h.2 with ⟨rfl, _⟩ | ⟨g, cap, cur, rfl, hb, hh, _⟩
  · cases hk
  · have : k = g := by cases hk; rfl
    subst this
    exact ⟨(Array.getElem?_eq_some_iff.1 hh).1, hb, cur, hh⟩
theorem row_cells {w : World} {B : Nat} {g n cap : Nat} {l : List (K × Int)} (h : w.ownsRow B 69 4 (.slice (some ⟨g, 0, none⟩) n cap) l.length (encItems l)) :
    ∀ j u, (encItems l)[j]? = some u → w.cell? ((⟨g, 0, none⟩ : Addr).add j) = some u := by
  intro j u hj
  have hlt : j < l.length * 4 := by rw [← encItems_length]; exact (List.getElem?_eq_some_iff.1 hj).1
  have e : (⟨g, 0, none⟩ : Addr).add j = ⟨g, j, none⟩ := by unfold Addr.add; by_cases h : j = 0 <;> simp [h]
  have hn : l.length = n := by
    rcases h.2 with ⟨h0, _⟩ | ⟨g', cap', cur, hv, _⟩
    · cases h0
    · cases hv; rfl
  subst hn
  rw [e, h.cellAt j hlt, ← hj, List.getElem?_eq_getElem (by rw [encItems_length]; exact hlt)]

theorem addr_block (g j : Nat) : ((⟨g, 0, none⟩ : Addr).add j).block = g := by unfold Addr.add; split <;> rfl

set_option maxRecDepth 100000 in
set_option maxHeartbeats 1000000 in
theorem SClone_any (w : World) (B : Nat) (iv : Value) (l : List (K × Int)) (hl : l.length ≤ 2048) (h : w.ownsRow B 69 4 iv l.length (encItems l)) :
    Calls Tryd.prog 34 #[iv] w fun e w' => ∃ iv', e = .returned iv' ∧ w'.ownsRow w.heap.size 69 4 iv' l.length (encItems l) ∧ Below w.heap.size w w' := by
  obtain ⟨i0, hi, hz0, hz1, hz2⟩ := info_parts itemInfo
  have hq := fun (W : World) (a : Option Addr) (n c : Nat) => Lib.run_eql_slice_nil (P := Tryd.prog) W 48 69 a n c 0 0 Tryd.underlying48
  rcases h.2 with ⟨rfl, h0⟩ | ⟨g, cap, cur, rfl, hb, hh, hn, hc, hcs, ht⟩
  · have : l = [] := List.eq_nil_of_length_eq_zero h0
    subst this
    go_enter Tryd.func34, Tryd.ntmps34
    go_wp2_with fail
    go_ret
    exact ⟨_, rfl, World.ownsRow_nil _ _ _ _, Below.refl _ _⟩
  · have hnews := row_cells h
    have hnews' : ∀ j u, (encItems l)[j]? = some u → (w.alloc (.cells #[] 69)).cell? ((⟨g, 0, none⟩ : Addr).add j) = some u := fun j u hu => by
      have := hnews j u hu
      rw [← this]
      exact ((Below.refl w.heap.size w).alloc (Nat.le_refl _) _).cell (by rw [addr_block]; exact (Array.getElem?_eq_some_iff.1 hh).1)
    have HN := hide hnews'
    have hown : (w.alloc (.cells #[] 69)).ownsRow w.heap.size 69 4 (.slice (some ⟨w.heap.size, 0, none⟩) 0 0) 0 [] :=
      World.ownsRow_lit w #[] 0 (Nat.le_refl _) (by unfold maxLen; omega) rfl
    have HO := hide hown
    have HC := hide (oneCells l)
    clear hnews hnews' hh ht h hown
    go_enter Tryd.func34, Tryd.ntmps34
    have H0 : 0 + l.length ≤ maxLen := by unfold maxLen; omega
    have H1 : (0 + l.length) * 40 ≤ 140737488355328 := by omega
    have H2 : w.heap.size ≤ (w.alloc (.cells #[] 69)).heap.size := by simp
    go_wp2_with (at_builtin; refine wpList_append_own _ rfl (.tmp 5) (.tmp 6) 48 rfl w.heap.size 69 i0 _ 4 40 Tryd.underlying48 hi hz0 hz1 hz2 rfl (by decide) _ 0 [] rfl HO.out ⟨g, 0, none⟩ l.length cap (encItems l) rfl (encItems_length l) HN.out HC.out H0 H1 H2 ?_; intro v' w1 hown' hgrow hnil)
    go_ret
    refine ⟨_, rfl, ?_, ?_⟩
    · simpa using hown'
    · exact ((Below.refl _ w).alloc (Nat.le_refl _) _).grown hgrow H2 (fun k hk => by cases hk; exact Nat.le_refl _)

set_option maxRecDepth 100000 in
theorem MClone_any (w : World) (mb : Nat) (f : K → Option Int) (h : Idx w mb f) :
    Calls Tryd.prog 35 #[.map (some mb)] w fun e w' => e = .returned (.map (some w.heap.size)) ∧ Idx w' w.heap.size f ∧ Below w.heap.size w w' ∧ w'.heap.size = w.heap.size + 1 := by
  have hq := fun w => run_eql_map_nil_sl (P := Tryd.prog) w 47 _ _ (some mb) Tryd.underlying47
  obtain ⟨es, clock, hb, r⟩ := h
  have HR := hide r
  clear r
  go_enter Tryd.func35, Tryd.ntmps35
  go_wp2_with fail
  rw [run_callFunc_extern Tryd.func40 (by kernel_rfl) (by kernel_rfl) (by kernel_rfl) (e := Extern.MapsClone.clone) (by kernel_rfl), run_maps_clone_sl w 47 hb]
  simp only [Result.andThen]
  rw [Oper.upon_value]
  go_wp2_with fail
  rw [run_typeAssert_map_sl _ 47 20 _ _ _ Tryd.underlying47]
  simp only [Result.andThen]
  rw [Oper.upon_value]
  go_wp2_with fail
  go_ret
  exact ⟨rfl, ⟨es, clock, (MapKept.heap_alloc w _).1, HR.out⟩, below_box w _, by simp⟩
end Go.Proofs.YtmfnonepcipplaaDoor
