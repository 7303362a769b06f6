/-
  Maps under keys that are structs of a truth, a number and a text, with places as elements: what block b holds as a function of keys, and the three operations on it.
-/
import Derived.Test.YtmfnonepcipplaaDoorProg
import Derived.Test.YtmfnonepcipplaaDoorLists
import Derived.WalkKit
import Derived.Maps.OwnSet
import Derived.DeepKeys5
import Derived.Lib.Walk
namespace Go.Proofs.YtmfnonepcipplaaDoor
open Go Go.RowKit Go.Maps Convs Lists
open Go.ChangeMaps (setBlock heap_setBlock_same heap_setBlock_other)

theorem laidOutK : laidOutB Tryd.prog = true := by kernel_rfl
theorem keyDeep : Tryd.prog.keyTypeAt (Tryd.prog.types.size + 1) 30 = true := by kernel_rfl
theorem keyRow : (30 : TypeId) < Tryd.prog.types.size := of_decide_eq_true (by kernel_rfl)
theorem keyDeep3 : Tryd.prog.keyTypeAt 3 30 = true := by kernel_rfl
theorem keyLaw : WideMaps.KeyLaw Tryd.prog 30 := deep_law_laid laidOutK (m := 3) (by omega) keyRow keyDeep3 (by rw [Tryd.underlying30])
theorem keyKeyed : Keyed Tryd.prog 30 := Keyed.of_law keyLaw
theorem keyCells : Tryd.prog.cellsOf 30 = 3 := by kernel_rfl
theorem cellsBool : Tryd.prog.cellsOf 4 = 1 := by kernel_rfl
theorem cellsInt : Tryd.prog.cellsOf 3 = 1 := by kernel_rfl
theorem cellsString : Tryd.prog.cellsOf 9 = 1 := by kernel_rfl

/-- A key as a value. -/
def kv (k : K) : Value := .agg #[.bool k.t, .int .i64 k.n, .string ⟨k.s.toArray⟩]
/-- A key that memory holds. -/
def Kok (k : K) : Prop := -9223372036854775808 ≤ k.n ∧ k.n ≤ 9223372036854775807 ∧ k.s.length ≤ maxLen
theorem kv_inj {a b : K} (h : kv a = kv b) : a = b := by
  obtain ⟨t, n, s⟩ := a
  obtain ⟨t', n', s'⟩ := b
  unfold kv at h
  simp only [Value.agg.injEq, Array.mk.injEq, List.cons.injEq, Value.bool.injEq, Value.int.injEq, Value.string.injEq, ByteArray.mk.injEq, true_and, and_true] at h
  obtain ⟨h1, h2, h3⟩ := h
  subst h1 h2
  have : s = s' := by simpa using h3
  subst this
  rfl
theorem keyOf_kv (k : K) (h : Kok k) : ∃ l, keyOf Tryd.prog 30 (kv k) = some l := by
  have hu := Tryd.underlying30
  obtain ⟨m, hm⟩ : ∃ m, Tryd.prog.types.size + 1 = m + 1 + 1 := ⟨Tryd.prog.types.size - 1, by have h0 : 0 < Tryd.prog.types.size := Nat.lt_of_le_of_lt (Nat.zero_le _) keyRow; omega⟩
  have hw : (Lit.int .i64 k.n).wf = true := WalkArith.wf_i64 ⟨h.1, h.2.1⟩
  have hs : (⟨k.s.toArray⟩ : ByteArray).size ≤ maxLen := by show k.s.toArray.size ≤ _; simpa using h.2.2
  refine ⟨.string (keyBytes [.bool k.t, .int .i64 k.n, .string k.s]), ?_⟩
  unfold keyOf
  rw [hu]
  simp only
  rw [if_pos (by rw [show Tryd.prog.keyType 30 = true from keyDeep]; simp [kv, Value.formed, hu, keyCells]), hm]
  unfold Program.keyLits
  rw [hu]
  simp only [kv, Value.cells]
  simp [keyCells, Program.keyLits, Tryd.underlying4, Tryd.underlying3, Tryd.underlying9, cellsBool, cellsInt, cellsString, hw, hs]

/-- Two keys are equal just where the program finds them so. -/
theorem key_equal (w : World) (a b : K) (ha : Kok a) (hb : Kok b) : (Op.equalIn 10000 30 (kv a) (kv b)).run Tryd.prog w = .ok (decide (a = b)) w := by
  obtain ⟨la, hla⟩ := keyOf_kv a ha
  obtain ⟨lb, hlb⟩ := keyOf_kv b hb
  obtain ⟨r, hr, hiff⟩ := run_equal_deep w (m := 3) (by omega) keyDeep3 (by rw [Tryd.underlying30]) hla hlb
  have e : r = decide (a = b) := by
    rw [Bool.eq_iff_iff, hiff, decide_eq_true_eq]
    constructor
    · rintro rfl
      exact kv_inj (keyKeyed.inj hla hlb)
    · rintro rfl
      rw [hla] at hlb
      exact Option.some.inj hlb
  rw [← e]
  exact hr

/-- Block b holds a map that tells of each key its place. -/
def Idx (w : World) (b : Nat) (f : K → Option Int) : Prop :=
  ∃ es clock, w.heap[b]? = some (.map es clock) ∧ es.toList.Pairwise (fun x y => x.key ≠ y.key) ∧
    (∀ e ∈ es.toList, ∃ k i, Kok k ∧ f k = some i ∧ e.key = kv k ∧ e.val = .int .i64 i) ∧
    (∀ k i, f k = some i → ∃ e ∈ es.toList, e.key = kv k)
def updF (f : K → Option Int) (k : K) (v : Option Int) : K → Option Int := fun j => if j = k then v else f j

theorem Idx.made (w : World) : Idx (w.alloc (.map #[] 0)) w.heap.size (fun _ => none) :=
  ⟨#[], 0, (MapKept.heap_alloc w _).1, by simp, by simp, by simp⟩
theorem Idx.lt {w : World} {b : Nat} {f : K → Option Int} (h : Idx w b f) : b < w.heap.size := by
  obtain ⟨es, clock, hb, _⟩ := h
  exact (Array.getElem?_eq_some_iff.1 hb).1
theorem Idx.same {w w' : World} {b : Nat} {f : K → Option Int} (h : Idx w b f) (he : w'.heap[b]? = w.heap[b]?) : Idx w' b f := by
  obtain ⟨es, clock, hb, r⟩ := h
  exact ⟨es, clock, he.trans hb, r⟩
theorem Idx.ext {w : World} {b : Nat} {f g : K → Option Int} (h : Idx w b f) (he : ∀ k, f k = g k) : Idx w b g := by
  have : f = g := funext he
  subst this; exact h
theorem Idx.isMap {w : World} {b : Nat} {f : K → Option Int} (h : Idx w b f) : ∃ es clock, w.heap[b]? = some (.map es clock) := by
  obtain ⟨es, clock, hb, _⟩ := h
  exact ⟨es, clock, hb⟩

theorem zeroInt (w : World) : (zeroValue 3).run Tryd.prog w = .ok (.int .i64 0) w := by kernel_rfl
theorem idx_find {w : World} {f : K → Option Int} {k : K} (hk : Kok k) {es : Array MapEntry} (hp : es.toList.Pairwise (fun x y => x.key ≠ y.key))
    (h1 : ∀ e ∈ es.toList, ∃ k i, Kok k ∧ f k = some i ∧ e.key = kv k ∧ e.val = .int .i64 i) (h2 : ∀ k i, f k = some i → ∃ e ∈ es.toList, e.key = kv k) :
    (f k = none ∧ (Instr.findKey 30 (kv k) es.toList).run Tryd.prog w = .ok none w ∧ ∀ e ∈ es.toList, e.key ≠ kv k) ∨
    ∃ i j e, f k = some i ∧ (Instr.findKey 30 (kv k) es.toList).run Tryd.prog w = .ok (some (j, .int .i64 i)) w ∧ es.toList[j]? = some e ∧ e.key = kv k ∧ e.val = .int .i64 i := by
  obtain ⟨l, hl⟩ := keyOf_kv k hk
  rcases keyKeyed.find w hl es.toList (fun e he => by
    obtain ⟨k', i, hk', _, e1, _⟩ := h1 e he
    rw [e1]; exact keyOf_kv k' hk') with ⟨g1, g2⟩ | ⟨j, e, g1, g2, g3⟩
  · refine .inl ⟨?_, g1, g2⟩
    cases hf : f k with
    | none => rfl
    | some i =>
      obtain ⟨e, he, e1⟩ := h2 k i hf
      exact absurd e1 (g2 e he)
  · obtain ⟨k', i, _, hf, e1, e2⟩ := h1 e (List.mem_of_getElem? g2)
    have : k' = k := kv_inj (e1.symm.trans g3)
    subst this
    exact .inr ⟨i, j, e, hf, by rw [e2] at g1; exact g1, g2, g3, e2⟩

/-- 'v, ok := m[k]'. -/
theorem Idx.look {w : World} {b : Nat} {f : K → Option Int} (h : Idx w b f) (k : K) (hk : Kok k) :
    (Instr.lookup 47 (.map (some b)) (kv k) true).run Tryd.prog w = .ok (.tuple #[.int .i64 ((f k).getD 0), .bool (f k).isSome]) w := by
  obtain ⟨es, clock, hb, hp, h1, h2⟩ := h
  obtain ⟨l, hl⟩ := keyOf_kv k hk
  have ht := Tryd.underlying47
  rcases idx_find (w := w) hk hp h1 h2 with ⟨e0, g1, _⟩ | ⟨i, j, e, e0, g1, _⟩
  · rw [e0]
    simp [Instr.lookup, run_underlying ht, MapKept.run_getObj_map hb, keyKeyed.check w _ hl, g1, zeroInt, Result.andThen]
  · rw [e0]
    simp [Instr.lookup, run_underlying ht, MapKept.run_getObj_map hb, keyKeyed.check w _ hl, g1, Result.andThen]

/-- 'm[k] = i'. -/
theorem Idx.put {w : World} {b : Nat} {f : K → Option Int} (h : Idx w b f) (k : K) (hk : Kok k) (i : Int) :
    ∃ w', (Instr.mapUpdate 47 (.map (some b)) (kv k) (.int .i64 i)).run Tryd.prog w = .ok () w' ∧ Idx w' b (updF f k (some i)) ∧ w.grownBy w' (some b) ∧ w'.heap.size = w.heap.size := by
  obtain ⟨es, clock, hb, hp, h1, h2⟩ := h
  obtain ⟨l, hl⟩ := keyOf_kv k hk
  have ht := Tryd.underlying47
  have grown : ∀ o, w.grownBy (setBlock w b o) (some b) := fun o => ⟨rfl, rfl, rfl, by simp [setBlock], fun j _ hj => heap_setBlock_other hb _ (fun e => hj (by rw [e]))⟩
  rcases idx_find (w := w) hk hp h1 h2 with ⟨e0, g1, g2⟩ | ⟨i0, j, e, e0, g1, g2, g3, g4⟩
  · refine ⟨setBlock w b (.map (es.push ⟨kv k, .int .i64 i, clock⟩) (clock + 1)), ?_, ⟨_, _, heap_setBlock_same hb _, ?_, ?_, ?_⟩, grown _, by simp [setBlock]⟩
    · simp [Instr.mapUpdate, run_underlying ht, MapKept.run_getObj_map hb, keyKeyed.check w false hl, g1, MapKept.run_setObj_map _ hb, Result.andThen, setBlock]
    · rw [Array.toList_push, List.pairwise_append]
      refine ⟨hp, by simp, fun x hx y hy => ?_⟩
      simp only [List.mem_singleton] at hy
      subst hy
      exact g2 x hx
    · intro e he
      rw [Array.toList_push, List.mem_append, List.mem_singleton] at he
      rcases he with he | rfl
      · obtain ⟨k', i', c0, c1, c2, c3⟩ := h1 e he
        refine ⟨k', i', c0, ?_, c2, c3⟩
        unfold updF
        rw [if_neg (fun h => g2 e he (by rw [c2, h]))]
        exact c1
      · exact ⟨k, i, hk, by simp [updF], rfl, rfl⟩
    · intro k' i' hf
      rw [Array.toList_push]
      unfold updF at hf
      by_cases he : k' = k
      · subst he
        exact ⟨_, List.mem_append_right _ (List.mem_singleton.2 rfl), rfl⟩
      · rw [if_neg he] at hf
        obtain ⟨e, he1, he2⟩ := h2 k' i' hf
        exact ⟨e, List.mem_append_left _ he1, he2⟩
  · have hj : es[j]? = some e := by simpa using g2
    have hlist : (es.modify j (fun e' => { e' with key := kv k, val := .int .i64 i })).toList = es.toList.set j { e with key := kv k, val := .int .i64 i } := by rw [Array.toList_modify, ChangeMaps.modify_eq_set _ _ _ _ g2]
    have hjl : j < es.toList.length := (List.getElem?_eq_some_iff.1 g2).1
    have hej : es.toList[j] = e := by rw [List.getElem?_eq_getElem hjl] at g2; exact Option.some.inj g2
    have apart : ∀ (n : Nat) (hn : n < es.toList.length), n ≠ j → es.toList[n].key ≠ kv k := fun n hn hne => by
      have h3 := List.pairwise_iff_getElem.1 hp
      rcases Nat.lt_or_gt_of_ne hne with hlt | hlt
      · have := h3 n j hn hjl hlt
        rw [hej, g3] at this
        exact this
      · have := h3 j n hjl hn hlt
        rw [hej, g3] at this
        exact Ne.symm this
    have who : ∀ x ∈ es.toList.set j { e with key := kv k, val := .int .i64 i }, x = { e with key := kv k, val := .int .i64 i } ∨ (x ∈ es.toList ∧ x.key ≠ kv k) := by
      intro x hx
      obtain ⟨n, hn, ex⟩ := List.getElem_of_mem hx
      rw [List.getElem_set] at ex
      split at ex
      · exact .inl ex.symm
      · rename_i hne
        have hn' : n < es.toList.length := by simpa using hn
        exact .inr ⟨ex ▸ List.getElem_mem hn', ex ▸ apart n hn' (fun h => hne h.symm)⟩
    refine ⟨setBlock w b (.map (es.modify j (fun e' => { e' with key := kv k, val := .int .i64 i })) clock), ?_, ⟨_, _, heap_setBlock_same hb _, ?_, ?_, ?_⟩, grown _, by simp [setBlock]⟩
    · simp [Instr.mapUpdate, run_underlying ht, MapKept.run_getObj_map hb, keyKeyed.check w false hl, g1, hj, g3, keyKeyed.stays w hl, MapKept.run_setObj_map _ hb, Result.andThen, setBlock]
    · rw [hlist, List.pairwise_iff_getElem]
      intro n m hn hm hlt
      rw [List.getElem_set, List.getElem_set]
      have hn' : n < es.toList.length := by simpa using hn
      have hm' : m < es.toList.length := by simpa using hm
      split
      · rename_i e1
        rw [if_neg (by omega)]
        exact fun h => apart m hm' (by omega) h.symm
      · rename_i e1
        split
        · exact apart n hn' (fun h => e1 h.symm)
        · exact List.pairwise_iff_getElem.1 hp n m hn' hm' hlt
    · intro x hx
      rw [hlist] at hx
      rcases who x hx with rfl | ⟨hx, hne⟩
      · exact ⟨k, i, hk, by simp [updF], rfl, rfl⟩
      · obtain ⟨k', i', c0, c1, c2, c3⟩ := h1 x hx
        refine ⟨k', i', c0, ?_, c2, c3⟩
        unfold updF
        rw [if_neg (fun h => hne (by rw [c2, h]))]
        exact c1
    · intro k' i' hf
      rw [hlist]
      unfold updF at hf
      by_cases he : k' = k
      · subst he
        exact ⟨{ e with key := kv k', val := .int .i64 i }, List.mem_iff_getElem.2 ⟨j, by simpa using hjl, by simp⟩, rfl⟩
      · rw [if_neg he] at hf
        obtain ⟨e', he1, he2⟩ := h2 k' i' hf
        obtain ⟨n, hn, ex⟩ := List.getElem_of_mem he1
        have hnj : n ≠ j := by
          rintro rfl
          rw [hej] at ex
          subst ex
          exact he (kv_inj (he2.symm.trans g3))
        exact ⟨e', List.mem_iff_getElem.2 ⟨n, by simpa using hn, by rw [List.getElem_set_ne (fun h => hnj h.symm)]; exact ex⟩, he2⟩

/-- 'delete(m, k)'. -/
theorem Idx.del {w : World} {b : Nat} {f : K → Option Int} (h : Idx w b f) (k : K) (hk : Kok k) (ty : TypeId) :
    ∃ w', (Builtin.delete_ #[47, 30] ty #[.map (some b), kv k]).run Tryd.prog w = .ok (.tuple #[]) w' ∧ Idx w' b (updF f k none) ∧ w.grownBy w' (some b) ∧ w'.heap.size = w.heap.size := by
  obtain ⟨es, clock, hb, hp, h1, h2⟩ := h
  obtain ⟨l, hl⟩ := keyOf_kv k hk
  have ht := Tryd.underlying47
  have grown : ∀ o, w.grownBy (setBlock w b o) (some b) := fun o => ⟨rfl, rfl, rfl, by simp [setBlock], fun j _ hj => heap_setBlock_other hb _ (fun e => hj (by rw [e]))⟩
  rcases idx_find (w := w) hk hp h1 h2 with ⟨e0, g1, g2⟩ | ⟨i0, j, e, e0, g1, g2, g3, g4⟩
  · refine ⟨setBlock w b (.map es clock), ?_, ⟨_, _, heap_setBlock_same hb _, hp, ?_, ?_⟩, grown _, by simp [setBlock]⟩
    · simp [Builtin.delete_, run_underlying ht, MapKept.run_getObj_map hb, keyKeyed.check w _ hl, g1, MapKept.run_setObj_map _ hb, Result.andThen, setBlock]
    · intro x hx
      obtain ⟨k', i', c0, c1, c2, c3⟩ := h1 x hx
      refine ⟨k', i', c0, ?_, c2, c3⟩
      unfold updF
      rw [if_neg (fun h => g2 x hx (by rw [c2, h]))]
      exact c1
    · intro k' i' hf
      unfold updF at hf
      split at hf
      · cases hf
      · exact h2 k' i' hf
  · have hjl : j < es.toList.length := (List.getElem?_eq_some_iff.1 g2).1
    have hej : es.toList[j] = e := by rw [List.getElem?_eq_getElem hjl] at g2; exact Option.some.inj g2
    have hjs : j < es.size := by simpa using hjl
    have hsub : (es.eraseIdxIfInBounds j).toList = es.toList.eraseIdx j := by
      unfold Array.eraseIdxIfInBounds
      rw [dif_pos hjs]
      simp
    have apart : ∀ (n : Nat) (hn : n < es.toList.length), n ≠ j → es.toList[n].key ≠ kv k := fun n hn hne => by
      have h3 := List.pairwise_iff_getElem.1 hp
      rcases Nat.lt_or_gt_of_ne hne with hlt | hlt
      · have := h3 n j hn hjl hlt
        rw [hej, g3] at this
        exact this
      · have := h3 j n hjl hn hlt
        rw [hej, g3] at this
        exact Ne.symm this
    refine ⟨setBlock w b (.map (es.eraseIdxIfInBounds j) clock), ?_, ⟨_, _, heap_setBlock_same hb _, ?_, ?_, ?_⟩, grown _, by simp [setBlock]⟩
    · simp [Builtin.delete_, run_underlying ht, MapKept.run_getObj_map hb, keyKeyed.check w _ hl, g1, MapKept.run_setObj_map _ hb, Result.andThen, setBlock]
    · rw [hsub]; exact hp.sublist (List.eraseIdx_sublist _ _)
    · intro x hx
      rw [hsub] at hx
      obtain ⟨n, hne, hn⟩ := List.mem_eraseIdx_iff_getElem?.1 hx
      obtain ⟨hn', ex⟩ := List.getElem?_eq_some_iff.1 hn
      obtain ⟨k', i', c0, c1, c2, c3⟩ := h1 x (List.mem_of_getElem? hn)
      refine ⟨k', i', c0, ?_, c2, c3⟩
      unfold updF
      rw [if_neg (fun h => apart n hn' hne (by rw [ex, c2, h]))]
      exact c1
    · intro k' i' hf
      rw [hsub]
      unfold updF at hf
      split at hf
      · cases hf
      · rename_i he
        obtain ⟨e', he1, he2⟩ := h2 k' i' hf
        obtain ⟨n, hn, ex⟩ := List.getElem_of_mem he1
        have hnj : n ≠ j := by
          rintro rfl
          rw [hej] at ex
          subst ex
          exact he (kv_inj (he2.symm.trans g3))
        exact ⟨e', List.mem_eraseIdx_iff_getElem?.2 ⟨n, hnj, by rw [List.getElem?_eq_getElem hn, ex]⟩, he2⟩
end Go.Proofs.YtmfnonepcipplaaDoor
