/-
  A script as an argument: a row of calls, each of five cells.
-/
import Derived.Test.YtmfnonepcipplaaDoorLFrame
namespace Go.Proofs.YtmfnonepcipplaaDoor
open Go Go.RowKit Go.WideShapes Go.ChangeShapes Convs Lists

theorem spot_none {W : World} {a : Addr} {v : Value} (h : W.cell? a = some v) : a.spot = none := by
  unfold World.cell? at h
  split at h
  · split at h
    · cases h
    · rename_i hs
      cases hsp : a.spot with
      | none => rfl
      | some x => rw [hsp] at hs; simp at hs
  · cases h
theorem all_mem {H : Type} {P : Program} {e : TypeId} : ∀ {l : List (DataW H)} {d : DataW H}, d ∈ l → ∀ n ∈ d.weights P e, n ∈ DataW.weightsAll P e l
  | x :: r, d, hd, n, hn => by
    simp only [DataW.weightsAll, List.mem_append]
    rcases List.mem_cons.1 hd with rfl | h
    · exact .inl hn
    · exact .inr (all_mem h n hn)
theorem actCells : Tryd.prog.cellsOf 32 = 5 := by kernel_rfl
section
variable {H : Type} {enc : TypeId × Value → H}
set_option maxRecDepth 100000 in
/-- One call of a script, by its five cells. -/
theorem open_act {W : World} {n : Nat} {cs : List Value} {y : DataW H × List MemPlace} (hlen : cs.length = 5) (h : DataW.trod enc Tryd.prog W 0 (fun _ => true) true n 32 cs = some y) :
    ∃ (kd nn : Int) (t : Bool) (m : Int) (s : ByteArray), cs = [.int .i64 kd, .int .i64 nn, .bool t, .int .i64 m, .string s] ∧ Kok ⟨t, m, s.data.toList⟩ ∧ -9223372036854775808 ≤ kd ∧ kd ≤ 9223372036854775807 ∧
      s.data.toList.length ∈ y.1.weights Tryd.prog 32 := by
  obtain ⟨xs, k, _, rfl, _, hxl, hfs⟩ := DataW.trod_struct Tryd.underlying32 h
  match cs, hlen, xs, hxl with
  | [c0, c1, c2, c3, c4], _, [y0, y1, y2], _ =>
    have g0 : DataW.trod enc Tryd.prog W 0 (fun _ => true) true k 3 (([c0, c1, c2, c3, c4].drop 0).take (Tryd.prog.cellsOf 3)) = some y0 := hfs 0 _ rfl
    have g1 : DataW.trod enc Tryd.prog W 0 (fun _ => true) true k 3 (([c0, c1, c2, c3, c4].drop 1).take (Tryd.prog.cellsOf 3)) = some y1 := hfs 1 _ rfl
    have g2 : DataW.trod enc Tryd.prog W 0 (fun _ => true) true k 30 (([c0, c1, c2, c3, c4].drop 2).take (Tryd.prog.cellsOf 30)) = some y2 := hfs 2 _ rfl
    rw [cellsInt] at g0 g1
    rw [keyCells] at g2
    simp only [List.drop_zero, List.drop_succ_cons, List.take_succ_cons, List.take_zero] at g0 g1 g2
    obtain ⟨kd, e0, rfl, w0⟩ := DataW.trod_int Tryd.underlying3 g0
    obtain ⟨nn, e1, rfl, _⟩ := DataW.trod_int Tryd.underlying3 g1
    obtain ⟨zs, k2, _, rfl, _, hzl, hzs⟩ := DataW.trod_struct Tryd.underlying30 g2
    match zs, hzl with
    | [z0, z1, z2], _ =>
      have f0 : DataW.trod enc Tryd.prog W 0 (fun _ => true) true k2 4 (([c2, c3, c4].drop 0).take (Tryd.prog.cellsOf 4)) = some z0 := hzs 0 _ rfl
      have f1 : DataW.trod enc Tryd.prog W 0 (fun _ => true) true k2 3 (([c2, c3, c4].drop 1).take (Tryd.prog.cellsOf 3)) = some z1 := hzs 1 _ rfl
      have f2 : DataW.trod enc Tryd.prog W 0 (fun _ => true) true k2 9 (([c2, c3, c4].drop 2).take (Tryd.prog.cellsOf 9)) = some z2 := hzs 2 _ rfl
      rw [cellsBool] at f0
      rw [cellsInt] at f1
      rw [cellsString] at f2
      simp only [List.drop_zero, List.drop_succ_cons, List.take_succ_cons, List.take_zero] at f0 f1 f2
      obtain ⟨t, q0, rfl⟩ := DataW.trod_bool Tryd.underlying4 f0
      obtain ⟨m, q1, rfl, w1⟩ := DataW.trod_int Tryd.underlying3 f1
      obtain ⟨s, q2, rfl, hs⟩ := DataW.trod_string Tryd.underlying9 f2
      obtain rfl : c0 = _ := by simpa using e0
      obtain rfl : c1 = _ := by simpa using e1
      obtain rfl : c2 = _ := by simpa using q0
      obtain rfl : c3 = _ := by simpa using q1
      obtain rfl : c4 = _ := by simpa using q2
      simp only [Lit.wf, Bool.and_eq_true, decide_eq_true_eq] at w0 w1
      have w0' : -9223372036854775808 ≤ kd ∧ kd ≤ 9223372036854775807 := w0
      have w1' : -9223372036854775808 ≤ m ∧ m ≤ 9223372036854775807 := w1
      refine ⟨kd, nn, t, m, s, rfl, ⟨w1'.1, w1'.2, by rw [← Lib.size_eq]; exact hs⟩, w0'.1, w0'.2, ?_⟩
      simp [DataW.weights, Tryd.underlying32, Tryd.underlying30, DataW.weightsEach]
set_option maxRecDepth 100000 in
theorem open_acts {W : World} {base : Nat} {v : Value} {d : DataW H} {p : List MemPlace} (hval : Value.okWide Tryd.prog W .any base 22 v)
    (h : DataW.Trod enc Tryd.prog W 0 (fun _ => true) true 22 v d p) :
    ∃ (A : Option Addr) (cnt cap : Nat), v = .slice A cnt cap ∧ cnt ≤ maxLen ∧ ∀ j, j < cnt → ∃ (ab ao : Nat) (kd nn : Int) (t : Bool) (n : Int) (s : ByteArray), A = some ⟨ab, ao, none⟩ ∧
      W.cell? ⟨ab, ao + j * 5, none⟩ = some (.int .i64 kd) ∧ W.cell? ⟨ab, ao + j * 5 + 1, none⟩ = some (.int .i64 nn) ∧ W.cell? ⟨ab, ao + j * 5 + 2, none⟩ = some (.bool t) ∧ W.cell? ⟨ab, ao + j * 5 + 3, none⟩ = some (.int .i64 n) ∧ W.cell? ⟨ab, ao + j * 5 + 4, none⟩ = some (.string s) ∧
      Kok ⟨t, n, s.data.toList⟩ ∧ -9223372036854775808 ≤ kd ∧ kd ≤ 9223372036854775807 ∧ s.data.toList.length ∈ d.weights Tryd.prog 22 := by
  obtain ⟨a, len, cap, rfl⟩ := okWide_slice Tryd.underlying22 hval
  obtain ⟨fuel, hf⟩ := h
  rw [show (Value.slice a len cap).cells.toList = [.slice a len cap] from rfl] at hf
  rcases DataW.trod_slice Tryd.underlying22 hf with ⟨h1, _⟩ | ⟨a', len', cap', elems, rest, n, _, h1, h2, _, hle, hcap, hel, hget, _, _⟩
  · cases h1
    exact ⟨none, 0, 0, rfl, Nat.zero_le _, fun j hj => absurd hj (Nat.not_lt_zero _)⟩
  · cases h1
    refine ⟨some a', len, cap, rfl, Nat.le_trans hle hcap, fun j hj => ?_⟩
    have hg := hget j hj
    rw [actCells, List.getElem?_eq_getElem (by omega)] at hg
    obtain ⟨cs, hc, ht⟩ := Option.bind_eq_some_iff.1 hg
    obtain ⟨_, hlen, hcell⟩ := World.cells?_some hc
    obtain ⟨kd, nn, t, m, s, rfl, hk, b0, b1, hw⟩ := open_act hlen ht
    have c0 := hcell 0 (by omega)
    have c1 := hcell 1 (by omega)
    have c2 := hcell 2 (by omega)
    have c3 := hcell 3 (by omega)
    have c4 := hcell 4 (by omega)
    have hsp : a'.spot = none := by
      have hg0 := hget 0 (by omega)
      rw [actCells, List.getElem?_eq_getElem (by omega)] at hg0
      obtain ⟨cs0, hc0, ht0⟩ := Option.bind_eq_some_iff.1 hg0
      obtain ⟨_, hlen0, hcell0⟩ := World.cells?_some hc0
      obtain ⟨kd0, nn0, t0, m0, s0, rfl, _⟩ := open_act hlen0 ht0
      have h0 := hcell0 0 (by omega)
      rw [show (a'.add (0 * 5)).add 0 = a' by simp [Addr.add]] at h0
      exact spot_none h0
    obtain ⟨ab, ao, sp⟩ := a'
    have hsp' : sp = none := hsp
    subst hsp'
    have hadd : ∀ i, ((⟨ab, ao, none⟩ : Addr).add (j * 5)).add i = ⟨ab, ao + j * 5 + i, none⟩ := by
      intro i
      unfold Addr.add
      by_cases h1 : j * 5 = 0
      · by_cases h2 : i = 0
        · simp [h1, h2]
        · simp [h1, h2]
      · by_cases h2 : i = 0
        · simp [h1, h2]
        · simp [h1, h2]
    rw [hadd] at c0 c1 c2 c3 c4
    refine ⟨ab, ao, kd, nn, t, m, s, rfl, c0, c1, c2, c3, c4, hk, b0, b1, ?_⟩
    cases h2
    simp only [DataW.weights, Tryd.underlying22, List.mem_cons, List.mem_append]
    exact .inr (.inl (all_mem (List.mem_map_of_mem (List.getElem_mem (by omega : j < elems.length))) _ hw))
theorem sized_acts {ts : List TypeId} {ds : List (DataW H)} {d : DataW H} {j m : Nat} (hz : (DataW.weightsEach Tryd.prog ts ds).all (· ≤ reachBytes) = true) (ht : ts[j]? = some 22) (hd : ds[j]? = some d)
    (hm : m ∈ d.weights Tryd.prog 22) : m ≤ 281474976710656 := by
  have := List.all_eq_true.1 hz _ (DataW.weights_mem_each ht hd m hm)
  have h2 := reachBytes_lt
  simp only [decide_eq_true_eq] at this
  omega
/-- A script reads behind the call as it read before. -/
theorem acts_stays {W W' : World} {v : Value} {d : DataW H} {p : List MemPlace} {sp : Nat → Bool} (h : DataW.Trod enc Tryd.prog W 0 (fun _ => true) true 22 v d p) (hb : Below W.heap.size W W')
    (hlt : ∀ x ∈ p, x.block < W.heap.size) (hsp : ∀ x ∈ p, sp x.block = true) : DataW.Trod enc Tryd.prog W' 0 sp true 22 v d p :=
  WideElems.Trod_stays laidOut (by kernel_rfl) (of_decide_eq_true (by kernel_rfl)) h (fun x hx => hb.same (hlt x hx)) hsp
end
end Go.Proofs.YtmfnonepcipplaaDoor
