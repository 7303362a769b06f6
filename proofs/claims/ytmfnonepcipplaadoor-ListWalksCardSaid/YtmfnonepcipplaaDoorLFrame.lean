/-
  What the rows of layer 7 share: what their lists of tables give, the witness's world, and the last step of a row.
-/
import Derived.Test.YtmfnonepcipplaaDoorCards
import Derived.Test.YtmfnonepcipplaaDoorTie
import Derived.Test.YtmfnonepcipplaaDoorLBase
import Derived.Stop.LaidErr
import Derived.ProofKit
import Derived.OpenShut
import Derived.SizedLaws
import Derived.ChangeSame
import Derived.Deep.DeepHandedRow
import Derived.Deep.DeepWitnessRowRef
import Derived.Lib.LaidTab
import Derived.Lay
import Derived.Shelf.Vars
import Derived.Carry
import Derived.WalkArith
namespace Go.Proofs.YtmfnonepcipplaaDoor
open Go Go.RowKit Go.WideShapes Go.ChangeShapes Convs Lists

theorem own : ownKnob Tryd.prog.godebug = none := by kernel_rfl

section
variable {H : Type} {enc : TypeId × Value → H} {P : Program}
/-- The row's last step where nothing below the call's own memory has turned. -/
theorem post_of_below {f : Func} {s : ChangeSpec} {apart fresh handsOn again : Bool} {W W' : World} {args : Array Value} {v : Value} {ds gs : List (DataW H)} {before pa pv : List MemPlace}
    (hW : DataW.Whole enc P f.params.toList s.vars apart W args.toList ds gs before)
    (hres : ∀ (b : Nat) (sp : Nat → Bool) (hd : Bool), DataW.TrodAll enc P W' b sp hd f.resultTypes.toList (v.resultList f.resultTypes.size) (s.fn H (ds ++ gs)).results [])
    (hargs : ∀ sp : Nat → Bool, (∀ p ∈ before, sp p.block = true) → DataW.TrodAll enc P W' 0 sp true f.params.toList args.toList (s.fn H (ds ++ gs)).args pa)
    (hvars : ∀ sp : Nat → Bool, (∀ p ∈ before, sp p.block = true) → DataW.TrodVars enc P W' sp s.vars (s.fn H (ds ++ gs)).vars pv)
    (hps : before = pa ++ pv) (hb : Below W.heap.size W W')
    (hok : ∀ (j : Nat) (t : TypeId) (r : Value), f.resultTypes[j]? = some t → (v.resultList f.resultTypes.size)[j]? = some r → Value.okWide P W' .any 0 t r) :
    s.post enc P f apart fresh handsOn again W args v W' := by
  have hlt : ∀ p ∈ before, p.block < W.heap.size := fun p hp => hW.lt p hp
  have hold : ∀ p ∈ before, (fun b => decide (b < W.heap.size)) p.block = true := fun p hp => by simpa using hlt p hp
  refine ⟨ds, gs, before, [], pa, pv, hW, hres _ _ _, hargs _ hold, hvars _ hold, World.keptBut_mono (fun p hp => ⟨hp, ?_⟩) (hb.frame (· ∈ before)), fun _ => ?_⟩
  · rw [hps, List.mem_append] at hp
    exact Or.inr hp
  · obtain ⟨_, _, _, _, _, hz, hn⟩ := hW
    refine ⟨hok, _, _, ([] ++ pa) ++ pv, ⟨[] ++ pa, pv, trodAll_append (hargs _ (fun _ _ => rfl)) (hres _ _ _), hvars _ (fun _ _ => rfl), rfl, ?_, ?_⟩, ?_⟩
    · intro b off hp
      have hin : MemPlace.cell b off ∈ before := by rw [hps]; simpa using hp
      rw [hb.frozen (hlt _ hin)]
      exact hz b off hin
    · intro ha
      have := hn ha
      rw [hps] at this
      simpa using this
    · intro p hp _
      rw [hps]
      simpa using hp
end

/-- The list that all rows of this seat bear. -/
def laidList : List (String × DataW Unit) := Rows.listPlaysRow.laid
theorem laidOut : laidOutB Tryd.prog = true := by kernel_rfl

theorem pow_filter : (laidList.filter fun x => x.1 == "internal/strconv.uint64pow10") = [("internal/strconv.uint64pow10", Lib.tabData .u64 Lib.pow10Tab)] := by kernel_rfl
theorem gPow : Tryd.prog.globalNamed "internal/strconv.uint64pow10" = some 2 := by kernel_rfl
theorem cells_u64 : Tryd.prog.cellsOf 95 = 1 := by kernel_rfl
theorem cells_tab : Tryd.prog.cellsOf 116 = 20 := by kernel_rfl
theorem powTab {W : World} (h : laidMetH Tryd.prog laidList W) : Lib.TabIs Tryd.prog W "internal/strconv.uint64pow10" .u64 Lib.pow10Tab := by
  have h1 := laidMetH.filter (fun x => x.1 == "internal/strconv.uint64pow10") h
  rw [pow_filter, MakeChecks.laidMetH_plain _ _ _ (by kernel_rfl)] at h1
  exact Lib.tabIs_of_head (rest := []) gPow (by kernel_rfl : (Tryd.prog.globals[2]?).map (·.type) = some 116) Tryd.underlying116 Tryd.underlying95 cells_u64 cells_tab h1

theorem star_ : "*" ++ "errors.errorString" = "*errors.errorString" := by decide
theorem rowErr (u : TypeId) (h : Tryd.prog.typeName? 3 u = some "*errors.errorString") : u = 111 :=
  typeName_ptr_named (nm := "errors.errorString") (by rw [star_]; kernel_rfl) (by kernel_rfl) (by decide) u (by rw [star_]; exact h)
theorem range_filter : (laidList.filter fun x => x.1 == "strconv.ErrRange") = [("strconv.ErrRange", Rows.laid_strconv_ErrRange)] := by kernel_rfl
theorem gRange : Tryd.prog.globalNamed "strconv.ErrRange" = some 1 := by kernel_rfl
theorem rangeVar {W : World} (h : laidMetH Tryd.prog laidList W) : ErrVar 1 W := by
  have h1 := laidMetH.filter (fun x => x.1 == "strconv.ErrRange") h
  rw [range_filter, MakeChecks.laidMetH_plain _ _ _ (by kernel_rfl)] at h1
  obtain ⟨a, s, hv, _⟩ := laid_sentinel (g := 1) h1 gRange (by kernel_rfl) Tryd.underlying79 rowErr Tryd.underlying111 Tryd.underlying113 rfl rfl Tryd.underlying9 (by kernel_rfl) (by kernel_rfl)
  exact ⟨_, World.var?_cell gRange hv 0, .inr ⟨_, _, rfl⟩⟩
theorem syn_filter : (laidList.filter fun x => x.1 == "strconv.ErrSyntax") = [("strconv.ErrSyntax", Rows.laid_strconv_ErrSyntax)] := by kernel_rfl
theorem gSyn : Tryd.prog.globalNamed "strconv.ErrSyntax" = some 0 := by kernel_rfl
theorem synVar {W : World} (h : laidMetH Tryd.prog laidList W) : ErrVar 0 W := by
  have h1 := laidMetH.filter (fun x => x.1 == "strconv.ErrSyntax") h
  rw [syn_filter, MakeChecks.laidMetH_plain _ _ _ (by kernel_rfl)] at h1
  obtain ⟨a, s, hv, _⟩ := laid_sentinel (g := 0) h1 gSyn (by kernel_rfl) Tryd.underlying79 rowErr Tryd.underlying111 Tryd.underlying113 rfl rfl Tryd.underlying9 (by kernel_rfl) (by kernel_rfl)
  exact ⟨_, World.var?_cell gSyn hv 0, .inr ⟨_, _, rfl⟩⟩
theorem met {W : World} (hL : laidMetH Tryd.prog laidList W) : Met W := ⟨powTab hL, rangeVar hL, synVar hL⟩

section
variable {H : Type} {enc : TypeId × Value → H}
set_option maxRecDepth 100000 in
/-- A key as an argument: its three fields. -/
theorem open_key {W : World} {base : Nat} {v : Value} {d : DataW H} {p : List MemPlace} (hval : Value.okWide Tryd.prog W .any base 30 v)
    (h : DataW.Trod enc Tryd.prog W 0 (fun _ => true) true 30 v d p) :
    ∃ (t : Bool) (n : Int) (s : ByteArray), v = .agg #[.bool t, .int .i64 n, .string s] ∧ d = .agg [.lit (.bool t), .lit (.int .i64 n), .lit (.string s.data.toList)] ∧ Kok ⟨t, n, s.data.toList⟩ := by
  obtain ⟨v0, v1, v2, y0, y1, y2, m, rfl, rfl, rfl, h0, h1, h2⟩ := Joins.open_agg3 Tryd.underlying30 (by kernel_rfl) keyCells hval h
  obtain ⟨t, e0, rfl⟩ := DataW.trod_bool Tryd.underlying4 h0
  obtain ⟨n, e1, rfl, hn⟩ := DataW.trod_int Tryd.underlying3 h1
  obtain ⟨s, e2, rfl, hs⟩ := DataW.trod_string Tryd.underlying9 h2
  simp only [List.cons.injEq, and_true] at e0 e1 e2
  subst e0 e1 e2
  simp only [Lit.wf, Bool.and_eq_true, decide_eq_true_eq] at hn
  have hn' : -9223372036854775808 ≤ n ∧ n ≤ 9223372036854775807 := hn
  exact ⟨t, n, s, rfl, rfl, hn'.1, hn'.2, by rw [← Lib.size_eq]; exact hs⟩
theorem sized_key {P : Program} {ts : List TypeId} {ds : List (DataW H)} {j : Nat} {t : Bool} {n : Int} {l : List UInt8} {fs : Array Field} (hz : (DataW.weightsEach P ts ds).all (· ≤ reachBytes) = true)
    (ht : ts[j]? = some 30) (hd : ds[j]? = some (.agg [.lit (.bool t), .lit (.int .i64 n), .lit (.string l)])) (hu : P.underlying 30 = some (.struct fs)) (h3 : fs.size = 3) : l.length ≤ 281474976710656 := by
  have hm : l.length ∈ (DataW.agg (H := H) [.lit (.bool t), .lit (.int .i64 n), .lit (.string l)]).weights P 30 := by
    obtain ⟨f0, f1, f2, e⟩ : ∃ f0 f1 f2, fs.toList = [f0, f1, f2] := by
      have : fs.toList.length = 3 := by simpa using h3
      match h : fs.toList, this with
      | [f0, f1, f2], _ => exact ⟨f0, f1, f2, rfl⟩
    simp [DataW.weights, hu, e, DataW.weightsEach]
  have := List.all_eq_true.1 hz _ (DataW.weights_mem_each ht hd l.length hm)
  have h2 := reachBytes_lt
  simp only [decide_eq_true_eq] at this
  omega
/-- A key reads behind the call as it read before. -/
theorem key_stays {W W' : World} {v : Value} {d : DataW H} {p : List MemPlace} {sp : Nat → Bool} (h : DataW.Trod enc Tryd.prog W 0 (fun _ => true) true 30 v d p) (hb : Below W.heap.size W W')
    (hlt : ∀ x ∈ p, x.block < W.heap.size) (hsp : ∀ x ∈ p, sp x.block = true) : DataW.Trod enc Tryd.prog W' 0 sp true 30 v d p :=
  WideElems.Trod_stays laidOut (by kernel_rfl) (of_decide_eq_true (by kernel_rfl)) h (fun x hx => hb.same (hlt x hx)) hsp
end

/-- The world of the witnesses: every listed table laid in it. -/
noncomputable def laidWorld (os : Os) : World := World.laidAll Tryd.prog os laidList
set_option maxRecDepth 1000000 in
theorem laid_fits (os : Os) : (World.holding Tryd.prog os ⟨#[], #[], []⟩).layFits Tryd.prog laidList [] = true := by kernel_rfl
set_option maxRecDepth 1000000 in
theorem laid_ifaces (os : Os) : (World.holding Tryd.prog os ⟨#[], #[], []⟩).layIfaces Tryd.prog laidList (World.laidAll Tryd.prog os laidList) = true := by kernel_rfl
theorem laid_met (os : Os) (args : Array Value) : laidMetH Tryd.prog laidList ((laidWorld os).forCall (fun _ _ => 0) ⟨#[], args, []⟩).memory := by
  rw [MakeChecks.laidMetH_plain _ _ _ (by kernel_rfl)]
  exact laidMet_laidAll args (laid_fits os) (laid_ifaces os)
end Go.Proofs.YtmfnonepcipplaaDoor
