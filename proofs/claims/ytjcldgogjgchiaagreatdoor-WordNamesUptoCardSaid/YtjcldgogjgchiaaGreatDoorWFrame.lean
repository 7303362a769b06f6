/-
  What the rows of layer 2 share: what their lists of tables give, the witness's world, and the last step of a row.
-/
import Derived.Test.YtjcldgogjgchiaaGreatDoorCards
import Derived.Test.YtjcldgogjgchiaaGreatDoorTie
import Derived.Test.YtjcldgogjgchiaaGreatDoorAlive2
import Derived.Lib.LaidU8T
import Derived.PinnedBridge
import Derived.Stop.LaidErr
import Derived.ProofKit
import Derived.OpenShut
import Derived.SizedLaws
import Derived.ChangeSame
import Derived.Deep.DeepHandedRow
import Derived.Deep.DeepWitnessRowRef
import Derived.Lib.LaidTab
import Derived.Lay
import Derived.Shelf.Vars
namespace Go.Proofs.YtjcldgogjgchiaaGreatDoor
open Go Go.RowKit Go.WideShapes Go.ChangeShapes Cutting Wording

theorem own : ownKnob Tryz.prog.godebug = none := by kernel_rfl

section
variable {H : Type} {enc : TypeId × Value → H} {P : Program}
/-- The row's last step where nothing below the call's own memory has turned. -/
theorem post_of_below {f : Func} {s : ChangeSpec} {apart fresh handsOn again : Bool} {W W' : World} {args : Array Value} {v : Value} {ds gs : List (DataW H)} {before pa pv : List MemPlace}
    (hW : DataW.Whole enc P f.params.toList s.vars apart W args.toList ds gs before)
    (hres : ∀ (b : Nat) (sp : Nat → Bool) (hd : Bool), DataW.TrodAll enc P W' b sp hd f.resultTypes.toList (v.resultList f.resultTypes.size) (s.fn H (ds ++ gs)).results [])
    (hargs : ∀ sp : Nat → Bool, (∀ p ∈ before, sp p.block = true) → DataW.TrodAll enc P W' 0 sp true f.params.toList args.toList (s.fn H (ds ++ gs)).args pa)
    (hvars : ∀ sp : Nat → Bool, (∀ p ∈ before, sp p.block = true) → DataW.TrodVars enc P W' sp s.vars (s.fn H (ds ++ gs)).vars pv)
    (hps : before = pa ++ pv) (hb : Below W.heap.size W W')
    (hok : ∀ (j : Nat) (t : TypeId) (r : Value), f.resultTypes[j]? = some t → (v.resultList f.resultTypes.size)[j]? = some r → Value.okWide P W' .any 0 t r) :
    s.post enc P f apart fresh handsOn again W args v W' := by
  have hlt : ∀ p ∈ before, p.block < W.heap.size := fun p hp => hW.lt p hp
  have hold : ∀ p ∈ before, (fun b => decide (b < W.heap.size)) p.block = true := fun p hp => by simpa using hlt p hp
  refine ⟨ds, gs, before, [], pa, pv, hW, hres _ _ _, hargs _ hold, hvars _ hold, World.keptBut_mono (fun p hp => ⟨hp, ?_⟩) (hb.frame (· ∈ before)), fun _ => ?_⟩
  · rw [hps, List.mem_append] at hp
    exact Or.inr hp
  · obtain ⟨_, _, _, _, _, hz, hn⟩ := hW
    refine ⟨hok, _, _, ([] ++ pa) ++ pv, ⟨[] ++ pa, pv, trodAll_append (hargs _ (fun _ _ => rfl)) (hres _ _ _), hvars _ (fun _ _ => rfl), rfl, ?_, ?_⟩, ?_⟩
    · intro b off hp
      have hin : MemPlace.cell b off ∈ before := by rw [hps]; simpa using hp
      rw [hb.frozen (hlt _ hin)]
      exact hz b off hin
    · intro ha
      have := hn ha
      rw [hps] at this
      simpa using this
    · intro p hp _
      rw [hps]
      simpa using hp
end

/-- The list that all rows of this seat bear. -/
def laidList : List (String × DataW Unit) := Rows.wordPlainRow.laid
theorem hasMax {W : World} (h : W.ShapedOpen Tryz.prog) : HasMax W :=
  cell_of_shapedOpen_int (g := 2) (t := 3) (zero := #[.int .i64 0]) h (of_decide_eq_true (by kernel_rfl)) (by kernel_rfl) rfl (by kernel_rfl) (by kernel_rfl) Tryz.underlying3

def intsOf : DataW Unit → List Int
  | .agg xs => xs.map fun | .lit (.int _ n) => n | _ => 0
  | _ => []
def foldZ : List Int := intsOf Rows.laid_unicode_asciiFold
theorem fold_filter : (laidList.filter fun x => x.1 == "unicode.asciiFold") = [("unicode.asciiFold", Lib.tabData .u16 foldZ)] := by kernel_rfl
theorem gFold : Tryz.prog.globalNamed "unicode.asciiFold" = some 3 := by kernel_rfl
theorem cells_u16 : Tryz.prog.cellsOf 117 = 1 := by kernel_rfl
theorem cells_tab : Tryz.prog.cellsOf 118 = 128 := by kernel_rfl
theorem foldTab {W : World} (h : laidMetH Tryz.prog laidList W) : FoldTab W := by
  have h1 := laidMetH.filter (fun x => x.1 == "unicode.asciiFold") h
  rw [fold_filter, MakeChecks.laidMetH_plain _ _ _ (by kernel_rfl)] at h1
  have ht := Lib.tabIs_of_head (rest := []) gFold (by kernel_rfl : (Tryz.prog.globals[3]?).map (·.type) = some 118) Tryz.underlying118 Tryz.underlying117 cells_u16 cells_tab h1
  have hl : foldZ.length = 128 := by kernel_rfl
  have c : ∀ i v, i < 128 → foldZ.getD i 0 = v → W.cell? ⟨3, i, none⟩ = some (.int .u16 v) := fun i v hi hv => by
    rw [← hv]; exact ht.cell gFold i (by omega)
  exact ⟨c 60 60 (by omega) (by kernel_rfl), c 63 63 (by omega) (by kernel_rfl), c 72 104 (by omega) (by kernel_rfl), c 80 112 (by omega) (by kernel_rfl), c 104 72 (by omega) (by kernel_rfl), c 112 80 (by omega) (by kernel_rfl)⟩

def u8ren : Go.Shelf.Ren := ⟨fun n => n, fun | 5 => 5 | 119 => 101 | 138 => 104 | 139 => 105 | n => n, fun | 3 => 0 | 4 => 1 | n => n⟩
theorem u8types : U8Types Tryz.prog u8ren := ⟨Tryz.underlying5, Tryz.underlying101, Tryz.underlying104, Tryz.underlying105⟩
theorem u8extra : U8Extra Tryz.prog u8ren := ⟨by kernel_rfl, by kernel_rfl, by kernel_rfl, by kernel_rfl, by kernel_rfl, by kernel_rfl, by kernel_rfl⟩
theorem accept_eq : (Rows.laid_unicode_utf8_acceptRanges : DataW Unit) = Go.Lib.acceptData := by kernel_rfl
theorem tabs {W : World} (h : laidMetH Tryz.prog laidList W) : Tabs W := by
  have h1 := h
  rw [MakeChecks.laidMetH_plain _ _ _ (by kernel_rfl)] at h1
  exact utf8Tabs_of_readsT u8types u8extra (Pinned.utf8First_eq ▸ Lib.laidMet.reads h1 (by simp [laidList, Rows.wordPlainRow, Rows.laid_unicode_utf8_first])) (accept_eq ▸ Lib.laidMet.reads h1 (by simp [laidList, Rows.wordPlainRow]))

theorem star_ : "*" ++ "errors.errorString" = "*errors.errorString" := by decide
theorem rowErr (u : TypeId) (h : Tryz.prog.typeName? 3 u = some "*errors.errorString") : u = 155 :=
  typeName_ptr_named (nm := "errors.errorString") (by rw [star_]; kernel_rfl) (by kernel_rfl) (by decide) u (by rw [star_]; exact h)
theorem range_filter : (laidList.filter fun x => x.1 == "strconv.ErrRange") = [("strconv.ErrRange", Rows.laid_strconv_ErrRange)] := by kernel_rfl
theorem gRange : Tryz.prog.globalNamed "strconv.ErrRange" = some 7 := by kernel_rfl
theorem rangeVar {W : World} (h : laidMetH Tryz.prog laidList W) : RangeVar W := by
  have h1 := laidMetH.filter (fun x => x.1 == "strconv.ErrRange") h
  rw [range_filter, MakeChecks.laidMetH_plain _ _ _ (by kernel_rfl)] at h1
  obtain ⟨a, s, hv, _⟩ := laid_sentinel (g := 7) h1 gRange (by kernel_rfl) Tryz.underlying73 rowErr Tryz.underlying155 Tryz.underlying157 rfl rfl Tryz.underlying9 (by kernel_rfl) (by kernel_rfl)
  exact ⟨_, World.var?_cell gRange hv 0, .inr ⟨_, _, rfl⟩⟩
theorem met {W : World} (hS : W.ShapedOpen Tryz.prog) (hL : laidMetH Tryz.prog laidList W) : Met W := ⟨hasMax hS, foldTab hL, tabs hL, rangeVar hL⟩

/-- The world of the witnesses: every listed table laid in it. -/
noncomputable def laidWorld (os : Os) : World := World.laidAll Tryz.prog os laidList
set_option maxRecDepth 1000000 in
theorem laid_fits (os : Os) : (World.holding Tryz.prog os ⟨#[], #[], []⟩).layFits Tryz.prog laidList [] = true := by kernel_rfl
set_option maxRecDepth 1000000 in
theorem laid_ifaces (os : Os) : (World.holding Tryz.prog os ⟨#[], #[], []⟩).layIfaces Tryz.prog laidList (World.laidAll Tryz.prog os laidList) = true := by kernel_rfl
theorem laid_met (os : Os) (args : Array Value) : laidMetH Tryz.prog laidList ((laidWorld os).forCall (fun _ _ => 0) ⟨#[], args, []⟩).memory := by
  rw [MakeChecks.laidMetH_plain _ _ _ (by kernel_rfl)]
  exact laidMet_laidAll args (laid_fits os) (laid_ifaces os)
end Go.Proofs.YtjcldgogjgchiaaGreatDoor
