/-
  DERIVED. GIVEN WITH THE SEED: THE CARDS: each row of YtmbminbnnmnkeaaDoorRows.lean that lists a variable, with what it lists TIED to the program's text (the seventh form; the later family's looks); each row that meets fmt, with fmt's text TOLD by the authors' own Lean function (tested against real Go, not proved from fmt's source: count such statements apart). THE CARD IS WHAT COUNTS. Prove the row's statement (the work); the ties are given (YtmbminbnnmnkeaaDoorTie.lean); close each card by the builder's one call (the guide's Derived/Test/ToyasCard.lean, 'card_holds'). Laid BY PROGRAM, IN A SANDBOX (cutbox-door.mjs). By AI agents, Wed Nov 11 2026. No macro, syntax, notation, axiom, sorry.
-/
import Derived.Test.YtmbminbnnmnkeaaDoorRows
import GoSem.ClaimSeven
namespace Go.Proofs.YtmbminbnnmnkeaaDoor
namespace Rows

/-- THE TIED CARD OF 'ostlerlaw06.ConvMeans'. -/
def convMeansCard : Claim7 := { stood := { row := convMeansRow, standIns := [], harness := (true, "e4d9cc30b64e2023d181f2b8c373c71bc96debd47bbc0a24ee0be8c3eef219f2"), looks := true }, kinds := [], alts := [], laidByText := true, laidKinds := [.data, .data, .data, .sentinel, .sentinel], laidTests := true, laidLooks := .later }
def ConvMeansCardSaid : Prop := Claim7.holds Tryd.pinned (.plain (OpenSpec.ofChange convMeansSpec)) convMeansCard

/-- THE TIED CARD OF 'ostlerlaw06.ConvNumbers'. -/
def convNumbersCard : Claim7 := { stood := { row := convNumbersRow, standIns := [], harness := (true, "e4d9cc30b64e2023d181f2b8c373c71bc96debd47bbc0a24ee0be8c3eef219f2"), looks := true }, kinds := [], alts := [], laidByText := true, laidKinds := [.data, .data, .data, .sentinel, .sentinel], laidTests := true, laidLooks := .later }
def ConvNumbersCardSaid : Prop := Claim7.holds Tryd.pinned (.plain (OpenSpec.ofChange convNumbersSpec)) convNumbersCard

/-- THE TIED CARD OF 'ostlerlaw06.ConvOrders'. -/
def convOrdersCard : Claim7 := { stood := { row := convOrdersRow, standIns := [], harness := (true, "e4d9cc30b64e2023d181f2b8c373c71bc96debd47bbc0a24ee0be8c3eef219f2"), looks := true }, kinds := [], alts := [], laidByText := true, laidKinds := [.data, .data, .data, .sentinel, .sentinel], laidTests := true, laidLooks := .later }
def ConvOrdersCardSaid : Prop := Claim7.holds Tryd.pinned (.plain (OpenSpec.ofChange convOrdersSpec)) convOrdersCard

/-- THE TIED CARD OF 'ostlerlaw06.ConvTurns'. -/
def convTurnsCard : Claim7 := { stood := { row := convTurnsRow, standIns := [], harness := (true, "e4d9cc30b64e2023d181f2b8c373c71bc96debd47bbc0a24ee0be8c3eef219f2"), looks := true }, kinds := [], alts := [], laidByText := true, laidKinds := [.data, .data, .data, .sentinel, .sentinel], laidTests := true, laidLooks := .later }
def ConvTurnsCardSaid : Prop := Claim7.holds Tryd.pinned (.plain (OpenSpec.ofChange convTurnsSpec)) convTurnsCard

/-- THE TIED CARD OF 'ostlerlaw06.ConvBack'. -/
def convBackCard : Claim7 := { stood := { row := convBackRow, standIns := [], harness := (true, "e4d9cc30b64e2023d181f2b8c373c71bc96debd47bbc0a24ee0be8c3eef219f2"), looks := true }, kinds := [], alts := [], laidByText := true, laidKinds := [.data, .data, .data, .sentinel, .sentinel], laidTests := true, laidLooks := .later }
def ConvBackCardSaid : Prop := Claim7.holds Tryd.pinned (.plain (OpenSpec.ofChange convBackSpec)) convBackCard

/-- THE TIED CARD OF 'ostlerlaw06.ConvSorts'. -/
def convSortsCard : Claim7 := { stood := { row := convSortsRow, standIns := [], harness := (true, "e4d9cc30b64e2023d181f2b8c373c71bc96debd47bbc0a24ee0be8c3eef219f2"), looks := true }, kinds := [], alts := [], laidByText := true, laidKinds := [.data, .data, .data, .sentinel, .sentinel], laidTests := true, laidLooks := .later }
def ConvSortsCardSaid : Prop := Claim7.holds Tryd.pinned (.plain (OpenSpec.ofChange convSortsSpec)) convSortsCard

/-- THE SECOND FORM's CARD OF 'ostlerlaw06.ConvMeans'. -/
def convMeansUptoCard : Claim7 := { stood := { row := convMeansUptoRow, standIns := [], harness := (true, "e4d9cc30b64e2023d181f2b8c373c71bc96debd47bbc0a24ee0be8c3eef219f2"), looks := true }, kinds := [], alts := [], laidByText := true, laidKinds := [.data, .data, .data, .sentinel, .sentinel], laidTests := true, laidLooks := .later }
def ConvMeansUptoCardSaid : Prop := Claim7.holds Tryd.pinned (.plain (OpenSpec.upto convMeansSpec)) convMeansUptoCard

/-- THE SECOND FORM's CARD OF 'ostlerlaw06.ConvNumbers'. -/
def convNumbersUptoCard : Claim7 := { stood := { row := convNumbersUptoRow, standIns := [], harness := (true, "e4d9cc30b64e2023d181f2b8c373c71bc96debd47bbc0a24ee0be8c3eef219f2"), looks := true }, kinds := [], alts := [], laidByText := true, laidKinds := [.data, .data, .data, .sentinel, .sentinel], laidTests := true, laidLooks := .later }
def ConvNumbersUptoCardSaid : Prop := Claim7.holds Tryd.pinned (.plain (OpenSpec.upto convNumbersSpec)) convNumbersUptoCard

/-- THE SECOND FORM's CARD OF 'ostlerlaw06.ConvOrders'. -/
def convOrdersUptoCard : Claim7 := { stood := { row := convOrdersUptoRow, standIns := [], harness := (true, "e4d9cc30b64e2023d181f2b8c373c71bc96debd47bbc0a24ee0be8c3eef219f2"), looks := true }, kinds := [], alts := [], laidByText := true, laidKinds := [.data, .data, .data, .sentinel, .sentinel], laidTests := true, laidLooks := .later }
def ConvOrdersUptoCardSaid : Prop := Claim7.holds Tryd.pinned (.plain (OpenSpec.upto convOrdersSpec)) convOrdersUptoCard

/-- THE SECOND FORM's CARD OF 'ostlerlaw06.ConvTurns'. -/
def convTurnsUptoCard : Claim7 := { stood := { row := convTurnsUptoRow, standIns := [], harness := (true, "e4d9cc30b64e2023d181f2b8c373c71bc96debd47bbc0a24ee0be8c3eef219f2"), looks := true }, kinds := [], alts := [], laidByText := true, laidKinds := [.data, .data, .data, .sentinel, .sentinel], laidTests := true, laidLooks := .later }
def ConvTurnsUptoCardSaid : Prop := Claim7.holds Tryd.pinned (.plain (OpenSpec.upto convTurnsSpec)) convTurnsUptoCard

/-- THE SECOND FORM's CARD OF 'ostlerlaw06.ConvBack'. -/
def convBackUptoCard : Claim7 := { stood := { row := convBackUptoRow, standIns := [], harness := (true, "e4d9cc30b64e2023d181f2b8c373c71bc96debd47bbc0a24ee0be8c3eef219f2"), looks := true }, kinds := [], alts := [], laidByText := true, laidKinds := [.data, .data, .data, .sentinel, .sentinel], laidTests := true, laidLooks := .later }
def ConvBackUptoCardSaid : Prop := Claim7.holds Tryd.pinned (.plain (OpenSpec.upto convBackSpec)) convBackUptoCard

/-- THE SECOND FORM's CARD OF 'ostlerlaw06.ConvSorts'. -/
def convSortsUptoCard : Claim7 := { stood := { row := convSortsUptoRow, standIns := [], harness := (true, "e4d9cc30b64e2023d181f2b8c373c71bc96debd47bbc0a24ee0be8c3eef219f2"), looks := true }, kinds := [], alts := [], laidByText := true, laidKinds := [.data, .data, .data, .sentinel, .sentinel], laidTests := true, laidLooks := .later }
def ConvSortsUptoCardSaid : Prop := Claim7.holds Tryd.pinned (.plain (OpenSpec.upto convSortsSpec)) convSortsUptoCard
end Rows
end Go.Proofs.YtmbminbnnmnkeaaDoor
