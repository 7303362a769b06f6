/-
  DERIVED. GIVEN WITH THE SEED: THE CARDS: each row of YtjcldgogjgchiaaGreatDoorRows.lean that lists a variable, with what it lists TIED to the program's text (the seventh form; the later family's looks); each row that meets fmt, with fmt's text TOLD by the authors' own Lean function (tested against real Go, not proved from fmt's source: count such statements apart). THE CARD IS WHAT COUNTS. Prove the row's statement (the work); the ties are given (YtjcldgogjgchiaaGreatDoorTie.lean); close each card by the builder's one call (the guide's Derived/Test/ToyasCard.lean, 'card_holds'). Laid BY PROGRAM, IN A SANDBOX (cutbox-door.mjs). By AI agents, Wed Nov 11 2026. No macro, syntax, notation, axiom, sorry.
-/
import Derived.Test.YtjcldgogjgchiaaGreatDoorRows
import GoSem.ClaimSeven
namespace Go.Proofs.YtjcldgogjgchiaaGreatDoor
namespace Rows

/-- THE TIED CARD OF 'ostlerlaw02.WordNames'. -/
def wordNamesCard : Claim7 := { stood := { row := wordNamesRow, standIns := [], harness := (true, "695951342a18ab5dc8042ce4577b7110fb7f98574c99ebc0d00a293b2c1adcb9"), looks := true }, kinds := [], alts := [], laidByText := true, laidKinds := [.data, .data, .data, .data, .sentinel, .sentinel, .data, .data, .pinned, .pinned], laidTests := true, laidLooks := .later }
def WordNamesCardSaid : Prop := Claim7.holds Tryz.pinned (.plain (OpenSpec.ofChange wordNamesSpec)) wordNamesCard

/-- THE TIED CARD OF 'ostlerlaw02.WordRises'. -/
def wordRisesCard : Claim7 := { stood := { row := wordRisesRow, standIns := [], harness := (true, "695951342a18ab5dc8042ce4577b7110fb7f98574c99ebc0d00a293b2c1adcb9"), looks := true }, kinds := [], alts := [], laidByText := true, laidKinds := [.data, .data, .data, .data, .sentinel, .sentinel, .data, .data, .pinned, .pinned], laidTests := true, laidLooks := .later }
def WordRisesCardSaid : Prop := Claim7.holds Tryz.pinned (.plain (OpenSpec.ofChange wordRisesSpec)) wordRisesCard

/-- THE TIED CARD OF 'ostlerlaw02.WordBlanks'. -/
def wordBlanksCard : Claim7 := { stood := { row := wordBlanksRow, standIns := [], harness := (true, "695951342a18ab5dc8042ce4577b7110fb7f98574c99ebc0d00a293b2c1adcb9"), looks := true }, kinds := [], alts := [], laidByText := true, laidKinds := [.data, .data, .data, .data, .sentinel, .sentinel, .data, .data, .pinned, .pinned], laidTests := true, laidLooks := .later }
def WordBlanksCardSaid : Prop := Claim7.holds Tryz.pinned (.plain (OpenSpec.ofChange wordBlanksSpec)) wordBlanksCard

/-- THE TIED CARD OF 'ostlerlaw02.WordPlain'. -/
def wordPlainCard : Claim7 := { stood := { row := wordPlainRow, standIns := [], harness := (true, "695951342a18ab5dc8042ce4577b7110fb7f98574c99ebc0d00a293b2c1adcb9"), looks := true }, kinds := [], alts := [], laidByText := true, laidKinds := [.data, .data, .data, .data, .sentinel, .sentinel, .data, .data, .pinned, .pinned], laidTests := true, laidLooks := .later }
def WordPlainCardSaid : Prop := Claim7.holds Tryz.pinned (.plain (OpenSpec.ofChange wordPlainSpec)) wordPlainCard

/-- THE SECOND FORM's CARD OF 'ostlerlaw02.WordNames'. -/
def wordNamesUptoCard : Claim7 := { stood := { row := wordNamesUptoRow, standIns := [], harness := (true, "695951342a18ab5dc8042ce4577b7110fb7f98574c99ebc0d00a293b2c1adcb9"), looks := true }, kinds := [], alts := [], laidByText := true, laidKinds := [.data, .data, .data, .data, .sentinel, .sentinel, .data, .data, .pinned, .pinned], laidTests := true, laidLooks := .later }
def WordNamesUptoCardSaid : Prop := Claim7.holds Tryz.pinned (.plain (OpenSpec.upto wordNamesSpec)) wordNamesUptoCard

/-- THE SECOND FORM's CARD OF 'ostlerlaw02.WordRises'. -/
def wordRisesUptoCard : Claim7 := { stood := { row := wordRisesUptoRow, standIns := [], harness := (true, "695951342a18ab5dc8042ce4577b7110fb7f98574c99ebc0d00a293b2c1adcb9"), looks := true }, kinds := [], alts := [], laidByText := true, laidKinds := [.data, .data, .data, .data, .sentinel, .sentinel, .data, .data, .pinned, .pinned], laidTests := true, laidLooks := .later }
def WordRisesUptoCardSaid : Prop := Claim7.holds Tryz.pinned (.plain (OpenSpec.upto wordRisesSpec)) wordRisesUptoCard

/-- THE SECOND FORM's CARD OF 'ostlerlaw02.WordBlanks'. -/
def wordBlanksUptoCard : Claim7 := { stood := { row := wordBlanksUptoRow, standIns := [], harness := (true, "695951342a18ab5dc8042ce4577b7110fb7f98574c99ebc0d00a293b2c1adcb9"), looks := true }, kinds := [], alts := [], laidByText := true, laidKinds := [.data, .data, .data, .data, .sentinel, .sentinel, .data, .data, .pinned, .pinned], laidTests := true, laidLooks := .later }
def WordBlanksUptoCardSaid : Prop := Claim7.holds Tryz.pinned (.plain (OpenSpec.upto wordBlanksSpec)) wordBlanksUptoCard

/-- THE SECOND FORM's CARD OF 'ostlerlaw02.WordPlain'. -/
def wordPlainUptoCard : Claim7 := { stood := { row := wordPlainUptoRow, standIns := [], harness := (true, "695951342a18ab5dc8042ce4577b7110fb7f98574c99ebc0d00a293b2c1adcb9"), looks := true }, kinds := [], alts := [], laidByText := true, laidKinds := [.data, .data, .data, .data, .sentinel, .sentinel, .data, .data, .pinned, .pinned], laidTests := true, laidLooks := .later }
def WordPlainUptoCardSaid : Prop := Claim7.holds Tryz.pinned (.plain (OpenSpec.upto wordPlainSpec)) wordPlainUptoCard
end Rows
end Go.Proofs.YtjcldgogjgchiaaGreatDoor
