/-
  DERIVED. GIVEN WITH THE SEED: THE CARDS: each row of YtbbmfpffanhgnaaDoorRows.lean that lists a variable, with what it lists TIED to the program's text (the seventh form; the later family's looks); each row that meets fmt, with fmt's text TOLD by the authors' own Lean function (tested against real Go, not proved from fmt's source: count such statements apart). THE CARD IS WHAT COUNTS. Prove the row's statement (the work); the ties are given (YtbbmfpffanhgnaaDoorTie.lean); close each card by the builder's one call (the guide's Derived/Test/ToyasCard.lean, 'card_holds'). Laid BY PROGRAM, IN A SANDBOX (cutbox-door.mjs). By AI agents, Wed Nov 11 2026. No macro, syntax, notation, axiom, sorry.
-/
import Derived.Test.YtbbmfpffanhgnaaDoorRows
import GoSem.ClaimSeven
namespace Go.Proofs.YtbbmfpffanhgnaaDoor
namespace Rows

/-- THE TIED CARD OF 'ostlerlaw07.ListPlays'. -/
def listPlaysCard : Claim7 := { stood := { row := listPlaysRow, standIns := [], harness := (true, "ece8410153d4ee6e2361b5a6f508db0bfd3e4ca7d6f13e36e58384aee1941aea"), looks := true }, kinds := [], alts := [], laidByText := true, laidKinds := [.data, .data, .data, .sentinel, .sentinel], laidTests := true, laidLooks := .later }
def ListPlaysCardSaid : Prop := Claim7.holds Tryd.pinned (.plain (OpenSpec.ofChange listPlaysSpec)) listPlaysCard

/-- THE TIED CARD OF 'ostlerlaw07.ListCopies'. -/
def listCopiesCard : Claim7 := { stood := { row := listCopiesRow, standIns := [], harness := (true, "ece8410153d4ee6e2361b5a6f508db0bfd3e4ca7d6f13e36e58384aee1941aea"), looks := true }, kinds := [], alts := [], laidByText := true, laidKinds := [.data, .data, .data, .sentinel, .sentinel], laidTests := true, laidLooks := .later }
def ListCopiesCardSaid : Prop := Claim7.holds Tryd.pinned (.plain (OpenSpec.ofChange listCopiesSpec)) listCopiesCard

/-- THE TIED CARD OF 'ostlerlaw07.ListWalks'. -/
def listWalksCard : Claim7 := { stood := { row := listWalksRow, standIns := [], harness := (true, "ece8410153d4ee6e2361b5a6f508db0bfd3e4ca7d6f13e36e58384aee1941aea"), looks := true }, kinds := [], alts := [], laidByText := true, laidKinds := [.data, .data, .data, .sentinel, .sentinel], laidTests := true, laidLooks := .later }
def ListWalksCardSaid : Prop := Claim7.holds Tryd.pinned (.plain (OpenSpec.ofChange listWalksSpec)) listWalksCard

/-- THE TIED CARD OF 'ostlerlaw07.ListKeys'. -/
def listKeysCard : Claim7 := { stood := { row := listKeysRow, standIns := [], harness := (true, "ece8410153d4ee6e2361b5a6f508db0bfd3e4ca7d6f13e36e58384aee1941aea"), looks := true }, kinds := [], alts := [], laidByText := true, laidKinds := [.data, .data, .data, .sentinel, .sentinel], laidTests := true, laidLooks := .later }
def ListKeysCardSaid : Prop := Claim7.holds Tryd.pinned (.plain (OpenSpec.ofChange listKeysSpec)) listKeysCard

/-- THE TIED CARD OF 'ostlerlaw07.ListAppends'. -/
def listAppendsCard : Claim7 := { stood := { row := listAppendsRow, standIns := [], harness := (true, "ece8410153d4ee6e2361b5a6f508db0bfd3e4ca7d6f13e36e58384aee1941aea"), looks := true }, kinds := [], alts := [], laidByText := true, laidKinds := [.data, .data, .data, .sentinel, .sentinel], laidTests := true, laidLooks := .later }
def ListAppendsCardSaid : Prop := Claim7.holds Tryd.pinned (.plain (OpenSpec.ofChange listAppendsSpec)) listAppendsCard

/-- THE TIED CARD OF 'ostlerlaw07.ListNobody'. -/
def listNobodyCard : Claim7 := { stood := { row := listNobodyRow, standIns := [], harness := (true, "ece8410153d4ee6e2361b5a6f508db0bfd3e4ca7d6f13e36e58384aee1941aea"), looks := true }, kinds := [], alts := [], laidByText := true, laidKinds := [.data, .data, .data, .sentinel, .sentinel], laidTests := true, laidLooks := .later }
def ListNobodyCardSaid : Prop := Claim7.holds Tryd.pinned (.plain (OpenSpec.ofChange listNobodySpec)) listNobodyCard

/-- THE SECOND FORM's CARD OF 'ostlerlaw07.ListPlays'. -/
def listPlaysUptoCard : Claim7 := { stood := { row := listPlaysUptoRow, standIns := [], harness := (true, "ece8410153d4ee6e2361b5a6f508db0bfd3e4ca7d6f13e36e58384aee1941aea"), looks := true }, kinds := [], alts := [], laidByText := true, laidKinds := [.data, .data, .data, .sentinel, .sentinel], laidTests := true, laidLooks := .later }
def ListPlaysUptoCardSaid : Prop := Claim7.holds Tryd.pinned (.plain (OpenSpec.upto listPlaysSpec)) listPlaysUptoCard

/-- THE SECOND FORM's CARD OF 'ostlerlaw07.ListCopies'. -/
def listCopiesUptoCard : Claim7 := { stood := { row := listCopiesUptoRow, standIns := [], harness := (true, "ece8410153d4ee6e2361b5a6f508db0bfd3e4ca7d6f13e36e58384aee1941aea"), looks := true }, kinds := [], alts := [], laidByText := true, laidKinds := [.data, .data, .data, .sentinel, .sentinel], laidTests := true, laidLooks := .later }
def ListCopiesUptoCardSaid : Prop := Claim7.holds Tryd.pinned (.plain (OpenSpec.upto listCopiesSpec)) listCopiesUptoCard

/-- THE SECOND FORM's CARD OF 'ostlerlaw07.ListWalks'. -/
def listWalksUptoCard : Claim7 := { stood := { row := listWalksUptoRow, standIns := [], harness := (true, "ece8410153d4ee6e2361b5a6f508db0bfd3e4ca7d6f13e36e58384aee1941aea"), looks := true }, kinds := [], alts := [], laidByText := true, laidKinds := [.data, .data, .data, .sentinel, .sentinel], laidTests := true, laidLooks := .later }
def ListWalksUptoCardSaid : Prop := Claim7.holds Tryd.pinned (.plain (OpenSpec.upto listWalksSpec)) listWalksUptoCard

/-- THE SECOND FORM's CARD OF 'ostlerlaw07.ListKeys'. -/
def listKeysUptoCard : Claim7 := { stood := { row := listKeysUptoRow, standIns := [], harness := (true, "ece8410153d4ee6e2361b5a6f508db0bfd3e4ca7d6f13e36e58384aee1941aea"), looks := true }, kinds := [], alts := [], laidByText := true, laidKinds := [.data, .data, .data, .sentinel, .sentinel], laidTests := true, laidLooks := .later }
def ListKeysUptoCardSaid : Prop := Claim7.holds Tryd.pinned (.plain (OpenSpec.upto listKeysSpec)) listKeysUptoCard

/-- THE SECOND FORM's CARD OF 'ostlerlaw07.ListAppends'. -/
def listAppendsUptoCard : Claim7 := { stood := { row := listAppendsUptoRow, standIns := [], harness := (true, "ece8410153d4ee6e2361b5a6f508db0bfd3e4ca7d6f13e36e58384aee1941aea"), looks := true }, kinds := [], alts := [], laidByText := true, laidKinds := [.data, .data, .data, .sentinel, .sentinel], laidTests := true, laidLooks := .later }
def ListAppendsUptoCardSaid : Prop := Claim7.holds Tryd.pinned (.plain (OpenSpec.upto listAppendsSpec)) listAppendsUptoCard

/-- THE SECOND FORM's CARD OF 'ostlerlaw07.ListNobody'. -/
def listNobodyUptoCard : Claim7 := { stood := { row := listNobodyUptoRow, standIns := [], harness := (true, "ece8410153d4ee6e2361b5a6f508db0bfd3e4ca7d6f13e36e58384aee1941aea"), looks := true }, kinds := [], alts := [], laidByText := true, laidKinds := [.data, .data, .data, .sentinel, .sentinel], laidTests := true, laidLooks := .later }
def ListNobodyUptoCardSaid : Prop := Claim7.holds Tryd.pinned (.plain (OpenSpec.upto listNobodySpec)) listNobodyUptoCard
end Rows
end Go.Proofs.YtbbmfpffanhgnaaDoor
