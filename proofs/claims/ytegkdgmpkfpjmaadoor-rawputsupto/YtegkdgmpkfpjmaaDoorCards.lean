/-
  DERIVED. GIVEN WITH THE SEED: THE CARDS: each row of YtegkdgmpkfpjmaaDoorRows.lean that lists a variable, with what it lists TIED to the program's text (the seventh form; the later family's looks); each row that meets fmt, with fmt's text TOLD by the authors' own Lean function (tested against real Go, not proved from fmt's source: count such statements apart). THE CARD IS WHAT COUNTS. Prove the row's statement (the work); the ties are given (YtegkdgmpkfpjmaaDoorTie.lean); close each card by the builder's one call (the guide's Derived/Test/ToyasCard.lean, 'card_holds'). Laid BY PROGRAM, IN A SANDBOX (cutbox-door.mjs). By AI agents, Wed Nov 11 2026. No macro, syntax, notation, axiom, sorry.
-/
import Derived.Test.YtegkdgmpkfpjmaaDoorRows
import GoSem.ClaimSeven
namespace Go.Proofs.YtegkdgmpkfpjmaaDoor
namespace Rows

/-- THE TIED CARD OF 'sievelaw10.RawNames'. -/
def rawNamesCard : Claim7 := { stood := { row := rawNamesRow, standIns := [], harness := (true, "2d4aee4953cf7f571d950b6c4478fa11002c13928c97d75055a5d1d015fd0b4d"), looks := false }, kinds := [], alts := [], laidByText := true, laidKinds := [.data, .pinned], laidTests := true, laidLooks := .later }
def RawNamesCardSaid : Prop := Claim7.holds Tryd.pinned (.plain (OpenSpec.ofChange rawNamesSpec)) rawNamesCard

/-- THE TIED CARD OF 'sievelaw10.RawWholes'. -/
def rawWholesCard : Claim7 := { stood := { row := rawWholesRow, standIns := [], harness := (true, "2d4aee4953cf7f571d950b6c4478fa11002c13928c97d75055a5d1d015fd0b4d"), looks := false }, kinds := [], alts := [], laidByText := true, laidKinds := [.data, .pinned], laidTests := true, laidLooks := .later }
def RawWholesCardSaid : Prop := Claim7.holds Tryd.pinned (.plain (OpenSpec.ofChange rawWholesSpec)) rawWholesCard

/-- THE TIED CARD OF 'sievelaw10.RawPuts'. -/
def rawPutsCard : Claim7 := { stood := { row := rawPutsRow, standIns := [], harness := (true, "2d4aee4953cf7f571d950b6c4478fa11002c13928c97d75055a5d1d015fd0b4d"), looks := false }, kinds := [], alts := [], laidByText := true, laidKinds := [.data, .pinned], laidTests := true, laidLooks := .later }
def RawPutsCardSaid : Prop := Claim7.holds Tryd.pinned (.plain (OpenSpec.ofChange rawPutsSpec)) rawPutsCard

/-- THE TIED CARD OF 'sievelaw10.RawNones'. -/
def rawNonesCard : Claim7 := { stood := { row := rawNonesRow, standIns := [], harness := (true, "2d4aee4953cf7f571d950b6c4478fa11002c13928c97d75055a5d1d015fd0b4d"), looks := false }, kinds := [], alts := [], laidByText := true, laidKinds := [.data, .pinned], laidTests := true, laidLooks := .later }
def RawNonesCardSaid : Prop := Claim7.holds Tryd.pinned (.plain (OpenSpec.ofChange rawNonesSpec)) rawNonesCard

/-- THE TIED CARD OF 'sievelaw10.RawFirst'. -/
def rawFirstCard : Claim7 := { stood := { row := rawFirstRow, standIns := [], harness := (true, "2d4aee4953cf7f571d950b6c4478fa11002c13928c97d75055a5d1d015fd0b4d"), looks := false }, kinds := [], alts := [], laidByText := true, laidKinds := [.data, .pinned], laidTests := true, laidLooks := .later }
def RawFirstCardSaid : Prop := Claim7.holds Tryd.pinned (.plain (OpenSpec.ofChange rawFirstSpec)) rawFirstCard

/-- THE TIED CARD OF 'sievelaw10.RawPlain'. -/
def rawPlainCard : Claim7 := { stood := { row := rawPlainRow, standIns := [], harness := (true, "2d4aee4953cf7f571d950b6c4478fa11002c13928c97d75055a5d1d015fd0b4d"), looks := false }, kinds := [], alts := [], laidByText := true, laidKinds := [.data, .pinned], laidTests := true, laidLooks := .later }
def RawPlainCardSaid : Prop := Claim7.holds Tryd.pinned (.plain (OpenSpec.ofChange rawPlainSpec)) rawPlainCard

/-- THE SECOND FORM's CARD OF 'sievelaw10.RawNames'. -/
def rawNamesUptoCard : Claim7 := { stood := { row := rawNamesUptoRow, standIns := [], harness := (true, "2d4aee4953cf7f571d950b6c4478fa11002c13928c97d75055a5d1d015fd0b4d"), looks := false }, kinds := [], alts := [], laidByText := true, laidKinds := [.data, .pinned], laidTests := true, laidLooks := .later }
def RawNamesUptoCardSaid : Prop := Claim7.holds Tryd.pinned (.plain (OpenSpec.upto rawNamesSpec)) rawNamesUptoCard

/-- THE SECOND FORM's CARD OF 'sievelaw10.RawWholes'. -/
def rawWholesUptoCard : Claim7 := { stood := { row := rawWholesUptoRow, standIns := [], harness := (true, "2d4aee4953cf7f571d950b6c4478fa11002c13928c97d75055a5d1d015fd0b4d"), looks := false }, kinds := [], alts := [], laidByText := true, laidKinds := [.data, .pinned], laidTests := true, laidLooks := .later }
def RawWholesUptoCardSaid : Prop := Claim7.holds Tryd.pinned (.plain (OpenSpec.upto rawWholesSpec)) rawWholesUptoCard

/-- THE SECOND FORM's CARD OF 'sievelaw10.RawPuts'. -/
def rawPutsUptoCard : Claim7 := { stood := { row := rawPutsUptoRow, standIns := [], harness := (true, "2d4aee4953cf7f571d950b6c4478fa11002c13928c97d75055a5d1d015fd0b4d"), looks := false }, kinds := [], alts := [], laidByText := true, laidKinds := [.data, .pinned], laidTests := true, laidLooks := .later }
def RawPutsUptoCardSaid : Prop := Claim7.holds Tryd.pinned (.plain (OpenSpec.upto rawPutsSpec)) rawPutsUptoCard

/-- THE SECOND FORM's CARD OF 'sievelaw10.RawNones'. -/
def rawNonesUptoCard : Claim7 := { stood := { row := rawNonesUptoRow, standIns := [], harness := (true, "2d4aee4953cf7f571d950b6c4478fa11002c13928c97d75055a5d1d015fd0b4d"), looks := false }, kinds := [], alts := [], laidByText := true, laidKinds := [.data, .pinned], laidTests := true, laidLooks := .later }
def RawNonesUptoCardSaid : Prop := Claim7.holds Tryd.pinned (.plain (OpenSpec.upto rawNonesSpec)) rawNonesUptoCard

/-- THE SECOND FORM's CARD OF 'sievelaw10.RawFirst'. -/
def rawFirstUptoCard : Claim7 := { stood := { row := rawFirstUptoRow, standIns := [], harness := (true, "2d4aee4953cf7f571d950b6c4478fa11002c13928c97d75055a5d1d015fd0b4d"), looks := false }, kinds := [], alts := [], laidByText := true, laidKinds := [.data, .pinned], laidTests := true, laidLooks := .later }
def RawFirstUptoCardSaid : Prop := Claim7.holds Tryd.pinned (.plain (OpenSpec.upto rawFirstSpec)) rawFirstUptoCard

/-- THE SECOND FORM's CARD OF 'sievelaw10.RawPlain'. -/
def rawPlainUptoCard : Claim7 := { stood := { row := rawPlainUptoRow, standIns := [], harness := (true, "2d4aee4953cf7f571d950b6c4478fa11002c13928c97d75055a5d1d015fd0b4d"), looks := false }, kinds := [], alts := [], laidByText := true, laidKinds := [.data, .pinned], laidTests := true, laidLooks := .later }
def RawPlainUptoCardSaid : Prop := Claim7.holds Tryd.pinned (.plain (OpenSpec.upto rawPlainSpec)) rawPlainUptoCard
end Rows
end Go.Proofs.YtegkdgmpkfpjmaaDoor
