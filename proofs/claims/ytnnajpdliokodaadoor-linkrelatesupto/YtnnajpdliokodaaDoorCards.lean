/-
  DERIVED. GIVEN WITH THE SEED: THE CARDS: each row of YtnnajpdliokodaaDoorRows.lean that lists a variable, with what it lists TIED to the program's text (the seventh form; the later family's looks); each row that meets fmt, with fmt's text TOLD by the authors' own Lean function (tested against real Go, not proved from fmt's source: count such statements apart). THE CARD IS WHAT COUNTS. Prove the row's statement (the work); the ties are given (YtnnajpdliokodaaDoorTie.lean); close each card by the builder's one call (the guide's Derived/Test/ToyasCard.lean, 'card_holds'). Laid BY PROGRAM, IN A SANDBOX (cutbox-door.mjs). By AI agents, Wed Nov 11 2026. No macro, syntax, notation, axiom, sorry.
-/
import Derived.Test.YtnnajpdliokodaaDoorRows
import GoSem.ClaimSeven
namespace Go.Proofs.YtnnajpdliokodaaDoor
namespace Rows

/-- THE TIED CARD OF 'sievelaw12.LinkResolves'. -/
def linkResolvesCard : Claim7 := { stood := { row := linkResolvesRow, standIns := [], harness := (true, "b85a13f0aab4b1c910a1e93bc39fd46f2457607b513b346fb1c3d84f8c9d995d"), looks := false }, kinds := [], alts := [], laidByText := true, laidKinds := [.data, .pinned], laidTests := true, laidLooks := .later }
def LinkResolvesCardSaid : Prop := Claim7.holds Tryd.pinned (.plain (OpenSpec.ofChange linkResolvesSpec)) linkResolvesCard

/-- THE TIED CARD OF 'sievelaw12.LinkRoads'. -/
def linkRoadsCard : Claim7 := { stood := { row := linkRoadsRow, standIns := [], harness := (true, "b85a13f0aab4b1c910a1e93bc39fd46f2457607b513b346fb1c3d84f8c9d995d"), looks := false }, kinds := [], alts := [], laidByText := true, laidKinds := [.data, .pinned], laidTests := true, laidLooks := .later }
def LinkRoadsCardSaid : Prop := Claim7.holds Tryd.pinned (.plain (OpenSpec.ofChange linkRoadsSpec)) linkRoadsCard

/-- THE TIED CARD OF 'sievelaw12.LinkRelates'. -/
def linkRelatesCard : Claim7 := { stood := { row := linkRelatesRow, standIns := [], harness := (true, "b85a13f0aab4b1c910a1e93bc39fd46f2457607b513b346fb1c3d84f8c9d995d"), looks := false }, kinds := [], alts := [], laidByText := true, laidKinds := [.data, .pinned], laidTests := true, laidLooks := .later }
def LinkRelatesCardSaid : Prop := Claim7.holds Tryd.pinned (.plain (OpenSpec.ofChange linkRelatesSpec)) linkRelatesCard

/-- THE SECOND FORM's CARD OF 'sievelaw12.LinkResolves'. -/
def linkResolvesUptoCard : Claim7 := { stood := { row := linkResolvesUptoRow, standIns := [], harness := (true, "b85a13f0aab4b1c910a1e93bc39fd46f2457607b513b346fb1c3d84f8c9d995d"), looks := false }, kinds := [], alts := [], laidByText := true, laidKinds := [.data, .pinned], laidTests := true, laidLooks := .later }
def LinkResolvesUptoCardSaid : Prop := Claim7.holds Tryd.pinned (.plain (OpenSpec.upto linkResolvesSpec)) linkResolvesUptoCard

/-- THE SECOND FORM's CARD OF 'sievelaw12.LinkRoads'. -/
def linkRoadsUptoCard : Claim7 := { stood := { row := linkRoadsUptoRow, standIns := [], harness := (true, "b85a13f0aab4b1c910a1e93bc39fd46f2457607b513b346fb1c3d84f8c9d995d"), looks := false }, kinds := [], alts := [], laidByText := true, laidKinds := [.data, .pinned], laidTests := true, laidLooks := .later }
def LinkRoadsUptoCardSaid : Prop := Claim7.holds Tryd.pinned (.plain (OpenSpec.upto linkRoadsSpec)) linkRoadsUptoCard

/-- THE SECOND FORM's CARD OF 'sievelaw12.LinkRelates'. -/
def linkRelatesUptoCard : Claim7 := { stood := { row := linkRelatesUptoRow, standIns := [], harness := (true, "b85a13f0aab4b1c910a1e93bc39fd46f2457607b513b346fb1c3d84f8c9d995d"), looks := false }, kinds := [], alts := [], laidByText := true, laidKinds := [.data, .pinned], laidTests := true, laidLooks := .later }
def LinkRelatesUptoCardSaid : Prop := Claim7.holds Tryd.pinned (.plain (OpenSpec.upto linkRelatesSpec)) linkRelatesUptoCard
end Rows
end Go.Proofs.YtnnajpdliokodaaDoor
