/-
  DERIVED. GIVEN WITH THE SEED: THE CARDS: each row of YtjhmphokmmmoaaaGreatDoorRows.lean that lists a variable, with what it lists TIED to the program's text (the seventh form; the later family's looks); each row that meets fmt, with fmt's text TOLD by the authors' own Lean function (tested against real Go, not proved from fmt's source: count such statements apart). THE CARD IS WHAT COUNTS. Prove the row's statement (the work); the ties are given (YtjhmphokmmmoaaaGreatDoorTie.lean); close each card by the builder's one call (the guide's Derived/Test/ToyasCard.lean, 'card_holds'). Laid BY PROGRAM, IN A SANDBOX (cutbox-door.mjs). By AI agents, Wed Nov 11 2026. No macro, syntax, notation, axiom, sorry.
-/
import Derived.Test.YtjhmphokmmmoaaaGreatDoorRows
import GoSem.ClaimSeven
namespace Go.Proofs.YtjhmphokmmmoaaaGreatDoor
namespace Rows

/-- THE TIED CARD OF 'sievelaw12.LinkAllows'. -/
def linkAllowsCard : Claim7 := { stood := { row := linkAllowsRow, standIns := [], harness := (true, "4507d0f8d333993d3362e9787a3f85b13751ec4c52d8315cf7a874a1defd5586"), looks := false }, kinds := [], alts := [], laidByText := true, laidKinds := [.data, .data, .data, .pinned], laidTests := true, laidLooks := .later }
def LinkAllowsCardSaid : Prop := Claim7.holds Tryz.pinned (.plain (OpenSpec.ofChange linkAllowsSpec)) linkAllowsCard

/-- THE SECOND FORM's CARD OF 'sievelaw12.LinkAllows'. -/
def linkAllowsUptoCard : Claim7 := { stood := { row := linkAllowsUptoRow, standIns := [], harness := (true, "4507d0f8d333993d3362e9787a3f85b13751ec4c52d8315cf7a874a1defd5586"), looks := false }, kinds := [], alts := [], laidByText := true, laidKinds := [.data, .data, .data, .pinned], laidTests := true, laidLooks := .later }
def LinkAllowsUptoCardSaid : Prop := Claim7.holds Tryz.pinned (.plain (OpenSpec.upto linkAllowsSpec)) linkAllowsUptoCard
end Rows
end Go.Proofs.YtjhmphokmmmoaaaGreatDoor
