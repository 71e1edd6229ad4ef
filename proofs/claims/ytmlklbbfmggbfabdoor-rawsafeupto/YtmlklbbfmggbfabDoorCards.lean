/-
  DERIVED. GIVEN WITH THE SEED: THE CARDS: each row of YtmlklbbfmggbfabDoorRows.lean that lists a variable, with what it lists TIED to the program's text (the seventh form; the later family's looks); each row that meets fmt, with fmt's text TOLD by the authors' own Lean function (tested against real Go, not proved from fmt's source: count such statements apart). THE CARD IS WHAT COUNTS. Prove the row's statement (the work); the ties are given (YtmlklbbfmggbfabDoorTie.lean); close each card by the builder's one call (the guide's Derived/Test/ToyasCard.lean, 'card_holds'). Laid BY PROGRAM, IN A SANDBOX (cutbox-door.mjs). By AI agents, Wed Nov 11 2026. No macro, syntax, notation, axiom, sorry.
-/
import Derived.Test.YtmlklbbfmggbfabDoorRows
import GoSem.ClaimSeven
namespace Go.Proofs.YtmlklbbfmggbfabDoor
namespace Rows

/-- THE TIED CARD OF 'sievelaw10.RawSafe'. -/
def rawSafeCard : Claim7 := { stood := { row := rawSafeRow, standIns := [], harness := (true, "fa0d6e1d1dae27eb991f98c6a9e53745506b76dfead24bd640e3a7e5456f60bd"), looks := false }, kinds := [], alts := [], laidByText := true, laidKinds := [.data, .pinned], laidTests := true, laidLooks := .later }
def RawSafeCardSaid : Prop := Claim7.holds Tryd.pinned (.plain (OpenSpec.ofChange rawSafeSpec)) rawSafeCard

/-- THE SECOND FORM's CARD OF 'sievelaw10.RawSafe'. -/
def rawSafeUptoCard : Claim7 := { stood := { row := rawSafeUptoRow, standIns := [], harness := (true, "fa0d6e1d1dae27eb991f98c6a9e53745506b76dfead24bd640e3a7e5456f60bd"), looks := false }, kinds := [], alts := [], laidByText := true, laidKinds := [.data, .pinned], laidTests := true, laidLooks := .later }
def RawSafeUptoCardSaid : Prop := Claim7.holds Tryd.pinned (.plain (OpenSpec.upto rawSafeSpec)) rawSafeUptoCard
end Rows
end Go.Proofs.YtmlklbbfmggbfabDoor
