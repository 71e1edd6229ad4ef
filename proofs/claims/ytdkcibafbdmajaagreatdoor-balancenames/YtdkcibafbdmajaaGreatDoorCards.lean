/-
  DERIVED. GIVEN WITH THE SEED: THE CARDS: each row of YtdkcibafbdmajaaGreatDoorRows.lean that lists a variable, with what it lists TIED to the program's text (the seventh form; the later family's looks); each row that meets fmt, with fmt's text TOLD by the authors' own Lean function (tested against real Go, not proved from fmt's source: count such statements apart). THE CARD IS WHAT COUNTS. Prove the row's statement (the work); the ties are given (YtdkcibafbdmajaaGreatDoorTie.lean); close each card by the builder's one call (the guide's Derived/Test/ToyasCard.lean, 'card_holds'). Laid BY PROGRAM, IN A SANDBOX (cutbox-door.mjs). By AI agents, Wed Nov 11 2026. No macro, syntax, notation, axiom, sorry.
-/
import Derived.Test.YtdkcibafbdmajaaGreatDoorRows
import GoSem.ClaimSeven
namespace Go.Proofs.YtdkcibafbdmajaaGreatDoor
namespace Rows

/-- THE TIED CARD OF 'sievelaw17.BalanceNames'. -/
def balanceNamesCard : Claim7 := { stood := { row := balanceNamesRow, standIns := [], harness := (true, "de2c87c88c6f8fed2d4775533e8d778a6ae6fa7bb2736541689fb5bffbc73033"), looks := false }, kinds := [], alts := [], laidByText := true, laidKinds := [.data, .pinned], laidTests := true, laidLooks := .later }
def BalanceNamesCardSaid : Prop := Claim7.holds Tryz.pinned (.plain (OpenSpec.ofChange balanceNamesSpec)) balanceNamesCard

/-- THE SECOND FORM's CARD OF 'sievelaw17.BalanceNames'. -/
def balanceNamesUptoCard : Claim7 := { stood := { row := balanceNamesUptoRow, standIns := [], harness := (true, "de2c87c88c6f8fed2d4775533e8d778a6ae6fa7bb2736541689fb5bffbc73033"), looks := false }, kinds := [], alts := [], laidByText := true, laidKinds := [.data, .pinned], laidTests := true, laidLooks := .later }
def BalanceNamesUptoCardSaid : Prop := Claim7.holds Tryz.pinned (.plain (OpenSpec.upto balanceNamesSpec)) balanceNamesUptoCard
end Rows
end Go.Proofs.YtdkcibafbdmajaaGreatDoor
