/-
  DERIVED. GIVEN WITH THE SEED: THE CARDS: each row of YtdkcibafbdmajabGreatDoorRows.lean that lists a variable, with what it lists TIED to the program's text (the seventh form; the later family's looks); each row that meets fmt, with fmt's text TOLD by the authors' own Lean function (tested against real Go, not proved from fmt's source: count such statements apart). THE CARD IS WHAT COUNTS. Prove the row's statement (the work); the ties are given (YtdkcibafbdmajabGreatDoorTie.lean); close each card by the builder's one call (the guide's Derived/Test/ToyasCard.lean, 'card_holds'). Laid BY PROGRAM, IN A SANDBOX (cutbox-door.mjs). By AI agents, Wed Nov 11 2026. No macro, syntax, notation, axiom, sorry.
-/
import Derived.Test.YtdkcibafbdmajabGreatDoorRows
import GoSem.ClaimSeven
namespace Go.Proofs.YtdkcibafbdmajabGreatDoor
namespace Rows

/-- THE TIED CARD OF 'sievelaw17.BalanceTakes'. -/
def balanceTakesCard : Claim7 := { stood := { row := balanceTakesRow, standIns := [], harness := (true, "e477a15159ba71b9e80f4f47184aa5e06c38c731b50be63fe9f56b862e303e3e"), looks := false }, kinds := [], alts := [], laidByText := true, laidKinds := [.data, .pinned], laidTests := true, laidLooks := .later }
def BalanceTakesCardSaid : Prop := Claim7.holds Tryz.pinned (.plain (OpenSpec.ofChange balanceTakesSpec)) balanceTakesCard

/-- THE TIED CARD OF 'sievelaw17.BalanceAll'. -/
def balanceAllCard : Claim7 := { stood := { row := balanceAllRow, standIns := [], harness := (true, "e477a15159ba71b9e80f4f47184aa5e06c38c731b50be63fe9f56b862e303e3e"), looks := false }, kinds := [], alts := [], laidByText := true, laidKinds := [.data, .pinned], laidTests := true, laidLooks := .later }
def BalanceAllCardSaid : Prop := Claim7.holds Tryz.pinned (.plain (OpenSpec.ofChange balanceAllSpec)) balanceAllCard

/-- THE TIED CARD OF 'sievelaw17.BalanceNone'. -/
def balanceNoneCard : Claim7 := { stood := { row := balanceNoneRow, standIns := [], harness := (true, "e477a15159ba71b9e80f4f47184aa5e06c38c731b50be63fe9f56b862e303e3e"), looks := false }, kinds := [], alts := [], laidByText := true, laidKinds := [.data, .pinned], laidTests := true, laidLooks := .later }
def BalanceNoneCardSaid : Prop := Claim7.holds Tryz.pinned (.plain (OpenSpec.ofChange balanceNoneSpec)) balanceNoneCard

/-- THE TIED CARD OF 'sievelaw17.BalanceNested'. -/
def balanceNestedCard : Claim7 := { stood := { row := balanceNestedRow, standIns := [], harness := (true, "e477a15159ba71b9e80f4f47184aa5e06c38c731b50be63fe9f56b862e303e3e"), looks := false }, kinds := [], alts := [], laidByText := true, laidKinds := [.data, .pinned], laidTests := true, laidLooks := .later }
def BalanceNestedCardSaid : Prop := Claim7.holds Tryz.pinned (.plain (OpenSpec.ofChange balanceNestedSpec)) balanceNestedCard

/-- THE SECOND FORM's CARD OF 'sievelaw17.BalanceTakes'. -/
def balanceTakesUptoCard : Claim7 := { stood := { row := balanceTakesUptoRow, standIns := [], harness := (true, "e477a15159ba71b9e80f4f47184aa5e06c38c731b50be63fe9f56b862e303e3e"), looks := false }, kinds := [], alts := [], laidByText := true, laidKinds := [.data, .pinned], laidTests := true, laidLooks := .later }
def BalanceTakesUptoCardSaid : Prop := Claim7.holds Tryz.pinned (.plain (OpenSpec.upto balanceTakesSpec)) balanceTakesUptoCard

/-- THE SECOND FORM's CARD OF 'sievelaw17.BalanceAll'. -/
def balanceAllUptoCard : Claim7 := { stood := { row := balanceAllUptoRow, standIns := [], harness := (true, "e477a15159ba71b9e80f4f47184aa5e06c38c731b50be63fe9f56b862e303e3e"), looks := false }, kinds := [], alts := [], laidByText := true, laidKinds := [.data, .pinned], laidTests := true, laidLooks := .later }
def BalanceAllUptoCardSaid : Prop := Claim7.holds Tryz.pinned (.plain (OpenSpec.upto balanceAllSpec)) balanceAllUptoCard

/-- THE SECOND FORM's CARD OF 'sievelaw17.BalanceNone'. -/
def balanceNoneUptoCard : Claim7 := { stood := { row := balanceNoneUptoRow, standIns := [], harness := (true, "e477a15159ba71b9e80f4f47184aa5e06c38c731b50be63fe9f56b862e303e3e"), looks := false }, kinds := [], alts := [], laidByText := true, laidKinds := [.data, .pinned], laidTests := true, laidLooks := .later }
def BalanceNoneUptoCardSaid : Prop := Claim7.holds Tryz.pinned (.plain (OpenSpec.upto balanceNoneSpec)) balanceNoneUptoCard

/-- THE SECOND FORM's CARD OF 'sievelaw17.BalanceNested'. -/
def balanceNestedUptoCard : Claim7 := { stood := { row := balanceNestedUptoRow, standIns := [], harness := (true, "e477a15159ba71b9e80f4f47184aa5e06c38c731b50be63fe9f56b862e303e3e"), looks := false }, kinds := [], alts := [], laidByText := true, laidKinds := [.data, .pinned], laidTests := true, laidLooks := .later }
def BalanceNestedUptoCardSaid : Prop := Claim7.holds Tryz.pinned (.plain (OpenSpec.upto balanceNestedSpec)) balanceNestedUptoCard
end Rows
end Go.Proofs.YtdkcibafbdmajabGreatDoor
