/-
  DERIVED. GIVEN WITH THE SEED: THE CARDS: each row of YtjhmphokmmmoaaaDoorRows.lean that lists a variable, with what it lists TIED to the program's text (the seventh form; the later family's looks); each row that meets fmt, with fmt's text TOLD by the authors' own Lean function (tested against real Go, not proved from fmt's source: count such statements apart). THE CARD IS WHAT COUNTS. Prove the row's statement (the work); the ties are given (YtjhmphokmmmoaaaDoorTie.lean); close each card by the builder's one call (the guide's Derived/Test/ToyasCard.lean, 'card_holds'). Laid BY PROGRAM, IN A SANDBOX (cutbox-door.mjs). By AI agents, Wed Nov 11 2026. No macro, syntax, notation, axiom, sorry.
-/
import Derived.Test.YtjhmphokmmmoaaaDoorRows
import GoSem.ClaimSeven
namespace Go.Proofs.YtjhmphokmmmoaaaDoor
namespace Rows

/-- THE TIED CARD OF 'sievelaw12.LinkParts'. -/
def linkPartsCard : Claim7 := { stood := { row := linkPartsRow, standIns := [], harness := (true, "ee92b7fe17f4e99344765dd9103ae8a0fb9319e29c4d94397639517fb937a74b"), looks := false }, kinds := [], alts := [], laidByText := true, laidKinds := [.data, .pinned], laidTests := true, laidLooks := .later }
def LinkPartsCardSaid : Prop := Claim7.holds Tryd.pinned (.plain (OpenSpec.ofChange linkPartsSpec)) linkPartsCard

/-- THE TIED CARD OF 'sievelaw12.LinkBack'. -/
def linkBackCard : Claim7 := { stood := { row := linkBackRow, standIns := [], harness := (true, "ee92b7fe17f4e99344765dd9103ae8a0fb9319e29c4d94397639517fb937a74b"), looks := false }, kinds := [], alts := [], laidByText := true, laidKinds := [.data, .pinned], laidTests := true, laidLooks := .later }
def LinkBackCardSaid : Prop := Claim7.holds Tryd.pinned (.plain (OpenSpec.ofChange linkBackSpec)) linkBackCard

/-- THE TIED CARD OF 'sievelaw12.LinkStays'. -/
def linkStaysCard : Claim7 := { stood := { row := linkStaysRow, standIns := [], harness := (true, "ee92b7fe17f4e99344765dd9103ae8a0fb9319e29c4d94397639517fb937a74b"), looks := false }, kinds := [], alts := [], laidByText := true, laidKinds := [.data, .data, .data, .pinned], laidTests := true, laidLooks := .later }
def LinkStaysCardSaid : Prop := Claim7.holds Tryd.pinned (.plain (OpenSpec.ofChange linkStaysSpec)) linkStaysCard

/-- THE TIED CARD OF 'sievelaw12.LinkHides'. -/
def linkHidesCard : Claim7 := { stood := { row := linkHidesRow, standIns := [], harness := (true, "ee92b7fe17f4e99344765dd9103ae8a0fb9319e29c4d94397639517fb937a74b"), looks := false }, kinds := [], alts := [], laidByText := true, laidKinds := [.data, .data, .pinned], laidTests := true, laidLooks := .later }
def LinkHidesCardSaid : Prop := Claim7.holds Tryd.pinned (.plain (OpenSpec.ofChange linkHidesSpec)) linkHidesCard

/-- THE SECOND FORM's CARD OF 'sievelaw12.LinkParts'. -/
def linkPartsUptoCard : Claim7 := { stood := { row := linkPartsUptoRow, standIns := [], harness := (true, "ee92b7fe17f4e99344765dd9103ae8a0fb9319e29c4d94397639517fb937a74b"), looks := false }, kinds := [], alts := [], laidByText := true, laidKinds := [.data, .pinned], laidTests := true, laidLooks := .later }
def LinkPartsUptoCardSaid : Prop := Claim7.holds Tryd.pinned (.plain (OpenSpec.upto linkPartsSpec)) linkPartsUptoCard

/-- THE SECOND FORM's CARD OF 'sievelaw12.LinkBack'. -/
def linkBackUptoCard : Claim7 := { stood := { row := linkBackUptoRow, standIns := [], harness := (true, "ee92b7fe17f4e99344765dd9103ae8a0fb9319e29c4d94397639517fb937a74b"), looks := false }, kinds := [], alts := [], laidByText := true, laidKinds := [.data, .pinned], laidTests := true, laidLooks := .later }
def LinkBackUptoCardSaid : Prop := Claim7.holds Tryd.pinned (.plain (OpenSpec.upto linkBackSpec)) linkBackUptoCard

/-- THE SECOND FORM's CARD OF 'sievelaw12.LinkStays'. -/
def linkStaysUptoCard : Claim7 := { stood := { row := linkStaysUptoRow, standIns := [], harness := (true, "ee92b7fe17f4e99344765dd9103ae8a0fb9319e29c4d94397639517fb937a74b"), looks := false }, kinds := [], alts := [], laidByText := true, laidKinds := [.data, .data, .data, .pinned], laidTests := true, laidLooks := .later }
def LinkStaysUptoCardSaid : Prop := Claim7.holds Tryd.pinned (.plain (OpenSpec.upto linkStaysSpec)) linkStaysUptoCard

/-- THE SECOND FORM's CARD OF 'sievelaw12.LinkHides'. -/
def linkHidesUptoCard : Claim7 := { stood := { row := linkHidesUptoRow, standIns := [], harness := (true, "ee92b7fe17f4e99344765dd9103ae8a0fb9319e29c4d94397639517fb937a74b"), looks := false }, kinds := [], alts := [], laidByText := true, laidKinds := [.data, .data, .pinned], laidTests := true, laidLooks := .later }
def LinkHidesUptoCardSaid : Prop := Claim7.holds Tryd.pinned (.plain (OpenSpec.upto linkHidesSpec)) linkHidesUptoCard
end Rows
end Go.Proofs.YtjhmphokmmmoaaaDoor
