/-
  DERIVED. GIVEN WITH THE SEED: THE CARDS: each row of YtojkghgonnecfaaDoorRows.lean that lists a variable, with what it lists TIED to the program's text (the seventh form; the later family's looks); each row that meets fmt, with fmt's text TOLD by the authors' own Lean function (tested against real Go, not proved from fmt's source: count such statements apart). THE CARD IS WHAT COUNTS. Prove the row's statement (the work); the ties are given (YtojkghgonnecfaaDoorTie.lean); close each card by the builder's one call (the guide's Derived/Test/ToyasCard.lean, 'card_holds'). Laid BY PROGRAM, IN A SANDBOX (cutbox-door.mjs). By AI agents, Wed Nov 11 2026. No macro, syntax, notation, axiom, sorry.
-/
import Derived.Test.YtojkghgonnecfaaDoorRows
import GoSem.ClaimSeven
namespace Go.Proofs.YtojkghgonnecfaaDoor
namespace Rows

/-- THE TIED CARD OF 'sievelaw12.LinkNames'. -/
def linkNamesCard : Claim7 := { stood := { row := linkNamesRow, standIns := [], harness := (true, "a364efa718916b38cbd402d9b02962ea0f4bac4c201a07dad4641714ee7d0969"), looks := false }, kinds := [], alts := [], laidByText := true, laidKinds := [.data, .pinned], laidTests := true, laidLooks := .later }
def LinkNamesCardSaid : Prop := Claim7.holds Tryd.pinned (.plain (OpenSpec.ofChange linkNamesSpec)) linkNamesCard

/-- THE TIED CARD OF 'sievelaw12.LinkKinds'. -/
def linkKindsCard : Claim7 := { stood := { row := linkKindsRow, standIns := [], harness := (true, "a364efa718916b38cbd402d9b02962ea0f4bac4c201a07dad4641714ee7d0969"), looks := false }, kinds := [], alts := [], laidByText := true, laidKinds := [.data, .data, .pinned], laidTests := true, laidLooks := .later }
def LinkKindsCardSaid : Prop := Claim7.holds Tryd.pinned (.plain (OpenSpec.ofChange linkKindsSpec)) linkKindsCard

/-- THE TIED CARD OF 'sievelaw12.LinkParts'. -/
def linkPartsCard : Claim7 := { stood := { row := linkPartsRow, standIns := [], harness := (true, "a364efa718916b38cbd402d9b02962ea0f4bac4c201a07dad4641714ee7d0969"), looks := false }, kinds := [], alts := [], laidByText := true, laidKinds := [.data, .pinned], laidTests := true, laidLooks := .later }
def LinkPartsCardSaid : Prop := Claim7.holds Tryd.pinned (.plain (OpenSpec.ofChange linkPartsSpec)) linkPartsCard

/-- THE TIED CARD OF 'sievelaw12.LinkEscapes'. -/
def linkEscapesCard : Claim7 := { stood := { row := linkEscapesRow, standIns := [], harness := (true, "a364efa718916b38cbd402d9b02962ea0f4bac4c201a07dad4641714ee7d0969"), looks := false }, kinds := [], alts := [], laidByText := true, laidKinds := [.data, .pinned], laidTests := true, laidLooks := .later }
def LinkEscapesCardSaid : Prop := Claim7.holds Tryd.pinned (.plain (OpenSpec.ofChange linkEscapesSpec)) linkEscapesCard

/-- THE TIED CARD OF 'sievelaw12.LinkNothing'. -/
def linkNothingCard : Claim7 := { stood := { row := linkNothingRow, standIns := [], harness := (true, "a364efa718916b38cbd402d9b02962ea0f4bac4c201a07dad4641714ee7d0969"), looks := false }, kinds := [], alts := [], laidByText := true, laidKinds := [.data, .pinned], laidTests := true, laidLooks := .later }
def LinkNothingCardSaid : Prop := Claim7.holds Tryd.pinned (.plain (OpenSpec.ofChange linkNothingSpec)) linkNothingCard

/-- THE SECOND FORM's CARD OF 'sievelaw12.LinkNames'. -/
def linkNamesUptoCard : Claim7 := { stood := { row := linkNamesUptoRow, standIns := [], harness := (true, "a364efa718916b38cbd402d9b02962ea0f4bac4c201a07dad4641714ee7d0969"), looks := false }, kinds := [], alts := [], laidByText := true, laidKinds := [.data, .pinned], laidTests := true, laidLooks := .later }
def LinkNamesUptoCardSaid : Prop := Claim7.holds Tryd.pinned (.plain (OpenSpec.upto linkNamesSpec)) linkNamesUptoCard

/-- THE SECOND FORM's CARD OF 'sievelaw12.LinkKinds'. -/
def linkKindsUptoCard : Claim7 := { stood := { row := linkKindsUptoRow, standIns := [], harness := (true, "a364efa718916b38cbd402d9b02962ea0f4bac4c201a07dad4641714ee7d0969"), looks := false }, kinds := [], alts := [], laidByText := true, laidKinds := [.data, .data, .pinned], laidTests := true, laidLooks := .later }
def LinkKindsUptoCardSaid : Prop := Claim7.holds Tryd.pinned (.plain (OpenSpec.upto linkKindsSpec)) linkKindsUptoCard

/-- THE SECOND FORM's CARD OF 'sievelaw12.LinkParts'. -/
def linkPartsUptoCard : Claim7 := { stood := { row := linkPartsUptoRow, standIns := [], harness := (true, "a364efa718916b38cbd402d9b02962ea0f4bac4c201a07dad4641714ee7d0969"), looks := false }, kinds := [], alts := [], laidByText := true, laidKinds := [.data, .pinned], laidTests := true, laidLooks := .later }
def LinkPartsUptoCardSaid : Prop := Claim7.holds Tryd.pinned (.plain (OpenSpec.upto linkPartsSpec)) linkPartsUptoCard

/-- THE SECOND FORM's CARD OF 'sievelaw12.LinkEscapes'. -/
def linkEscapesUptoCard : Claim7 := { stood := { row := linkEscapesUptoRow, standIns := [], harness := (true, "a364efa718916b38cbd402d9b02962ea0f4bac4c201a07dad4641714ee7d0969"), looks := false }, kinds := [], alts := [], laidByText := true, laidKinds := [.data, .pinned], laidTests := true, laidLooks := .later }
def LinkEscapesUptoCardSaid : Prop := Claim7.holds Tryd.pinned (.plain (OpenSpec.upto linkEscapesSpec)) linkEscapesUptoCard

/-- THE SECOND FORM's CARD OF 'sievelaw12.LinkNothing'. -/
def linkNothingUptoCard : Claim7 := { stood := { row := linkNothingUptoRow, standIns := [], harness := (true, "a364efa718916b38cbd402d9b02962ea0f4bac4c201a07dad4641714ee7d0969"), looks := false }, kinds := [], alts := [], laidByText := true, laidKinds := [.data, .pinned], laidTests := true, laidLooks := .later }
def LinkNothingUptoCardSaid : Prop := Claim7.holds Tryd.pinned (.plain (OpenSpec.upto linkNothingSpec)) linkNothingUptoCard
end Rows
end Go.Proofs.YtojkghgonnecfaaDoor
