/-
  DERIVED. GIVEN WITH THE SEED: THE CARDS: each row of YtkbegfdbfmfedaaGreatDoorRows.lean that lists a variable, with what it lists TIED to the program's text (the seventh form; the later family's looks); each row that meets fmt, with fmt's text TOLD by the authors' own Lean function (tested against real Go, not proved from fmt's source: count such statements apart). THE CARD IS WHAT COUNTS. Prove the row's statement (the work); the ties are given (YtkbegfdbfmfedaaGreatDoorTie.lean); close each card by the builder's one call (the guide's Derived/Test/ToyasCard.lean, 'card_holds'). Laid BY PROGRAM, IN A SANDBOX (cutbox-door.mjs). By AI agents, Wed Nov 11 2026. No macro, syntax, notation, axiom, sorry.
-/
import Derived.Test.YtkbegfdbfmfedaaGreatDoorRows
import GoSem.ClaimSeven
namespace Go.Proofs.YtkbegfdbfmfedaaGreatDoor
namespace Rows

/-- THE TIED CARD OF 'sievelaw12.LinkSets'. -/
def linkSetsCard : Claim7 := { stood := { row := linkSetsRow, standIns := [], harness := (true, "c5d09e7e0ff4339eb34b2a2ae8adcda867dfaa4def87d79cb7e1d8b704884632"), looks := false }, kinds := [], alts := [], laidByText := true, laidKinds := [.data, .pinned], laidTests := true, laidLooks := .later }
def LinkSetsCardSaid : Prop := Claim7.holds Tryz.pinned (.plain (OpenSpec.ofChange linkSetsSpec)) linkSetsCard

/-- THE TIED CARD OF 'sievelaw12.LinkPairs'. -/
def linkPairsCard : Claim7 := { stood := { row := linkPairsRow, standIns := [], harness := (true, "c5d09e7e0ff4339eb34b2a2ae8adcda867dfaa4def87d79cb7e1d8b704884632"), looks := false }, kinds := [], alts := [], laidByText := true, laidKinds := [.data, .pinned], laidTests := true, laidLooks := .later }
def LinkPairsCardSaid : Prop := Claim7.holds Tryz.pinned (.plain (OpenSpec.ofChange linkPairsSpec)) linkPairsCard

/-- THE TIED CARD OF 'sievelaw12.LinkBacks'. -/
def linkBacksCard : Claim7 := { stood := { row := linkBacksRow, standIns := [], harness := (true, "c5d09e7e0ff4339eb34b2a2ae8adcda867dfaa4def87d79cb7e1d8b704884632"), looks := false }, kinds := [], alts := [], laidByText := true, laidKinds := [.data, .pinned], laidTests := true, laidLooks := .later }
def LinkBacksCardSaid : Prop := Claim7.holds Tryz.pinned (.plain (OpenSpec.ofChange linkBacksSpec)) linkBacksCard

/-- THE SECOND FORM's CARD OF 'sievelaw12.LinkSets'. -/
def linkSetsUptoCard : Claim7 := { stood := { row := linkSetsUptoRow, standIns := [], harness := (true, "c5d09e7e0ff4339eb34b2a2ae8adcda867dfaa4def87d79cb7e1d8b704884632"), looks := false }, kinds := [], alts := [], laidByText := true, laidKinds := [.data, .pinned], laidTests := true, laidLooks := .later }
def LinkSetsUptoCardSaid : Prop := Claim7.holds Tryz.pinned (.plain (OpenSpec.upto linkSetsSpec)) linkSetsUptoCard

/-- THE SECOND FORM's CARD OF 'sievelaw12.LinkPairs'. -/
def linkPairsUptoCard : Claim7 := { stood := { row := linkPairsUptoRow, standIns := [], harness := (true, "c5d09e7e0ff4339eb34b2a2ae8adcda867dfaa4def87d79cb7e1d8b704884632"), looks := false }, kinds := [], alts := [], laidByText := true, laidKinds := [.data, .pinned], laidTests := true, laidLooks := .later }
def LinkPairsUptoCardSaid : Prop := Claim7.holds Tryz.pinned (.plain (OpenSpec.upto linkPairsSpec)) linkPairsUptoCard

/-- THE SECOND FORM's CARD OF 'sievelaw12.LinkBacks'. -/
def linkBacksUptoCard : Claim7 := { stood := { row := linkBacksUptoRow, standIns := [], harness := (true, "c5d09e7e0ff4339eb34b2a2ae8adcda867dfaa4def87d79cb7e1d8b704884632"), looks := false }, kinds := [], alts := [], laidByText := true, laidKinds := [.data, .pinned], laidTests := true, laidLooks := .later }
def LinkBacksUptoCardSaid : Prop := Claim7.holds Tryz.pinned (.plain (OpenSpec.upto linkBacksSpec)) linkBacksUptoCard
end Rows
end Go.Proofs.YtkbegfdbfmfedaaGreatDoor
