/-
  DERIVED. GIVEN WITH THE SEED: THE CARDS: each row of YtjhoaepokkaoeaaDoorRows.lean that lists a variable, with what it lists TIED to the program's text (the seventh form; the later family's looks); each row that meets fmt, with fmt's text TOLD by the authors' own Lean function (tested against real Go, not proved from fmt's source: count such statements apart). THE CARD IS WHAT COUNTS. Prove the row's statement (the work); the ties are given (YtjhoaepokkaoeaaDoorTie.lean); close each card by the builder's one call (the guide's Derived/Test/ToyasCard.lean, 'card_holds'). Laid BY PROGRAM, IN A SANDBOX (cutbox-door.mjs). By AI agents, Wed Nov 11 2026. No macro, syntax, notation, axiom, sorry.
-/
import Derived.Test.YtjhoaepokkaoeaaDoorRows
import GoSem.ClaimSeven
namespace Go.Proofs.YtjhoaepokkaoeaaDoor
namespace Rows

/-- THE TIED CARD OF 'sievelaw01.UtfPieces'. -/
def utfPiecesCard : Claim7 := { stood := { row := utfPiecesRow, standIns := [], harness := (true, "e6a34b8fbe03b1c12b16e77c8def5f7dfe053ccbd2b9609a0d0562c29b1857cc"), looks := false }, kinds := [], alts := [], laidByText := true, laidKinds := [.data, .pinned], laidTests := true, laidLooks := .later }
def UtfPiecesCardSaid : Prop := Claim7.holds Tryd.pinned (.plain (OpenSpec.ofChange utfPiecesSpec)) utfPiecesCard

/-- THE TIED CARD OF 'sievelaw01.UtfTurned'. -/
def utfTurnedCard : Claim7 := { stood := { row := utfTurnedRow, standIns := [], harness := (true, "e6a34b8fbe03b1c12b16e77c8def5f7dfe053ccbd2b9609a0d0562c29b1857cc"), looks := false }, kinds := [], alts := [], laidByText := true, laidKinds := [.data, .pinned], laidTests := true, laidLooks := .later }
def UtfTurnedCardSaid : Prop := Claim7.holds Tryd.pinned (.plain (OpenSpec.ofChange utfTurnedSpec)) utfTurnedCard

/-- THE TIED CARD OF 'sievelaw03.InputPieces'. -/
def inputPiecesCard : Claim7 := { stood := { row := inputPiecesRow, standIns := [], harness := (true, "e6a34b8fbe03b1c12b16e77c8def5f7dfe053ccbd2b9609a0d0562c29b1857cc"), looks := false }, kinds := [], alts := [], laidByText := true, laidKinds := [.data, .pinned], laidTests := true, laidLooks := .later }
def InputPiecesCardSaid : Prop := Claim7.holds Tryd.pinned (.plain (OpenSpec.ofChange inputPiecesSpec)) inputPiecesCard

/-- THE SECOND FORM's CARD OF 'sievelaw01.UtfPieces'. -/
def utfPiecesUptoCard : Claim7 := { stood := { row := utfPiecesUptoRow, standIns := [], harness := (true, "e6a34b8fbe03b1c12b16e77c8def5f7dfe053ccbd2b9609a0d0562c29b1857cc"), looks := false }, kinds := [], alts := [], laidByText := true, laidKinds := [.data, .pinned], laidTests := true, laidLooks := .later }
def UtfPiecesUptoCardSaid : Prop := Claim7.holds Tryd.pinned (.plain (OpenSpec.upto utfPiecesSpec)) utfPiecesUptoCard

/-- THE SECOND FORM's CARD OF 'sievelaw01.UtfTurned'. -/
def utfTurnedUptoCard : Claim7 := { stood := { row := utfTurnedUptoRow, standIns := [], harness := (true, "e6a34b8fbe03b1c12b16e77c8def5f7dfe053ccbd2b9609a0d0562c29b1857cc"), looks := false }, kinds := [], alts := [], laidByText := true, laidKinds := [.data, .pinned], laidTests := true, laidLooks := .later }
def UtfTurnedUptoCardSaid : Prop := Claim7.holds Tryd.pinned (.plain (OpenSpec.upto utfTurnedSpec)) utfTurnedUptoCard

/-- THE SECOND FORM's CARD OF 'sievelaw03.InputPieces'. -/
def inputPiecesUptoCard : Claim7 := { stood := { row := inputPiecesUptoRow, standIns := [], harness := (true, "e6a34b8fbe03b1c12b16e77c8def5f7dfe053ccbd2b9609a0d0562c29b1857cc"), looks := false }, kinds := [], alts := [], laidByText := true, laidKinds := [.data, .pinned], laidTests := true, laidLooks := .later }
def InputPiecesUptoCardSaid : Prop := Claim7.holds Tryd.pinned (.plain (OpenSpec.upto inputPiecesSpec)) inputPiecesUptoCard
end Rows
end Go.Proofs.YtjhoaepokkaoeaaDoor
