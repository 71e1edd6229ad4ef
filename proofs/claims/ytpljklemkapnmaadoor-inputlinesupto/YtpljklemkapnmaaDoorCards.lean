/-
  DERIVED. GIVEN WITH THE SEED: THE CARDS: each row of YtpljklemkapnmaaDoorRows.lean that lists a variable, with what it lists TIED to the program's text (the seventh form; the later family's looks); each row that meets fmt, with fmt's text TOLD by the authors' own Lean function (tested against real Go, not proved from fmt's source: count such statements apart). THE CARD IS WHAT COUNTS. Prove the row's statement (the work); the ties are given (YtpljklemkapnmaaDoorTie.lean); close each card by the builder's one call (the guide's Derived/Test/ToyasCard.lean, 'card_holds'). Laid BY PROGRAM, IN A SANDBOX (cutbox-door.mjs). By AI agents, Wed Nov 11 2026. No macro, syntax, notation, axiom, sorry.
-/
import Derived.Test.YtpljklemkapnmaaDoorRows
import GoSem.ClaimSeven
namespace Go.Proofs.YtpljklemkapnmaaDoor
namespace Rows

/-- THE TIED CARD OF 'sievelaw03.InputPlain'. -/
def inputPlainCard : Claim7 := { stood := { row := inputPlainRow, standIns := [], harness := (true, "c1befe535d7aaa0182cc5866233e7f67d4162fba42ed66348d55675efbb450da"), looks := false }, kinds := [], alts := [], laidByText := true, laidKinds := [.data, .pinned], laidTests := true, laidLooks := .later }
def InputPlainCardSaid : Prop := Claim7.holds Tryd.pinned (.plain (OpenSpec.ofChange inputPlainSpec)) inputPlainCard

/-- THE TIED CARD OF 'sievelaw03.InputReads'. -/
def inputReadsCard : Claim7 := { stood := { row := inputReadsRow, standIns := [], harness := (true, "c1befe535d7aaa0182cc5866233e7f67d4162fba42ed66348d55675efbb450da"), looks := false }, kinds := [], alts := [], laidByText := true, laidKinds := [.data, .pinned], laidTests := true, laidLooks := .later }
def InputReadsCardSaid : Prop := Claim7.holds Tryd.pinned (.plain (OpenSpec.ofChange inputReadsSpec)) inputReadsCard

/-- THE TIED CARD OF 'sievelaw03.InputPieces'. -/
def inputPiecesCard : Claim7 := { stood := { row := inputPiecesRow, standIns := [], harness := (true, "c1befe535d7aaa0182cc5866233e7f67d4162fba42ed66348d55675efbb450da"), looks := false }, kinds := [], alts := [], laidByText := true, laidKinds := [.data, .pinned], laidTests := true, laidLooks := .later }
def InputPiecesCardSaid : Prop := Claim7.holds Tryd.pinned (.plain (OpenSpec.ofChange inputPiecesSpec)) inputPiecesCard

/-- THE TIED CARD OF 'sievelaw03.InputLines'. -/
def inputLinesCard : Claim7 := { stood := { row := inputLinesRow, standIns := [], harness := (true, "c1befe535d7aaa0182cc5866233e7f67d4162fba42ed66348d55675efbb450da"), looks := false }, kinds := [], alts := [], laidByText := true, laidKinds := [.data, .pinned], laidTests := true, laidLooks := .later }
def InputLinesCardSaid : Prop := Claim7.holds Tryd.pinned (.plain (OpenSpec.ofChange inputLinesSpec)) inputLinesCard

/-- THE TIED CARD OF 'sievelaw03.InputNone'. -/
def inputNoneCard : Claim7 := { stood := { row := inputNoneRow, standIns := [], harness := (true, "c1befe535d7aaa0182cc5866233e7f67d4162fba42ed66348d55675efbb450da"), looks := false }, kinds := [], alts := [], laidByText := true, laidKinds := [.data, .pinned], laidTests := true, laidLooks := .later }
def InputNoneCardSaid : Prop := Claim7.holds Tryd.pinned (.plain (OpenSpec.ofChange inputNoneSpec)) inputNoneCard

/-- THE TIED CARD OF 'sievelaw03.InputPlaces'. -/
def inputPlacesCard : Claim7 := { stood := { row := inputPlacesRow, standIns := [], harness := (true, "c1befe535d7aaa0182cc5866233e7f67d4162fba42ed66348d55675efbb450da"), looks := false }, kinds := [], alts := [], laidByText := true, laidKinds := [.data, .pinned], laidTests := true, laidLooks := .later }
def InputPlacesCardSaid : Prop := Claim7.holds Tryd.pinned (.plain (OpenSpec.ofChange inputPlacesSpec)) inputPlacesCard

/-- THE SECOND FORM's CARD OF 'sievelaw03.InputPlain'. -/
def inputPlainUptoCard : Claim7 := { stood := { row := inputPlainUptoRow, standIns := [], harness := (true, "c1befe535d7aaa0182cc5866233e7f67d4162fba42ed66348d55675efbb450da"), looks := false }, kinds := [], alts := [], laidByText := true, laidKinds := [.data, .pinned], laidTests := true, laidLooks := .later }
def InputPlainUptoCardSaid : Prop := Claim7.holds Tryd.pinned (.plain (OpenSpec.upto inputPlainSpec)) inputPlainUptoCard

/-- THE SECOND FORM's CARD OF 'sievelaw03.InputReads'. -/
def inputReadsUptoCard : Claim7 := { stood := { row := inputReadsUptoRow, standIns := [], harness := (true, "c1befe535d7aaa0182cc5866233e7f67d4162fba42ed66348d55675efbb450da"), looks := false }, kinds := [], alts := [], laidByText := true, laidKinds := [.data, .pinned], laidTests := true, laidLooks := .later }
def InputReadsUptoCardSaid : Prop := Claim7.holds Tryd.pinned (.plain (OpenSpec.upto inputReadsSpec)) inputReadsUptoCard

/-- THE SECOND FORM's CARD OF 'sievelaw03.InputPieces'. -/
def inputPiecesUptoCard : Claim7 := { stood := { row := inputPiecesUptoRow, standIns := [], harness := (true, "c1befe535d7aaa0182cc5866233e7f67d4162fba42ed66348d55675efbb450da"), looks := false }, kinds := [], alts := [], laidByText := true, laidKinds := [.data, .pinned], laidTests := true, laidLooks := .later }
def InputPiecesUptoCardSaid : Prop := Claim7.holds Tryd.pinned (.plain (OpenSpec.upto inputPiecesSpec)) inputPiecesUptoCard

/-- THE SECOND FORM's CARD OF 'sievelaw03.InputLines'. -/
def inputLinesUptoCard : Claim7 := { stood := { row := inputLinesUptoRow, standIns := [], harness := (true, "c1befe535d7aaa0182cc5866233e7f67d4162fba42ed66348d55675efbb450da"), looks := false }, kinds := [], alts := [], laidByText := true, laidKinds := [.data, .pinned], laidTests := true, laidLooks := .later }
def InputLinesUptoCardSaid : Prop := Claim7.holds Tryd.pinned (.plain (OpenSpec.upto inputLinesSpec)) inputLinesUptoCard

/-- THE SECOND FORM's CARD OF 'sievelaw03.InputNone'. -/
def inputNoneUptoCard : Claim7 := { stood := { row := inputNoneUptoRow, standIns := [], harness := (true, "c1befe535d7aaa0182cc5866233e7f67d4162fba42ed66348d55675efbb450da"), looks := false }, kinds := [], alts := [], laidByText := true, laidKinds := [.data, .pinned], laidTests := true, laidLooks := .later }
def InputNoneUptoCardSaid : Prop := Claim7.holds Tryd.pinned (.plain (OpenSpec.upto inputNoneSpec)) inputNoneUptoCard

/-- THE SECOND FORM's CARD OF 'sievelaw03.InputPlaces'. -/
def inputPlacesUptoCard : Claim7 := { stood := { row := inputPlacesUptoRow, standIns := [], harness := (true, "c1befe535d7aaa0182cc5866233e7f67d4162fba42ed66348d55675efbb450da"), looks := false }, kinds := [], alts := [], laidByText := true, laidKinds := [.data, .pinned], laidTests := true, laidLooks := .later }
def InputPlacesUptoCardSaid : Prop := Claim7.holds Tryd.pinned (.plain (OpenSpec.upto inputPlacesSpec)) inputPlacesUptoCard
end Rows
end Go.Proofs.YtpljklemkapnmaaDoor
