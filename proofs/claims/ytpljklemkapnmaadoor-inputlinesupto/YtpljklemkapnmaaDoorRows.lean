/-
  NARROWER THAN 'FOR EVERY INPUT', by the rows' own cells (each row's printed sentence says how): InputPlain: laid · InputReads: laid · InputPieces: laid · InputLines: laid · InputNone: laid · InputPlaces: laid.
  DERIVED. THE GIVEN ROWS OF THIS SEAT. 6 by the template 'for every input the law returns true; each argument reads behind the call as it read before'; 0 by the template 'total and deterministic' (their statements: YtpljklemkapnmaaDoorTotals.lean).
  GIVEN WITH THE SEED: the statements are not yours to turn. If you find one false, say at which input.
  Laid BY PROGRAM, IN A SANDBOX (cutbox-rows.mjs): the forced cells as the released guide's own fill.sh prints them over the translation 25cb8010a62b0a1e… (all of the seat's roots in one cut). By AI agents, Wed Nov 11 2026. No macro, syntax, notation, axiom, sorry.
-/
import Derived.Test.YtpljklemkapnmaaDoorChecked
import GoSem.PinnedTables
import GoSem.Claim
import GoSem.ClaimJoined
import GoSem.ClaimMapViews
import Derived.JoinedTies
import Derived.KernelRfl
namespace Go.Proofs.YtpljklemkapnmaaDoor
/- THE CELL 'sum', in the pinned program and in every row, IS THE sha256 OF THE DUMP (.gsa) THAT YtpljklemkapnmaaDoorProg.lean LOADS. Nothing in Lean hashes anything: it is a label: what it is worth is what the hold of that sum in a sandbox is worth. -/
noncomputable def Tryd.pinned : Pinned := { name := "ytpljklemkapnmaadoor", sum := "25cb8010a62b0a1e274930cd4c276e146b6c86017a237635fde461a4873c5db3", checked := Tryd.checked }
namespace Rows
def none {H : Type} : Left H := { results := [], args := [] }

/- WHAT THE LISTED PACKAGE-LEVEL VARIABLES READ AS WHEN THE CALL BEGINS. Each datum BY PROGRAM (the guide's laid-datum.mjs) off the statement by which the dump's own 'gosem.cut.vars' lays the variable. In a bare row this is a premise. The card (YtpljklemkapnmaaDoorCards.lean) ties it to the program's text. -/
def laid_unicode_utf8_acceptRanges {H : Type} : DataW H := .agg [.agg [.lit (.int .u8 128), .lit (.int .u8 191)], .agg [.lit (.int .u8 160), .lit (.int .u8 191)], .agg [.lit (.int .u8 128), .lit (.int .u8 159)], .agg [.lit (.int .u8 144), .lit (.int .u8 191)], .agg [.lit (.int .u8 128), .lit (.int .u8 143)], .agg [.lit (.int .u8 0), .lit (.int .u8 0)], .agg [.lit (.int .u8 0), .lit (.int .u8 0)], .agg [.lit (.int .u8 0), .lit (.int .u8 0)], .agg [.lit (.int .u8 0), .lit (.int .u8 0)], .agg [.lit (.int .u8 0), .lit (.int .u8 0)], .agg [.lit (.int .u8 0), .lit (.int .u8 0)], .agg [.lit (.int .u8 0), .lit (.int .u8 0)], .agg [.lit (.int .u8 0), .lit (.int .u8 0)], .agg [.lit (.int .u8 0), .lit (.int .u8 0)], .agg [.lit (.int .u8 0), .lit (.int .u8 0)], .agg [.lit (.int .u8 0), .lit (.int .u8 0)]]
/-- One of Go's own tables, pinned by name: the form's constant. -/
def laid_unicode_utf8_first : DataW Unit := Go.Pinned.utf8First

/-- 'sievelaw03.InputPlain': WHATEVER THE INPUT: true; the input reads as it did. -/
def inputPlainSpec : ChangeSpec := { name := "inputPlain", fn := fun _ => fun
  | [d] => { results := [.lit (.bool true)], args := [d] }
  | _ => none }
def inputPlainRow : OpenClaim := { program := "ytpljklemkapnmaadoor", sum := "25cb8010a62b0a1e274930cd4c276e146b6c86017a237635fde461a4873c5db3", func := "sieve/sievelaw03.InputPlain", spec := "inputPlain", inPlace := ["internal/abi.NoEscape"], unfollowed := true, recurses := true, named := ["unicode/utf8.first", "unicode/utf8.acceptRanges"], apart := false, laid := [("unicode/utf8.acceptRanges", laid_unicode_utf8_acceptRanges), ("unicode/utf8.first", laid_unicode_utf8_first)] }
def InputPlainSaid : Prop := inputPlainRow.holds Tryd.pinned (OpenSpec.ofChange inputPlainSpec)

/-- ITS FALSE NEIGHBOUR: 'it returns false'. Refute it at one input. -/
def inputPlainWrong : ChangeSpec := { name := "inputPlain", fn := fun _ => fun
  | [d] => { results := [.lit (.bool false)], args := [d] }
  | _ => none }
def InputPlainWrongFalsely : Prop := inputPlainRow.holds Tryd.pinned (OpenSpec.ofChange inputPlainWrong)

/-- 'sievelaw03.InputReads': WHATEVER THE INPUT: true; the input reads as it did. -/
def inputReadsSpec : ChangeSpec := { name := "inputReads", fn := fun _ => fun
  | [d] => { results := [.lit (.bool true)], args := [d] }
  | _ => none }
def inputReadsRow : OpenClaim := { program := "ytpljklemkapnmaadoor", sum := "25cb8010a62b0a1e274930cd4c276e146b6c86017a237635fde461a4873c5db3", func := "sieve/sievelaw03.InputReads", spec := "inputReads", inPlace := ["internal/abi.NoEscape"], unfollowed := true, recurses := true, named := ["unicode/utf8.first", "unicode/utf8.acceptRanges"], apart := false, laid := [("unicode/utf8.acceptRanges", laid_unicode_utf8_acceptRanges), ("unicode/utf8.first", laid_unicode_utf8_first)] }
def InputReadsSaid : Prop := inputReadsRow.holds Tryd.pinned (OpenSpec.ofChange inputReadsSpec)

/-- ITS FALSE NEIGHBOUR: 'it returns false'. Refute it at one input. -/
def inputReadsWrong : ChangeSpec := { name := "inputReads", fn := fun _ => fun
  | [d] => { results := [.lit (.bool false)], args := [d] }
  | _ => none }
def InputReadsWrongFalsely : Prop := inputReadsRow.holds Tryd.pinned (OpenSpec.ofChange inputReadsWrong)

/-- 'sievelaw03.InputPieces': WHATEVER THE INPUT: true; the input reads as it did. -/
def inputPiecesSpec : ChangeSpec := { name := "inputPieces", fn := fun _ => fun
  | [d1, d2] => { results := [.lit (.bool true)], args := [d1, d2] }
  | _ => none }
def inputPiecesRow : OpenClaim := { program := "ytpljklemkapnmaadoor", sum := "25cb8010a62b0a1e274930cd4c276e146b6c86017a237635fde461a4873c5db3", func := "sieve/sievelaw03.InputPieces", spec := "inputPieces", inPlace := ["internal/abi.NoEscape"], unfollowed := true, recurses := true, named := ["unicode/utf8.first", "unicode/utf8.acceptRanges"], apart := false, laid := [("unicode/utf8.acceptRanges", laid_unicode_utf8_acceptRanges), ("unicode/utf8.first", laid_unicode_utf8_first)] }
def InputPiecesSaid : Prop := inputPiecesRow.holds Tryd.pinned (OpenSpec.ofChange inputPiecesSpec)

/-- ITS FALSE NEIGHBOUR: 'it returns false'. Refute it at one input. -/
def inputPiecesWrong : ChangeSpec := { name := "inputPieces", fn := fun _ => fun
  | [d1, d2] => { results := [.lit (.bool false)], args := [d1, d2] }
  | _ => none }
def InputPiecesWrongFalsely : Prop := inputPiecesRow.holds Tryd.pinned (OpenSpec.ofChange inputPiecesWrong)

/-- 'sievelaw03.InputLines': WHATEVER THE INPUT: true; the input reads as it did. -/
def inputLinesSpec : ChangeSpec := { name := "inputLines", fn := fun _ => fun
  | [d1, d2] => { results := [.lit (.bool true)], args := [d1, d2] }
  | _ => none }
def inputLinesRow : OpenClaim := { program := "ytpljklemkapnmaadoor", sum := "25cb8010a62b0a1e274930cd4c276e146b6c86017a237635fde461a4873c5db3", func := "sieve/sievelaw03.InputLines", spec := "inputLines", inPlace := ["internal/abi.NoEscape"], unfollowed := true, recurses := true, named := ["unicode/utf8.first", "unicode/utf8.acceptRanges"], apart := false, laid := [("unicode/utf8.acceptRanges", laid_unicode_utf8_acceptRanges), ("unicode/utf8.first", laid_unicode_utf8_first)] }
def InputLinesSaid : Prop := inputLinesRow.holds Tryd.pinned (OpenSpec.ofChange inputLinesSpec)

/-- ITS FALSE NEIGHBOUR: 'it returns false'. Refute it at one input. -/
def inputLinesWrong : ChangeSpec := { name := "inputLines", fn := fun _ => fun
  | [d1, d2] => { results := [.lit (.bool false)], args := [d1, d2] }
  | _ => none }
def InputLinesWrongFalsely : Prop := inputLinesRow.holds Tryd.pinned (OpenSpec.ofChange inputLinesWrong)

/-- 'sievelaw03.InputNone': WHATEVER THE INPUT: true; the input reads as it did. -/
def inputNoneSpec : ChangeSpec := { name := "inputNone", fn := fun _ => fun
  | [d] => { results := [.lit (.bool true)], args := [d] }
  | _ => none }
def inputNoneRow : OpenClaim := { program := "ytpljklemkapnmaadoor", sum := "25cb8010a62b0a1e274930cd4c276e146b6c86017a237635fde461a4873c5db3", func := "sieve/sievelaw03.InputNone", spec := "inputNone", inPlace := ["internal/abi.NoEscape"], unfollowed := true, recurses := true, named := ["unicode/utf8.first", "unicode/utf8.acceptRanges"], apart := false, laid := [("unicode/utf8.acceptRanges", laid_unicode_utf8_acceptRanges), ("unicode/utf8.first", laid_unicode_utf8_first)] }
def InputNoneSaid : Prop := inputNoneRow.holds Tryd.pinned (OpenSpec.ofChange inputNoneSpec)

/-- ITS FALSE NEIGHBOUR: 'it returns false'. Refute it at one input. -/
def inputNoneWrong : ChangeSpec := { name := "inputNone", fn := fun _ => fun
  | [d] => { results := [.lit (.bool false)], args := [d] }
  | _ => none }
def InputNoneWrongFalsely : Prop := inputNoneRow.holds Tryd.pinned (OpenSpec.ofChange inputNoneWrong)

/-- 'sievelaw03.InputPlaces': WHATEVER THE INPUT: true; the input reads as it did. -/
def inputPlacesSpec : ChangeSpec := { name := "inputPlaces", fn := fun _ => fun
  | [d] => { results := [.lit (.bool true)], args := [d] }
  | _ => none }
def inputPlacesRow : OpenClaim := { program := "ytpljklemkapnmaadoor", sum := "25cb8010a62b0a1e274930cd4c276e146b6c86017a237635fde461a4873c5db3", func := "sieve/sievelaw03.InputPlaces", spec := "inputPlaces", inPlace := ["internal/abi.NoEscape"], unfollowed := true, recurses := true, named := ["unicode/utf8.first", "unicode/utf8.acceptRanges"], apart := false, laid := [("unicode/utf8.acceptRanges", laid_unicode_utf8_acceptRanges), ("unicode/utf8.first", laid_unicode_utf8_first)] }
def InputPlacesSaid : Prop := inputPlacesRow.holds Tryd.pinned (OpenSpec.ofChange inputPlacesSpec)

/-- ITS FALSE NEIGHBOUR: 'it returns false'. Refute it at one input. -/
def inputPlacesWrong : ChangeSpec := { name := "inputPlaces", fn := fun _ => fun
  | [d] => { results := [.lit (.bool false)], args := [d] }
  | _ => none }
def InputPlacesWrongFalsely : Prop := inputPlacesRow.holds Tryd.pinned (OpenSpec.ofChange inputPlacesWrong)

/- THE SECOND FORM. 'bulk': how many values and letters a reading holds, each counted each time it is reached (what is shared counts as often as it is met; a slice's spare places count too). A statement '..UptoSaid' is the law's where the arguments, and the package variables that the reading takes, are together of bulk at most 1048576: NARROWER than '..Said'. Prove '..Said' where nothing that the law and all that it calls make is longer than what came in: it says more and counts as full. Else prove '..UptoSaid'. A law counts once. -/
mutual
def uptoBulk {H : Type} : DataW H → Nat
  | .lit (.string bytes) => bytes.length + 1
  | .lit _ => 1
  | .nil => 1
  | .ptr d => uptoBulk d + 1
  | .slice elems spare => uptoBulkAll elems + uptoBulkAll spare + 1
  | .agg parts => uptoBulkAll parts + 1
  | .iface _ d => uptoBulk d + 1
  | .map entries => uptoBulkEntries entries + 1
  | .held _ => 1
def uptoBulkAll {H : Type} : List (DataW H) → Nat
  | [] => 0
  | d :: r => uptoBulk d + uptoBulkAll r
def uptoBulkEntries {H : Type} : List (Lit × DataW H) → Nat
  | [] => 0
  | x :: r => uptoBulkEntry x + uptoBulkEntries r
def uptoBulkEntry {H : Type} : Lit × DataW H → Nat
  | (.string bytes, d) => bytes.length + uptoBulk d + 1
  | (_, d) => uptoBulk d + 1
 end
def uptoSmall : (H : Type) → List (DataW H) → Bool := fun _ ds => decide (uptoBulkAll ds ≤ 1048576)
def OpenSpec.upto (s : _root_.Go.ChangeSpec) : _root_.Go.OpenSpec := { _root_.Go.OpenSpec.ofChange s with cond := some uptoSmall }

/-- 'sievelaw03.InputPlain', WHERE WHAT IT READS IS OF BULK AT MOST 1048576: true; the input reads as it did. -/
def inputPlainUptoRow : OpenClaim := { program := "ytpljklemkapnmaadoor", sum := "25cb8010a62b0a1e274930cd4c276e146b6c86017a237635fde461a4873c5db3", func := "sieve/sievelaw03.InputPlain", spec := "inputPlain", inPlace := ["internal/abi.NoEscape"], unfollowed := true, recurses := true, named := ["unicode/utf8.first", "unicode/utf8.acceptRanges"], apart := false, laid := [("unicode/utf8.acceptRanges", laid_unicode_utf8_acceptRanges), ("unicode/utf8.first", laid_unicode_utf8_first)], narrowed := true }
def InputPlainUptoSaid : Prop := inputPlainUptoRow.holds Tryd.pinned (OpenSpec.upto inputPlainSpec)

/-- 'sievelaw03.InputReads', WHERE WHAT IT READS IS OF BULK AT MOST 1048576: true; the input reads as it did. -/
def inputReadsUptoRow : OpenClaim := { program := "ytpljklemkapnmaadoor", sum := "25cb8010a62b0a1e274930cd4c276e146b6c86017a237635fde461a4873c5db3", func := "sieve/sievelaw03.InputReads", spec := "inputReads", inPlace := ["internal/abi.NoEscape"], unfollowed := true, recurses := true, named := ["unicode/utf8.first", "unicode/utf8.acceptRanges"], apart := false, laid := [("unicode/utf8.acceptRanges", laid_unicode_utf8_acceptRanges), ("unicode/utf8.first", laid_unicode_utf8_first)], narrowed := true }
def InputReadsUptoSaid : Prop := inputReadsUptoRow.holds Tryd.pinned (OpenSpec.upto inputReadsSpec)

/-- 'sievelaw03.InputPieces', WHERE WHAT IT READS IS OF BULK AT MOST 1048576: true; the input reads as it did. -/
def inputPiecesUptoRow : OpenClaim := { program := "ytpljklemkapnmaadoor", sum := "25cb8010a62b0a1e274930cd4c276e146b6c86017a237635fde461a4873c5db3", func := "sieve/sievelaw03.InputPieces", spec := "inputPieces", inPlace := ["internal/abi.NoEscape"], unfollowed := true, recurses := true, named := ["unicode/utf8.first", "unicode/utf8.acceptRanges"], apart := false, laid := [("unicode/utf8.acceptRanges", laid_unicode_utf8_acceptRanges), ("unicode/utf8.first", laid_unicode_utf8_first)], narrowed := true }
def InputPiecesUptoSaid : Prop := inputPiecesUptoRow.holds Tryd.pinned (OpenSpec.upto inputPiecesSpec)

/-- 'sievelaw03.InputLines', WHERE WHAT IT READS IS OF BULK AT MOST 1048576: true; the input reads as it did. -/
def inputLinesUptoRow : OpenClaim := { program := "ytpljklemkapnmaadoor", sum := "25cb8010a62b0a1e274930cd4c276e146b6c86017a237635fde461a4873c5db3", func := "sieve/sievelaw03.InputLines", spec := "inputLines", inPlace := ["internal/abi.NoEscape"], unfollowed := true, recurses := true, named := ["unicode/utf8.first", "unicode/utf8.acceptRanges"], apart := false, laid := [("unicode/utf8.acceptRanges", laid_unicode_utf8_acceptRanges), ("unicode/utf8.first", laid_unicode_utf8_first)], narrowed := true }
def InputLinesUptoSaid : Prop := inputLinesUptoRow.holds Tryd.pinned (OpenSpec.upto inputLinesSpec)

/-- 'sievelaw03.InputNone', WHERE WHAT IT READS IS OF BULK AT MOST 1048576: true; the input reads as it did. -/
def inputNoneUptoRow : OpenClaim := { program := "ytpljklemkapnmaadoor", sum := "25cb8010a62b0a1e274930cd4c276e146b6c86017a237635fde461a4873c5db3", func := "sieve/sievelaw03.InputNone", spec := "inputNone", inPlace := ["internal/abi.NoEscape"], unfollowed := true, recurses := true, named := ["unicode/utf8.first", "unicode/utf8.acceptRanges"], apart := false, laid := [("unicode/utf8.acceptRanges", laid_unicode_utf8_acceptRanges), ("unicode/utf8.first", laid_unicode_utf8_first)], narrowed := true }
def InputNoneUptoSaid : Prop := inputNoneUptoRow.holds Tryd.pinned (OpenSpec.upto inputNoneSpec)

/-- 'sievelaw03.InputPlaces', WHERE WHAT IT READS IS OF BULK AT MOST 1048576: true; the input reads as it did. -/
def inputPlacesUptoRow : OpenClaim := { program := "ytpljklemkapnmaadoor", sum := "25cb8010a62b0a1e274930cd4c276e146b6c86017a237635fde461a4873c5db3", func := "sieve/sievelaw03.InputPlaces", spec := "inputPlaces", inPlace := ["internal/abi.NoEscape"], unfollowed := true, recurses := true, named := ["unicode/utf8.first", "unicode/utf8.acceptRanges"], apart := false, laid := [("unicode/utf8.acceptRanges", laid_unicode_utf8_acceptRanges), ("unicode/utf8.first", laid_unicode_utf8_first)], narrowed := true }
def InputPlacesUptoSaid : Prop := inputPlacesUptoRow.holds Tryd.pinned (OpenSpec.upto inputPlacesSpec)

end Rows
end Go.Proofs.YtpljklemkapnmaaDoor
