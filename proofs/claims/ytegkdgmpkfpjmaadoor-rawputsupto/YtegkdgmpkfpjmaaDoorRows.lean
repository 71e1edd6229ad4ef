/-
  NARROWER THAN 'FOR EVERY INPUT', by the rows' own cells (each row's printed sentence says how): RawNames: laid · RawWholes: laid · RawPuts: laid · RawNones: laid · RawFirst: laid · RawPlain: laid.
  DERIVED. THE GIVEN ROWS OF THIS SEAT. 6 by the template 'for every input the law returns true; each argument reads behind the call as it read before'; 0 by the template 'total and deterministic' (their statements: YtegkdgmpkfpjmaaDoorTotals.lean).
  GIVEN WITH THE SEED: the statements are not yours to turn. If you find one false, say at which input.
  Laid BY PROGRAM, IN A SANDBOX (cutbox-rows.mjs): the forced cells as the released guide's own fill.sh prints them over the translation 5abdcd820ac9293e… (all of the seat's roots in one cut). By AI agents, Wed Nov 11 2026. No macro, syntax, notation, axiom, sorry.
-/
import Derived.Test.YtegkdgmpkfpjmaaDoorChecked
import GoSem.PinnedTables
import GoSem.Claim
import GoSem.ClaimJoined
import GoSem.ClaimMapViews
import Derived.JoinedTies
import Derived.KernelRfl
namespace Go.Proofs.YtegkdgmpkfpjmaaDoor
/- THE CELL 'sum', in the pinned program and in every row, IS THE sha256 OF THE DUMP (.gsa) THAT YtegkdgmpkfpjmaaDoorProg.lean LOADS. Nothing in Lean hashes anything: it is a label: what it is worth is what the hold of that sum in a sandbox is worth. -/
noncomputable def Tryd.pinned : Pinned := { name := "ytegkdgmpkfpjmaadoor", sum := "5abdcd820ac9293e5190e8b0d5e29e2ae06c8b1248f411f6507d298ac28731f7", checked := Tryd.checked }
namespace Rows
def none {H : Type} : Left H := { results := [], args := [] }

/- WHAT THE LISTED PACKAGE-LEVEL VARIABLES READ AS WHEN THE CALL BEGINS. Each datum BY PROGRAM (the guide's laid-datum.mjs) off the statement by which the dump's own 'gosem.cut.vars' lays the variable. In a bare row this is a premise. The card (YtegkdgmpkfpjmaaDoorCards.lean) ties it to the program's text. -/
def laid_unicode_utf8_acceptRanges {H : Type} : DataW H := .agg [.agg [.lit (.int .u8 128), .lit (.int .u8 191)], .agg [.lit (.int .u8 160), .lit (.int .u8 191)], .agg [.lit (.int .u8 128), .lit (.int .u8 159)], .agg [.lit (.int .u8 144), .lit (.int .u8 191)], .agg [.lit (.int .u8 128), .lit (.int .u8 143)], .agg [.lit (.int .u8 0), .lit (.int .u8 0)], .agg [.lit (.int .u8 0), .lit (.int .u8 0)], .agg [.lit (.int .u8 0), .lit (.int .u8 0)], .agg [.lit (.int .u8 0), .lit (.int .u8 0)], .agg [.lit (.int .u8 0), .lit (.int .u8 0)], .agg [.lit (.int .u8 0), .lit (.int .u8 0)], .agg [.lit (.int .u8 0), .lit (.int .u8 0)], .agg [.lit (.int .u8 0), .lit (.int .u8 0)], .agg [.lit (.int .u8 0), .lit (.int .u8 0)], .agg [.lit (.int .u8 0), .lit (.int .u8 0)], .agg [.lit (.int .u8 0), .lit (.int .u8 0)]]
/-- One of Go's own tables, pinned by name: the form's constant. -/
def laid_unicode_utf8_first : DataW Unit := Go.Pinned.utf8First

/-- 'sievelaw10.RawNames': WHATEVER THE INPUT: true; the input reads as it did. -/
def rawNamesSpec : ChangeSpec := { name := "rawNames", fn := fun _ => fun
  | [] => { results := [.lit (.bool true)], args := [] }
  | _ => none }
def rawNamesRow : OpenClaim := { program := "ytegkdgmpkfpjmaadoor", sum := "5abdcd820ac9293e5190e8b0d5e29e2ae06c8b1248f411f6507d298ac28731f7", func := "sieve/sievelaw10.RawNames", spec := "rawNames", inPlace := ["internal/bytealg.IndexByteString", "internal/bytealg.IndexString"], unfollowed := true, recurses := true, named := ["internal/bytealg.MaxLen", "unicode/utf8.first", "unicode/utf8.acceptRanges"], apart := false, laid := [("unicode/utf8.acceptRanges", laid_unicode_utf8_acceptRanges), ("unicode/utf8.first", laid_unicode_utf8_first)] }
def RawNamesSaid : Prop := rawNamesRow.holds Tryd.pinned (OpenSpec.ofChange rawNamesSpec)

/-- ITS FALSE NEIGHBOUR: 'it returns false'. Refute it at one input. -/
def rawNamesWrong : ChangeSpec := { name := "rawNames", fn := fun _ => fun
  | [] => { results := [.lit (.bool false)], args := [] }
  | _ => none }
def RawNamesWrongFalsely : Prop := rawNamesRow.holds Tryd.pinned (OpenSpec.ofChange rawNamesWrong)

/-- 'sievelaw10.RawWholes': WHATEVER THE INPUT: true; the input reads as it did. -/
def rawWholesSpec : ChangeSpec := { name := "rawWholes", fn := fun _ => fun
  | [d1, d2] => { results := [.lit (.bool true)], args := [d1, d2] }
  | _ => none }
def rawWholesRow : OpenClaim := { program := "ytegkdgmpkfpjmaadoor", sum := "5abdcd820ac9293e5190e8b0d5e29e2ae06c8b1248f411f6507d298ac28731f7", func := "sieve/sievelaw10.RawWholes", spec := "rawWholes", inPlace := ["internal/bytealg.IndexByteString", "internal/bytealg.IndexString"], unfollowed := true, recurses := true, named := ["internal/bytealg.MaxLen", "unicode/utf8.first", "unicode/utf8.acceptRanges"], apart := false, laid := [("unicode/utf8.acceptRanges", laid_unicode_utf8_acceptRanges), ("unicode/utf8.first", laid_unicode_utf8_first)] }
def RawWholesSaid : Prop := rawWholesRow.holds Tryd.pinned (OpenSpec.ofChange rawWholesSpec)

/-- ITS FALSE NEIGHBOUR: 'it returns false'. Refute it at one input. -/
def rawWholesWrong : ChangeSpec := { name := "rawWholes", fn := fun _ => fun
  | [d1, d2] => { results := [.lit (.bool false)], args := [d1, d2] }
  | _ => none }
def RawWholesWrongFalsely : Prop := rawWholesRow.holds Tryd.pinned (OpenSpec.ofChange rawWholesWrong)

/-- 'sievelaw10.RawPuts': WHATEVER THE INPUT: true; the input reads as it did. -/
def rawPutsSpec : ChangeSpec := { name := "rawPuts", fn := fun _ => fun
  | [d1, d2, d3] => { results := [.lit (.bool true)], args := [d1, d2, d3] }
  | _ => none }
def rawPutsRow : OpenClaim := { program := "ytegkdgmpkfpjmaadoor", sum := "5abdcd820ac9293e5190e8b0d5e29e2ae06c8b1248f411f6507d298ac28731f7", func := "sieve/sievelaw10.RawPuts", spec := "rawPuts", inPlace := ["internal/bytealg.IndexByteString", "internal/bytealg.IndexString"], unfollowed := true, recurses := true, named := ["internal/bytealg.MaxLen", "unicode/utf8.first", "unicode/utf8.acceptRanges"], apart := false, laid := [("unicode/utf8.acceptRanges", laid_unicode_utf8_acceptRanges), ("unicode/utf8.first", laid_unicode_utf8_first)] }
def RawPutsSaid : Prop := rawPutsRow.holds Tryd.pinned (OpenSpec.ofChange rawPutsSpec)

/-- ITS FALSE NEIGHBOUR: 'it returns false'. Refute it at one input. -/
def rawPutsWrong : ChangeSpec := { name := "rawPuts", fn := fun _ => fun
  | [d1, d2, d3] => { results := [.lit (.bool false)], args := [d1, d2, d3] }
  | _ => none }
def RawPutsWrongFalsely : Prop := rawPutsRow.holds Tryd.pinned (OpenSpec.ofChange rawPutsWrong)

/-- 'sievelaw10.RawNones': WHATEVER THE INPUT: true; the input reads as it did. -/
def rawNonesSpec : ChangeSpec := { name := "rawNones", fn := fun _ => fun
  | [d] => { results := [.lit (.bool true)], args := [d] }
  | _ => none }
def rawNonesRow : OpenClaim := { program := "ytegkdgmpkfpjmaadoor", sum := "5abdcd820ac9293e5190e8b0d5e29e2ae06c8b1248f411f6507d298ac28731f7", func := "sieve/sievelaw10.RawNones", spec := "rawNones", inPlace := ["internal/bytealg.IndexByteString", "internal/bytealg.IndexString"], unfollowed := true, recurses := true, named := ["internal/bytealg.MaxLen", "unicode/utf8.first", "unicode/utf8.acceptRanges"], apart := false, laid := [("unicode/utf8.acceptRanges", laid_unicode_utf8_acceptRanges), ("unicode/utf8.first", laid_unicode_utf8_first)] }
def RawNonesSaid : Prop := rawNonesRow.holds Tryd.pinned (OpenSpec.ofChange rawNonesSpec)

/-- ITS FALSE NEIGHBOUR: 'it returns false'. Refute it at one input. -/
def rawNonesWrong : ChangeSpec := { name := "rawNones", fn := fun _ => fun
  | [d] => { results := [.lit (.bool false)], args := [d] }
  | _ => none }
def RawNonesWrongFalsely : Prop := rawNonesRow.holds Tryd.pinned (OpenSpec.ofChange rawNonesWrong)

/-- 'sievelaw10.RawFirst': WHATEVER THE INPUT: true; the input reads as it did. -/
def rawFirstSpec : ChangeSpec := { name := "rawFirst", fn := fun _ => fun
  | [d1, d2, d3] => { results := [.lit (.bool true)], args := [d1, d2, d3] }
  | _ => none }
def rawFirstRow : OpenClaim := { program := "ytegkdgmpkfpjmaadoor", sum := "5abdcd820ac9293e5190e8b0d5e29e2ae06c8b1248f411f6507d298ac28731f7", func := "sieve/sievelaw10.RawFirst", spec := "rawFirst", inPlace := ["internal/bytealg.IndexByteString", "internal/bytealg.IndexString"], unfollowed := true, recurses := true, named := ["internal/bytealg.MaxLen", "unicode/utf8.first", "unicode/utf8.acceptRanges"], apart := false, laid := [("unicode/utf8.acceptRanges", laid_unicode_utf8_acceptRanges), ("unicode/utf8.first", laid_unicode_utf8_first)] }
def RawFirstSaid : Prop := rawFirstRow.holds Tryd.pinned (OpenSpec.ofChange rawFirstSpec)

/-- ITS FALSE NEIGHBOUR: 'it returns false'. Refute it at one input. -/
def rawFirstWrong : ChangeSpec := { name := "rawFirst", fn := fun _ => fun
  | [d1, d2, d3] => { results := [.lit (.bool false)], args := [d1, d2, d3] }
  | _ => none }
def RawFirstWrongFalsely : Prop := rawFirstRow.holds Tryd.pinned (OpenSpec.ofChange rawFirstWrong)

/-- 'sievelaw10.RawPlain': WHATEVER THE INPUT: true; the input reads as it did. -/
def rawPlainSpec : ChangeSpec := { name := "rawPlain", fn := fun _ => fun
  | [d] => { results := [.lit (.bool true)], args := [d] }
  | _ => none }
def rawPlainRow : OpenClaim := { program := "ytegkdgmpkfpjmaadoor", sum := "5abdcd820ac9293e5190e8b0d5e29e2ae06c8b1248f411f6507d298ac28731f7", func := "sieve/sievelaw10.RawPlain", spec := "rawPlain", inPlace := ["internal/bytealg.IndexByteString", "internal/bytealg.IndexString"], unfollowed := true, recurses := true, named := ["internal/bytealg.MaxLen", "unicode/utf8.first", "unicode/utf8.acceptRanges"], apart := false, laid := [("unicode/utf8.acceptRanges", laid_unicode_utf8_acceptRanges), ("unicode/utf8.first", laid_unicode_utf8_first)] }
def RawPlainSaid : Prop := rawPlainRow.holds Tryd.pinned (OpenSpec.ofChange rawPlainSpec)

/-- ITS FALSE NEIGHBOUR: 'it returns false'. Refute it at one input. -/
def rawPlainWrong : ChangeSpec := { name := "rawPlain", fn := fun _ => fun
  | [d] => { results := [.lit (.bool false)], args := [d] }
  | _ => none }
def RawPlainWrongFalsely : Prop := rawPlainRow.holds Tryd.pinned (OpenSpec.ofChange rawPlainWrong)

/- THE SECOND FORM. 'bulk': how many values and letters a reading holds, each counted each time it is reached (what is shared counts as often as it is met; a slice's spare places count too). A statement '..UptoSaid' is the law's where the arguments, and the package variables that the reading takes, are together of bulk at most 1048576: NARROWER than '..Said'. Prove '..Said' where nothing that the law and all that it calls make is longer than what came in: it says more and counts as full. Else prove '..UptoSaid'. A law counts once. -/
mutual
def uptoBulk {H : Type} : DataW H → Nat
  | .lit (.string bytes) => bytes.length + 1
  | .lit _ => 1
  | .nil => 1
  | .ptr d => uptoBulk d + 1
  | .slice elems spare => uptoBulkAll elems + uptoBulkAll spare + 1
  | .agg parts => uptoBulkAll parts + 1
  | .iface _ d => uptoBulk d + 1
  | .map entries => uptoBulkEntries entries + 1
  | .held _ => 1
def uptoBulkAll {H : Type} : List (DataW H) → Nat
  | [] => 0
  | d :: r => uptoBulk d + uptoBulkAll r
def uptoBulkEntries {H : Type} : List (Lit × DataW H) → Nat
  | [] => 0
  | x :: r => uptoBulkEntry x + uptoBulkEntries r
def uptoBulkEntry {H : Type} : Lit × DataW H → Nat
  | (.string bytes, d) => bytes.length + uptoBulk d + 1
  | (_, d) => uptoBulk d + 1
 end
def uptoSmall : (H : Type) → List (DataW H) → Bool := fun _ ds => decide (uptoBulkAll ds ≤ 1048576)
def OpenSpec.upto (s : _root_.Go.ChangeSpec) : _root_.Go.OpenSpec := { _root_.Go.OpenSpec.ofChange s with cond := some uptoSmall }

/-- 'sievelaw10.RawNames', WHERE WHAT IT READS IS OF BULK AT MOST 1048576: true; the input reads as it did. -/
def rawNamesUptoRow : OpenClaim := { program := "ytegkdgmpkfpjmaadoor", sum := "5abdcd820ac9293e5190e8b0d5e29e2ae06c8b1248f411f6507d298ac28731f7", func := "sieve/sievelaw10.RawNames", spec := "rawNames", inPlace := ["internal/bytealg.IndexByteString", "internal/bytealg.IndexString"], unfollowed := true, recurses := true, named := ["internal/bytealg.MaxLen", "unicode/utf8.first", "unicode/utf8.acceptRanges"], apart := false, laid := [("unicode/utf8.acceptRanges", laid_unicode_utf8_acceptRanges), ("unicode/utf8.first", laid_unicode_utf8_first)], narrowed := true }
def RawNamesUptoSaid : Prop := rawNamesUptoRow.holds Tryd.pinned (OpenSpec.upto rawNamesSpec)

/-- 'sievelaw10.RawWholes', WHERE WHAT IT READS IS OF BULK AT MOST 1048576: true; the input reads as it did. -/
def rawWholesUptoRow : OpenClaim := { program := "ytegkdgmpkfpjmaadoor", sum := "5abdcd820ac9293e5190e8b0d5e29e2ae06c8b1248f411f6507d298ac28731f7", func := "sieve/sievelaw10.RawWholes", spec := "rawWholes", inPlace := ["internal/bytealg.IndexByteString", "internal/bytealg.IndexString"], unfollowed := true, recurses := true, named := ["internal/bytealg.MaxLen", "unicode/utf8.first", "unicode/utf8.acceptRanges"], apart := false, laid := [("unicode/utf8.acceptRanges", laid_unicode_utf8_acceptRanges), ("unicode/utf8.first", laid_unicode_utf8_first)], narrowed := true }
def RawWholesUptoSaid : Prop := rawWholesUptoRow.holds Tryd.pinned (OpenSpec.upto rawWholesSpec)

/-- 'sievelaw10.RawPuts', WHERE WHAT IT READS IS OF BULK AT MOST 1048576: true; the input reads as it did. -/
def rawPutsUptoRow : OpenClaim := { program := "ytegkdgmpkfpjmaadoor", sum := "5abdcd820ac9293e5190e8b0d5e29e2ae06c8b1248f411f6507d298ac28731f7", func := "sieve/sievelaw10.RawPuts", spec := "rawPuts", inPlace := ["internal/bytealg.IndexByteString", "internal/bytealg.IndexString"], unfollowed := true, recurses := true, named := ["internal/bytealg.MaxLen", "unicode/utf8.first", "unicode/utf8.acceptRanges"], apart := false, laid := [("unicode/utf8.acceptRanges", laid_unicode_utf8_acceptRanges), ("unicode/utf8.first", laid_unicode_utf8_first)], narrowed := true }
def RawPutsUptoSaid : Prop := rawPutsUptoRow.holds Tryd.pinned (OpenSpec.upto rawPutsSpec)

/-- 'sievelaw10.RawNones', WHERE WHAT IT READS IS OF BULK AT MOST 1048576: true; the input reads as it did. -/
def rawNonesUptoRow : OpenClaim := { program := "ytegkdgmpkfpjmaadoor", sum := "5abdcd820ac9293e5190e8b0d5e29e2ae06c8b1248f411f6507d298ac28731f7", func := "sieve/sievelaw10.RawNones", spec := "rawNones", inPlace := ["internal/bytealg.IndexByteString", "internal/bytealg.IndexString"], unfollowed := true, recurses := true, named := ["internal/bytealg.MaxLen", "unicode/utf8.first", "unicode/utf8.acceptRanges"], apart := false, laid := [("unicode/utf8.acceptRanges", laid_unicode_utf8_acceptRanges), ("unicode/utf8.first", laid_unicode_utf8_first)], narrowed := true }
def RawNonesUptoSaid : Prop := rawNonesUptoRow.holds Tryd.pinned (OpenSpec.upto rawNonesSpec)

/-- 'sievelaw10.RawFirst', WHERE WHAT IT READS IS OF BULK AT MOST 1048576: true; the input reads as it did. -/
def rawFirstUptoRow : OpenClaim := { program := "ytegkdgmpkfpjmaadoor", sum := "5abdcd820ac9293e5190e8b0d5e29e2ae06c8b1248f411f6507d298ac28731f7", func := "sieve/sievelaw10.RawFirst", spec := "rawFirst", inPlace := ["internal/bytealg.IndexByteString", "internal/bytealg.IndexString"], unfollowed := true, recurses := true, named := ["internal/bytealg.MaxLen", "unicode/utf8.first", "unicode/utf8.acceptRanges"], apart := false, laid := [("unicode/utf8.acceptRanges", laid_unicode_utf8_acceptRanges), ("unicode/utf8.first", laid_unicode_utf8_first)], narrowed := true }
def RawFirstUptoSaid : Prop := rawFirstUptoRow.holds Tryd.pinned (OpenSpec.upto rawFirstSpec)

/-- 'sievelaw10.RawPlain', WHERE WHAT IT READS IS OF BULK AT MOST 1048576: true; the input reads as it did. -/
def rawPlainUptoRow : OpenClaim := { program := "ytegkdgmpkfpjmaadoor", sum := "5abdcd820ac9293e5190e8b0d5e29e2ae06c8b1248f411f6507d298ac28731f7", func := "sieve/sievelaw10.RawPlain", spec := "rawPlain", inPlace := ["internal/bytealg.IndexByteString", "internal/bytealg.IndexString"], unfollowed := true, recurses := true, named := ["internal/bytealg.MaxLen", "unicode/utf8.first", "unicode/utf8.acceptRanges"], apart := false, laid := [("unicode/utf8.acceptRanges", laid_unicode_utf8_acceptRanges), ("unicode/utf8.first", laid_unicode_utf8_first)], narrowed := true }
def RawPlainUptoSaid : Prop := rawPlainUptoRow.holds Tryd.pinned (OpenSpec.upto rawPlainSpec)

end Rows
end Go.Proofs.YtegkdgmpkfpjmaaDoor
