/-
  No cell of these rows narrows 'for every input' (looked for: loops, veiled, ifaces, maps, wideKeys, modest, calm, conditions, laid).
  DERIVED. THE GIVEN ROWS OF THIS SEAT. 5 by the template 'for every input the law returns true; each argument reads behind the call as it read before'; 0 by the template 'total and deterministic' (their statements: YtdkcibafbdmajaaTotals.lean).
  GIVEN WITH THE SEED: the statements are not yours to turn. If you find one false, say at which input.
  Laid BY PROGRAM, IN A SANDBOX (cutbox-rows.mjs): the forced cells as the released guide's own fill.sh prints them over the translation 80155378d2177568… (all of the seat's roots in one cut). By AI agents, Wed Nov 11 2026. No macro, syntax, notation, axiom, sorry.
-/
import Derived.Test.YtdkcibafbdmajaaChecked
import GoSem.Claim
import GoSem.ClaimJoined
import GoSem.ClaimMapViews
import Derived.JoinedTies
import Derived.KernelRfl
namespace Go.Proofs.Ytdkcibafbdmajaa
/- THE CELL 'sum', in the pinned program and in every row, IS THE sha256 OF THE DUMP (.gsa) THAT YtdkcibafbdmajaaProg.lean LOADS. Nothing in Lean hashes anything: it is a label: what it is worth is what the hold of that sum in a sandbox is worth. -/
noncomputable def Try.pinned : Pinned := { name := "ytdkcibafbdmajaa", sum := "80155378d21775684d1fa18ea52561df60c72591693c2d4f556bb73d4ce10e7d", checked := Try.checked }
namespace Rows
def none {H : Type} : Left H := { results := [], args := [] }

/-- 'sievelaw16.NestOpens': WHATEVER THE INPUT: true; the input reads as it did. -/
def nestOpensSpec : ChangeSpec := { name := "nestOpens", fn := fun _ => fun
  | [d1, d2] => { results := [.lit (.bool true)], args := [d1, d2] }
  | _ => none }
def nestOpensRow : OpenClaim := { program := "ytdkcibafbdmajaa", sum := "80155378d21775684d1fa18ea52561df60c72591693c2d4f556bb73d4ce10e7d", func := "sieve/sievelaw16.NestOpens", spec := "nestOpens", inPlace := ["internal/bytealg.IndexByteString", "internal/bytealg.IndexString"], unfollowed := true, recurses := true, named := ["internal/bytealg.MaxLen"], apart := false }
def NestOpensSaid : Prop := nestOpensRow.holds Try.pinned (OpenSpec.ofChange nestOpensSpec)

/-- ITS FALSE NEIGHBOUR: 'it returns false'. Refute it at one input. -/
def nestOpensWrong : ChangeSpec := { name := "nestOpens", fn := fun _ => fun
  | [d1, d2] => { results := [.lit (.bool false)], args := [d1, d2] }
  | _ => none }
def NestOpensWrongFalsely : Prop := nestOpensRow.holds Try.pinned (OpenSpec.ofChange nestOpensWrong)

/-- 'sievelaw16.NestTexts': WHATEVER THE INPUT: true; the input reads as it did. -/
def nestTextsSpec : ChangeSpec := { name := "nestTexts", fn := fun _ => fun
  | [d1, d2, d3] => { results := [.lit (.bool true)], args := [d1, d2, d3] }
  | _ => none }
def nestTextsRow : OpenClaim := { program := "ytdkcibafbdmajaa", sum := "80155378d21775684d1fa18ea52561df60c72591693c2d4f556bb73d4ce10e7d", func := "sieve/sievelaw16.NestTexts", spec := "nestTexts", inPlace := ["internal/bytealg.IndexByteString", "internal/bytealg.IndexString"], unfollowed := true, recurses := true, named := ["internal/bytealg.MaxLen"], apart := false }
def NestTextsSaid : Prop := nestTextsRow.holds Try.pinned (OpenSpec.ofChange nestTextsSpec)

/-- ITS FALSE NEIGHBOUR: 'it returns false'. Refute it at one input. -/
def nestTextsWrong : ChangeSpec := { name := "nestTexts", fn := fun _ => fun
  | [d1, d2, d3] => { results := [.lit (.bool false)], args := [d1, d2, d3] }
  | _ => none }
def NestTextsWrongFalsely : Prop := nestTextsRow.holds Try.pinned (OpenSpec.ofChange nestTextsWrong)

/-- 'sievelaw16.NestKids': WHATEVER THE INPUT: true; the input reads as it did. -/
def nestKidsSpec : ChangeSpec := { name := "nestKids", fn := fun _ => fun
  | [d1, d2] => { results := [.lit (.bool true)], args := [d1, d2] }
  | _ => none }
def nestKidsRow : OpenClaim := { program := "ytdkcibafbdmajaa", sum := "80155378d21775684d1fa18ea52561df60c72591693c2d4f556bb73d4ce10e7d", func := "sieve/sievelaw16.NestKids", spec := "nestKids", inPlace := ["internal/bytealg.IndexByteString", "internal/bytealg.IndexString"], unfollowed := true, recurses := true, named := ["internal/bytealg.MaxLen"], apart := false }
def NestKidsSaid : Prop := nestKidsRow.holds Try.pinned (OpenSpec.ofChange nestKidsSpec)

/-- ITS FALSE NEIGHBOUR: 'it returns false'. Refute it at one input. -/
def nestKidsWrong : ChangeSpec := { name := "nestKids", fn := fun _ => fun
  | [d1, d2] => { results := [.lit (.bool false)], args := [d1, d2] }
  | _ => none }
def NestKidsWrongFalsely : Prop := nestKidsRow.holds Try.pinned (OpenSpec.ofChange nestKidsWrong)

/-- 'sievelaw16.NestStays': WHATEVER THE INPUT: true; the input reads as it did. -/
def nestStaysSpec : ChangeSpec := { name := "nestStays", fn := fun _ => fun
  | [d1, d2, d3] => { results := [.lit (.bool true)], args := [d1, d2, d3] }
  | _ => none }
def nestStaysRow : OpenClaim := { program := "ytdkcibafbdmajaa", sum := "80155378d21775684d1fa18ea52561df60c72591693c2d4f556bb73d4ce10e7d", func := "sieve/sievelaw16.NestStays", spec := "nestStays", inPlace := ["internal/bytealg.IndexByteString", "internal/bytealg.IndexString"], unfollowed := true, recurses := true, named := ["internal/bytealg.MaxLen"], apart := false }
def NestStaysSaid : Prop := nestStaysRow.holds Try.pinned (OpenSpec.ofChange nestStaysSpec)

/-- ITS FALSE NEIGHBOUR: 'it returns false'. Refute it at one input. -/
def nestStaysWrong : ChangeSpec := { name := "nestStays", fn := fun _ => fun
  | [d1, d2, d3] => { results := [.lit (.bool false)], args := [d1, d2, d3] }
  | _ => none }
def NestStaysWrongFalsely : Prop := nestStaysRow.holds Try.pinned (OpenSpec.ofChange nestStaysWrong)

/-- 'sievelaw16.NestTables': WHATEVER THE INPUT: true; the input reads as it did. -/
def nestTablesSpec : ChangeSpec := { name := "nestTables", fn := fun _ => fun
  | [d] => { results := [.lit (.bool true)], args := [d] }
  | _ => none }
def nestTablesRow : OpenClaim := { program := "ytdkcibafbdmajaa", sum := "80155378d21775684d1fa18ea52561df60c72591693c2d4f556bb73d4ce10e7d", func := "sieve/sievelaw16.NestTables", spec := "nestTables", inPlace := ["internal/bytealg.IndexByteString", "internal/bytealg.IndexString"], unfollowed := true, recurses := true, named := ["internal/bytealg.MaxLen"], apart := false }
def NestTablesSaid : Prop := nestTablesRow.holds Try.pinned (OpenSpec.ofChange nestTablesSpec)

/-- ITS FALSE NEIGHBOUR: 'it returns false'. Refute it at one input. -/
def nestTablesWrong : ChangeSpec := { name := "nestTables", fn := fun _ => fun
  | [d] => { results := [.lit (.bool false)], args := [d] }
  | _ => none }
def NestTablesWrongFalsely : Prop := nestTablesRow.holds Try.pinned (OpenSpec.ofChange nestTablesWrong)

/- THE SECOND FORM. 'bulk': how many values and letters a reading holds, each counted each time it is reached (what is shared counts as often as it is met; a slice's spare places count too). A statement '..UptoSaid' is the law's where the arguments, and the package variables that the reading takes, are together of bulk at most 1048576: NARROWER than '..Said'. Prove '..Said' where nothing that the law and all that it calls make is longer than what came in: it says more and counts as full. Else prove '..UptoSaid'. A law counts once. -/
mutual
def uptoBulk {H : Type} : DataW H → Nat
  | .lit (.string bytes) => bytes.length + 1
  | .lit _ => 1
  | .nil => 1
  | .ptr d => uptoBulk d + 1
  | .slice elems spare => uptoBulkAll elems + uptoBulkAll spare + 1
  | .agg parts => uptoBulkAll parts + 1
  | .iface _ d => uptoBulk d + 1
  | .map entries => uptoBulkEntries entries + 1
  | .held _ => 1
def uptoBulkAll {H : Type} : List (DataW H) → Nat
  | [] => 0
  | d :: r => uptoBulk d + uptoBulkAll r
def uptoBulkEntries {H : Type} : List (Lit × DataW H) → Nat
  | [] => 0
  | x :: r => uptoBulkEntry x + uptoBulkEntries r
def uptoBulkEntry {H : Type} : Lit × DataW H → Nat
  | (.string bytes, d) => bytes.length + uptoBulk d + 1
  | (_, d) => uptoBulk d + 1
 end
def uptoSmall : (H : Type) → List (DataW H) → Bool := fun _ ds => decide (uptoBulkAll ds ≤ 1048576)
def OpenSpec.upto (s : _root_.Go.ChangeSpec) : _root_.Go.OpenSpec := { _root_.Go.OpenSpec.ofChange s with cond := some uptoSmall }

/-- 'sievelaw16.NestOpens', WHERE WHAT IT READS IS OF BULK AT MOST 1048576: true; the input reads as it did. -/
def nestOpensUptoRow : OpenClaim := { program := "ytdkcibafbdmajaa", sum := "80155378d21775684d1fa18ea52561df60c72591693c2d4f556bb73d4ce10e7d", func := "sieve/sievelaw16.NestOpens", spec := "nestOpens", inPlace := ["internal/bytealg.IndexByteString", "internal/bytealg.IndexString"], unfollowed := true, recurses := true, named := ["internal/bytealg.MaxLen"], apart := false, narrowed := true }
def NestOpensUptoSaid : Prop := nestOpensUptoRow.holds Try.pinned (OpenSpec.upto nestOpensSpec)

/-- 'sievelaw16.NestTexts', WHERE WHAT IT READS IS OF BULK AT MOST 1048576: true; the input reads as it did. -/
def nestTextsUptoRow : OpenClaim := { program := "ytdkcibafbdmajaa", sum := "80155378d21775684d1fa18ea52561df60c72591693c2d4f556bb73d4ce10e7d", func := "sieve/sievelaw16.NestTexts", spec := "nestTexts", inPlace := ["internal/bytealg.IndexByteString", "internal/bytealg.IndexString"], unfollowed := true, recurses := true, named := ["internal/bytealg.MaxLen"], apart := false, narrowed := true }
def NestTextsUptoSaid : Prop := nestTextsUptoRow.holds Try.pinned (OpenSpec.upto nestTextsSpec)

/-- 'sievelaw16.NestKids', WHERE WHAT IT READS IS OF BULK AT MOST 1048576: true; the input reads as it did. -/
def nestKidsUptoRow : OpenClaim := { program := "ytdkcibafbdmajaa", sum := "80155378d21775684d1fa18ea52561df60c72591693c2d4f556bb73d4ce10e7d", func := "sieve/sievelaw16.NestKids", spec := "nestKids", inPlace := ["internal/bytealg.IndexByteString", "internal/bytealg.IndexString"], unfollowed := true, recurses := true, named := ["internal/bytealg.MaxLen"], apart := false, narrowed := true }
def NestKidsUptoSaid : Prop := nestKidsUptoRow.holds Try.pinned (OpenSpec.upto nestKidsSpec)

/-- 'sievelaw16.NestStays', WHERE WHAT IT READS IS OF BULK AT MOST 1048576: true; the input reads as it did. -/
def nestStaysUptoRow : OpenClaim := { program := "ytdkcibafbdmajaa", sum := "80155378d21775684d1fa18ea52561df60c72591693c2d4f556bb73d4ce10e7d", func := "sieve/sievelaw16.NestStays", spec := "nestStays", inPlace := ["internal/bytealg.IndexByteString", "internal/bytealg.IndexString"], unfollowed := true, recurses := true, named := ["internal/bytealg.MaxLen"], apart := false, narrowed := true }
def NestStaysUptoSaid : Prop := nestStaysUptoRow.holds Try.pinned (OpenSpec.upto nestStaysSpec)

/-- 'sievelaw16.NestTables', WHERE WHAT IT READS IS OF BULK AT MOST 1048576: true; the input reads as it did. -/
def nestTablesUptoRow : OpenClaim := { program := "ytdkcibafbdmajaa", sum := "80155378d21775684d1fa18ea52561df60c72591693c2d4f556bb73d4ce10e7d", func := "sieve/sievelaw16.NestTables", spec := "nestTables", inPlace := ["internal/bytealg.IndexByteString", "internal/bytealg.IndexString"], unfollowed := true, recurses := true, named := ["internal/bytealg.MaxLen"], apart := false, narrowed := true }
def NestTablesUptoSaid : Prop := nestTablesUptoRow.holds Try.pinned (OpenSpec.upto nestTablesSpec)

end Rows
end Go.Proofs.Ytdkcibafbdmajaa
