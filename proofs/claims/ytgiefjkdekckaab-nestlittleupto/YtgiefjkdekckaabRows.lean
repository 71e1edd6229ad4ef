/-
  No cell of these rows narrows 'for every input' (looked for: loops, veiled, ifaces, maps, wideKeys, modest, calm, conditions, laid).
  DERIVED. THE GIVEN ROWS OF THIS SEAT. 3 by the template 'for every input the law returns true; each argument reads behind the call as it read before'; 0 by the template 'total and deterministic' (their statements: YtgiefjkdekckaabTotals.lean).
  GIVEN WITH THE SEED: the statements are not yours to turn. If you find one false, say at which input.
  Laid BY PROGRAM, IN A SANDBOX (cutbox-rows.mjs): the forced cells as the released guide's own fill.sh prints them over the translation 732a26571cf4097d… (all of the seat's roots in one cut). By AI agents, Wed Nov 11 2026. No macro, syntax, notation, axiom, sorry.
-/
import Derived.Test.YtgiefjkdekckaabChecked
import GoSem.Claim
import GoSem.ClaimJoined
import GoSem.ClaimMapViews
import Derived.JoinedTies
import Derived.KernelRfl
namespace Go.Proofs.Ytgiefjkdekckaab
/- THE CELL 'sum', in the pinned program and in every row, IS THE sha256 OF THE DUMP (.gsa) THAT YtgiefjkdekckaabProg.lean LOADS. Nothing in Lean hashes anything: it is a label: what it is worth is what the hold of that sum in a sandbox is worth. -/
noncomputable def Try.pinned : Pinned := { name := "ytgiefjkdekckaab", sum := "732a26571cf4097dff2ba5d972ff745544938a1d5892b69de78ccee7f864ac33", checked := Try.checked }
namespace Rows
def none {H : Type} : Left H := { results := [], args := [] }

/-- 'sievelaw16.NestLittle': WHATEVER THE INPUT: true; the input reads as it did. -/
def nestLittleSpec : ChangeSpec := { name := "nestLittle", fn := fun _ => fun
  | [d1, d2] => { results := [.lit (.bool true)], args := [d1, d2] }
  | _ => none }
def nestLittleRow : OpenClaim := { program := "ytgiefjkdekckaab", sum := "732a26571cf4097dff2ba5d972ff745544938a1d5892b69de78ccee7f864ac33", func := "sieve/sievelaw16.NestLittle", spec := "nestLittle", inPlace := ["internal/bytealg.IndexByteString", "internal/bytealg.IndexString"], unfollowed := true, recurses := true, named := ["internal/bytealg.MaxLen"], apart := false }
def NestLittleSaid : Prop := nestLittleRow.holds Try.pinned (OpenSpec.ofChange nestLittleSpec)

/-- ITS FALSE NEIGHBOUR: 'it returns false'. Refute it at one input. -/
def nestLittleWrong : ChangeSpec := { name := "nestLittle", fn := fun _ => fun
  | [d1, d2] => { results := [.lit (.bool false)], args := [d1, d2] }
  | _ => none }
def NestLittleWrongFalsely : Prop := nestLittleRow.holds Try.pinned (OpenSpec.ofChange nestLittleWrong)

/-- 'sievelaw16.NestTables': WHATEVER THE INPUT: true; the input reads as it did. -/
def nestTablesSpec : ChangeSpec := { name := "nestTables", fn := fun _ => fun
  | [d] => { results := [.lit (.bool true)], args := [d] }
  | _ => none }
def nestTablesRow : OpenClaim := { program := "ytgiefjkdekckaab", sum := "732a26571cf4097dff2ba5d972ff745544938a1d5892b69de78ccee7f864ac33", func := "sieve/sievelaw16.NestTables", spec := "nestTables", inPlace := ["internal/bytealg.IndexByteString", "internal/bytealg.IndexString"], unfollowed := true, recurses := true, named := ["internal/bytealg.MaxLen"], apart := false }
def NestTablesSaid : Prop := nestTablesRow.holds Try.pinned (OpenSpec.ofChange nestTablesSpec)

/-- ITS FALSE NEIGHBOUR: 'it returns false'. Refute it at one input. -/
def nestTablesWrong : ChangeSpec := { name := "nestTables", fn := fun _ => fun
  | [d] => { results := [.lit (.bool false)], args := [d] }
  | _ => none }
def NestTablesWrongFalsely : Prop := nestTablesRow.holds Try.pinned (OpenSpec.ofChange nestTablesWrong)

/-- 'sievelaw16.NestEnds': WHATEVER THE INPUT: true; the input reads as it did. -/
def nestEndsSpec : ChangeSpec := { name := "nestEnds", fn := fun _ => fun
  | [d1, d2] => { results := [.lit (.bool true)], args := [d1, d2] }
  | _ => none }
def nestEndsRow : OpenClaim := { program := "ytgiefjkdekckaab", sum := "732a26571cf4097dff2ba5d972ff745544938a1d5892b69de78ccee7f864ac33", func := "sieve/sievelaw16.NestEnds", spec := "nestEnds", inPlace := ["internal/bytealg.IndexByteString", "internal/bytealg.IndexString"], unfollowed := true, recurses := true, named := ["internal/bytealg.MaxLen"], apart := false }
def NestEndsSaid : Prop := nestEndsRow.holds Try.pinned (OpenSpec.ofChange nestEndsSpec)

/-- ITS FALSE NEIGHBOUR: 'it returns false'. Refute it at one input. -/
def nestEndsWrong : ChangeSpec := { name := "nestEnds", fn := fun _ => fun
  | [d1, d2] => { results := [.lit (.bool false)], args := [d1, d2] }
  | _ => none }
def NestEndsWrongFalsely : Prop := nestEndsRow.holds Try.pinned (OpenSpec.ofChange nestEndsWrong)

/- THE SECOND FORM. 'bulk': how many values and letters a reading holds, each counted each time it is reached (what is shared counts as often as it is met; a slice's spare places count too). A statement '..UptoSaid' is the law's where the arguments, and the package variables that the reading takes, are together of bulk at most 1048576: NARROWER than '..Said'. Prove '..Said' where nothing that the law and all that it calls make is longer than what came in: it says more and counts as full. Else prove '..UptoSaid'. A law counts once. -/
mutual
def uptoBulk {H : Type} : DataW H → Nat
  | .lit (.string bytes) => bytes.length + 1
  | .lit _ => 1
  | .nil => 1
  | .ptr d => uptoBulk d + 1
  | .slice elems spare => uptoBulkAll elems + uptoBulkAll spare + 1
  | .agg parts => uptoBulkAll parts + 1
  | .iface _ d => uptoBulk d + 1
  | .map entries => uptoBulkEntries entries + 1
  | .held _ => 1
def uptoBulkAll {H : Type} : List (DataW H) → Nat
  | [] => 0
  | d :: r => uptoBulk d + uptoBulkAll r
def uptoBulkEntries {H : Type} : List (Lit × DataW H) → Nat
  | [] => 0
  | x :: r => uptoBulkEntry x + uptoBulkEntries r
def uptoBulkEntry {H : Type} : Lit × DataW H → Nat
  | (.string bytes, d) => bytes.length + uptoBulk d + 1
  | (_, d) => uptoBulk d + 1
 end
def uptoSmall : (H : Type) → List (DataW H) → Bool := fun _ ds => decide (uptoBulkAll ds ≤ 1048576)
def OpenSpec.upto (s : _root_.Go.ChangeSpec) : _root_.Go.OpenSpec := { _root_.Go.OpenSpec.ofChange s with cond := some uptoSmall }

/-- 'sievelaw16.NestLittle', WHERE WHAT IT READS IS OF BULK AT MOST 1048576: true; the input reads as it did. -/
def nestLittleUptoRow : OpenClaim := { program := "ytgiefjkdekckaab", sum := "732a26571cf4097dff2ba5d972ff745544938a1d5892b69de78ccee7f864ac33", func := "sieve/sievelaw16.NestLittle", spec := "nestLittle", inPlace := ["internal/bytealg.IndexByteString", "internal/bytealg.IndexString"], unfollowed := true, recurses := true, named := ["internal/bytealg.MaxLen"], apart := false, narrowed := true }
def NestLittleUptoSaid : Prop := nestLittleUptoRow.holds Try.pinned (OpenSpec.upto nestLittleSpec)

/-- 'sievelaw16.NestTables', WHERE WHAT IT READS IS OF BULK AT MOST 1048576: true; the input reads as it did. -/
def nestTablesUptoRow : OpenClaim := { program := "ytgiefjkdekckaab", sum := "732a26571cf4097dff2ba5d972ff745544938a1d5892b69de78ccee7f864ac33", func := "sieve/sievelaw16.NestTables", spec := "nestTables", inPlace := ["internal/bytealg.IndexByteString", "internal/bytealg.IndexString"], unfollowed := true, recurses := true, named := ["internal/bytealg.MaxLen"], apart := false, narrowed := true }
def NestTablesUptoSaid : Prop := nestTablesUptoRow.holds Try.pinned (OpenSpec.upto nestTablesSpec)

/-- 'sievelaw16.NestEnds', WHERE WHAT IT READS IS OF BULK AT MOST 1048576: true; the input reads as it did. -/
def nestEndsUptoRow : OpenClaim := { program := "ytgiefjkdekckaab", sum := "732a26571cf4097dff2ba5d972ff745544938a1d5892b69de78ccee7f864ac33", func := "sieve/sievelaw16.NestEnds", spec := "nestEnds", inPlace := ["internal/bytealg.IndexByteString", "internal/bytealg.IndexString"], unfollowed := true, recurses := true, named := ["internal/bytealg.MaxLen"], apart := false, narrowed := true }
def NestEndsUptoSaid : Prop := nestEndsUptoRow.holds Try.pinned (OpenSpec.upto nestEndsSpec)

end Rows
end Go.Proofs.Ytgiefjkdekckaab
