/-
  NARROWER THAN 'FOR EVERY INPUT', by the rows' own cells (each row's printed sentence says how): TokenNames: laid · TokenChecks: laid · TokenMerges: laid · TokenPrints: laid · TokenParses: laid · TokenBack: laid.
  DERIVED. THE GIVEN ROWS OF THIS SEAT. 6 by the template 'for every input the law returns true; each argument reads behind the call as it read before'; 0 by the template 'total and deterministic' (their statements: YtelfejbhlolppaaDoorTotals.lean).
  GIVEN WITH THE SEED: the statements are not yours to turn. If you find one false, say at which input.
  Laid BY PROGRAM, IN A SANDBOX (cutbox-rows.mjs): the forced cells as the released guide's own fill.sh prints them over the translation aaa58d13e3f6d263… (all of the seat's roots in one cut). By AI agents, Wed Nov 11 2026. No macro, syntax, notation, axiom, sorry.
-/
import Derived.Test.YtelfejbhlolppaaDoorChecked
import GoSem.Claim
import GoSem.ClaimJoined
import GoSem.ClaimMapViews
import Derived.JoinedTies
import Derived.KernelRfl
namespace Go.Proofs.YtelfejbhlolppaaDoor
/- THE CELL 'sum', in the pinned program and in every row, IS THE sha256 OF THE DUMP (.gsa) THAT YtelfejbhlolppaaDoorProg.lean LOADS. Nothing in Lean hashes anything: it is a label: what it is worth is what the hold of that sum in a sandbox is worth. -/
noncomputable def Tryd.pinned : Pinned := { name := "ytelfejbhlolppaadoor", sum := "aaa58d13e3f6d26367b64dc5e928352584f4b96bfad5e182851bb58337314fd4", checked := Tryd.checked }
namespace Rows
def none {H : Type} : Left H := { results := [], args := [] }

/- WHAT THE LISTED PACKAGE-LEVEL VARIABLES READ AS WHEN THE CALL BEGINS. Each datum BY PROGRAM (the guide's laid-datum.mjs) off the statement by which the dump's own 'gosem.cut.vars' lays the variable. In a bare row this is a premise. The card (YtelfejbhlolppaaDoorCards.lean) ties it to the program's text. -/
def laid_sieve_token_words {H : Type} : DataW H := .agg [.lit (.string [116, 101, 120, 116]), .lit (.string [115, 116, 97, 114, 116]), .lit (.string [101, 110, 100]), .lit (.string [99, 111, 109, 109, 101, 110, 116]), .lit (.string [100, 111, 99, 116, 121, 112, 101])]

/-- 'sievelaw07.TokenNames': WHATEVER THE INPUT: true; the input reads as it did. -/
def tokenNamesSpec : ChangeSpec := { name := "tokenNames", fn := fun _ => fun
  | [] => { results := [.lit (.bool true)], args := [] }
  | _ => none }
def tokenNamesRow : OpenClaim := { program := "ytelfejbhlolppaadoor", sum := "aaa58d13e3f6d26367b64dc5e928352584f4b96bfad5e182851bb58337314fd4", func := "sieve/sievelaw07.TokenNames", spec := "tokenNames", inPlace := ["internal/bytealg.IndexByteString", "internal/abi.NoEscape"], named := ["sieve/token.words"], apart := false, laid := [("sieve/token.words", laid_sieve_token_words)] }
def TokenNamesSaid : Prop := tokenNamesRow.holds Tryd.pinned (OpenSpec.ofChange tokenNamesSpec)

/-- ITS FALSE NEIGHBOUR: 'it returns false'. Refute it at one input. -/
def tokenNamesWrong : ChangeSpec := { name := "tokenNames", fn := fun _ => fun
  | [] => { results := [.lit (.bool false)], args := [] }
  | _ => none }
def TokenNamesWrongFalsely : Prop := tokenNamesRow.holds Tryd.pinned (OpenSpec.ofChange tokenNamesWrong)

/-- 'sievelaw07.TokenChecks': WHATEVER THE INPUT: true; the input reads as it did. -/
def tokenChecksSpec : ChangeSpec := { name := "tokenChecks", fn := fun _ => fun
  | [d1, d2, d3] => { results := [.lit (.bool true)], args := [d1, d2, d3] }
  | _ => none }
def tokenChecksRow : OpenClaim := { program := "ytelfejbhlolppaadoor", sum := "aaa58d13e3f6d26367b64dc5e928352584f4b96bfad5e182851bb58337314fd4", func := "sieve/sievelaw07.TokenChecks", spec := "tokenChecks", inPlace := ["internal/bytealg.IndexByteString", "internal/abi.NoEscape"], named := ["sieve/token.words"], apart := false, laid := [("sieve/token.words", laid_sieve_token_words)] }
def TokenChecksSaid : Prop := tokenChecksRow.holds Tryd.pinned (OpenSpec.ofChange tokenChecksSpec)

/-- ITS FALSE NEIGHBOUR: 'it returns false'. Refute it at one input. -/
def tokenChecksWrong : ChangeSpec := { name := "tokenChecks", fn := fun _ => fun
  | [d1, d2, d3] => { results := [.lit (.bool false)], args := [d1, d2, d3] }
  | _ => none }
def TokenChecksWrongFalsely : Prop := tokenChecksRow.holds Tryd.pinned (OpenSpec.ofChange tokenChecksWrong)

/-- 'sievelaw07.TokenMerges': WHATEVER THE INPUT: true; the input reads as it did. -/
def tokenMergesSpec : ChangeSpec := { name := "tokenMerges", fn := fun _ => fun
  | [d] => { results := [.lit (.bool true)], args := [d] }
  | _ => none }
def tokenMergesRow : OpenClaim := { program := "ytelfejbhlolppaadoor", sum := "aaa58d13e3f6d26367b64dc5e928352584f4b96bfad5e182851bb58337314fd4", func := "sieve/sievelaw07.TokenMerges", spec := "tokenMerges", inPlace := ["internal/abi.NoEscape", "internal/bytealg.IndexByteString"], named := ["sieve/token.words"], apart := false, laid := [("sieve/token.words", laid_sieve_token_words)] }
def TokenMergesSaid : Prop := tokenMergesRow.holds Tryd.pinned (OpenSpec.ofChange tokenMergesSpec)

/-- ITS FALSE NEIGHBOUR: 'it returns false'. Refute it at one input. -/
def tokenMergesWrong : ChangeSpec := { name := "tokenMerges", fn := fun _ => fun
  | [d] => { results := [.lit (.bool false)], args := [d] }
  | _ => none }
def TokenMergesWrongFalsely : Prop := tokenMergesRow.holds Tryd.pinned (OpenSpec.ofChange tokenMergesWrong)

/-- 'sievelaw07.TokenPrints': WHATEVER THE INPUT: true; the input reads as it did. -/
def tokenPrintsSpec : ChangeSpec := { name := "tokenPrints", fn := fun _ => fun
  | [d] => { results := [.lit (.bool true)], args := [d] }
  | _ => none }
def tokenPrintsRow : OpenClaim := { program := "ytelfejbhlolppaadoor", sum := "aaa58d13e3f6d26367b64dc5e928352584f4b96bfad5e182851bb58337314fd4", func := "sieve/sievelaw07.TokenPrints", spec := "tokenPrints", inPlace := ["internal/bytealg.IndexByteString", "internal/abi.NoEscape"], named := ["sieve/token.words"], apart := false, laid := [("sieve/token.words", laid_sieve_token_words)] }
def TokenPrintsSaid : Prop := tokenPrintsRow.holds Tryd.pinned (OpenSpec.ofChange tokenPrintsSpec)

/-- ITS FALSE NEIGHBOUR: 'it returns false'. Refute it at one input. -/
def tokenPrintsWrong : ChangeSpec := { name := "tokenPrints", fn := fun _ => fun
  | [d] => { results := [.lit (.bool false)], args := [d] }
  | _ => none }
def TokenPrintsWrongFalsely : Prop := tokenPrintsRow.holds Tryd.pinned (OpenSpec.ofChange tokenPrintsWrong)

/-- 'sievelaw07.TokenParses': WHATEVER THE INPUT: true; the input reads as it did. -/
def tokenParsesSpec : ChangeSpec := { name := "tokenParses", fn := fun _ => fun
  | [d] => { results := [.lit (.bool true)], args := [d] }
  | _ => none }
def tokenParsesRow : OpenClaim := { program := "ytelfejbhlolppaadoor", sum := "aaa58d13e3f6d26367b64dc5e928352584f4b96bfad5e182851bb58337314fd4", func := "sieve/sievelaw07.TokenParses", spec := "tokenParses", inPlace := ["internal/bytealg.IndexByteString", "internal/bytealg.IndexString", "internal/abi.NoEscape"], unfollowed := true, recurses := true, named := ["internal/bytealg.MaxLen", "sieve/token.words"], apart := false, laid := [("sieve/token.words", laid_sieve_token_words)] }
def TokenParsesSaid : Prop := tokenParsesRow.holds Tryd.pinned (OpenSpec.ofChange tokenParsesSpec)

/-- ITS FALSE NEIGHBOUR: 'it returns false'. Refute it at one input. -/
def tokenParsesWrong : ChangeSpec := { name := "tokenParses", fn := fun _ => fun
  | [d] => { results := [.lit (.bool false)], args := [d] }
  | _ => none }
def TokenParsesWrongFalsely : Prop := tokenParsesRow.holds Tryd.pinned (OpenSpec.ofChange tokenParsesWrong)

/-- 'sievelaw07.TokenBack': WHATEVER THE INPUT: true; the input reads as it did. -/
def tokenBackSpec : ChangeSpec := { name := "tokenBack", fn := fun _ => fun
  | [d1, d2, d3] => { results := [.lit (.bool true)], args := [d1, d2, d3] }
  | _ => none }
def tokenBackRow : OpenClaim := { program := "ytelfejbhlolppaadoor", sum := "aaa58d13e3f6d26367b64dc5e928352584f4b96bfad5e182851bb58337314fd4", func := "sieve/sievelaw07.TokenBack", spec := "tokenBack", inPlace := ["internal/bytealg.IndexByteString", "internal/abi.NoEscape", "internal/bytealg.IndexString"], unfollowed := true, recurses := true, named := ["sieve/token.words", "internal/bytealg.MaxLen"], apart := false, laid := [("sieve/token.words", laid_sieve_token_words)] }
def TokenBackSaid : Prop := tokenBackRow.holds Tryd.pinned (OpenSpec.ofChange tokenBackSpec)

/-- ITS FALSE NEIGHBOUR: 'it returns false'. Refute it at one input. -/
def tokenBackWrong : ChangeSpec := { name := "tokenBack", fn := fun _ => fun
  | [d1, d2, d3] => { results := [.lit (.bool false)], args := [d1, d2, d3] }
  | _ => none }
def TokenBackWrongFalsely : Prop := tokenBackRow.holds Tryd.pinned (OpenSpec.ofChange tokenBackWrong)

/- THE SECOND FORM. 'bulk': how many values and letters a reading holds, each counted each time it is reached (what is shared counts as often as it is met; a slice's spare places count too). A statement '..UptoSaid' is the law's where the arguments, and the package variables that the reading takes, are together of bulk at most 1048576: NARROWER than '..Said'. Prove '..Said' where nothing that the law and all that it calls make is longer than what came in: it says more and counts as full. Else prove '..UptoSaid'. A law counts once. -/
mutual
def uptoBulk {H : Type} : DataW H → Nat
  | .lit (.string bytes) => bytes.length + 1
  | .lit _ => 1
  | .nil => 1
  | .ptr d => uptoBulk d + 1
  | .slice elems spare => uptoBulkAll elems + uptoBulkAll spare + 1
  | .agg parts => uptoBulkAll parts + 1
  | .iface _ d => uptoBulk d + 1
  | .map entries => uptoBulkEntries entries + 1
  | .held _ => 1
def uptoBulkAll {H : Type} : List (DataW H) → Nat
  | [] => 0
  | d :: r => uptoBulk d + uptoBulkAll r
def uptoBulkEntries {H : Type} : List (Lit × DataW H) → Nat
  | [] => 0
  | x :: r => uptoBulkEntry x + uptoBulkEntries r
def uptoBulkEntry {H : Type} : Lit × DataW H → Nat
  | (.string bytes, d) => bytes.length + uptoBulk d + 1
  | (_, d) => uptoBulk d + 1
 end
def uptoSmall : (H : Type) → List (DataW H) → Bool := fun _ ds => decide (uptoBulkAll ds ≤ 1048576)
def OpenSpec.upto (s : _root_.Go.ChangeSpec) : _root_.Go.OpenSpec := { _root_.Go.OpenSpec.ofChange s with cond := some uptoSmall }

/-- 'sievelaw07.TokenNames', WHERE WHAT IT READS IS OF BULK AT MOST 1048576: true; the input reads as it did. -/
def tokenNamesUptoRow : OpenClaim := { program := "ytelfejbhlolppaadoor", sum := "aaa58d13e3f6d26367b64dc5e928352584f4b96bfad5e182851bb58337314fd4", func := "sieve/sievelaw07.TokenNames", spec := "tokenNames", inPlace := ["internal/bytealg.IndexByteString", "internal/abi.NoEscape"], named := ["sieve/token.words"], apart := false, laid := [("sieve/token.words", laid_sieve_token_words)], narrowed := true }
def TokenNamesUptoSaid : Prop := tokenNamesUptoRow.holds Tryd.pinned (OpenSpec.upto tokenNamesSpec)

/-- 'sievelaw07.TokenChecks', WHERE WHAT IT READS IS OF BULK AT MOST 1048576: true; the input reads as it did. -/
def tokenChecksUptoRow : OpenClaim := { program := "ytelfejbhlolppaadoor", sum := "aaa58d13e3f6d26367b64dc5e928352584f4b96bfad5e182851bb58337314fd4", func := "sieve/sievelaw07.TokenChecks", spec := "tokenChecks", inPlace := ["internal/bytealg.IndexByteString", "internal/abi.NoEscape"], named := ["sieve/token.words"], apart := false, laid := [("sieve/token.words", laid_sieve_token_words)], narrowed := true }
def TokenChecksUptoSaid : Prop := tokenChecksUptoRow.holds Tryd.pinned (OpenSpec.upto tokenChecksSpec)

/-- 'sievelaw07.TokenMerges', WHERE WHAT IT READS IS OF BULK AT MOST 1048576: true; the input reads as it did. -/
def tokenMergesUptoRow : OpenClaim := { program := "ytelfejbhlolppaadoor", sum := "aaa58d13e3f6d26367b64dc5e928352584f4b96bfad5e182851bb58337314fd4", func := "sieve/sievelaw07.TokenMerges", spec := "tokenMerges", inPlace := ["internal/abi.NoEscape", "internal/bytealg.IndexByteString"], named := ["sieve/token.words"], apart := false, laid := [("sieve/token.words", laid_sieve_token_words)], narrowed := true }
def TokenMergesUptoSaid : Prop := tokenMergesUptoRow.holds Tryd.pinned (OpenSpec.upto tokenMergesSpec)

/-- 'sievelaw07.TokenPrints', WHERE WHAT IT READS IS OF BULK AT MOST 1048576: true; the input reads as it did. -/
def tokenPrintsUptoRow : OpenClaim := { program := "ytelfejbhlolppaadoor", sum := "aaa58d13e3f6d26367b64dc5e928352584f4b96bfad5e182851bb58337314fd4", func := "sieve/sievelaw07.TokenPrints", spec := "tokenPrints", inPlace := ["internal/bytealg.IndexByteString", "internal/abi.NoEscape"], named := ["sieve/token.words"], apart := false, laid := [("sieve/token.words", laid_sieve_token_words)], narrowed := true }
def TokenPrintsUptoSaid : Prop := tokenPrintsUptoRow.holds Tryd.pinned (OpenSpec.upto tokenPrintsSpec)

/-- 'sievelaw07.TokenParses', WHERE WHAT IT READS IS OF BULK AT MOST 1048576: true; the input reads as it did. -/
def tokenParsesUptoRow : OpenClaim := { program := "ytelfejbhlolppaadoor", sum := "aaa58d13e3f6d26367b64dc5e928352584f4b96bfad5e182851bb58337314fd4", func := "sieve/sievelaw07.TokenParses", spec := "tokenParses", inPlace := ["internal/bytealg.IndexByteString", "internal/bytealg.IndexString", "internal/abi.NoEscape"], unfollowed := true, recurses := true, named := ["internal/bytealg.MaxLen", "sieve/token.words"], apart := false, laid := [("sieve/token.words", laid_sieve_token_words)], narrowed := true }
def TokenParsesUptoSaid : Prop := tokenParsesUptoRow.holds Tryd.pinned (OpenSpec.upto tokenParsesSpec)

/-- 'sievelaw07.TokenBack', WHERE WHAT IT READS IS OF BULK AT MOST 1048576: true; the input reads as it did. -/
def tokenBackUptoRow : OpenClaim := { program := "ytelfejbhlolppaadoor", sum := "aaa58d13e3f6d26367b64dc5e928352584f4b96bfad5e182851bb58337314fd4", func := "sieve/sievelaw07.TokenBack", spec := "tokenBack", inPlace := ["internal/bytealg.IndexByteString", "internal/abi.NoEscape", "internal/bytealg.IndexString"], unfollowed := true, recurses := true, named := ["sieve/token.words", "internal/bytealg.MaxLen"], apart := false, laid := [("sieve/token.words", laid_sieve_token_words)], narrowed := true }
def TokenBackUptoSaid : Prop := tokenBackUptoRow.holds Tryd.pinned (OpenSpec.upto tokenBackSpec)

end Rows
end Go.Proofs.YtelfejbhlolppaaDoor
