/-
  No cell of these rows narrows 'for every input' (looked for: loops, veiled, ifaces, maps, wideKeys, modest, calm, conditions, laid).
  DERIVED. THE GIVEN ROWS OF THIS SEAT. 6 by the template 'for every input the law returns true; each argument reads behind the call as it read before'; 0 by the template 'total and deterministic' (their statements: YtobbgmhpmoincaaTotals.lean).
  GIVEN WITH THE SEED: the statements are not yours to turn. If you find one false, say at which input.
  Laid BY PROGRAM, IN A SANDBOX (cutbox-rows.mjs): the forced cells as the released guide's own fill.sh prints them over the translation 321033a470040903… (all of the seat's roots in one cut). By AI agents, Wed Nov 11 2026. No macro, syntax, notation, axiom, sorry.
-/
import Derived.Test.YtobbgmhpmoincaaChecked
import GoSem.Claim
import GoSem.ClaimJoined
import GoSem.ClaimMapViews
import Derived.JoinedTies
import Derived.KernelRfl
namespace Go.Proofs.Ytobbgmhpmoincaa
/- THE CELL 'sum', in the pinned program and in every row, IS THE sha256 OF THE DUMP (.gsa) THAT YtobbgmhpmoincaaProg.lean LOADS. Nothing in Lean hashes anything: it is a label: what it is worth is what the hold of that sum in a sandbox is worth. -/
noncomputable def Try.pinned : Pinned := { name := "ytobbgmhpmoincaa", sum := "321033a470040903c9171bf97c7f22a635320bf7c6ef38f6319f247c4a288a1d", checked := Try.checked }
namespace Rows
def none {H : Type} : Left H := { results := [], args := [] }

/-- 'sievelaw04.NamesNames': WHATEVER THE INPUT: true; the input reads as it did. -/
def namesNamesSpec : ChangeSpec := { name := "namesNames", fn := fun _ => fun
  | [] => { results := [.lit (.bool true)], args := [] }
  | _ => none }
def namesNamesRow : OpenClaim := { program := "ytobbgmhpmoincaa", sum := "321033a470040903c9171bf97c7f22a635320bf7c6ef38f6319f247c4a288a1d", func := "sieve/sievelaw04.NamesNames", spec := "namesNames", inPlace := ["internal/bytealg.IndexByteString", "internal/bytealg.IndexString", "internal/abi.NoEscape", "internal/bytealg.MakeNoZero"], named := ["internal/bytealg.MaxLen"], apart := false }
def NamesNamesSaid : Prop := namesNamesRow.holds Try.pinned (OpenSpec.ofChange namesNamesSpec)

/-- ITS FALSE NEIGHBOUR: 'it returns false'. Refute it at one input. -/
def namesNamesWrong : ChangeSpec := { name := "namesNames", fn := fun _ => fun
  | [] => { results := [.lit (.bool false)], args := [] }
  | _ => none }
def NamesNamesWrongFalsely : Prop := namesNamesRow.holds Try.pinned (OpenSpec.ofChange namesNamesWrong)

/-- 'sievelaw04.NamesClasses': WHATEVER THE INPUT: true; the input reads as it did. -/
def namesClassesSpec : ChangeSpec := { name := "namesClasses", fn := fun _ => fun
  | [d] => { results := [.lit (.bool true)], args := [d] }
  | _ => none }
def namesClassesRow : OpenClaim := { program := "ytobbgmhpmoincaa", sum := "321033a470040903c9171bf97c7f22a635320bf7c6ef38f6319f247c4a288a1d", func := "sieve/sievelaw04.NamesClasses", spec := "namesClasses", inPlace := ["internal/bytealg.IndexByteString", "internal/bytealg.IndexString", "internal/abi.NoEscape", "internal/bytealg.MakeNoZero"], named := ["internal/bytealg.MaxLen"], apart := false }
def NamesClassesSaid : Prop := namesClassesRow.holds Try.pinned (OpenSpec.ofChange namesClassesSpec)

/-- ITS FALSE NEIGHBOUR: 'it returns false'. Refute it at one input. -/
def namesClassesWrong : ChangeSpec := { name := "namesClasses", fn := fun _ => fun
  | [d] => { results := [.lit (.bool false)], args := [d] }
  | _ => none }
def NamesClassesWrongFalsely : Prop := namesClassesRow.holds Try.pinned (OpenSpec.ofChange namesClassesWrong)

/-- 'sievelaw04.NamesForms': WHATEVER THE INPUT: true; the input reads as it did. -/
def namesFormsSpec : ChangeSpec := { name := "namesForms", fn := fun _ => fun
  | [d] => { results := [.lit (.bool true)], args := [d] }
  | _ => none }
def namesFormsRow : OpenClaim := { program := "ytobbgmhpmoincaa", sum := "321033a470040903c9171bf97c7f22a635320bf7c6ef38f6319f247c4a288a1d", func := "sieve/sievelaw04.NamesForms", spec := "namesForms", inPlace := ["internal/bytealg.IndexByteString", "internal/bytealg.IndexString", "internal/abi.NoEscape", "internal/bytealg.MakeNoZero"], named := ["internal/bytealg.MaxLen"], apart := false }
def NamesFormsSaid : Prop := namesFormsRow.holds Try.pinned (OpenSpec.ofChange namesFormsSpec)

/-- ITS FALSE NEIGHBOUR: 'it returns false'. Refute it at one input. -/
def namesFormsWrong : ChangeSpec := { name := "namesForms", fn := fun _ => fun
  | [d] => { results := [.lit (.bool false)], args := [d] }
  | _ => none }
def NamesFormsWrongFalsely : Prop := namesFormsRow.holds Try.pinned (OpenSpec.ofChange namesFormsWrong)

/-- 'sievelaw04.NamesTexts': WHATEVER THE INPUT: true; the input reads as it did. -/
def namesTextsSpec : ChangeSpec := { name := "namesTexts", fn := fun _ => fun
  | [d1, d2] => { results := [.lit (.bool true)], args := [d1, d2] }
  | _ => none }
def namesTextsRow : OpenClaim := { program := "ytobbgmhpmoincaa", sum := "321033a470040903c9171bf97c7f22a635320bf7c6ef38f6319f247c4a288a1d", func := "sieve/sievelaw04.NamesTexts", spec := "namesTexts", inPlace := ["internal/abi.NoEscape", "internal/bytealg.MakeNoZero", "internal/bytealg.IndexByteString", "internal/bytealg.IndexString"], named := ["internal/bytealg.MaxLen"], apart := false }
def NamesTextsSaid : Prop := namesTextsRow.holds Try.pinned (OpenSpec.ofChange namesTextsSpec)

/-- ITS FALSE NEIGHBOUR: 'it returns false'. Refute it at one input. -/
def namesTextsWrong : ChangeSpec := { name := "namesTexts", fn := fun _ => fun
  | [d1, d2] => { results := [.lit (.bool false)], args := [d1, d2] }
  | _ => none }
def NamesTextsWrongFalsely : Prop := namesTextsRow.holds Try.pinned (OpenSpec.ofChange namesTextsWrong)

/-- 'sievelaw04.NamesLower': WHATEVER THE INPUT: true; the input reads as it did. -/
def namesLowerSpec : ChangeSpec := { name := "namesLower", fn := fun _ => fun
  | [d1, d2, d3] => { results := [.lit (.bool true)], args := [d1, d2, d3] }
  | _ => none }
def namesLowerRow : OpenClaim := { program := "ytobbgmhpmoincaa", sum := "321033a470040903c9171bf97c7f22a635320bf7c6ef38f6319f247c4a288a1d", func := "sieve/sievelaw04.NamesLower", spec := "namesLower", inPlace := ["internal/bytealg.IndexByteString", "internal/bytealg.IndexString", "internal/abi.NoEscape", "internal/bytealg.MakeNoZero"], named := ["internal/bytealg.MaxLen"], apart := false }
def NamesLowerSaid : Prop := namesLowerRow.holds Try.pinned (OpenSpec.ofChange namesLowerSpec)

/-- ITS FALSE NEIGHBOUR: 'it returns false'. Refute it at one input. -/
def namesLowerWrong : ChangeSpec := { name := "namesLower", fn := fun _ => fun
  | [d1, d2, d3] => { results := [.lit (.bool false)], args := [d1, d2, d3] }
  | _ => none }
def NamesLowerWrongFalsely : Prop := namesLowerRow.holds Try.pinned (OpenSpec.ofChange namesLowerWrong)

/-- 'sievelaw04.NamesFields': WHATEVER THE INPUT: true; the input reads as it did. -/
def namesFieldsSpec : ChangeSpec := { name := "namesFields", fn := fun _ => fun
  | [d1, d2, d3] => { results := [.lit (.bool true)], args := [d1, d2, d3] }
  | _ => none }
def namesFieldsRow : OpenClaim := { program := "ytobbgmhpmoincaa", sum := "321033a470040903c9171bf97c7f22a635320bf7c6ef38f6319f247c4a288a1d", func := "sieve/sievelaw04.NamesFields", spec := "namesFields", inPlace := ["internal/abi.NoEscape", "internal/bytealg.MakeNoZero", "internal/bytealg.IndexByteString", "internal/bytealg.IndexString"], named := ["internal/bytealg.MaxLen"], apart := false }
def NamesFieldsSaid : Prop := namesFieldsRow.holds Try.pinned (OpenSpec.ofChange namesFieldsSpec)

/-- ITS FALSE NEIGHBOUR: 'it returns false'. Refute it at one input. -/
def namesFieldsWrong : ChangeSpec := { name := "namesFields", fn := fun _ => fun
  | [d1, d2, d3] => { results := [.lit (.bool false)], args := [d1, d2, d3] }
  | _ => none }
def NamesFieldsWrongFalsely : Prop := namesFieldsRow.holds Try.pinned (OpenSpec.ofChange namesFieldsWrong)

/- THE SECOND FORM. 'bulk': how many values and letters a reading holds, each counted each time it is reached (what is shared counts as often as it is met; a slice's spare places count too). A statement '..UptoSaid' is the law's where the arguments, and the package variables that the reading takes, are together of bulk at most 1048576: NARROWER than '..Said'. Prove '..Said' where nothing that the law and all that it calls make is longer than what came in: it says more and counts as full. Else prove '..UptoSaid'. A law counts once. -/
mutual
def uptoBulk {H : Type} : DataW H → Nat
  | .lit (.string bytes) => bytes.length + 1
  | .lit _ => 1
  | .nil => 1
  | .ptr d => uptoBulk d + 1
  | .slice elems spare => uptoBulkAll elems + uptoBulkAll spare + 1
  | .agg parts => uptoBulkAll parts + 1
  | .iface _ d => uptoBulk d + 1
  | .map entries => uptoBulkEntries entries + 1
  | .held _ => 1
def uptoBulkAll {H : Type} : List (DataW H) → Nat
  | [] => 0
  | d :: r => uptoBulk d + uptoBulkAll r
def uptoBulkEntries {H : Type} : List (Lit × DataW H) → Nat
  | [] => 0
  | x :: r => uptoBulkEntry x + uptoBulkEntries r
def uptoBulkEntry {H : Type} : Lit × DataW H → Nat
  | (.string bytes, d) => bytes.length + uptoBulk d + 1
  | (_, d) => uptoBulk d + 1
 end
def uptoSmall : (H : Type) → List (DataW H) → Bool := fun _ ds => decide (uptoBulkAll ds ≤ 1048576)
def OpenSpec.upto (s : _root_.Go.ChangeSpec) : _root_.Go.OpenSpec := { _root_.Go.OpenSpec.ofChange s with cond := some uptoSmall }

/-- 'sievelaw04.NamesNames', WHERE WHAT IT READS IS OF BULK AT MOST 1048576: true; the input reads as it did. -/
def namesNamesUptoRow : OpenClaim := { program := "ytobbgmhpmoincaa", sum := "321033a470040903c9171bf97c7f22a635320bf7c6ef38f6319f247c4a288a1d", func := "sieve/sievelaw04.NamesNames", spec := "namesNames", inPlace := ["internal/bytealg.IndexByteString", "internal/bytealg.IndexString", "internal/abi.NoEscape", "internal/bytealg.MakeNoZero"], named := ["internal/bytealg.MaxLen"], apart := false, narrowed := true }
def NamesNamesUptoSaid : Prop := namesNamesUptoRow.holds Try.pinned (OpenSpec.upto namesNamesSpec)

/-- 'sievelaw04.NamesClasses', WHERE WHAT IT READS IS OF BULK AT MOST 1048576: true; the input reads as it did. -/
def namesClassesUptoRow : OpenClaim := { program := "ytobbgmhpmoincaa", sum := "321033a470040903c9171bf97c7f22a635320bf7c6ef38f6319f247c4a288a1d", func := "sieve/sievelaw04.NamesClasses", spec := "namesClasses", inPlace := ["internal/bytealg.IndexByteString", "internal/bytealg.IndexString", "internal/abi.NoEscape", "internal/bytealg.MakeNoZero"], named := ["internal/bytealg.MaxLen"], apart := false, narrowed := true }
def NamesClassesUptoSaid : Prop := namesClassesUptoRow.holds Try.pinned (OpenSpec.upto namesClassesSpec)

/-- 'sievelaw04.NamesForms', WHERE WHAT IT READS IS OF BULK AT MOST 1048576: true; the input reads as it did. -/
def namesFormsUptoRow : OpenClaim := { program := "ytobbgmhpmoincaa", sum := "321033a470040903c9171bf97c7f22a635320bf7c6ef38f6319f247c4a288a1d", func := "sieve/sievelaw04.NamesForms", spec := "namesForms", inPlace := ["internal/bytealg.IndexByteString", "internal/bytealg.IndexString", "internal/abi.NoEscape", "internal/bytealg.MakeNoZero"], named := ["internal/bytealg.MaxLen"], apart := false, narrowed := true }
def NamesFormsUptoSaid : Prop := namesFormsUptoRow.holds Try.pinned (OpenSpec.upto namesFormsSpec)

/-- 'sievelaw04.NamesTexts', WHERE WHAT IT READS IS OF BULK AT MOST 1048576: true; the input reads as it did. -/
def namesTextsUptoRow : OpenClaim := { program := "ytobbgmhpmoincaa", sum := "321033a470040903c9171bf97c7f22a635320bf7c6ef38f6319f247c4a288a1d", func := "sieve/sievelaw04.NamesTexts", spec := "namesTexts", inPlace := ["internal/abi.NoEscape", "internal/bytealg.MakeNoZero", "internal/bytealg.IndexByteString", "internal/bytealg.IndexString"], named := ["internal/bytealg.MaxLen"], apart := false, narrowed := true }
def NamesTextsUptoSaid : Prop := namesTextsUptoRow.holds Try.pinned (OpenSpec.upto namesTextsSpec)

/-- 'sievelaw04.NamesLower', WHERE WHAT IT READS IS OF BULK AT MOST 1048576: true; the input reads as it did. -/
def namesLowerUptoRow : OpenClaim := { program := "ytobbgmhpmoincaa", sum := "321033a470040903c9171bf97c7f22a635320bf7c6ef38f6319f247c4a288a1d", func := "sieve/sievelaw04.NamesLower", spec := "namesLower", inPlace := ["internal/bytealg.IndexByteString", "internal/bytealg.IndexString", "internal/abi.NoEscape", "internal/bytealg.MakeNoZero"], named := ["internal/bytealg.MaxLen"], apart := false, narrowed := true }
def NamesLowerUptoSaid : Prop := namesLowerUptoRow.holds Try.pinned (OpenSpec.upto namesLowerSpec)

/-- 'sievelaw04.NamesFields', WHERE WHAT IT READS IS OF BULK AT MOST 1048576: true; the input reads as it did. -/
def namesFieldsUptoRow : OpenClaim := { program := "ytobbgmhpmoincaa", sum := "321033a470040903c9171bf97c7f22a635320bf7c6ef38f6319f247c4a288a1d", func := "sieve/sievelaw04.NamesFields", spec := "namesFields", inPlace := ["internal/abi.NoEscape", "internal/bytealg.MakeNoZero", "internal/bytealg.IndexByteString", "internal/bytealg.IndexString"], named := ["internal/bytealg.MaxLen"], apart := false, narrowed := true }
def NamesFieldsUptoSaid : Prop := namesFieldsUptoRow.holds Try.pinned (OpenSpec.upto namesFieldsSpec)

end Rows
end Go.Proofs.Ytobbgmhpmoincaa
