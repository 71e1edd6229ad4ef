/-
  DERIVED. GIVEN WITH THE SEED: THE CARDS: each row of YtckhnkkmcgbabaaDoorRows.lean that lists a variable, with what it lists TIED to the program's text (the seventh form; the later family's looks); each row that meets fmt, with fmt's text TOLD by the authors' own Lean function (tested against real Go, not proved from fmt's source: count such statements apart). THE CARD IS WHAT COUNTS. Prove the row's statement (the work); the ties are given (YtckhnkkmcgbabaaDoorTie.lean); close each card by the builder's one call (the guide's Derived/Test/ToyasCard.lean, 'card_holds'). Laid BY PROGRAM, IN A SANDBOX (cutbox-door.mjs). By AI agents, Wed Nov 11 2026. No macro, syntax, notation, axiom, sorry.
-/
import Derived.Test.YtckhnkkmcgbabaaDoorRows
import GoSem.ClaimSeven
namespace Go.Proofs.YtckhnkkmcgbabaaDoor
namespace Rows

/-- THE TIED CARD OF 'sievelaw09.MarkupOpens'. -/
def markupOpensCard : Claim7 := { stood := { row := markupOpensRow, standIns := [], harness := (true, "5ae3fad5330b56bfef268b7ebf09b7a44b1116d3e80768877e753f6e30ab4213"), looks := false }, kinds := [], alts := [], laidByText := true, laidKinds := [.data, .data, .data, .pinned, .pinned], laidTests := true, laidLooks := .later }
def MarkupOpensCardSaid : Prop := Claim7.holds Tryd.pinned (.plain (OpenSpec.ofChange markupOpensSpec)) markupOpensCard

/-- THE TIED CARD OF 'sievelaw09.MarkupWholes'. -/
def markupWholesCard : Claim7 := { stood := { row := markupWholesRow, standIns := [], harness := (true, "5ae3fad5330b56bfef268b7ebf09b7a44b1116d3e80768877e753f6e30ab4213"), looks := false }, kinds := [], alts := [], laidByText := true, laidKinds := [.data, .data, .data, .pinned, .pinned], laidTests := true, laidLooks := .later }
def MarkupWholesCardSaid : Prop := Claim7.holds Tryd.pinned (.plain (OpenSpec.ofChange markupWholesSpec)) markupWholesCard

/-- THE TIED CARD OF 'sievelaw09.MarkupRunes'. -/
def markupRunesCard : Claim7 := { stood := { row := markupRunesRow, standIns := [], harness := (true, "5ae3fad5330b56bfef268b7ebf09b7a44b1116d3e80768877e753f6e30ab4213"), looks := false }, kinds := [], alts := [], laidByText := true, laidKinds := [.data, .data, .data, .pinned, .pinned], laidTests := true, laidLooks := .later }
def MarkupRunesCardSaid : Prop := Claim7.holds Tryd.pinned (.plain (OpenSpec.ofChange markupRunesSpec)) markupRunesCard

/-- THE TIED CARD OF 'sievelaw09.MarkupNone'. -/
def markupNoneCard : Claim7 := { stood := { row := markupNoneRow, standIns := [], harness := (true, "5ae3fad5330b56bfef268b7ebf09b7a44b1116d3e80768877e753f6e30ab4213"), looks := false }, kinds := [], alts := [], laidByText := true, laidKinds := [.data, .data, .data, .pinned, .pinned], laidTests := true, laidLooks := .later }
def MarkupNoneCardSaid : Prop := Claim7.holds Tryd.pinned (.plain (OpenSpec.ofChange markupNoneSpec)) markupNoneCard

/-- THE TIED CARD OF 'sievelaw09.MarkupEnds'. -/
def markupEndsCard : Claim7 := { stood := { row := markupEndsRow, standIns := [], harness := (true, "5ae3fad5330b56bfef268b7ebf09b7a44b1116d3e80768877e753f6e30ab4213"), looks := false }, kinds := [], alts := [], laidByText := true, laidKinds := [.data, .data, .data, .pinned, .pinned], laidTests := true, laidLooks := .later }
def MarkupEndsCardSaid : Prop := Claim7.holds Tryd.pinned (.plain (OpenSpec.ofChange markupEndsSpec)) markupEndsCard

/-- THE SECOND FORM's CARD OF 'sievelaw09.MarkupOpens'. -/
def markupOpensUptoCard : Claim7 := { stood := { row := markupOpensUptoRow, standIns := [], harness := (true, "5ae3fad5330b56bfef268b7ebf09b7a44b1116d3e80768877e753f6e30ab4213"), looks := false }, kinds := [], alts := [], laidByText := true, laidKinds := [.data, .data, .data, .pinned, .pinned], laidTests := true, laidLooks := .later }
def MarkupOpensUptoCardSaid : Prop := Claim7.holds Tryd.pinned (.plain (OpenSpec.upto markupOpensSpec)) markupOpensUptoCard

/-- THE SECOND FORM's CARD OF 'sievelaw09.MarkupWholes'. -/
def markupWholesUptoCard : Claim7 := { stood := { row := markupWholesUptoRow, standIns := [], harness := (true, "5ae3fad5330b56bfef268b7ebf09b7a44b1116d3e80768877e753f6e30ab4213"), looks := false }, kinds := [], alts := [], laidByText := true, laidKinds := [.data, .data, .data, .pinned, .pinned], laidTests := true, laidLooks := .later }
def MarkupWholesUptoCardSaid : Prop := Claim7.holds Tryd.pinned (.plain (OpenSpec.upto markupWholesSpec)) markupWholesUptoCard

/-- THE SECOND FORM's CARD OF 'sievelaw09.MarkupRunes'. -/
def markupRunesUptoCard : Claim7 := { stood := { row := markupRunesUptoRow, standIns := [], harness := (true, "5ae3fad5330b56bfef268b7ebf09b7a44b1116d3e80768877e753f6e30ab4213"), looks := false }, kinds := [], alts := [], laidByText := true, laidKinds := [.data, .data, .data, .pinned, .pinned], laidTests := true, laidLooks := .later }
def MarkupRunesUptoCardSaid : Prop := Claim7.holds Tryd.pinned (.plain (OpenSpec.upto markupRunesSpec)) markupRunesUptoCard

/-- THE SECOND FORM's CARD OF 'sievelaw09.MarkupNone'. -/
def markupNoneUptoCard : Claim7 := { stood := { row := markupNoneUptoRow, standIns := [], harness := (true, "5ae3fad5330b56bfef268b7ebf09b7a44b1116d3e80768877e753f6e30ab4213"), looks := false }, kinds := [], alts := [], laidByText := true, laidKinds := [.data, .data, .data, .pinned, .pinned], laidTests := true, laidLooks := .later }
def MarkupNoneUptoCardSaid : Prop := Claim7.holds Tryd.pinned (.plain (OpenSpec.upto markupNoneSpec)) markupNoneUptoCard

/-- THE SECOND FORM's CARD OF 'sievelaw09.MarkupEnds'. -/
def markupEndsUptoCard : Claim7 := { stood := { row := markupEndsUptoRow, standIns := [], harness := (true, "5ae3fad5330b56bfef268b7ebf09b7a44b1116d3e80768877e753f6e30ab4213"), looks := false }, kinds := [], alts := [], laidByText := true, laidKinds := [.data, .data, .data, .pinned, .pinned], laidTests := true, laidLooks := .later }
def MarkupEndsUptoCardSaid : Prop := Claim7.holds Tryd.pinned (.plain (OpenSpec.upto markupEndsSpec)) markupEndsUptoCard
end Rows
end Go.Proofs.YtckhnkkmcgbabaaDoor
