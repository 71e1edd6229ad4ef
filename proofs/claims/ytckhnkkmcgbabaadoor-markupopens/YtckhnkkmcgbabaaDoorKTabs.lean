/- What is proved here: where the row's list of package-level variables is met, the two tables of unicode/utf8 and unicode's asciiFold lie in memory as the contracts ask; and a world in which all five variables lie so. -/
import Derived.Test.YtckhnkkmcgbabaaDoorRows
import Derived.Test.YtckhnkkmcgbabaaDoorIter
import Derived.Test.YtckhnkkmcgbabaaDoorSame
import Derived.PinnedBridge
import Derived.Lib.LaidU8T
import Derived.Lib.LaidTab
import Derived.Lib.LaidIn
import Derived.Great.CaseRows
import Derived.Deep.DeepHandedRow
import Derived.Deep.DeepWitnessRowRef
namespace Go.Proofs.YtckhnkkmcgbabaaDoor.U
open Go.RowKit Go.Shelf

theorem own : ownKnob Tryd.prog.godebug = none := by kernel_rfl
def u8ren : Ren := ⟨fun x => x, fun n => if n = 5 then 5 else if n = 119 then 85 else if n = 138 then 87 else 88, fun n => if n = 3 then Tryd.lays32_ren.g 2 else Tryd.lays32_ren.g 3⟩
theorem u8types : U8Types Tryd.prog u8ren := ⟨by kernel_rfl, by kernel_rfl, by kernel_rfl, by kernel_rfl⟩
theorem u8extra : U8Extra Tryd.prog u8ren := ⟨by kernel_rfl, by kernel_rfl, by kernel_rfl, by kernel_rfl, by kernel_rfl, by kernel_rfl, by kernel_rfl⟩
/-- What every row of this seat lists. -/
def laidL : List (String × DataW Unit) := [("unicode/utf8.acceptRanges", Rows.laid_unicode_utf8_acceptRanges), ("unicode.asciiFold", Rows.laid_unicode_asciiFold), ("unicode.caseOrbit", Rows.laid_unicode_caseOrbit), ("unicode.CaseRanges", Rows.laid_unicode_CaseRanges), ("unicode/utf8.first", Rows.laid_unicode_utf8_first)]
theorem accept_eq : (Rows.laid_unicode_utf8_acceptRanges : DataW Unit) = Lib.acceptData := by kernel_rfl
def numOf : DataW Unit → Int
  | .lit (.int _ n) => n
  | _ => 0
def cellOf : DataW Unit → Value
  | .lit (.int k n) => .int k n
  | _ => undef
def partsOf : DataW Unit → List (DataW Unit)
  | .agg l => l
  | .slice l _ => l
  | _ => []
/-- What asciiFold holds. -/
def foldZ : List Int := (partsOf Rows.laid_unicode_asciiFold).map numOf
theorem fold_eq : (Rows.laid_unicode_asciiFold : DataW Unit) = Lib.tabData .u16 foldZ := by kernel_rfl
def Fold (W : World) : Prop := ∀ i, i < 128 → W.cell? ⟨0, i, none⟩ = some (.int .u16 (foldZ.getD i 0))
theorem fold_length : foldZ.length = 128 := by kernel_rfl
/-- The tables, as the contracts ask. -/
def Tb (W : World) : Prop := Lib.Utf8Tabs (Tryd.lays32_ren.g 2) (Tryd.lays32_ren.g 3) W ∧ Fold W
theorem tabs_of_laid {W : World} (h : laidMet Tryd.prog laidL W) : Tb W := by
  have h3 : Lib.VarReads Tryd.prog W "unicode/utf8.first" Lib.firstData := by
    have := Lib.laidMet.reads h (n := "unicode/utf8.first") (d := Rows.laid_unicode_utf8_first) (by simp [laidL])
    rw [show Rows.laid_unicode_utf8_first = Lib.firstData from Pinned.utf8First_eq] at this
    exact this
  have h4 : Lib.VarReads Tryd.prog W "unicode/utf8.acceptRanges" Lib.acceptData := by
    have := Lib.laidMet.reads h (n := "unicode/utf8.acceptRanges") (d := Rows.laid_unicode_utf8_acceptRanges) (by simp [laidL])
    rw [accept_eq] at this
    exact this
  refine ⟨utf8Tabs_of_readsT (ρ := u8ren) u8types u8extra h3 h4, ?_⟩
  have h5 : Lib.VarReads Tryd.prog W "unicode.asciiFold" (Lib.tabData .u16 foldZ) := by
    have := Lib.laidMet.reads h (n := "unicode.asciiFold") (d := Rows.laid_unicode_asciiFold) (by simp [laidL])
    rw [fold_eq] at this
    exact this
  obtain ⟨g, t, cs, fuel, p, hg, ht, hv, hd⟩ := h5
  obtain rfl : 0 = g := Option.some.inj ((show Tryd.prog.globalNamed "unicode.asciiFold" = some 0 by kernel_rfl).symm.trans hg)
  obtain rfl : 69 = t := Option.some.inj ((show (Tryd.prog.globals[0]?).map (·.type) = some 69 by kernel_rfl).symm.trans ht)
  have hI : Lib.TabIs Tryd.prog W "unicode.asciiFold" .u16 foldZ := by
    unfold Lib.TabIs
    rw [hv, ← Lib.cells_of_tab Tryd.underlying69 Tryd.underlying68 (by kernel_rfl) (by kernel_rfl) hd]
  exact fun i hi => hI.cell hg i (by rw [fold_length]; exact hi)
theorem Tb.below {W W' : World} (h : Tb W) (hb : Below W.heap.size W W') : Tb W' :=
  ⟨tabs_below h.1 hb, fun i hi => (hb.cell (p := ⟨0, i, none⟩) (cell_lt (h.2 i hi))).trans (h.2 i hi)⟩

/-- A world for the witness: the settled one with two blocks more, the five variables holding what their texts lay. -/
def firstCells : Array Value := (Pinned.utf8FirstZ.map fun n : Nat => Value.int .u8 (n : Int)).toArray
def acceptCells : Array Value := ((partsOf Rows.laid_unicode_utf8_acceptRanges).flatMap fun d => (partsOf d).map cellOf).toArray
def foldCells : Array Value := (foldZ.map fun n => Value.int .u16 n).toArray
def orbitCells : Array Value := ((partsOf Rows.laid_unicode_caseOrbit).flatMap fun d => (partsOf d).map cellOf).toArray
def putAt (h : Array Obj) (g : Nat) (cs : Array Value) : Array Obj := h.modify g fun
  | .cells _ t frozen => .cells cs t frozen
  | o => o
def moreBlocks : Array Obj := #[.cells orbitCells 73, .cells Lib.caseCells5 93]
def withTabs (w : World) : World :=
  { w with heap := putAt (putAt (putAt (putAt (putAt w.heap 0 foldCells) 1 #[.slice (some ⟨11, 0, none⟩) 94 94]) 2 #[.slice (some ⟨12, 0, none⟩) 336 336]) (Tryd.lays32_ren.g 2) firstCells) (Tryd.lays32_ren.g 3) acceptCells }
theorem ctypes : Great.CTypes Tryd.prog 76 93 91 89 21 := ⟨by kernel_rfl, by kernel_rfl, by kernel_rfl, by kernel_rfl, by kernel_rfl, by kernel_rfl, by kernel_rfl, by kernel_rfl, by kernel_rfl⟩
set_option maxRecDepth 100000 in
theorem laid_all (os : Os) (args : Array Value) : laidMet Tryd.prog laidL ((withTabs (World.holding Tryd.prog os ⟨moreBlocks, #[], []⟩)).forCall (fun _ _ => 0) ⟨#[], args, []⟩).memory := by
  have a1 : LaidIn Tryd.prog ((withTabs (World.holding Tryd.prog os ⟨moreBlocks, #[], []⟩)).forCall (fun _ _ => 0) ⟨#[], args, []⟩).memory [("unicode/utf8.acceptRanges", Rows.laid_unicode_utf8_acceptRanges), ("unicode.asciiFold", Rows.laid_unicode_asciiFold), ("unicode.caseOrbit", Rows.laid_unicode_caseOrbit)] [4, 0, 1, 11] :=
    LaidIn.of_run _ 8 (by kernel_rfl) (by kernel_rfl) (by kernel_rfl) (by kernel_rfl)
  have a2 : LaidIn Tryd.prog ((withTabs (World.holding Tryd.prog os ⟨moreBlocks, #[], []⟩)).forCall (fun _ _ => 0) ⟨#[], args, []⟩).memory [("unicode.CaseRanges", Rows.laid_unicode_CaseRanges)] [2, 12] := by
    rw [show Rows.laid_unicode_CaseRanges = .slice (Lib.caseT.map Lib.rowData) [] from Pinned.caseRanges_eq]
    exact Great.laidIn_case (tg := 76) (tb := 93) ctypes Lib.caseT (by kernel_rfl) (by kernel_rfl) (of_decide_eq_true (by kernel_rfl)) Lib.rowsWf (by kernel_rfl) (by kernel_rfl) (by decide)
  have a3 : LaidIn Tryd.prog ((withTabs (World.holding Tryd.prog os ⟨moreBlocks, #[], []⟩)).forCall (fun _ _ => 0) ⟨#[], args, []⟩).memory [("unicode/utf8.first", Rows.laid_unicode_utf8_first)] [3] :=
    LaidIn.of_run _ 8 (by kernel_rfl) (by kernel_rfl) (by kernel_rfl) (by kernel_rfl)
  exact ((a1.append a2 (by decide)).append a3 (by decide)).met

/-- A call that turns nothing that was there, gives back what the specification says and leaves its arguments: what the row asks behind it. -/
theorem post_below {H : Type} {enc : TypeId × Value → H} {P : Program} {f : Func} {s : ChangeSpec} {apart fresh handsOn : Bool} {W W' : World} {args : Array Value} {v : Value} {ds gs : List (DataW H)} {before pa pv : List MemPlace}
    (hW : DataW.Whole enc P f.params.toList s.vars apart W args.toList ds gs before)
    (hres : ∀ (b : Nat) (sp : Nat → Bool) (hd : Bool), DataW.TrodAll enc P W' b sp hd f.resultTypes.toList (v.resultList f.resultTypes.size) (s.fn H (ds ++ gs)).results [])
    (hargs : DataW.TrodAll enc P W' 0 (fun b => decide (b < W.heap.size)) true f.params.toList args.toList (s.fn H (ds ++ gs)).args pa)
    (hvars : DataW.TrodVars enc P W' (fun b => decide (b < W.heap.size)) s.vars (s.fn H (ds ++ gs)).vars pv)
    (hb : Below W.heap.size W W') : s.post enc P f apart fresh handsOn false W args v W' :=
  ⟨ds, gs, before, [], pa, pv, hW, hres _ _ _, hargs, hvars, hb.frame _, fun h => by cases h⟩
end Go.Proofs.YtckhnkkmcgbabaaDoor.U
