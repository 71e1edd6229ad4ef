/- What is proved here: laws and contracts of Same, Tabs, one behind the other (each says its own). -/
import Derived.BigQuiet
import Derived.Deep.QuietTactic
import Derived.WalkSmall
import Derived.Test.YtfbfigjjnpamiaaGreatDoorNext
import Derived.Test.YtfbfigjjnpamiaaGreatDoorRows
import Derived.Test.YtfbfigjjnpamiaaGreatDoorIter
import Derived.PinnedBridge
import Derived.Lib.LaidU8T
import Derived.Lib.LaidTab
import Derived.Deep.DeepHandedRow
/- What is proved here: contracts of sieveref01.Same, utf.Tail and utf.Width. -/
namespace Go.Proofs.YtfbfigjjnpamiaaGreatDoor.U
open Go.RowKit Go.Shelf

/-- The number at a place (0 beyond the end). -/
def zAt (zs : List Int) (k : Nat) : Int := zs[k]?.getD 0
theorem zAt_ext {xs ys : List Int} (hl : xs.length = ys.length) (h : ∀ j, j < xs.length → zAt xs j = zAt ys j) : xs = ys := by
  apply List.ext_getElem hl
  intro i h1 h2
  have := h i h1
  simpa [zAt, h1, h2] using this
/-- The numbers that a slice value holds in memory. -/
def HasI (q : IntKind) (w : World) (v : Value) (zs : List Int) : Prop :=
  (zs = [] ∧ ∃ a cap, v = .slice a 0 cap) ∨ (0 < zs.length ∧ ∃ b off cap, v = .slice (some ⟨b, off, none⟩) zs.length cap ∧ zs.length ≤ cap ∧ ∀ j, j < zs.length → w.cell? ⟨b, off + j, none⟩ = some (.int q (zAt zs j)))
theorem HasI.below {q : IntKind} {A B : World} {v : Value} {zs : List Int} (h : Below A.heap.size A B) (hl : HasI q A v zs) : HasI q B v zs := by
  rcases hl with hl | ⟨hp, b, off, cap, hv, hc, hx⟩
  · exact .inl hl
  · exact .inr ⟨hp, b, off, cap, hv, hc, fun j hj => (h.cell (p := ⟨b, off + j, none⟩) (cell_lt (hx j hj))).trans (hx j hj)⟩

/-- What is owned is held. -/
theorem hasI_owns {q : IntKind} {w : World} {base : Nat} {e : TypeId} {v : Value} {zs : List Int} (h : w.ownsRow base e 1 v zs.length (zs.map (Value.int q))) : HasI q w v zs := by
  rcases h.2 with ⟨rfl, h0⟩ | ⟨g, cap, cur, rfl, hb, hg, hcap, _, hsz, ht⟩
  · exact .inl ⟨List.length_eq_zero_iff.1 h0, none, 0, rfl⟩
  · by_cases hp : zs.length = 0
    · have e0 := List.length_eq_zero_iff.1 hp
      subst e0
      exact .inl ⟨rfl, some ⟨g, 0, none⟩, cap, rfl⟩
    refine .inr ⟨by omega, g, 0, cap, rfl, hcap, fun j hj => ?_⟩
    rw [Nat.zero_add, h.cellAt j (by omega)]
    simp [zAt, hj]

end Go.Proofs.YtfbfigjjnpamiaaGreatDoor.U

/- What is proved here: where the row's list of package-level variables is met, the two tables of unicode/utf8 lie in memory as the contracts ask; and a world in which they lie so. -/
namespace Go.Proofs.YtfbfigjjnpamiaaGreatDoor.U
open Go.RowKit Go.Shelf

theorem own : ownKnob Tryz.prog.godebug = none := by kernel_rfl
def u8ren : Ren := ⟨fun x => x, fun n => if n = 5 then 5 else if n = 119 then 141 else if n = 138 then 143 else 144, fun n => if n = 3 then Tryz.lays32_ren.g 2 else Tryz.lays32_ren.g 3⟩
theorem u8types : U8Types Tryz.prog u8ren := ⟨by kernel_rfl, by kernel_rfl, by kernel_rfl, by kernel_rfl⟩
theorem u8extra : U8Extra Tryz.prog u8ren := ⟨by kernel_rfl, by kernel_rfl, by kernel_rfl, by kernel_rfl, by kernel_rfl, by kernel_rfl, by kernel_rfl⟩
/-- What every row of this seat lists. -/
def laidL : List (String × DataW Unit) := [("unicode/utf8.acceptRanges", Rows.laid_unicode_utf8_acceptRanges), ("unicode/utf8.first", Rows.laid_unicode_utf8_first)]
theorem accept_eq : (Rows.laid_unicode_utf8_acceptRanges : DataW Unit) = Lib.acceptData := by kernel_rfl
theorem tabs_of_laid {W : World} (h : laidMet Tryz.prog laidL W) : Lib.Utf8Tabs (Tryz.lays32_ren.g 2) (Tryz.lays32_ren.g 3) W := by
  have h3 : Lib.VarReads Tryz.prog W "unicode/utf8.first" Lib.firstData := by
    have := Lib.laidMet.reads h (n := "unicode/utf8.first") (d := Rows.laid_unicode_utf8_first) (by simp [laidL])
    rw [show Rows.laid_unicode_utf8_first = Lib.firstData from Pinned.utf8First_eq] at this
    exact this
  have h4 : Lib.VarReads Tryz.prog W "unicode/utf8.acceptRanges" Lib.acceptData := by
    have := Lib.laidMet.reads h (n := "unicode/utf8.acceptRanges") (d := Rows.laid_unicode_utf8_acceptRanges) (by simp [laidL])
    rw [accept_eq] at this
    exact this
  exact utf8Tabs_of_readsT (ρ := u8ren) u8types u8extra h3 h4

/-- A world for the witness: the settled one, the two tables holding what their texts lay. -/
def firstCells : Array Value := (Pinned.utf8FirstZ.map fun n : Nat => Value.int .u8 (n : Int)).toArray
def acceptCells : Array Value := ([128, 191, 160, 191, 128, 159, 144, 191, 128, 143, 0, 0, 0, 0, 0, 0, 0, 0, 0, 0, 0, 0, 0, 0, 0, 0, 0, 0, 0, 0, 0, 0].map fun n : Nat => Value.int .u8 (n : Int)).toArray
def withTabs (w : World) : World :=
  { w with heap := (w.heap.modify (Tryz.lays32_ren.g 2) fun
      | .cells _ t frozen => .cells firstCells t frozen
      | o => o).modify (Tryz.lays32_ren.g 3) fun
      | .cells _ t frozen => .cells acceptCells t frozen
      | o => o }

/-- A call that turns nothing that was there, gives back what the specification says and leaves its arguments: what the row asks behind it. -/
theorem post_below {H : Type} {enc : TypeId × Value → H} {P : Program} {f : Func} {s : ChangeSpec} {apart fresh handsOn : Bool} {W W' : World} {args : Array Value} {v : Value} {ds gs : List (DataW H)} {before pa pv : List MemPlace}
    (hW : DataW.Whole enc P f.params.toList s.vars apart W args.toList ds gs before)
    (hres : ∀ (b : Nat) (sp : Nat → Bool) (hd : Bool), DataW.TrodAll enc P W' b sp hd f.resultTypes.toList (v.resultList f.resultTypes.size) (s.fn H (ds ++ gs)).results [])
    (hargs : DataW.TrodAll enc P W' 0 (fun b => decide (b < W.heap.size)) true f.params.toList args.toList (s.fn H (ds ++ gs)).args pa)
    (hvars : DataW.TrodVars enc P W' (fun b => decide (b < W.heap.size)) s.vars (s.fn H (ds ++ gs)).vars pv)
    (hb : Below W.heap.size W W') : s.post enc P f apart fresh handsOn false W args v W' :=
  ⟨ds, gs, before, [], pa, pv, hW, hres _ _ _, hargs, hvars, hb.frame _, fun h => by cases h⟩

end Go.Proofs.YtfbfigjjnpamiaaGreatDoor.U
