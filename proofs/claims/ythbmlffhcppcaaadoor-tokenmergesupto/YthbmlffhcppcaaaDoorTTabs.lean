/- What is proved here: where the row's list of package-level variables is met, the words of token lie in memory as the contracts ask; and a world in which they lie so. -/
import Derived.Test.YthbmlffhcppcaaaDoorRows
import Derived.Test.YthbmlffhcppcaaaDoorTPrint
import Derived.PinnedBridge
import Derived.Lib.LaidU8T
import Derived.Lib.LaidTab
import Derived.Deep.DeepHandedRow
import Derived.ProofKit
import Derived.OpenShut
namespace Go.Proofs.YthbmlffhcppcaaaDoor.T
open Go.ChangeShapes Go.WideShapes Go.ChangeAt Go.RowKit Go.Shelf

theorem own : ownKnob Tryd.prog.godebug = none := by kernel_rfl
theorem laidOut : laidOutB Tryd.prog = true := by kernel_rfl
/-- What every row of this seat lists. -/
def laidL : List (String × DataW Unit) := [("sieve/token.words", Rows.laid_sieve_token_words)]

theorem str_of {s : ByteArray} {l : List UInt8} (h : s.data.toList = l) : s = ⟨l.toArray⟩ := by subst h; exact (byteArr_eta s).symm
set_option maxRecDepth 100000 in
theorem tabs_of_laid {W : World} (h : laidMet Tryd.prog laidL W) : Words W := by
  obtain ⟨g, t, cs, fuel, p, hg, ht, hv, hd⟩ := Lib.laidMet.reads h (n := "sieve/token.words") (d := Rows.laid_sieve_token_words) (by simp [laidL])
  obtain rfl : 0 = g := Option.some.inj ((show Tryd.prog.globalNamed "sieve/token.words" = some 0 by kernel_rfl).symm.trans hg)
  obtain rfl : 82 = t := Option.some.inj ((show (Tryd.prog.globals[0]?).map (·.type) = some 82 by kernel_rfl).symm.trans ht)
  obtain ⟨xs, m, _, hx, hl, hxl, hat⟩ := DataW.trod_array Tryd.underlying82 hd
  simp only [Prod.mk.injEq] at hx
  have k9 : Tryd.prog.cellsOf 9 = 1 := by kernel_rfl
  have hcl : cs.size = 5 := by rw [← Array.length_toList, hl]; kernel_rfl
  have hcell : ∀ i (hi : i < 5) (b : List UInt8), (Rows.laid_sieve_token_words : DataW Unit) = .agg (xs.map (·.1)) → (xs.map (·.1))[i]? = some (.lit (.string b)) → W.cell? ⟨0, i, none⟩ = some (.string ⟨b.toArray⟩) := fun i hi b _ hb => by
    have h1 := hat i hi
    rw [k9, Nat.mul_one] at h1
    obtain ⟨x, hxi⟩ : ∃ x, xs[i]? = some x := ⟨xs[i]'(by omega), List.getElem?_eq_getElem (by omega)⟩
    rw [hxi] at h1
    obtain ⟨s, e1, e2, _⟩ := DataW.trod_string Tryd.underlying9 h1
    rw [List.getElem?_map, hxi, e2] at hb
    simp at hb
    rw [World.var?_cell hg hv i]
    have : cs.toList[i]? = some (.string s) := by
      have h2 : ((cs.toList.drop i).take 1)[0]? = some (.string s) := by rw [e1]; rfl
      simpa [List.getElem?_take, List.getElem?_drop] using h2
    rw [← Array.getElem?_toList, this, str_of hb]
  have hx1 := hx.1
  have get : ∀ (i : Nat) (b : List UInt8) (L : List (DataW Unit)), (Rows.laid_sieve_token_words : DataW Unit) = .agg L → L[i]? = some (DataW.lit (.string b)) → (xs.map (·.1))[i]? = some (DataW.lit (.string b)) := fun i b L hL hb => by
    have h2 := hx1.symm.trans hL
    injection h2 with h2
    rw [h2]; exact hb
  have c0 := hcell 0 (by omega) [116, 101, 120, 116] hx1 (get 0 _ _ rfl rfl)
  have c1 := hcell 1 (by omega) [115, 116, 97, 114, 116] hx1 (get 1 _ _ rfl rfl)
  have c2 := hcell 2 (by omega) [101, 110, 100] hx1 (get 2 _ _ rfl rfl)
  have c3 := hcell 3 (by omega) [99, 111, 109, 109, 101, 110, 116] hx1 (get 3 _ _ rfl rfl)
  have c4 := hcell 4 (by omega) [100, 111, 99, 116, 121, 112, 101] hx1 (get 4 _ _ rfl rfl)
  exact ⟨C.cell_lt c0, c0, c1, c2, c3, c4⟩

/-- A world for the witness: the settled one, the table holding what its text lays. -/
def wordCells : Array Value := #[.string ⟨#[116, 101, 120, 116]⟩, .string ⟨#[115, 116, 97, 114, 116]⟩, .string ⟨#[101, 110, 100]⟩, .string ⟨#[99, 111, 109, 109, 101, 110, 116]⟩, .string ⟨#[100, 111, 99, 116, 121, 112, 101]⟩]
def withTabs (w : World) : World :=
  { w with heap := w.heap.modify 0 fun
      | .cells _ t frozen => .cells wordCells t frozen
      | o => o }

/-- A call that turns nothing that was there, gives back what the specification says and leaves its arguments: what the row asks behind it. -/
theorem post_below {H : Type} {enc : TypeId × Value → H} {P : Program} {f : Func} {s : ChangeSpec} {apart fresh handsOn : Bool} {W W' : World} {args : Array Value} {v : Value} {ds gs : List (DataW H)} {before pa pv : List MemPlace}
    (hW : DataW.Whole enc P f.params.toList s.vars apart W args.toList ds gs before)
    (hres : ∀ (b : Nat) (sp : Nat → Bool) (hd : Bool), DataW.TrodAll enc P W' b sp hd f.resultTypes.toList (v.resultList f.resultTypes.size) (s.fn H (ds ++ gs)).results [])
    (hargs : DataW.TrodAll enc P W' 0 (fun b => decide (b < W.heap.size)) true f.params.toList args.toList (s.fn H (ds ++ gs)).args pa)
    (hvars : DataW.TrodVars enc P W' (fun b => decide (b < W.heap.size)) s.vars (s.fn H (ds ++ gs)).vars pv)
    (hb : Below W.heap.size W W') : s.post enc P f apart fresh handsOn false W args v W' :=
  ⟨ds, gs, before, [], pa, pv, hW, hres _ _ _, hargs, hvars, hb.frame _, fun h => by cases h⟩
/-- What was handed in reads as it did. -/
theorem stays {H : Type} {enc : TypeId × Value → H} {W W' : World} {t : TypeId} {v : Value} {d : DataW H} {ps : List MemPlace} (hr : Tryd.prog.readableRec t = true) (hrow : t < Tryd.prog.types.size)
    (h : DataW.Trod enc Tryd.prog W 0 (fun _ => true) true t v d ps) (hb : Below W.heap.size W W') (hlt : ∀ x ∈ ps, x.block < W.heap.size) : DataW.Trod enc Tryd.prog W' 0 (fun b => decide (b < W.heap.size)) true t v d ps :=
  Below.trod laidOut hr hrow h hb hlt
end Go.Proofs.YthbmlffhcppcaaaDoor.T
