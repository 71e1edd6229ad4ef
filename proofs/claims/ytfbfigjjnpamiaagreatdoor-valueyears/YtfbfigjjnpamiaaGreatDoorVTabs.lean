/- What is proved here: where the row's list of package-level variables is met, the tables of unicode/utf8 and the table of the schemes that may never be lie in memory as the contracts ask; and a world in which they lie so. -/
import Derived.Test.YtfbfigjjnpamiaaGreatDoorBun1
import Derived.Test.YtfbfigjjnpamiaaGreatDoorLpChk
import Derived.Test.YtfbfigjjnpamiaaGreatDoorVMath
import Derived.Lib.LaidTab
import Derived.Lib.ItoaNum
namespace Go.Proofs.YtfbfigjjnpamiaaGreatDoor.V
open Go.ChangeShapes Go.WideShapes Go.ChangeAt Go.RowKit Go.Shelf Go.Proofs.YtfbfigjjnpamiaaGreatDoor.U Go.Proofs.YtfbfigjjnpamiaaGreatDoor.L

def laidV : List (String × DataW Unit) := [("math/bits.deBruijn32tab", Rows.laid_math_bits_deBruijn32tab), ("math/bits.deBruijn64tab", Rows.laid_math_bits_deBruijn64tab), ("internal/strconv.uint64pow10", Rows.laid_internal_strconv_uint64pow10), ("unicode/utf8.acceptRanges", Rows.laid_unicode_utf8_acceptRanges), ("sieve/link.never", Rows.laid_sieve_link_never), ("unicode/utf8.first", Rows.laid_unicode_utf8_first)]
theorem str_of {s : ByteArray} {l : List UInt8} (h : s.data.toList = l) : s = ⟨l.toArray⟩ := by subst h; exact (Lib.mk_data s).symm
/-- The table of the powers of ten lies where it must. -/
abbrev Pow (w : World) : Prop := Lib.TabIs Tryz.prog w "internal/strconv.uint64pow10" .u64 Lib.pow10Tab
theorem pow_eq : (Rows.laid_internal_strconv_uint64pow10 : DataW Unit) = Lib.tabData .u64 Lib.pow10Tab := by kernel_rfl
set_option maxRecDepth 100000 in
theorem pow_of_laid {W : World} (h : laidMet Tryz.prog laidV W) : Pow W := by
  obtain ⟨g, t, cs, fuel, p, hg, ht, hv, hd⟩ := Lib.laidMet.reads h (n := "internal/strconv.uint64pow10") (d := Rows.laid_internal_strconv_uint64pow10) (by simp [laidV])
  obtain rfl : 2 = g := Option.some.inj ((show Tryz.prog.globalNamed "internal/strconv.uint64pow10" = some 2 by kernel_rfl).symm.trans hg)
  obtain rfl : 137 = t := Option.some.inj ((show (Tryz.prog.globals[2]?).map (·.type) = some 137 by kernel_rfl).symm.trans ht)
  rw [pow_eq] at hd
  unfold Pow Lib.TabIs
  rw [hv, ← Lib.cells_of_tab Tryz.underlying137 Tryz.underlying129 (by kernel_rfl) (by kernel_rfl) hd]
set_option maxRecDepth 100000 in
theorem tabs2_of_laid {W : World} (h : laidMet Tryz.prog laidV W) : Tb W ∧ Nev W := by
  constructor
  · have h3 : Lib.VarReads Tryz.prog W "unicode/utf8.first" Lib.firstData := by
      have := Lib.laidMet.reads h (n := "unicode/utf8.first") (d := Rows.laid_unicode_utf8_first) (by simp [laidV])
      rw [show Rows.laid_unicode_utf8_first = Lib.firstData from Pinned.utf8First_eq] at this
      exact this
    have h4 : Lib.VarReads Tryz.prog W "unicode/utf8.acceptRanges" Lib.acceptData := by
      have := Lib.laidMet.reads h (n := "unicode/utf8.acceptRanges") (d := Rows.laid_unicode_utf8_acceptRanges) (by simp [laidV])
      rw [accept_eq] at this
      exact this
    exact utf8Tabs_of_readsT (ρ := u8ren) u8types u8extra h3 h4
  · obtain ⟨g, t, cs, fuel, p, hg, ht, hv, hd⟩ := Lib.laidMet.reads h (n := "sieve/link.never") (d := Rows.laid_sieve_link_never) (by simp [laidV])
    obtain rfl : 0 = g := Option.some.inj ((show Tryz.prog.globalNamed "sieve/link.never" = some 0 by kernel_rfl).symm.trans hg)
    obtain rfl : 114 = t := Option.some.inj ((show (Tryz.prog.globals[0]?).map (·.type) = some 114 by kernel_rfl).symm.trans ht)
    obtain ⟨xs, m, _, hx, hl, hxl, hat⟩ := DataW.trod_array Tryz.underlying114 hd
    simp only [Prod.mk.injEq] at hx
    have k9 : Tryz.prog.cellsOf 9 = 1 := by kernel_rfl
    have hcl : cs.size = 7 := by rw [← Array.length_toList, hl]; kernel_rfl
    have hcell : ∀ i (hi : i < 7) (b : List UInt8), (xs.map (·.1))[i]? = some (.lit (.string b)) → W.cell? ⟨0, i, none⟩ = some (.string ⟨b.toArray⟩) := fun i hi b hb => by
      have h1 := hat i hi
      rw [k9, Nat.mul_one] at h1
      obtain ⟨x, hxi⟩ : ∃ x, xs[i]? = some x := ⟨xs[i]'(by omega), List.getElem?_eq_getElem (by omega)⟩
      rw [hxi] at h1
      obtain ⟨s, e1, e2, _⟩ := DataW.trod_string Tryz.underlying9 h1
      rw [List.getElem?_map, hxi, e2] at hb
      simp at hb
      rw [World.var?_cell hg hv i]
      have : cs.toList[i]? = some (.string s) := by
        have h2 : ((cs.toList.drop i).take 1)[0]? = some (.string s) := by rw [e1]; rfl
        simpa [List.getElem?_take, List.getElem?_drop] using h2
      rw [← Array.getElem?_toList, this, str_of hb]
    have hx1 := hx.1
    have get : ∀ (i : Nat) (b : List UInt8) (L : List (DataW Unit)), (Rows.laid_sieve_link_never : DataW Unit) = .agg L → L[i]? = some (DataW.lit (.string b)) → (xs.map (·.1))[i]? = some (DataW.lit (.string b)) := fun i b L hL hb => by
      have h2 := hx1.symm.trans hL
      injection h2 with h2
      rw [h2]; exact hb
    intro j hj
    have hks : j = 0 ∨ j = 1 ∨ j = 2 ∨ j = 3 ∨ j = 4 ∨ j = 5 ∨ j = 6 := by omega
    rcases hks with rfl | rfl | rfl | rfl | rfl | rfl | rfl
    all_goals exact hcell _ hj _ (get _ _ _ rfl rfl)
/-- All the tables that a value's calls read. -/
abbrev Vt (w : World) : Prop := Tb w ∧ Nev w ∧ Pow w
theorem tabsV_of_laid {W : World} (h : laidMet Tryz.prog laidV W) : Vt W := ⟨(tabs2_of_laid h).1, (tabs2_of_laid h).2, pow_of_laid h⟩
theorem bulk_str {H : Type} (b : List UInt8) : Rows.uptoBulk (H := H) (.lit (.string b)) = b.length + 1 := rfl
def nevCells : Array Value := (nevers.map fun n => Value.string ⟨n.toArray⟩).toArray
def powCells : Array Value := (Lib.pow10Tab.map fun z => Value.int .u64 z).toArray
def litCells (d : DataW Unit) : Array Value := match d with
  | .agg xs => (xs.map fun x => match x with | .lit (.int k z) => Value.int k z | _ => .int .u8 0).toArray
  | _ => #[]
def setCells (g : Nat) (cs : Array Value) (w : World) : World :=
  { w with heap := w.heap.modify g fun
      | .cells _ t frozen => .cells cs t frozen
      | o => o }
def withTabsV (w : World) : World :=
  setCells 5 (litCells Rows.laid_math_bits_deBruijn32tab) (setCells 6 (litCells Rows.laid_math_bits_deBruijn64tab) (setCells 2 powCells (setCells 0 nevCells (withTabs w))))
end Go.Proofs.YtfbfigjjnpamiaaGreatDoor.V
