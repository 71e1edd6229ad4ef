/- What is proved here: laws and contracts of LpAwake, LpTabs, one behind the other (each says its own). -/
import Derived.Test.YtnnabheejojfdaaDoorLpEnc
import Derived.Test.YtnnabheejojfdaaDoorLpDots
import Derived.Test.YtnnabheejojfdaaDoorRows
import Derived.Test.YtnnabheejojfdaaDoorOpen
import Derived.Test.YtnnabheejojfdaaDoorLpChk
/- What is proved here: the examples of the document that every statement of layer 12 asks first, and the error's number. -/
namespace Go.Proofs.YtnnabheejojfdaaDoor.L
open Go.RowKit Go.Shelf Go.Proofs.YtnnabheejojfdaaDoor.N Go.Proofs.YtnnabheejojfdaaDoor.U

theorem num_calls (z : Int) (w : World) : Calls Tryd.prog 11 #[.int .i64 z] w fun e w' => e = .returned (.int .i64 z) ∧ w' = w := by
  go_enter Tryd.func11, Tryd.ntmps11
  go_wp2
  go_ret
  exact ⟨rfl, rfl⟩
theorem awake_scheme : schemeV (stripL [32, 74, 97, 86, 97, 9, 115, 99, 114, 105, 112, 116, 58, 120]) = .tuple #[.string ⟨#[106, 97, 118, 97, 115, 99, 114, 105, 112, 116]⟩, .bool true] := by
  have h1 : colonL (stripL [32, 74, 97, 86, 97, 9, 115, 99, 114, 105, 112, 116, 58, 120]) = some 10 := by decide +kernel
  have h2 : lower ((stripL [32, 74, 97, 86, 97, 9, 115, 99, 114, 105, 112, 116, 58, 120]).take 10) = [106, 97, 118, 97, 115, 99, 114, 105, 112, 116] := by decide +kernel
  unfold schemeV
  rw [h1]
  simp only
  rw [h2]
theorem awake_encode : encodeM (mendL [97, 32, 98, 37, 50, 103, 34, 195, 169]) = [97, 37, 50, 48, 98, 37, 50, 53, 50, 103, 37, 50, 50, 37, 67, 51, 37, 65, 57] := by decide +kernel
theorem awake_dots : dotsM (mendL [47, 97, 47, 98, 47, 99, 47, 46, 47, 46, 46, 47, 46, 46, 47, 103]) = [47, 97, 47, 103] := by decide +kernel
set_option maxRecDepth 100000 in
set_option maxHeartbeats 2000000 in
/-- **awake.** -/
theorem awake_calls (w : World) (hT : Tb w) : Calls Tryd.prog 13 #[] w fun e w' => e = .returned (.bool true) ∧ Below w.heap.size w w' := by
  have H1 : Hid (Calls Tryd.prog 9 #[.string ⟨#[32, 74, 97, 86, 97, 9, 115, 99, 114, 105, 112, 116, 58, 120]⟩] w fun e W' => e = .returned (.tuple #[.string ⟨#[106, 97, 118, 97, 115, 99, 114, 105, 112, 116]⟩, .bool true]) ∧ Below w.heap.size w W') := by
    have h := scheme_calls [32, 74, 97, 86, 97, 9, 115, 99, 114, 105, 112, 116, 58, 120] w hT (by decide)
    rw [awake_scheme] at h
    exact h
  have H2 : Hid (∀ W, Below w.heap.size w W → Calls Tryd.prog 14 #[.string ⟨#[97, 32, 98, 37, 50, 103, 34, 195, 169]⟩] W fun e W' => e = .returned (.string ⟨#[97, 37, 50, 48, 98, 37, 50, 53, 50, 103, 37, 50, 50, 37, 67, 51, 37, 65, 57]⟩) ∧ Below W.heap.size W W') := fun W hb => by
    have h := encode_calls [97, 32, 98, 37, 50, 103, 34, 195, 169] W (hT.below hb) (by decide)
    rw [awake_encode] at h
    exact h
  have H3 : Hid (∀ W, Below w.heap.size w W → Calls Tryd.prog 15 #[.string ⟨#[47, 97, 47, 98, 47, 99, 47, 46, 47, 46, 46, 47, 46, 46, 47, 103]⟩] W fun e W' => e = .returned (.string ⟨#[47, 97, 47, 103]⟩) ∧ Below W.heap.size W W') := fun W hb => by
    have h := dots_calls [47, 97, 47, 98, 47, 99, 47, 46, 47, 46, 46, 47, 46, 46, 47, 103] W (hT.below hb) (by decide)
    rw [awake_dots] at h
    exact h
  clear hT
  go_enter Tryd.func13, Tryd.ntmps13
  go_wp2_with fail
  (go_at_call 9; refine H1.out.mono ?_; rintro e w1 ⟨rfl, hb1⟩)
  go_wp2_with fail
  (go_at_call 14; refine (H2.out _ hb1).mono ?_; rintro e w2 ⟨rfl, hb2⟩)
  have hb12 := hb1.trans (hb2.mono hb1.size)
  go_wp2_with fail
  (go_at_call 15; refine (H3.out _ hb12).mono ?_; rintro e w3 ⟨rfl, hb3⟩)
  go_wp2_with fail
  go_ret
  exact ⟨rfl, hb12.trans (hb3.mono hb12.size)⟩
theorem bulk_str {H : Type} (b : List UInt8) : Rows.uptoBulk (H := H) (.lit (.string b)) = b.length + 1 := rfl
end Go.Proofs.YtnnabheejojfdaaDoor.L

/- What is proved here: where the row's list of package-level variables is met, the tables of unicode/utf8 and the table of the schemes that may never be lie in memory as the contracts ask; and a world in which they lie so. -/
namespace Go.Proofs.YtnnabheejojfdaaDoor.L
open Go.ChangeShapes Go.WideShapes Go.ChangeAt Go.RowKit Go.Shelf Go.Proofs.YtnnabheejojfdaaDoor.U

def laidL3 : List (String × DataW Unit) := [("unicode/utf8.acceptRanges", Rows.laid_unicode_utf8_acceptRanges), ("sieve/link.never", Rows.laid_sieve_link_never), ("unicode/utf8.first", Rows.laid_unicode_utf8_first)]
theorem str_of {s : ByteArray} {l : List UInt8} (h : s.data.toList = l) : s = ⟨l.toArray⟩ := by subst h; exact (Lib.mk_data s).symm
set_option maxRecDepth 100000 in
theorem tabs3_of_laid {W : World} (h : laidMet Tryd.prog laidL3 W) : Tb W ∧ Nev W := by
  constructor
  · have h3 : Lib.VarReads Tryd.prog W "unicode/utf8.first" Lib.firstData := by
      have := Lib.laidMet.reads h (n := "unicode/utf8.first") (d := Rows.laid_unicode_utf8_first) (by simp [laidL3])
      rw [show Rows.laid_unicode_utf8_first = Lib.firstData from Pinned.utf8First_eq] at this
      exact this
    have h4 : Lib.VarReads Tryd.prog W "unicode/utf8.acceptRanges" Lib.acceptData := by
      have := Lib.laidMet.reads h (n := "unicode/utf8.acceptRanges") (d := Rows.laid_unicode_utf8_acceptRanges) (by simp [laidL3])
      rw [accept_eq] at this
      exact this
    exact utf8Tabs_of_readsT (ρ := u8ren) u8types u8extra h3 h4
  · obtain ⟨g, t, cs, fuel, p, hg, ht, hv, hd⟩ := Lib.laidMet.reads h (n := "sieve/link.never") (d := Rows.laid_sieve_link_never) (by simp [laidL3])
    obtain rfl : 0 = g := Option.some.inj ((show Tryd.prog.globalNamed "sieve/link.never" = some 0 by kernel_rfl).symm.trans hg)
    obtain rfl : 85 = t := Option.some.inj ((show (Tryd.prog.globals[0]?).map (·.type) = some 85 by kernel_rfl).symm.trans ht)
    obtain ⟨xs, m, _, hx, hl, hxl, hat⟩ := DataW.trod_array Tryd.underlying85 hd
    simp only [Prod.mk.injEq] at hx
    have k9 : Tryd.prog.cellsOf 9 = 1 := by kernel_rfl
    have hcl : cs.size = 7 := by rw [← Array.length_toList, hl]; kernel_rfl
    have hcell : ∀ i (hi : i < 7) (b : List UInt8), (xs.map (·.1))[i]? = some (.lit (.string b)) → W.cell? ⟨0, i, none⟩ = some (.string ⟨b.toArray⟩) := fun i hi b hb => by
      have h1 := hat i hi
      rw [k9, Nat.mul_one] at h1
      obtain ⟨x, hxi⟩ : ∃ x, xs[i]? = some x := ⟨xs[i]'(by omega), List.getElem?_eq_getElem (by omega)⟩
      rw [hxi] at h1
      obtain ⟨s, e1, e2, _⟩ := DataW.trod_string Tryd.underlying9 h1
      rw [List.getElem?_map, hxi, e2] at hb
      simp at hb
      rw [World.var?_cell hg hv i]
      have : cs.toList[i]? = some (.string s) := by
        have h2 : ((cs.toList.drop i).take 1)[0]? = some (.string s) := by rw [e1]; rfl
        simpa [List.getElem?_take, List.getElem?_drop] using h2
      rw [← Array.getElem?_toList, this, str_of hb]
    have hx1 := hx.1
    have get : ∀ (i : Nat) (b : List UInt8) (L : List (DataW Unit)), (Rows.laid_sieve_link_never : DataW Unit) = .agg L → L[i]? = some (DataW.lit (.string b)) → (xs.map (·.1))[i]? = some (DataW.lit (.string b)) := fun i b L hL hb => by
      have h2 := hx1.symm.trans hL
      injection h2 with h2
      rw [h2]; exact hb
    intro j hj
    have hks : j = 0 ∨ j = 1 ∨ j = 2 ∨ j = 3 ∨ j = 4 ∨ j = 5 ∨ j = 6 := by omega
    rcases hks with rfl | rfl | rfl | rfl | rfl | rfl | rfl
    all_goals exact hcell _ hj _ (get _ _ _ rfl rfl)
def nevCells : Array Value := (nevers.map fun n => Value.string ⟨n.toArray⟩).toArray
def withTabs3 (w : World) : World :=
  { withTabs w with heap := (withTabs w).heap.modify 0 fun
      | .cells _ t frozen => .cells nevCells t frozen
      | o => o }
end Go.Proofs.YtnnabheejojfdaaDoor.L
