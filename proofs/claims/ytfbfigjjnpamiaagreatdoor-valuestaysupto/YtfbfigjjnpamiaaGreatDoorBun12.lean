/- What is proved here: laws and contracts of VTabs, LpAllow, one behind the other (each says its own). -/
import Derived.Test.YtfbfigjjnpamiaaGreatDoorBun1
import Derived.Test.YtfbfigjjnpamiaaGreatDoorLpChk
import Derived.Test.YtfbfigjjnpamiaaGreatDoorVMath
import Derived.Lib.LaidTab
import Derived.Lib.ItoaNum
/- What is proved here: where the row's list of package-level variables is met, the tables of unicode/utf8 and the table of the schemes that may never be lie in memory as the contracts ask; and a world in which they lie so. -/
namespace Go.Proofs.YtfbfigjjnpamiaaGreatDoor.V
open Go.ChangeShapes Go.WideShapes Go.ChangeAt Go.RowKit Go.Shelf Go.Proofs.YtfbfigjjnpamiaaGreatDoor.U Go.Proofs.YtfbfigjjnpamiaaGreatDoor.L

def laidV : List (String × DataW Unit) := [("math/bits.deBruijn32tab", Rows.laid_math_bits_deBruijn32tab), ("math/bits.deBruijn64tab", Rows.laid_math_bits_deBruijn64tab), ("internal/strconv.uint64pow10", Rows.laid_internal_strconv_uint64pow10), ("unicode/utf8.acceptRanges", Rows.laid_unicode_utf8_acceptRanges), ("sieve/link.never", Rows.laid_sieve_link_never), ("unicode/utf8.first", Rows.laid_unicode_utf8_first)]
theorem str_of {s : ByteArray} {l : List UInt8} (h : s.data.toList = l) : s = ⟨l.toArray⟩ := by subst h; exact (Lib.mk_data s).symm
/-- The table of the powers of ten lies where it must. -/
abbrev Pow (w : World) : Prop := Lib.TabIs Tryz.prog w "internal/strconv.uint64pow10" .u64 Lib.pow10Tab
theorem pow_eq : (Rows.laid_internal_strconv_uint64pow10 : DataW Unit) = Lib.tabData .u64 Lib.pow10Tab := by kernel_rfl
set_option maxRecDepth 100000 in
theorem pow_of_laid {W : World} (h : laidMet Tryz.prog laidV W) : Pow W := by
  obtain ⟨g, t, cs, fuel, p, hg, ht, hv, hd⟩ := Lib.laidMet.reads h (n := "internal/strconv.uint64pow10") (d := Rows.laid_internal_strconv_uint64pow10) (by simp [laidV])
  obtain rfl : 2 = g := Option.some.inj ((show Tryz.prog.globalNamed "internal/strconv.uint64pow10" = some 2 by kernel_rfl).symm.trans hg)
  obtain rfl : 137 = t := Option.some.inj ((show (Tryz.prog.globals[2]?).map (·.type) = some 137 by kernel_rfl).symm.trans ht)
  rw [pow_eq] at hd
  unfold Pow Lib.TabIs
  rw [hv, ← Lib.cells_of_tab Tryz.underlying137 Tryz.underlying129 (by kernel_rfl) (by kernel_rfl) hd]
set_option maxRecDepth 100000 in
theorem tabs2_of_laid {W : World} (h : laidMet Tryz.prog laidV W) : Tb W ∧ Nev W := by
  constructor
  · have h3 : Lib.VarReads Tryz.prog W "unicode/utf8.first" Lib.firstData := by
      have := Lib.laidMet.reads h (n := "unicode/utf8.first") (d := Rows.laid_unicode_utf8_first) (by simp [laidV])
      rw [show Rows.laid_unicode_utf8_first = Lib.firstData from Pinned.utf8First_eq] at this
      exact this
    have h4 : Lib.VarReads Tryz.prog W "unicode/utf8.acceptRanges" Lib.acceptData := by
      have := Lib.laidMet.reads h (n := "unicode/utf8.acceptRanges") (d := Rows.laid_unicode_utf8_acceptRanges) (by simp [laidV])
      rw [accept_eq] at this
      exact this
    exact utf8Tabs_of_readsT (ρ := u8ren) u8types u8extra h3 h4
  · obtain ⟨g, t, cs, fuel, p, hg, ht, hv, hd⟩ := Lib.laidMet.reads h (n := "sieve/link.never") (d := Rows.laid_sieve_link_never) (by simp [laidV])
    obtain rfl : 0 = g := Option.some.inj ((show Tryz.prog.globalNamed "sieve/link.never" = some 0 by kernel_rfl).symm.trans hg)
    obtain rfl : 114 = t := Option.some.inj ((show (Tryz.prog.globals[0]?).map (·.type) = some 114 by kernel_rfl).symm.trans ht)
    obtain ⟨xs, m, _, hx, hl, hxl, hat⟩ := DataW.trod_array Tryz.underlying114 hd
    simp only [Prod.mk.injEq] at hx
    have k9 : Tryz.prog.cellsOf 9 = 1 := by kernel_rfl
    have hcl : cs.size = 7 := by rw [← Array.length_toList, hl]; kernel_rfl
    have hcell : ∀ i (hi : i < 7) (b : List UInt8), (xs.map (·.1))[i]? = some (.lit (.string b)) → W.cell? ⟨0, i, none⟩ = some (.string ⟨b.toArray⟩) := fun i hi b hb => by
      have h1 := hat i hi
      rw [k9, Nat.mul_one] at h1
      obtain ⟨x, hxi⟩ : ∃ x, xs[i]? = some x := ⟨xs[i]'(by omega), List.getElem?_eq_getElem (by omega)⟩
      rw [hxi] at h1
      obtain ⟨s, e1, e2, _⟩ := DataW.trod_string Tryz.underlying9 h1
      rw [List.getElem?_map, hxi, e2] at hb
      simp at hb
      rw [World.var?_cell hg hv i]
      have : cs.toList[i]? = some (.string s) := by
        have h2 : ((cs.toList.drop i).take 1)[0]? = some (.string s) := by rw [e1]; rfl
        simpa [List.getElem?_take, List.getElem?_drop] using h2
      rw [← Array.getElem?_toList, this, str_of hb]
    have hx1 := hx.1
    have get : ∀ (i : Nat) (b : List UInt8) (L : List (DataW Unit)), (Rows.laid_sieve_link_never : DataW Unit) = .agg L → L[i]? = some (DataW.lit (.string b)) → (xs.map (·.1))[i]? = some (DataW.lit (.string b)) := fun i b L hL hb => by
      have h2 := hx1.symm.trans hL
      injection h2 with h2
      rw [h2]; exact hb
    intro j hj
    have hks : j = 0 ∨ j = 1 ∨ j = 2 ∨ j = 3 ∨ j = 4 ∨ j = 5 ∨ j = 6 := by omega
    rcases hks with rfl | rfl | rfl | rfl | rfl | rfl | rfl
    all_goals exact hcell _ hj _ (get _ _ _ rfl rfl)
/-- All the tables that a value's calls read. -/
abbrev Vt (w : World) : Prop := Tb w ∧ Nev w ∧ Pow w
theorem tabsV_of_laid {W : World} (h : laidMet Tryz.prog laidV W) : Vt W := ⟨(tabs2_of_laid h).1, (tabs2_of_laid h).2, pow_of_laid h⟩
theorem bulk_str {H : Type} (b : List UInt8) : Rows.uptoBulk (H := H) (.lit (.string b)) = b.length + 1 := rfl
def nevCells : Array Value := (nevers.map fun n => Value.string ⟨n.toArray⟩).toArray
def powCells : Array Value := (Lib.pow10Tab.map fun z => Value.int .u64 z).toArray
def litCells (d : DataW Unit) : Array Value := match d with
  | .agg xs => (xs.map fun x => match x with | .lit (.int k z) => Value.int k z | _ => .int .u8 0).toArray
  | _ => #[]
def setCells (g : Nat) (cs : Array Value) (w : World) : World :=
  { w with heap := w.heap.modify g fun
      | .cells _ t frozen => .cells cs t frozen
      | o => o }
def withTabsV (w : World) : World :=
  setCells 5 (litCells Rows.laid_math_bits_deBruijn32tab) (setCells 6 (litCells Rows.laid_math_bits_deBruijn64tab) (setCells 2 powCells (setCells 0 nevCells (withTabs w))))
end Go.Proofs.YtfbfigjjnpamiaaGreatDoor.V

/- What is proved here: the contracts of link.Allowed and of what it calls: is a link's scheme one of some, or may it go without one? -/
namespace Go.Proofs.YtfbfigjjnpamiaaGreatDoor.L
open Go.RowKit Go.Shelf Go.Proofs.YtfbfigjjnpamiaaGreatDoor.N Go.Proofs.YtfbfigjjnpamiaaGreatDoor.U

/-- Texts that lie one behind the other, wherever that is; of no texts nothing is said. -/
def TextsAt (w : World) (a : Option Addr) (L : List (List UInt8)) : Prop := ∀ j, j < L.length → ∃ b off, a = some ⟨b, off, none⟩ ∧ w.cell? ⟨b, off + j, none⟩ = some (.string ⟨(L.getD j []).toArray⟩)
theorem TextsAt.below {w w' : World} {a : Option Addr} {L : List (List UInt8)} (h : TextsAt w a L) (hb : Below w.heap.size w w') : TextsAt w' a L := fun j hj => by
  obtain ⟨b, off, e, hc⟩ := h j hj
  exact ⟨b, off, e, (hb.cell (p := ⟨b, off + j, none⟩) (cell_lt hc)).trans hc⟩
/-- What Allowed answers. -/
def allowV (L : List (List UInt8)) (x : List UInt8) (rel : Bool) : Value :=
  if L.all checkOk then (match schemeL x with | none => .tuple #[.bool rel, .int .i64 0] | some s => .tuple #[.bool (L.contains s), .int .i64 0]) else .tuple #[.bool false, .int .i64 120]
set_option maxRecDepth 100000 in
set_option maxHeartbeats 1000000 in
theorem closure_calls (x s : List UInt8) (B : Nat) (w : World) (hc : w.cell? ⟨B, 0, none⟩ = some (.string ⟨s.toArray⟩)) : Calls Tryz.prog 91 #[.string ⟨x.toArray⟩, .pointer (some ⟨B, 0, none⟩)] w fun e w' => e = .returned (.bool (x == s)) ∧ w' = w := by
  go_enter Tryz.func91, Tryz.ntmps91
  go_wp2
  go_ret
  exact ⟨rfl, rfl⟩
/-- Where the first one stands; -1: nowhere. -/
def findZ (L : List (List UInt8)) (s : List UInt8) : Int := if L.contains s then ((L.takeWhile fun x => !(x == s)).length : Int) else -1
theorem find_at (L : List (List UInt8)) (s : List UInt8) (k : Nat) (hk : k < L.length) (h : (L.getD k [] == s) = true) : L.contains s = true := by
  have e : L.getD k [] = s := by simpa using h
  have e2 : L.getD k [] = L[k] := by simp [hk]
  rw [List.contains_eq_mem, decide_eq_true_iff, ← e, e2]
  exact List.getElem_mem hk
theorem find_no (L : List (List UInt8)) (s : List UInt8) (hp : ∀ j, j < L.length → (L.getD j [] == s) = false) : L.contains s = false := by
  rw [List.contains_eq_mem, decide_eq_false_iff_not]
  intro hm
  obtain ⟨j, hj, e⟩ := List.getElem_of_mem hm
  have h := hp j hj
  have e2 : L.getD j [] = s := by simp [hj, e]
  rw [e2] at h
  simp at h
set_option maxRecDepth 100000 in
set_option maxHeartbeats 2000000 in
theorem indexFunc_calls (L : List (List UInt8)) (s : List UInt8) (a : Option Addr) (cap B : Nat) (w : World) (hL : TextsAt w a L) (hl : L.length ≤ 100000000) (_hcap : L.length ≤ cap) (hc : w.cell? ⟨B, 0, none⟩ = some (.string ⟨s.toArray⟩)) :
    Calls Tryz.prog 106 #[.slice a L.length cap, .func (.func 91) #[] #[.pointer (some ⟨B, 0, none⟩)]] w fun e w' => (∃ z : Int, e = .returned (.int .i64 z) ∧ decide (z ≥ 0) = L.contains s) ∧ w' = w := by
  have HLT := hid_of hL
  clear hL
  go_enter Tryz.func106, Tryz.ntmps106
  go_wp2_with fail
  go_loopw [8] (fun vi wr => ∃ k : Nat, k ≤ L.length ∧ vi = .int .i64 k ∧ wr = w ∧ Hid (∀ j, j < k → (L.getD j [] == s) = false)) (fun vi _ => L.length - (intOf vi).toNat)
  case atStart => exact ⟨0, by omega, rfl, by trivial, fun j hj => by omega⟩
  case round =>
    obtain ⟨k, hk, rfl, hwr, hP⟩ := hrel
    obtain rfl : w = wr := hwr.symm
    clear hwr
    by_cases hlt : k < L.length
    · obtain ⟨b, off, rfl, hcell⟩ := HLT.out k hlt
      have HF := hid_of (find_at L s k hlt)
      obtain ⟨x, hx⟩ : ∃ x, L.getD k [] = x := ⟨_, rfl⟩
      rw [hx] at hcell HF
      have HX := hid_of hx
      have HC := hid_of (closure_calls x s B w hc)
      clear hx
      cases hb : (x == s) with
      | true =>
        rw [hb] at HC
        have HV := hid_of (HF.out hb)
        clear HF hb hP
        go_wp2_with (go_at_call 91; refine HC.out.mono ?_; rintro e w' ⟨rfl, hx⟩; obtain rfl : w = w' := hx.symm)
        go_ret
        exact ⟨⟨k, rfl, by rw [HV.out]; exact decide_eq_true (by omega)⟩, rfl⟩
      | false =>
        rw [hb] at HC
        have HP2 : Hid (∀ j, j < k + 1 → (L.getD j [] == s) = false) := fun j hj => by
          by_cases e : j = k
          · rw [e, HX.out]; exact hb
          · exact hP.out j (by omega)
        clear HF hb hP
        go_wp2_with (go_at_call 91; refine HC.out.mono ?_; rintro e w' ⟨rfl, hx⟩; obtain rfl : w = w' := hx.symm)
        exact ⟨⟨k + 1, by omega, by go_num, by trivial, HP2⟩, by simp [intOf]; omega⟩
    · obtain rfl : k = L.length := by omega
      have HV := hid_of (find_no L s hP.out)
      go_wp2
      go_ret
      exact ⟨⟨-1, rfl, by rw [HV.out]; rfl⟩, rfl⟩
set_option maxRecDepth 100000 in
set_option maxHeartbeats 2000000 in
theorem containsFunc_calls (L : List (List UInt8)) (s : List UInt8) (a : Option Addr) (cap B : Nat) (w : World) (hL : TextsAt w a L) (hl : L.length ≤ 100000000) (hcap : L.length ≤ cap) (hc : w.cell? ⟨B, 0, none⟩ = some (.string ⟨s.toArray⟩)) :
    Calls Tryz.prog 90 #[.slice a L.length cap, .func (.func 91) #[] #[.pointer (some ⟨B, 0, none⟩)]] w fun e w' => e = .returned (.bool (L.contains s)) ∧ w' = w := by
  have HI := hid_of (indexFunc_calls L s a cap B w hL hl hcap hc)
  clear hL hc
  go_enter Tryz.func90, Tryz.ntmps90
  go_wp2_with fail
  (go_at_call 106; refine HI.out.mono ?_; rintro e w' ⟨⟨z, rfl, hz⟩, hx⟩; obtain rfl : w = w' := hx.symm)
  have HZ := hid_of hz
  clear hz
  go_wp2_with fail
  go_ret
  exact ⟨by rw [← HZ.out]; rfl, rfl⟩
set_option maxRecDepth 100000 in
set_option maxHeartbeats 4000000 in
/-- **Allowed.** -/
theorem allowed_calls (bs : List UInt8) (L : List (List UInt8)) (a : Option Addr) (cap : Nat) (rel : Bool) (w : World) (hT : Tb w) (hN : Nev w) (hL : TextsAt w a L) (hbs : bs.length ≤ 10000000000) (hl : L.length ≤ 100000000) (hcap : L.length ≤ cap) (hx : ∀ x ∈ L, x.length ≤ 1000000000) :
    Calls Tryz.prog 69 #[.string ⟨bs.toArray⟩, .slice a L.length cap, .bool rel] w fun e W' => e = .returned (allowV L (stripL bs) rel) ∧ Below w.heap.size w W' := by
  have HLT := hid_of hL
  have HT := hid_of hT
  have HN := hid_of hN
  have HX := hid_of hx
  clear hL hT hN hx
  go_enter Tryz.func69, Tryz.ntmps69
  go_wp2_with fail
  go_loopw [15] (fun vi wr => ∃ k : Nat, k ≤ L.length ∧ vi = .int .i64 k ∧ Hid (Below w.heap.size w wr) ∧ Hid ((L.take k).all checkOk = true)) (fun vi _ => L.length - (intOf vi).toNat)
  case atStart => exact ⟨0, by omega, rfl, Below.refl _ _, by show _ = _; simp⟩
  case round =>
    obtain ⟨k, hk, rfl, hB, hP⟩ := hrel
    have zr := hB.out.size
    by_cases hlt : k < L.length
    · obtain ⟨b, off, rfl, hcell⟩ := HLT.out.below hB.out k hlt
      have hxl : (L.getD k []).length ≤ 1000000000 := by
        have e : L.getD k [] = L[k] := by simp [hlt]
        rw [e]; exact HX.out _ (List.getElem_mem hlt)
      have HTK : Hid ((L.take (k + 1)).all checkOk = checkOk (L.getD k [])) := by
        show _ = _
        rw [List.take_succ_eq_append_getElem hlt, List.all_append, hP.out]
        simp [hlt]
      have HAL : Hid (checkOk (L.getD k []) = false → L.all checkOk = false) := fun h => by
        rw [List.all_eq_false]
        refine ⟨L[k], List.getElem_mem hlt, ?_⟩
        have e : L.getD k [] = L[k] := by simp [hlt]
        rw [← e, h]; decide
      obtain ⟨x, hx⟩ : ∃ x, L.getD k [] = x := ⟨_, rfl⟩
      rw [hx] at hcell hxl HTK HAL
      have HC := hid_of (check_calls x wr (HN.out.below hB.out) hxl)
      have HCZ : Hid (checkZ x = if checkOk x then 0 else 120) := rfl
      clear hx
      cases hb : checkOk x with
      | true =>
        rw [hb] at HCZ HTK
        have e0 : checkZ x = 0 := HCZ.out
        rw [e0] at HC
        clear e0 HCZ HAL hb hP
        go_wp2_with (go_at_call 88; refine HC.out.mono ?_; rintro e w' ⟨rfl, hbc⟩)
        exact ⟨⟨k + 1, by omega, by go_num, hB.out.trans (hbc.mono zr), HTK⟩, by simp [intOf]; omega⟩
      | false =>
        rw [hb] at HCZ
        have e0 : checkZ x = 120 := HCZ.out
        rw [e0] at HC
        have HV : Hid (allowV L (stripL bs) rel = .tuple #[.bool false, .int .i64 120]) := by
          show _ = _
          unfold allowV
          rw [HAL.out hb]; rfl
        clear e0 HCZ HAL hb hP HTK
        go_wp2_with (go_at_call 88; refine HC.out.mono ?_; rintro e w' ⟨rfl, hbc⟩)
        go_ret2
        exact ⟨by rw [HV.out]; rfl, hB.out.trans (hbc.mono zr)⟩
    · obtain rfl : k = L.length := by omega
      have HALL : Hid (L.all checkOk = true) := by have := hP.out; rw [List.take_length] at this; exact this
      have HS := hid_of (scheme_calls bs wr (HT.out.below hB.out) hbs)
      have HLW := hid_of (HLT.out.below hB.out)
      clear hP
      cases hc : schemeL (stripL bs) with
      | none =>
        have e0 : schemeV (stripL bs) = .tuple #[.string ⟨#[]⟩, .bool false] := by
          unfold schemeL at hc
          unfold schemeV
          cases h : colonL (stripL bs) with
          | none => rfl
          | some n => rw [h] at hc; cases hc
        rw [e0] at HS
        have HV : Hid (allowV L (stripL bs) rel = .tuple #[.bool rel, .int .i64 0]) := by
          show _ = _
          unfold allowV
          rw [HALL.out, hc]; rfl
        clear hc e0
        go_wp2_with (go_at_call 89; refine HS.out.mono ?_; rintro e w' ⟨rfl, hbc⟩)
        go_ret2
        exact ⟨by rw [HV.out]; rfl, (hB.out.trans (hbc.mono zr)).alloc (by have := hbc.size; omega) _⟩
      | some s =>
        have e0 : schemeV (stripL bs) = .tuple #[.string ⟨s.toArray⟩, .bool true] := by
          unfold schemeL at hc
          unfold schemeV
          cases h : colonL (stripL bs) with
          | none => rw [h] at hc; cases hc
          | some n => rw [h] at hc; simp at hc; rw [← hc]
        rw [e0] at HS
        have HV : Hid (allowV L (stripL bs) rel = .tuple #[.bool (L.contains s), .int .i64 0]) := by
          show _ = _
          unfold allowV
          rw [HALL.out, hc]; rfl
        clear hc e0
        go_wp2_with fail
        (go_at_call 89; refine HS.out.mono ?_; rintro e w5 ⟨rfl, hbc⟩)
        have z5 := hbc.size
        have hba := (Below.refl w5.heap.size w5).alloc (Nat.le_refl _) (.cells #[.string ⟨s.toArray⟩] 9)
        have HCF := hid_of (containsFunc_calls L s a cap w5.heap.size (w5.alloc (.cells #[.string ⟨s.toArray⟩] 9)) ((HLW.out.below hbc).below hba) hl hcap (cell_made _ _ _))
        obtain ⟨cc, hcc⟩ : ∃ cc, L.contains s = cc := ⟨_, rfl⟩
        rw [hcc] at HCF HV
        clear hba hcc
        go_wp2_with fail
        (go_at_call 90; refine HCF.out.mono ?_; rintro e w' ⟨rfl, hx⟩; obtain rfl := hx)
        go_wp2_with fail
        go_ret2
        exact ⟨by rw [HV.out]; rfl, (hB.out.trans (hbc.mono zr)).alloc (by omega) _⟩
end Go.Proofs.YtfbfigjjnpamiaaGreatDoor.L
