/- What is proved here: laws and contracts of TPrint, TTabs, one behind the other (each says its own). -/
import Derived.Test.YtelfejbhlolppaaDoorTWrite
import Derived.Test.YtelfejbhlolppaaDoorRows
import Derived.PinnedBridge
import Derived.Lib.LaidU8T
import Derived.Lib.LaidTab
import Derived.Deep.DeepHandedRow
import Derived.ProofKit
import Derived.OpenShut
/- What is proved here: the contract of Print of token, and of lives of sievelaw07. -/
namespace Go.Proofs.YtelfejbhlolppaaDoor.T
open Go.RowKit N

def printB (t : Tok) (l : AL) : List UInt8 := match checkB t l with | true => lineB t l | false => []
theorem check_kind {t : Tok} {l : AL} (h : checkB t l = true) : 0 ≤ t.kind ∧ t.kind ≤ 4 := by
  unfold checkB at h
  rw [Bool.and_eq_true] at h
  have h := h.1
  unfold fitsB at h
  by_cases k0 : t.kind = 0
  · omega
  by_cases k1 : t.kind = 1
  · omega
  by_cases k2 : t.kind = 2
  · omega
  by_cases k3 : t.kind = 3
  · omega
  by_cases k4 : t.kind = 4
  · omega
  rw [if_neg k0, if_neg k1, if_neg k2, if_neg k3, if_neg k4] at h
  cases h

theorem Bld.new (w : World) : Bld w.heap.size w.heap.size [] (w.alloc (.cells #[.pointer none, .slice none 0 0] 62)) :=
  .inl ⟨Nat.le_refl _, .slice none 0 0, new_at _ _ _, World.ownsRowF_of (World.ownsRow_nil _ _ _ _), by simp [Value.ownBlock]⟩

set_option maxRecDepth 100000 in
set_option maxHeartbeats 2000000 in
/-- **Print of any token.** -/
theorem print_calls (t : Tok) (l : AL) (av : Value) (w : World) (hW : Words w) (hH : HasA w av l) (hl : SizesA l) (ht : t.Sizes) (hlen : sizeT t l ≤ 140737488355328) :
    Calls Tryd.prog 20 #[t.val av] w fun e w' => e = .returned (.tuple #[.string ⟨(printB t l).toArray⟩, .int .i64 (okZ (checkB t l))]) ∧ Below w.heap.size w w' := by
  have hfs : t.val av = .agg #[.int .i64 t.kind, .string t.name, .string t.text, av, .bool t.self, .int .i64 t.p0, .int .i64 t.p1, .int .i64 t.p2] := rfl
  obtain ⟨W0, hW0⟩ : ∃ W0, w.alloc (.cells #[.int .i64 t.kind, .string t.name, .string t.text, av, .bool t.self, .int .i64 t.p0, .int .i64 t.p1, .int .i64 t.p2] 28) = W0 := ⟨_, rfl⟩
  have b0 : Below w.heap.size w W0 := by rw [← hW0]; exact (Below.refl _ w).alloc (Nat.le_refl _) _
  have hz0 : w.heap.size < W0.heap.size := by rw [← hW0]; simp
  have hT0 : W0.heap[w.heap.size]? = some (.cells #[.int .i64 t.kind, .string t.name, .string t.text, av, .bool t.self, .int .i64 t.p0, .int .i64 t.p1, .int .i64 t.p2] 28 (0, 0)) := by rw [← hW0]; exact new_at _ _ _
  have t0 : W0.cell? ⟨w.heap.size, 0, none⟩ = some (.int .i64 t.kind) := cell_at hT0
  have t1 : W0.cell? ⟨w.heap.size, 1, none⟩ = some (.string t.name) := cell_at hT0
  have t2 : W0.cell? ⟨w.heap.size, 2, none⟩ = some (.string t.text) := cell_at hT0
  have t3 : W0.cell? ⟨w.heap.size, 3, none⟩ = some av := cell_at hT0
  have t4 : W0.cell? ⟨w.heap.size, 4, none⟩ = some (.bool t.self) := cell_at hT0
  have t5 : W0.cell? ⟨w.heap.size, 5, none⟩ = some (.int .i64 t.p0) := cell_at hT0
  have t6 : W0.cell? ⟨w.heap.size, 6, none⟩ = some (.int .i64 t.p1) := cell_at hT0
  have t7 : W0.cell? ⟨w.heap.size, 7, none⟩ = some (.int .i64 t.p2) := cell_at hT0
  have C1 : Hid (Calls Tryd.prog 10 #[.agg #[.int .i64 t.kind, .string t.name, .string t.text, av, .bool t.self, .int .i64 t.p0, .int .i64 t.p1, .int .i64 t.p2]] W0 fun e w' => e = .returned (.int .i64 (okZ (checkB t l))) ∧ Below W0.heap.size W0 w') := check_calls t l av W0 (hH.below b0) hl ht
  have HB0 : Hid (Below w.heap.size w W0) := b0
  have HK : Hid (checkB t l = true → 0 ≤ t.kind ∧ t.kind ≤ 4) := check_kind
  have HP : Hid (printB t l = match checkB t l with | true => lineB t l | false => []) := rfl
  have HW : Hid (Words w) := hW
  have HA : Hid (HasA w av l) := hH
  have HLL : Hid ((l.length : Int) ≤ 1000000000000) := hl.1
  have HT0 : Hid (W0.heap[w.heap.size]? = some (.cells #[.int .i64 t.kind, .string t.name, .string t.text, av, .bool t.self, .int .i64 t.p0, .int .i64 t.p1, .int .i64 t.p2] 28 (0, 0))) := hT0
  rw [hfs]
  clear hfs hH b0 hl ht hW hT0
  cases hP : checkB t l with
  | false =>
    rw [hP] at C1 HP
    go_enter Tryd.func20, Tryd.ntmps20
    go_wp2_with (go_at_call 10; refine C1.out.mono ?_; rintro e w2 ⟨rfl, hb2⟩; rw [show okZ false = 70 from rfl])
    all_goals go_ret2
    all_goals exact ⟨by rw [HP.out]; rfl, HB0.out.trans (hb2.mono HB0.out.size)⟩
  | true =>
    rw [hP] at C1 HP
    have hkk := HK.out hP
    go_enter Tryd.func20, Tryd.ntmps20
    go_wp2_with fail
    refine C1.out.mono ?_
    rintro e w2 ⟨rfl, hb2⟩
    rw [show okZ true = 0 from rfl]
    have hT2 := (hb2.block w.heap.size hz0).trans HT0.out
    have B2 := HB0.out.trans (hb2.mono HB0.out.size)
    have hz2 := hb2.size
    obtain ⟨W3, hW3⟩ : ∃ W3, w2.alloc (.cells #[.pointer none, .slice none 0 0] 62) = W3 := ⟨_, rfl⟩
    have hT3 : W3.heap[w.heap.size]? = some (.cells #[.int .i64 t.kind, .string t.name, .string t.text, av, .bool t.self, .int .i64 t.p0, .int .i64 t.p1, .int .i64 t.p2] 28 (0, 0)) := by
      rw [← hW3]; exact (Lib.alloc_old w2 _ _ (by omega)).trans hT2
    have B3 : Below w.heap.size w W3 := by rw [← hW3]; exact B2.alloc (by omega) _
    have h3 : Bld w2.heap.size w2.heap.size [] W3 := by rw [← hW3]; exact Bld.new w2
    have B3' : Below w2.heap.size w2 W3 := by rw [← hW3]; exact (Below.refl _ _).alloc (Nat.le_refl _) _
    have u0 : W3.cell? ⟨w.heap.size, 0, none⟩ = some (.int .i64 t.kind) := cell_at hT3
    have u1 : W3.cell? ⟨w.heap.size, 1, none⟩ = some (.string t.name) := cell_at hT3
    have u2 : W3.cell? ⟨w.heap.size, 2, none⟩ = some (.string t.text) := cell_at hT3
    have u3 : W3.cell? ⟨w.heap.size, 3, none⟩ = some av := cell_at hT3
    have u4 : W3.cell? ⟨w.heap.size, 4, none⟩ = some (.bool t.self) := cell_at hT3
    have u5 : W3.cell? ⟨w.heap.size, 5, none⟩ = some (.int .i64 t.p0) := cell_at hT3
    have u6 : W3.cell? ⟨w.heap.size, 6, none⟩ = some (.int .i64 t.p1) := cell_at hT3
    have u7 : W3.cell? ⟨w.heap.size, 7, none⟩ = some (.int .i64 t.p2) := cell_at hT3
    have C2 : Hid (Calls Tryd.prog 35 #[.pointer (some ⟨w2.heap.size, 0, none⟩), .agg #[.int .i64 t.kind, .string t.name, .string t.text, av, .bool t.self, .int .i64 t.p0, .int .i64 t.p1, .int .i64 t.p2]] W3 fun e w' => e = .returned (.tuple #[]) ∧ Bld w2.heap.size w2.heap.size ([] ++ lineB t l) w' ∧ Below w2.heap.size W3 w' ∧ Kept w2.heap.size W3 w') :=
      write_calls w2 w2.heap.size [] t l av W3 B3' (HW.out.below B2) (HA.out.below B2) h3 hkk HLL.out (by simpa using hlen)
    have HB3 : Hid (Below w.heap.size w W3) := B3
    have hz3 := B3'.size
    clear hT3 hT2 h3 B3 B3' t0 t1 t2 t3 t4 t5 t6 t7
    go_wp2_with fail
    refine C2.out.mono ?_
    rintro e w4 ⟨rfl, h4, b4, k4⟩
    have hz4 := b4.size
    clear u0 u1 u2 u3 u4 u5 u6 u7
    go_wp2_with (go_at_call 36; refine (string_calls w2.heap.size w2.heap.size _ w4 h4 (by omega)).mono ?_; rintro e w5 ⟨rfl, h5, b5, k5⟩)
    go_ret2
    exact ⟨by rw [HP.out]; rfl, HB3.out.trans ((b4.trans b5).mono (by omega))⟩

def aTok : Tok := ⟨1, ⟨#[97]⟩, ⟨#[]⟩, false, 0, 0, 0⟩
def aList : AL := [(⟨#[104, 114, 101, 102]⟩, ⟨#[120, 34, 121]⟩)]
def bTok : Tok := ⟨1, ⟨#[65]⟩, ⟨#[]⟩, false, 0, 0, 0⟩
theorem a_check : checkB aTok aList = true := by decide +kernel
theorem a_print : printB aTok aList = [115, 116, 97, 114, 116, 32, 34, 97, 34, 32, 34, 104, 114, 101, 102, 34, 61, 34, 120, 92, 34, 121, 34] := by decide +kernel
theorem b_check : checkB bTok [] = false := by decide +kernel

set_option maxRecDepth 100000 in
set_option maxHeartbeats 2000000 in
/-- **The document's examples are as it says.** -/
theorem lives_calls (w : World) (hW : Words w) : Calls Tryd.prog 9 #[] w fun e w' => e = .returned (.bool true) ∧ Below w.heap.size w w' := by
  obtain ⟨W1, hW1⟩ : ∃ W1, w.alloc (.cells #[.string ⟨#[104, 114, 101, 102]⟩, .string ⟨#[120, 34, 121]⟩] 36) = W1 := ⟨_, rfl⟩
  have hA1 : W1.heap[w.heap.size]? = some (.cells #[.string ⟨#[104, 114, 101, 102]⟩, .string ⟨#[120, 34, 121]⟩] 36 (0, 0)) := by rw [← hW1]; exact new_at _ _ _
  have b1 : Below w.heap.size w W1 := by rw [← hW1]; exact (Below.refl _ w).alloc (Nat.le_refl _) _
  have hH : HasA W1 (.slice (some ⟨w.heap.size, 0, none⟩) 1 1) aList := by
    refine .inr ⟨by simp [aList], w.heap.size, 0, 1, rfl, by simp [aList], fun i hi => ?_⟩
    obtain rfl : i = 0 := by simp [aList] at hi; omega
    exact ⟨cell_at hA1, cell_at hA1⟩
  have C1 : Hid (Calls Tryd.prog 20 #[.agg #[.int .i64 1, .string ⟨#[97]⟩, .string ⟨#[]⟩, .slice (some ⟨w.heap.size, 0, none⟩) 1 1, .bool false, .int .i64 0, .int .i64 0, .int .i64 0]] W1 fun e w' => e = .returned (.tuple #[.string ⟨#[115, 116, 97, 114, 116, 32, 34, 97, 34, 32, 34, 104, 114, 101, 102, 34, 61, 34, 120, 92, 34, 121, 34]⟩, .int .i64 0]) ∧ Below W1.heap.size W1 w') := by
    have h := print_calls aTok aList _ W1 (hW.below b1) hH ⟨by simp [aList], by intro x hx; simp [aList] at hx; subst hx; exact ⟨by decide, by decide⟩⟩ ⟨by decide, by decide⟩ (by decide)
    rw [a_check, a_print] at h
    exact h
  have C2 : Hid (∀ W, Calls Tryd.prog 10 #[.agg #[.int .i64 1, .string ⟨#[65]⟩, .string ⟨#[]⟩, .slice none 0 0, .bool false, .int .i64 0, .int .i64 0, .int .i64 0]] W fun e w' => e = .returned (.int .i64 70) ∧ Below W.heap.size W w') := fun W => by
    have h := check_calls bTok [] (.slice none 0 0) W (.inl ⟨rfl, .inl rfl⟩) ⟨by simp, by simp⟩ ⟨by decide, by decide⟩
    rw [b_check] at h
    exact h
  have HB1 : Hid (Below w.heap.size w W1) := b1
  clear hA1 b1 hH
  go_enter Tryd.func9, Tryd.ntmps9
  go_wp2_with (first
    | (go_at_call 20; refine C1.out.mono ?_; rintro e w2 ⟨rfl, hb2⟩)
    | (go_at_call 10; refine (C2.out _).mono ?_; rintro e w3 ⟨rfl, hb3⟩))
  all_goals go_ret
  all_goals exact ⟨ret_bool (by first | rfl | simp), (HB1.out.trans (hb2.mono HB1.out.size)).trans (hb3.mono (HB1.out.trans (hb2.mono HB1.out.size)).size)⟩
end Go.Proofs.YtelfejbhlolppaaDoor.T

/- What is proved here: where the row's list of package-level variables is met, the words of token lie in memory as the contracts ask; and a world in which they lie so. -/
namespace Go.Proofs.YtelfejbhlolppaaDoor.T
open Go.ChangeShapes Go.WideShapes Go.ChangeAt Go.RowKit Go.Shelf

theorem own : ownKnob Tryd.prog.godebug = none := by kernel_rfl
theorem laidOut : laidOutB Tryd.prog = true := by kernel_rfl
/-- What every row of this seat lists. -/
def laidL : List (String × DataW Unit) := [("sieve/token.words", Rows.laid_sieve_token_words)]

theorem str_of {s : ByteArray} {l : List UInt8} (h : s.data.toList = l) : s = ⟨l.toArray⟩ := by subst h; exact (byteArr_eta s).symm
set_option maxRecDepth 100000 in
theorem tabs_of_laid {W : World} (h : laidMet Tryd.prog laidL W) : Words W := by
  obtain ⟨g, t, cs, fuel, p, hg, ht, hv, hd⟩ := Lib.laidMet.reads h (n := "sieve/token.words") (d := Rows.laid_sieve_token_words) (by simp [laidL])
  obtain rfl : 0 = g := Option.some.inj ((show Tryd.prog.globalNamed "sieve/token.words" = some 0 by kernel_rfl).symm.trans hg)
  obtain rfl : 82 = t := Option.some.inj ((show (Tryd.prog.globals[0]?).map (·.type) = some 82 by kernel_rfl).symm.trans ht)
  obtain ⟨xs, m, _, hx, hl, hxl, hat⟩ := DataW.trod_array Tryd.underlying82 hd
  simp only [Prod.mk.injEq] at hx
  have k9 : Tryd.prog.cellsOf 9 = 1 := by kernel_rfl
  have hcl : cs.size = 5 := by rw [← Array.length_toList, hl]; kernel_rfl
  have hcell : ∀ i (hi : i < 5) (b : List UInt8), (Rows.laid_sieve_token_words : DataW Unit) = .agg (xs.map (·.1)) → (xs.map (·.1))[i]? = some (.lit (.string b)) → W.cell? ⟨0, i, none⟩ = some (.string ⟨b.toArray⟩) := fun i hi b _ hb => by
    have h1 := hat i hi
    rw [k9, Nat.mul_one] at h1
    obtain ⟨x, hxi⟩ : ∃ x, xs[i]? = some x := ⟨xs[i]'(by omega), List.getElem?_eq_getElem (by omega)⟩
    rw [hxi] at h1
    obtain ⟨s, e1, e2, _⟩ := DataW.trod_string Tryd.underlying9 h1
    rw [List.getElem?_map, hxi, e2] at hb
    simp at hb
    rw [World.var?_cell hg hv i]
    have : cs.toList[i]? = some (.string s) := by
      have h2 : ((cs.toList.drop i).take 1)[0]? = some (.string s) := by rw [e1]; rfl
      simpa [List.getElem?_take, List.getElem?_drop] using h2
    rw [← Array.getElem?_toList, this, str_of hb]
  have hx1 := hx.1
  have get : ∀ (i : Nat) (b : List UInt8) (L : List (DataW Unit)), (Rows.laid_sieve_token_words : DataW Unit) = .agg L → L[i]? = some (DataW.lit (.string b)) → (xs.map (·.1))[i]? = some (DataW.lit (.string b)) := fun i b L hL hb => by
    have h2 := hx1.symm.trans hL
    injection h2 with h2
    rw [h2]; exact hb
  have c0 := hcell 0 (by omega) [116, 101, 120, 116] hx1 (get 0 _ _ rfl rfl)
  have c1 := hcell 1 (by omega) [115, 116, 97, 114, 116] hx1 (get 1 _ _ rfl rfl)
  have c2 := hcell 2 (by omega) [101, 110, 100] hx1 (get 2 _ _ rfl rfl)
  have c3 := hcell 3 (by omega) [99, 111, 109, 109, 101, 110, 116] hx1 (get 3 _ _ rfl rfl)
  have c4 := hcell 4 (by omega) [100, 111, 99, 116, 121, 112, 101] hx1 (get 4 _ _ rfl rfl)
  exact ⟨C.cell_lt c0, c0, c1, c2, c3, c4⟩

/-- A world for the witness: the settled one, the table holding what its text lays. -/
def wordCells : Array Value := #[.string ⟨#[116, 101, 120, 116]⟩, .string ⟨#[115, 116, 97, 114, 116]⟩, .string ⟨#[101, 110, 100]⟩, .string ⟨#[99, 111, 109, 109, 101, 110, 116]⟩, .string ⟨#[100, 111, 99, 116, 121, 112, 101]⟩]
def withTabs (w : World) : World :=
  { w with heap := w.heap.modify 0 fun
      | .cells _ t frozen => .cells wordCells t frozen
      | o => o }

/-- A call that turns nothing that was there, gives back what the specification says and leaves its arguments: what the row asks behind it. -/
theorem post_below {H : Type} {enc : TypeId × Value → H} {P : Program} {f : Func} {s : ChangeSpec} {apart fresh handsOn : Bool} {W W' : World} {args : Array Value} {v : Value} {ds gs : List (DataW H)} {before pa pv : List MemPlace}
    (hW : DataW.Whole enc P f.params.toList s.vars apart W args.toList ds gs before)
    (hres : ∀ (b : Nat) (sp : Nat → Bool) (hd : Bool), DataW.TrodAll enc P W' b sp hd f.resultTypes.toList (v.resultList f.resultTypes.size) (s.fn H (ds ++ gs)).results [])
    (hargs : DataW.TrodAll enc P W' 0 (fun b => decide (b < W.heap.size)) true f.params.toList args.toList (s.fn H (ds ++ gs)).args pa)
    (hvars : DataW.TrodVars enc P W' (fun b => decide (b < W.heap.size)) s.vars (s.fn H (ds ++ gs)).vars pv)
    (hb : Below W.heap.size W W') : s.post enc P f apart fresh handsOn false W args v W' :=
  ⟨ds, gs, before, [], pa, pv, hW, hres _ _ _, hargs, hvars, hb.frame _, fun h => by cases h⟩
/-- What was handed in reads as it did. -/
theorem stays {H : Type} {enc : TypeId × Value → H} {W W' : World} {t : TypeId} {v : Value} {d : DataW H} {ps : List MemPlace} (hr : Tryd.prog.readableRec t = true) (hrow : t < Tryd.prog.types.size)
    (h : DataW.Trod enc Tryd.prog W 0 (fun _ => true) true t v d ps) (hb : Below W.heap.size W W') (hlt : ∀ x ∈ ps, x.block < W.heap.size) : DataW.Trod enc Tryd.prog W' 0 (fun b => decide (b < W.heap.size)) true t v d ps :=
  Below.trod laidOut hr hrow h hb hlt
end Go.Proofs.YtelfejbhlolppaaDoor.T
