/- What is proved here: laws and contracts of LkAttrs, Tabs, Open, LkTwoR, LkEnc, one behind the other (each says its own). -/
import Derived.BigQuiet
import Derived.Test.YtkbegfdbfmfedaaGreatDoorBun11
import Derived.Test.YtkbegfdbfmfedaaGreatDoorRows
import Derived.Test.YtkbegfdbfmfedaaGreatDoorIter
import Derived.Test.YtkbegfdbfmfedaaGreatDoorBun4
import Derived.PinnedBridge
import Derived.Lib.LaidU8T
import Derived.Lib.LaidTab
import Derived.Deep.DeepHandedRow
import Derived.ProofKit
import Derived.OpenShut
import Derived.Deep.SlicePairs
import Derived.Lib.QuietBelow
import Derived.Lib.SlBytesConst
import Derived.Test.YtkbegfdbfmfedaaGreatDoorLkEncM
/- What is proved here: the contract of the law's attrs of layer 12: the same pairs are the same. -/
namespace Go.Proofs.YtkbegfdbfmfedaaGreatDoor.L
open Go.RowKit Go.Shelf Go.Proofs.YtkbegfdbfmfedaaGreatDoor.N Go.Proofs.YtkbegfdbfmfedaaGreatDoor.U

set_option maxRecDepth 100000 in
set_option maxHeartbeats 4000000 in
theorem attrs_calls (l : List Two) (a b : Option Addr) (ca cb : Nat) (w : World) (hA : TwosAt w a l) (hB : TwosAt w b l) (hl : l.length ≤ 1000000000000) : Calls Tryz.prog 14 #[.slice a l.length ca, .slice b l.length cb] w fun e W' => e = .returned (.bool true) ∧ Below w.heap.size w W' := by
  have HA := hid_of hA
  have HB := hid_of hB
  clear hA hB
  go_enter Tryz.func14, Tryz.ntmps14
  go_wp2_with fail
  go_loopw [13] (fun vi wr => ∃ k : Nat, k ≤ l.length ∧ vi = .int .i64 k ∧ Hid (Below w.heap.size w wr)) (fun vi _ => l.length - (intOf vi).toNat)
  case atStart => exact ⟨0, by omega, rfl, Below.refl _ _⟩
  case round =>
    obtain ⟨k, hk, rfl, hBw⟩ := hrel
    by_cases hlt : k < l.length
    · obtain ⟨b1, o1, rfl, c0, c1⟩ := HA.out.below hBw.out k hlt
      obtain ⟨b2, o2, rfl, d0, d1⟩ := HB.out.below hBw.out k hlt
      generalize (⟨(l.getD k ([], [])).1.toArray⟩ : ByteArray) = f at *
      generalize (⟨(l.getD k ([], [])).2.toArray⟩ : ByteArray) = g at *
      have hf : (f.toList == f.toList) = true := by simp
      have hg : (g.toList == g.toList) = true := by simp
      go_wp2_with fail
      go_quiet (fail)
      go_wp2_with fail
      exact ⟨⟨k + 1, by omega, by go_num, hBw.out.trans ((below_drewN _ _).mono hBw.out.size)⟩, by simp [intOf]; omega⟩
    · obtain rfl : k = l.length := by omega
      go_wp2_with fail
      go_ret
      exact ⟨rfl, hBw.out⟩
end Go.Proofs.YtkbegfdbfmfedaaGreatDoor.L

/- What is proved here: where the row's list of package-level variables is met, the two tables of unicode/utf8 lie in memory as the contracts ask; and a world in which they lie so. -/
namespace Go.Proofs.YtkbegfdbfmfedaaGreatDoor.U
open Go.RowKit Go.Shelf

theorem own : ownKnob Tryz.prog.godebug = none := by kernel_rfl
def u8ren : Ren := ⟨fun x => x, fun n => if n = 5 then 5 else if n = 119 then 146 else if n = 138 then 148 else 149, fun n => if n = 3 then Tryz.lays32_ren.g 2 else Tryz.lays32_ren.g 3⟩
theorem u8types : U8Types Tryz.prog u8ren := ⟨by kernel_rfl, by kernel_rfl, by kernel_rfl, by kernel_rfl⟩
theorem u8extra : U8Extra Tryz.prog u8ren := ⟨by kernel_rfl, by kernel_rfl, by kernel_rfl, by kernel_rfl, by kernel_rfl, by kernel_rfl, by kernel_rfl⟩
/-- What every row of this seat lists. -/
def laidL : List (String × DataW Unit) := [("unicode/utf8.acceptRanges", Rows.laid_unicode_utf8_acceptRanges), ("unicode/utf8.first", Rows.laid_unicode_utf8_first)]
theorem accept_eq : (Rows.laid_unicode_utf8_acceptRanges : DataW Unit) = Lib.acceptData := by kernel_rfl
theorem tabs_of_laid {W : World} (h : laidMet Tryz.prog laidL W) : Lib.Utf8Tabs (Tryz.lays32_ren.g 2) (Tryz.lays32_ren.g 3) W := by
  have h3 : Lib.VarReads Tryz.prog W "unicode/utf8.first" Lib.firstData := by
    have := Lib.laidMet.reads h (n := "unicode/utf8.first") (d := Rows.laid_unicode_utf8_first) (by simp [laidL])
    rw [show Rows.laid_unicode_utf8_first = Lib.firstData from Pinned.utf8First_eq] at this
    exact this
  have h4 : Lib.VarReads Tryz.prog W "unicode/utf8.acceptRanges" Lib.acceptData := by
    have := Lib.laidMet.reads h (n := "unicode/utf8.acceptRanges") (d := Rows.laid_unicode_utf8_acceptRanges) (by simp [laidL])
    rw [accept_eq] at this
    exact this
  exact utf8Tabs_of_readsT (ρ := u8ren) u8types u8extra h3 h4

/-- A world for the witness: the settled one, the two tables holding what their texts lay. -/
def firstCells : Array Value := (Pinned.utf8FirstZ.map fun n : Nat => Value.int .u8 (n : Int)).toArray
def acceptCells : Array Value := ([128, 191, 160, 191, 128, 159, 144, 191, 128, 143, 0, 0, 0, 0, 0, 0, 0, 0, 0, 0, 0, 0, 0, 0, 0, 0, 0, 0, 0, 0, 0, 0].map fun n : Nat => Value.int .u8 (n : Int)).toArray
def withTabs (w : World) : World :=
  { w with heap := (w.heap.modify (Tryz.lays32_ren.g 2) fun
      | .cells _ t frozen => .cells firstCells t frozen
      | o => o).modify (Tryz.lays32_ren.g 3) fun
      | .cells _ t frozen => .cells acceptCells t frozen
      | o => o }

/-- A call that turns nothing that was there, gives back what the specification says and leaves its arguments: what the row asks behind it. -/
theorem post_below {H : Type} {enc : TypeId × Value → H} {P : Program} {f : Func} {s : ChangeSpec} {apart fresh handsOn : Bool} {W W' : World} {args : Array Value} {v : Value} {ds gs : List (DataW H)} {before pa pv : List MemPlace}
    (hW : DataW.Whole enc P f.params.toList s.vars apart W args.toList ds gs before)
    (hres : ∀ (b : Nat) (sp : Nat → Bool) (hd : Bool), DataW.TrodAll enc P W' b sp hd f.resultTypes.toList (v.resultList f.resultTypes.size) (s.fn H (ds ++ gs)).results [])
    (hargs : DataW.TrodAll enc P W' 0 (fun b => decide (b < W.heap.size)) true f.params.toList args.toList (s.fn H (ds ++ gs)).args pa)
    (hvars : DataW.TrodVars enc P W' (fun b => decide (b < W.heap.size)) s.vars (s.fn H (ds ++ gs)).vars pv)
    (hb : Below W.heap.size W W') : s.post enc P f apart fresh handsOn false W args v W' :=
  ⟨ds, gs, before, [], pa, pv, hW, hres _ _ _, hargs, hvars, hb.frame _, fun h => by cases h⟩

end Go.Proofs.YtkbegfdbfmfedaaGreatDoor.U

/- What is proved here: what a slice of integers or bytes that was handed in reads as in memory, how many values its datum holds at least, and that reading goes on where nothing that was there is turned. -/
namespace Go.Proofs.YtkbegfdbfmfedaaGreatDoor.U
open Go.ChangeShapes Go.WideShapes Go.ChangeAt Go.RowKit

theorem bulk_one {H : Type} (d : DataW H) : 1 ≤ Rows.uptoBulk d := by
  cases d with
  | lit l => cases l <;> simp [Rows.uptoBulk]
  | nil => simp [Rows.uptoBulk]
  | ptr d => simp [Rows.uptoBulk]
  | slice elems spare => simp [Rows.uptoBulk]
  | agg parts => simp [Rows.uptoBulk]
  | iface t d => simp [Rows.uptoBulk]
  | map entries => simp [Rows.uptoBulk]
  | held h => simp [Rows.uptoBulk]
theorem bulk_length {H : Type} (l : List (DataW H)) : l.length ≤ Rows.uptoBulkAll l := by
  induction l with
  | nil => simp [Rows.uptoBulkAll]
  | cons x r ih => have := bulk_one x; simp only [Rows.uptoBulkAll, List.length_cons]; omega

theorem wf_bounds {k : IntKind} {z : Int} (h : (Lit.int k z).wf = true) : k.min ≤ z ∧ z ≤ k.max := by
  simpa [Lit.wf] using h

/-- A slice of integers that came in. -/
theorem ints_of_read {H : Type} {enc : TypeId × Value → H} {W : World} {t e : TypeId} {k : IntKind} {v : Value} {d : DataW H} {p : List MemPlace} (ht : Tryz.prog.underlying t = some (.slice e)) (he : Tryz.prog.underlying e = some (.int k)) (hc : Tryz.prog.cellsOf e = 1)
    (hv : ∃ a len cap, v = .slice a len cap) (h : DataW.Trod enc Tryz.prog W 0 (fun _ => true) true t v d p) :
    ∃ zs : List Int, HasI k W v zs ∧ zs.length ≤ Rows.uptoBulk d ∧ ∀ z ∈ zs, (Lit.int k z).wf = true := by
  obtain ⟨a0, len0, cap0, rfl⟩ := hv
  obtain ⟨fuel, hf⟩ := h
  rcases open_ints ht he hc hf with ⟨hcs, hx⟩ | ⟨a, len, cap, zs, hcs, _, hl, _, hz, hx, hcell, hwz⟩
  · refine ⟨[], .inl ⟨rfl, a0, cap0, ?_⟩, by simp, by simp⟩
    simp [Value.cells] at hcs
    obtain ⟨rfl, rfl, rfl⟩ := hcs
    rfl
  · have hcs' : Value.slice a0 len0 cap0 = .slice (some a) len cap := by simpa [Value.cells] using hcs
    cases hcs'
    simp only [if_true] at hz
    simp only [Prod.mk.injEq] at hx
    have hlen : (zs.take len0).length = len0 := by simp; omega
    refine ⟨zs.take len0, ?_, ?_, fun z hm => hwz z (List.mem_of_mem_take hm)⟩
    · by_cases h0 : len0 = 0
      · subst h0; exact .inl ⟨by simp, some a, cap0, rfl⟩
      · obtain ⟨b, off, spot⟩ := a
        have hsp : spot = none := by
          have := hcell 0 (by omega)
          cases spot with
          | none => rfl
          | some s => simp [World.cell?, Addr.add] at this; split at this <;> cases this
        subst hsp
        refine .inr ⟨by rw [hlen]; omega, b, off, cap0, by rw [hlen], by rw [hlen]; exact hl, fun j hj => ?_⟩
        rw [hlen] at hj
        have := hcell j (by omega)
        rw [show zAt (zs.take len0) j = zs.getD j 0 by simp [zAt, hj, List.getD]]
        have ea : (⟨b, off, none⟩ : Addr).add j = ⟨b, off + j, none⟩ := by unfold Addr.add; split <;> simp_all
        rw [ea] at this
        exact this
    · rw [hlen, hx.1]
      have := bulk_length (H := H) (lits k (zs.take len0))
      simp only [Rows.uptoBulk]
      have hl2 : (lits (H := H) k (zs.take len0)).length = len0 := by simp [lits]; omega
      omega

/-- A nil slice that came in has no capacity. -/
theorem nil_of_read {H : Type} {enc : TypeId × Value → H} {W : World} {t e : TypeId} {k : IntKind} {v : Value} {d : DataW H} {p : List MemPlace} (ht : Tryz.prog.underlying t = some (.slice e)) (he : Tryz.prog.underlying e = some (.int k)) (hc : Tryz.prog.cellsOf e = 1)
    (hv : ∃ a len cap, v = .slice a len cap) (h : DataW.Trod enc Tryz.prog W 0 (fun _ => true) true t v d p) : v = .slice none 0 0 ∨ ∃ ad len cap, v = .slice (some ad) len cap := by
  obtain ⟨a0, len0, cap0, rfl⟩ := hv
  obtain ⟨fuel, hf⟩ := h
  rcases open_ints ht he hc hf with ⟨hcs, _⟩ | ⟨a, len, cap, zs, hcs, _⟩
  · left; simpa [Value.cells] using hcs
  · right; exact ⟨a, len, cap, by simpa [Value.cells] using hcs⟩
theorem laidOut : laidOutB Tryz.prog = true := by kernel_rfl
/-- What was handed in reads as it did. -/
theorem stays {H : Type} {enc : TypeId × Value → H} {W W' : World} {t : TypeId} {v : Value} {d : DataW H} {ps : List MemPlace} (hr : Tryz.prog.readableRec t = true) (hrow : t < Tryz.prog.types.size)
    (h : DataW.Trod enc Tryz.prog W 0 (fun _ => true) true t v d ps) (hb : Below W.heap.size W W') (hlt : ∀ x ∈ ps, x.block < W.heap.size) : DataW.Trod enc Tryz.prog W' 0 (fun b => decide (b < W.heap.size)) true t v d ps :=
  Below.trod laidOut hr hrow h hb hlt

/-- Bytes that came in. -/
theorem bytes_of_read {H : Type} {enc : TypeId × Value → H} {W : World} {v : Value} {d : DataW H} {p : List MemPlace} (hc : Tryz.prog.cellsOf 5 = 1)
    (hv : ∃ a len cap, v = .slice a len cap) (h : DataW.Trod enc Tryz.prog W 0 (fun _ => true) true 45 v d p) :
    ∃ bs : List UInt8, HasB W.heap.size W v bs ∧ bs.length ≤ Rows.uptoBulk d := by
  obtain ⟨zs, hz, hl, hw⟩ := ints_of_read Tryz.underlying45 Tryz.underlying5 hc hv h
  refine ⟨zs.map fun z => UInt8.ofNat z.toNat, ?_, by simpa using hl⟩
  rcases hz with ⟨rfl, a, cap, rfl⟩ | ⟨hp, b, off, cap, rfl, hcap, hx⟩
  · exact .inl ⟨rfl, a, cap, rfl⟩
  · refine .inr ⟨by simpa using hp, b, off, cap, by simp, by simpa using hcap, cell_lt (hx 0 hp), fun j hj => ?_⟩
    simp only [List.length_map] at hj
    rw [hx j hj]
    have hm : zAt zs j ∈ zs := by simp [zAt, hj]
    have hb := wf_bounds (hw _ hm)
    simp [IntKind.min, IntKind.max, IntKind.signed, IntKind.bits] at hb
    have : ((byteAt (zs.map fun z => UInt8.ofNat z.toNat) j : Nat) : Int) = zAt zs j := by
      have e1 : byteAt (zs.map fun z => UInt8.ofNat z.toNat) j = (zAt zs j).toNat % 256 := by simp [byteAt, zAt, hj]
      rw [e1]; omega
    rw [this]

end Go.Proofs.YtkbegfdbfmfedaaGreatDoor.U

/- What is proved here: a row of structs of two texts that came in. -/
namespace Go.Proofs.YtkbegfdbfmfedaaGreatDoor.L
open Go.RowKit Go.Shelf Go.Proofs.YtkbegfdbfmfedaaGreatDoor.N Go.Proofs.YtkbegfdbfmfedaaGreatDoor.U

theorem bulk_twos {H : Type} (D0 D1 : Nat → DataW H) (q : Nat → Two) : ∀ L : List Nat, (∀ i ∈ L, (q i).1.length ≤ Rows.uptoBulk (D0 i) ∧ (q i).2.length ≤ Rows.uptoBulk (D1 i)) → L.length ≤ Rows.uptoBulkAll (L.map fun i => DataW.agg [D0 i, D1 i]) ∧ ∀ x ∈ L.map q, x.1.length + x.2.length ≤ Rows.uptoBulkAll (L.map fun i => DataW.agg [D0 i, D1 i])
  | [], _ => ⟨by simp, fun x hx => by simp at hx⟩
  | i :: r, h => by
    obtain ⟨h1, h1'⟩ := bulk_twos D0 D1 q r (fun j hj => h j (by simp [hj]))
    have h2 := h i (by simp)
    simp only [List.map_cons, List.length_cons, Rows.uptoBulkAll, Rows.uptoBulk]
    refine ⟨by omega, fun x hx => ?_⟩
    rcases List.mem_cons.1 hx with rfl | hx
    · omega
    · have := h1' x hx; omega
set_option maxRecDepth 100000 in
theorem twos_of_trod {H : Type} {enc : TypeId × Value → H} {W : World} {v : Value} {d : DataW H} {p : List MemPlace} {fuel : Nat} (hf : DataW.trod enc Tryz.prog W 0 (fun _ => true) true fuel 32 [v] = some (d, p)) :
    ∃ (a : Option Addr) (cap : Nat) (L : List Two), v = .slice a L.length cap ∧ L.length ≤ cap ∧ TwosAt W a L ∧ L.length ≤ Rows.uptoBulk d ∧ ∀ x ∈ L, x.1.length + x.2.length ≤ Rows.uptoBulk d := by
  rcases Deep.open_slice_pairs Tryz.underlying32 Tryz.underlying36 (by kernel_rfl) rfl rfl (by kernel_rfl) (by kernel_rfl) hf with ⟨hcs, hx⟩ | ⟨a, len, cap, m, n, V0, V1, D0, D1, P0, P1, hcs, _, hl, _, hm, hx, hat⟩
  · obtain rfl : v = .slice none 0 0 := by simpa using hcs
    exact ⟨none, 0, [], rfl, by simp, fun j hj => by simp at hj, by simp, fun x hx => by simp at hx⟩
  · obtain rfl : v = .slice (some a) len cap := by simpa using hcs
    simp only [if_true] at hm
    simp only [Prod.mk.injEq] at hx
    have each : ∀ i, i < len → ∃ q : Two, V0 i = .string ⟨q.1.toArray⟩ ∧ V1 i = .string ⟨q.2.toArray⟩ ∧ q.1.length ≤ Rows.uptoBulk (D0 i) ∧ q.2.length ≤ Rows.uptoBulk (D1 i) := fun i hi => by
      obtain ⟨_, _, t0, t1⟩ := hat i (by omega)
      obtain ⟨s0, e0, x0, _⟩ := DataW.trod_string Tryz.underlying9 t0
      obtain ⟨s1, e1, x1, _⟩ := DataW.trod_string Tryz.underlying9 t1
      simp only [Prod.mk.injEq] at x0 x1
      refine ⟨(s0.data.toList, s1.data.toList), by rw [Lib.mk_data]; simpa using e0, by rw [Lib.mk_data]; simpa using e1, ?_, ?_⟩
      · show s0.data.toList.length ≤ _; rw [x0.1]; simp only [Rows.uptoBulk]; omega
      · show s1.data.toList.length ≤ _; rw [x1.1]; simp only [Rows.uptoBulk]; omega
    obtain ⟨q, hq⟩ := Deep.choose_lt each
    obtain ⟨hb1, hb2⟩ := bulk_twos D0 D1 q (List.range len) (fun i hi => (hq i (by simpa using hi)).2.2)
    rw [List.length_range] at hb1
    refine ⟨some a, cap, (List.range len).map q, by simp, by simpa using hl, fun i hi => ?_, ?_, fun x hx9 => ?_⟩
    · have hi' : i < len := by simpa using hi
      obtain ⟨b, off, spot⟩ := a
      have hsp : spot = none := by
        have := (hat 0 (by omega)).1
        cases spot with
        | none => rfl
        | some s => simp [World.cell?, Addr.add] at this; split at this <;> cases this
      subst hsp
      obtain ⟨g0, g1, _, _⟩ := hat i (by omega)
      rw [C.add_none] at g0 g1
      obtain ⟨q1, q2, _⟩ := hq i hi'
      refine ⟨b, off, rfl, ?_, ?_⟩
      · rw [g0, q1]; simp [hi']
      · rw [show off + i * 2 + 1 = off + (i * 2 + 1) by omega, g1, q2]; simp [hi']
    · rw [hx.1]
      simp only [Rows.uptoBulk, List.length_map, List.length_range]
      omega
    · have := hb2 x hx9
      rw [hx.1]
      simp only [Rows.uptoBulk]
      omega
set_option maxRecDepth 100000 in
theorem twos_of_read {H : Type} {enc : TypeId × Value → H} {W : World} {v : Value} {d : DataW H} {p : List MemPlace} (hv : ∃ a len cap, v = .slice a len cap) (h : DataW.Trod enc Tryz.prog W 0 (fun _ => true) true 32 v d p) :
    ∃ (a : Option Addr) (cap : Nat) (L : List Two), v = .slice a L.length cap ∧ L.length ≤ cap ∧ TwosAt W a L ∧ L.length ≤ Rows.uptoBulk d ∧ ∀ x ∈ L, x.1.length + x.2.length ≤ Rows.uptoBulk d := by
  obtain ⟨a0, len0, cap0, rfl⟩ := hv
  obtain ⟨fuel, hf0⟩ := h
  have hf : DataW.trod enc Tryz.prog W 0 (fun _ => true) true fuel 32 [.slice a0 len0 cap0] = some (d, p) := hf0
  exact twos_of_trod hf
end Go.Proofs.YtkbegfdbfmfedaaGreatDoor.L

/- What is proved here: the document's Encode of layer 12. -/
namespace Go.Proofs.YtkbegfdbfmfedaaGreatDoor.L
open Go.RowKit Go.Shelf Go.Proofs.YtkbegfdbfmfedaaGreatDoor.N Go.Proofs.YtkbegfdbfmfedaaGreatDoor.U

theorem mark_cells (w : World) (t : TypeId) : ∀ j, j < 9 → (w.alloc (.cells (marks.map fun c => Value.int .u8 (c.toNat : Int)).toArray t (9, 10))).cell? ⟨w.heap.size, j, none⟩ = some (.int .u8 ((marks.getD j 0).toNat : Int)) := fun j hj => by
  rw [cell_of_row _ _ _ _ _ _ (World.alloc_heap_new w _)]
  match j, hj with
  | 0, _ => rfl
  | 1, _ => rfl
  | 2, _ => rfl
  | 3, _ => rfl
  | 4, _ => rfl
  | 5, _ => rfl
  | 6, _ => rfl
  | 7, _ => rfl
  | 8, _ => rfl
  | (n + 9), h => exact absurd h (by omega)
theorem mark_step (c : UInt8) (j : Nat) (hj : j < 9) : (marks.take (j + 1)).contains c = ((marks.take j).contains c || c == marks.getD j 0) := by
  have hb : ∀ z : UInt8, (c == z) = decide (c = z) := fun z => by by_cases h : c = z <;> simp [h]
  match j, hj with
  | 0, _ => simp [marks, hb]
  | 1, _ => simp [marks, hb]
  | 2, _ => simp [marks, Bool.or_assoc, hb]
  | 3, _ => simp [marks, Bool.or_assoc, hb]
  | 4, _ => simp [marks, Bool.or_assoc, hb]
  | 5, _ => simp [marks, Bool.or_assoc, hb]
  | 6, _ => simp [marks, Bool.or_assoc, hb]
  | 7, _ => simp [marks, Bool.or_assoc, hb]
  | 8, _ => simp [marks, Bool.or_assoc, hb]
  | (n + 9), h => exact absurd h (by omega)
theorem enc_byte (c : UInt8) (h : c.toNat < 128) : enc (c.toNat : Int) = [c] := by
  have h1 : (0 : Int) ≤ (c.toNat : Int) := Int.natCast_nonneg _
  have h2 : (c.toNat : Int) < 128 := by omega
  rw [enc_one h1 h2, Int.toNat_natCast, UInt8.ofNat_toNat]
theorem enc_is (r : Int) (c : UInt8) (h : enc r = [c]) : Utf8.encode r = ⟨[c].toArray⟩ := by
  unfold enc at h
  exact bytes_ext h
theorem conv_byte (c : UInt8) (h : c.toNat < 128) : Utf8.encode (c.toNat : Int) = ⟨[c].toArray⟩ := enc_is _ c (enc_byte c h)
theorem cat_text (a b : List UInt8) : (⟨a.toArray⟩ : ByteArray) ++ ⟨b.toArray⟩ = ⟨(a ++ b).toArray⟩ := by
  apply ByteArray.ext
  rw [ByteArray.data_append]
  simp
theorem hex_slice (n : Nat) (h : n < 16) (i j : Int) (hi : i = n) (hj : j = n + 1) (w : World) : (Instr.slice 9 (.string ⟨#[48, 49, 50, 51, 52, 53, 54, 55, 56, 57, 65, 66, 67, 68, 69, 70]⟩) (some (.int .u8 i)) (some (.int .u8 j)) none).run Tryz.prog w = .ok (.string ⟨[hexD n].toArray⟩) w := by
  subst hi hj
  have e : (⟨#[48, 49, 50, 51, 52, 53, 54, 55, 56, 57, 65, 66, 67, 68, 69, 70]⟩ : ByteArray).extract n (n + 1) = ⟨[hexD n].toArray⟩ := by
    have : ∀ k : Fin 16, ((⟨#[48, 49, 50, 51, 52, 53, 54, 55, 56, 57, 65, 66, 67, 68, 69, 70]⟩ : ByteArray).extract k.val (k.val + 1)).data.toList = [hexD k.val] := by decide +kernel
    exact bytes_ext (this ⟨n, h⟩)
  have h1 : (n : Int) ≤ 16 := by omega
  have h2 : (n : Int) + 1 ≤ 16 := by omega
  have h3 : ((n : Int) + 1).toNat = n + 1 := by omega
  simp [Instr.slice, run_underlying Tryz.underlying9, Instr.sliceBounds, run_sliceBound, h2, h3, e, (by omega : (0 : Int) ≤ (n : Int) + 1), go_sem]

end Go.Proofs.YtkbegfdbfmfedaaGreatDoor.L
