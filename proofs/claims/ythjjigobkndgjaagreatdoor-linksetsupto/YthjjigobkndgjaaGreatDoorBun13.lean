/- What is proved here: laws and contracts of LkTwo, LkCands, Tabs, Open, LkTwoC, one behind the other (each says its own). -/
import Derived.Laws.AppendOwnNone
import Derived.BigQuiet
import Derived.Test.YthjjigobkndgjaaGreatDoorLkPairM
import Derived.Test.YthjjigobkndgjaaGreatDoorRows
import Derived.Test.YthjjigobkndgjaaGreatDoorIter
import Derived.Test.YthjjigobkndgjaaGreatDoorBun5
import Derived.PinnedBridge
import Derived.Lib.LaidU8T
import Derived.Lib.LaidTab
import Derived.Deep.DeepHandedRow
import Derived.ProofKit
import Derived.OpenShut
import Derived.Deep.SlicePairs
/- What is proved here: rows of structs of two texts in memory: read, appended to, and told apart. -/
namespace Go.Proofs.YthjjigobkndgjaaGreatDoor.L
open Go.RowKit Go.Shelf Go.Proofs.YthjjigobkndgjaaGreatDoor.N Go.Proofs.YthjjigobkndgjaaGreatDoor.U

/-- Structs of two texts, one behind the other. -/
def TwosAt (w : World) (a : Option Addr) (l : List Two) : Prop := ∀ j, j < l.length → ∃ b off, a = some ⟨b, off, none⟩ ∧ w.cell? ⟨b, off + j * 2, none⟩ = some (.string ⟨(l.getD j ([], [])).1.toArray⟩) ∧ w.cell? ⟨b, off + j * 2 + 1, none⟩ = some (.string ⟨(l.getD j ([], [])).2.toArray⟩)
theorem TwosAt.below {w w' : World} {a : Option Addr} {l : List Two} (h : TwosAt w a l) (hb : Below w.heap.size w w') : TwosAt w' a l := fun j hj => by
  obtain ⟨b, off, e, h1, h2⟩ := h j hj
  exact ⟨b, off, e, (hb.cell (p := ⟨b, off + j * 2, none⟩) (cell_lt h1)).trans h1, (hb.cell (p := ⟨b, off + j * 2 + 1, none⟩) (cell_lt h2)).trans h2⟩
def twv (l : List Two) : List Value := l.flatMap fun a => [.string ⟨a.1.toArray⟩, .string ⟨a.2.toArray⟩]
theorem twv_length (l : List Two) : (twv l).length = l.length * 2 := by
  unfold twv
  induction l with
  | nil => rfl
  | cons a r ih => simp only [List.flatMap_cons, List.length_append, List.length_cons, List.length_nil, ih]; omega
theorem twv_get (l : List Two) (n i : Nat) (hn : n < l.length) (hi : i < 2) : (twv l)[n * 2 + i]? = [Value.string ⟨(l.getD n ([], [])).1.toArray⟩, .string ⟨(l.getD n ([], [])).2.toArray⟩][i]? := by
  unfold twv
  induction l generalizing n with
  | nil => simp at hn
  | cons a r ih =>
    cases n with
    | zero =>
      simp only [List.flatMap_cons, Nat.zero_mul, Nat.zero_add, List.getD_cons_zero]
      rw [List.getElem?_append_left (by simpa using hi)]
    | succ n =>
      simp only [List.flatMap_cons, List.getD_cons_succ]
      rw [List.getElem?_append_right (by simp; omega), ← ih n (by simpa using hn)]
      congr 1
      simp; omega
theorem twv_snoc (l : List Two) (a : Two) : twv (l ++ [a]) = twv l ++ [.string ⟨a.1.toArray⟩, .string ⟨a.2.toArray⟩] := by simp [twv]
/-- Structs of two texts of one's own. -/
abbrev OwnW (e : TypeId) (base : Nat) (w : World) (v : Value) (l : List Two) : Prop := w.ownsRow base e 2 v l.length (twv l)
theorem OwnW.at {e : TypeId} {base : Nat} {w : World} {v : Value} {l : List Two} (h : OwnW e base w v l) : ∃ a cap, v = .slice a l.length cap ∧ l.length ≤ cap ∧ TwosAt w a l ∧ ∀ b off, a = some ⟨b, off, none⟩ → 0 < l.length → base ≤ b ∧ b < w.heap.size := by
  have h' : w.ownsRow base e 2 v l.length (twv l) := h
  rcases h.2 with ⟨rfl, e0⟩ | ⟨g, cap, cur, rfl, hg1, hg, hc, _⟩
  · exact ⟨none, 0, by rw [e0], by omega, fun j hj => by omega, fun b off h => by cases h⟩
  · refine ⟨_, cap, rfl, hc, fun i hi => ⟨g, 0, rfl, ?_⟩, fun b off h9 h0 => ?_⟩
    · have c0 := World.ownsRow.cellAt h' (i * 2) (by omega)
      have c1 := World.ownsRow.cellAt h' (i * 2 + 1) (by omega)
      have g0 := twv_get l i 0 hi (by omega)
      have g1 := twv_get l i 1 hi (by omega)
      rw [Nat.add_zero] at g0
      rw [g0] at c0
      rw [g1] at c1
      rw [Nat.zero_add]
      exact ⟨c0, c1⟩
    · obtain rfl : g = b := by simpa using congrArg (fun x : Option Addr => x.map (·.block)) h9
      have := h'.lt g rfl
      exact ⟨this.1, by
        have c0 := World.ownsRow.cellAt h' 0 (by omega)
        have g0 := twv_get l 0 0 h0 (by omega)
        simp only [Nat.zero_mul, Nat.add_zero] at g0
        rw [g0] at c0
        exact cell_lt c0⟩
/-- One struct more, behind structs of one's own. -/
theorem append_two {w : World} {ops : Array Oper} {rest : List Oper} {o : Oper} {a : Act} {Q : Exit → Act → World → Prop} (hgd : o.guard = none) (s x : Operand) (st e : TypeId)
    (hst : Tryz.prog.underlying st = some (.slice e)) (hinf : (Tryz.prog.info? e).map (fun i => (i.zero, i.size, i.bytes)) = some (some (.agg #[.string ⟨#[]⟩, .string ⟨#[]⟩]), 2, 32))
    (ho : o.op = .call { callee := .builtin .append, args := #[s, x], argTypes := #[st, st] }) (base : Nat) (v : Value) (l : List Two) (hs : a.eval s = v) (hown : OwnW e base w v l)
    (B : Nat) (t : Two) (hx : a.eval x = .slice (some ⟨B, 0, none⟩) 1 1) (h0 : w.cell? ⟨B, 0, none⟩ = some (.string ⟨t.1.toArray⟩)) (h1 : w.cell? ⟨B, 1, none⟩ = some (.string ⟨t.2.toArray⟩)) (hl : l.length ≤ 100000000000) (hbase : base ≤ w.heap.size)
    (h : ∀ v' w', OwnW e base w' v' (l ++ [t]) → w.grownBy w' v.ownBlock → wpList Tryz.prog ops Q rest (a.put o.dst v') w') : wpList Tryz.prog ops Q (o :: rest) a w := by
  obtain ⟨i0, hi, hz0, hz1, hz2⟩ := info_parts hinf
  refine wpList_append_own w hgd s x _ ho base _ i0 _ 2 32 hst hi hz0 hz1 hz2 rfl (by decide) v _ _ hs hown ⟨B, 0, none⟩ 1 1 [.string ⟨t.1.toArray⟩, .string ⟨t.2.toArray⟩] hx rfl ?_ (by simp [Value.oneCell']) (by unfold maxLen; omega) (by omega) hbase ?_
  · intro j u hj
    match j, hj with
    | 0, hj => simp at hj; subst hj; simpa [Addr.add] using h0
    | 1, hj => simp at hj; subst hj; simpa [Addr.add] using h1
    | (j + 2), hj => simp at hj
  · intro v' w' r1 r2 _
    rw [← twv_snoc] at r1
    exact h v' w' (by simpa [OwnW] using r1) r2
end Go.Proofs.YthjjigobkndgjaaGreatDoor.L

/- What is proved here: the contract of the law's candidates of layer 12: the same candidates are the same. -/
namespace Go.Proofs.YthjjigobkndgjaaGreatDoor.L
open Go.RowKit Go.Shelf Go.Proofs.YthjjigobkndgjaaGreatDoor.N Go.Proofs.YthjjigobkndgjaaGreatDoor.U

set_option maxRecDepth 100000 in
set_option maxHeartbeats 4000000 in
theorem cands_calls (l : List Two) (a b : Option Addr) (ca cb : Nat) (w : World) (hA : TwosAt w a l) (hB : TwosAt w b l) (hl : l.length ≤ 1000000000000) : Calls Tryz.prog 7 #[.slice a l.length ca, .slice b l.length cb] w fun e W' => e = .returned (.bool true) ∧ Below w.heap.size w W' := by
  have HA := hid_of hA
  have HB := hid_of hB
  clear hA hB
  go_enter Tryz.func7, Tryz.ntmps7
  go_wp2_with fail
  go_loopw [13] (fun vi wr => ∃ k : Nat, k ≤ l.length ∧ vi = .int .i64 k ∧ Hid (Below w.heap.size w wr)) (fun vi _ => l.length - (intOf vi).toNat)
  case atStart => exact ⟨0, by omega, rfl, Below.refl _ _⟩
  case round =>
    obtain ⟨k, hk, rfl, hBw⟩ := hrel
    by_cases hlt : k < l.length
    · obtain ⟨b1, o1, rfl, c0, c1⟩ := HA.out.below hBw.out k hlt
      obtain ⟨b2, o2, rfl, d0, d1⟩ := HB.out.below hBw.out k hlt
      generalize (⟨(l.getD k ([], [])).1.toArray⟩ : ByteArray) = f at *
      generalize (⟨(l.getD k ([], [])).2.toArray⟩ : ByteArray) = g at *
      have hf : (f.toList == f.toList) = true := by simp
      have hg : (g.toList == g.toList) = true := by simp
      go_wp2_with fail
      go_quiet (fail)
      go_wp2_with fail
      exact ⟨⟨k + 1, by omega, by go_num, hBw.out.trans ((below_drewN _ _).mono hBw.out.size)⟩, by simp [intOf]; omega⟩
    · obtain rfl : k = l.length := by omega
      go_wp2_with fail
      go_ret
      exact ⟨rfl, hBw.out⟩
end Go.Proofs.YthjjigobkndgjaaGreatDoor.L

/- What is proved here: where the row's list of package-level variables is met, the two tables of unicode/utf8 lie in memory as the contracts ask; and a world in which they lie so. -/
namespace Go.Proofs.YthjjigobkndgjaaGreatDoor.U
open Go.RowKit Go.Shelf

theorem own : ownKnob Tryz.prog.godebug = none := by kernel_rfl
def u8ren : Ren := ⟨fun x => x, fun n => if n = 5 then 5 else if n = 119 then 141 else if n = 138 then 143 else 144, fun n => if n = 3 then Tryz.lays32_ren.g 2 else Tryz.lays32_ren.g 3⟩
theorem u8types : U8Types Tryz.prog u8ren := ⟨by kernel_rfl, by kernel_rfl, by kernel_rfl, by kernel_rfl⟩
theorem u8extra : U8Extra Tryz.prog u8ren := ⟨by kernel_rfl, by kernel_rfl, by kernel_rfl, by kernel_rfl, by kernel_rfl, by kernel_rfl, by kernel_rfl⟩
/-- What every row of this seat lists. -/
def laidL : List (String × DataW Unit) := [("unicode/utf8.acceptRanges", Rows.laid_unicode_utf8_acceptRanges), ("unicode/utf8.first", Rows.laid_unicode_utf8_first)]
theorem accept_eq : (Rows.laid_unicode_utf8_acceptRanges : DataW Unit) = Lib.acceptData := by kernel_rfl
theorem tabs_of_laid {W : World} (h : laidMet Tryz.prog laidL W) : Lib.Utf8Tabs (Tryz.lays32_ren.g 2) (Tryz.lays32_ren.g 3) W := by
  have h3 : Lib.VarReads Tryz.prog W "unicode/utf8.first" Lib.firstData := by
    have := Lib.laidMet.reads h (n := "unicode/utf8.first") (d := Rows.laid_unicode_utf8_first) (by simp [laidL])
    rw [show Rows.laid_unicode_utf8_first = Lib.firstData from Pinned.utf8First_eq] at this
    exact this
  have h4 : Lib.VarReads Tryz.prog W "unicode/utf8.acceptRanges" Lib.acceptData := by
    have := Lib.laidMet.reads h (n := "unicode/utf8.acceptRanges") (d := Rows.laid_unicode_utf8_acceptRanges) (by simp [laidL])
    rw [accept_eq] at this
    exact this
  exact utf8Tabs_of_readsT (ρ := u8ren) u8types u8extra h3 h4

/-- A world for the witness: the settled one, the two tables holding what their texts lay. -/
def firstCells : Array Value := (Pinned.utf8FirstZ.map fun n : Nat => Value.int .u8 (n : Int)).toArray
def acceptCells : Array Value := ([128, 191, 160, 191, 128, 159, 144, 191, 128, 143, 0, 0, 0, 0, 0, 0, 0, 0, 0, 0, 0, 0, 0, 0, 0, 0, 0, 0, 0, 0, 0, 0].map fun n : Nat => Value.int .u8 (n : Int)).toArray
def withTabs (w : World) : World :=
  { w with heap := (w.heap.modify (Tryz.lays32_ren.g 2) fun
      | .cells _ t frozen => .cells firstCells t frozen
      | o => o).modify (Tryz.lays32_ren.g 3) fun
      | .cells _ t frozen => .cells acceptCells t frozen
      | o => o }

/-- A call that turns nothing that was there, gives back what the specification says and leaves its arguments: what the row asks behind it. -/
theorem post_below {H : Type} {enc : TypeId × Value → H} {P : Program} {f : Func} {s : ChangeSpec} {apart fresh handsOn : Bool} {W W' : World} {args : Array Value} {v : Value} {ds gs : List (DataW H)} {before pa pv : List MemPlace}
    (hW : DataW.Whole enc P f.params.toList s.vars apart W args.toList ds gs before)
    (hres : ∀ (b : Nat) (sp : Nat → Bool) (hd : Bool), DataW.TrodAll enc P W' b sp hd f.resultTypes.toList (v.resultList f.resultTypes.size) (s.fn H (ds ++ gs)).results [])
    (hargs : DataW.TrodAll enc P W' 0 (fun b => decide (b < W.heap.size)) true f.params.toList args.toList (s.fn H (ds ++ gs)).args pa)
    (hvars : DataW.TrodVars enc P W' (fun b => decide (b < W.heap.size)) s.vars (s.fn H (ds ++ gs)).vars pv)
    (hb : Below W.heap.size W W') : s.post enc P f apart fresh handsOn false W args v W' :=
  ⟨ds, gs, before, [], pa, pv, hW, hres _ _ _, hargs, hvars, hb.frame _, fun h => by cases h⟩

end Go.Proofs.YthjjigobkndgjaaGreatDoor.U

/- What is proved here: what a slice of integers or bytes that was handed in reads as in memory, how many values its datum holds at least, and that reading goes on where nothing that was there is turned. -/
namespace Go.Proofs.YthjjigobkndgjaaGreatDoor.U
open Go.ChangeShapes Go.WideShapes Go.ChangeAt Go.RowKit

theorem bulk_one {H : Type} (d : DataW H) : 1 ≤ Rows.uptoBulk d := by
  cases d with
  | lit l => cases l <;> simp [Rows.uptoBulk]
  | nil => simp [Rows.uptoBulk]
  | ptr d => simp [Rows.uptoBulk]
  | slice elems spare => simp [Rows.uptoBulk]
  | agg parts => simp [Rows.uptoBulk]
  | iface t d => simp [Rows.uptoBulk]
  | map entries => simp [Rows.uptoBulk]
  | held h => simp [Rows.uptoBulk]
theorem bulk_length {H : Type} (l : List (DataW H)) : l.length ≤ Rows.uptoBulkAll l := by
  induction l with
  | nil => simp [Rows.uptoBulkAll]
  | cons x r ih => have := bulk_one x; simp only [Rows.uptoBulkAll, List.length_cons]; omega

theorem wf_bounds {k : IntKind} {z : Int} (h : (Lit.int k z).wf = true) : k.min ≤ z ∧ z ≤ k.max := by
  simpa [Lit.wf] using h

/-- A slice of integers that came in. -/
theorem ints_of_read {H : Type} {enc : TypeId × Value → H} {W : World} {t e : TypeId} {k : IntKind} {v : Value} {d : DataW H} {p : List MemPlace} (ht : Tryz.prog.underlying t = some (.slice e)) (he : Tryz.prog.underlying e = some (.int k)) (hc : Tryz.prog.cellsOf e = 1)
    (hv : ∃ a len cap, v = .slice a len cap) (h : DataW.Trod enc Tryz.prog W 0 (fun _ => true) true t v d p) :
    ∃ zs : List Int, HasI k W v zs ∧ zs.length ≤ Rows.uptoBulk d ∧ ∀ z ∈ zs, (Lit.int k z).wf = true := by
  obtain ⟨a0, len0, cap0, rfl⟩ := hv
  obtain ⟨fuel, hf⟩ := h
  rcases open_ints ht he hc hf with ⟨hcs, hx⟩ | ⟨a, len, cap, zs, hcs, _, hl, _, hz, hx, hcell, hwz⟩
  · refine ⟨[], .inl ⟨rfl, a0, cap0, ?_⟩, by simp, by simp⟩
    simp [Value.cells] at hcs
    obtain ⟨rfl, rfl, rfl⟩ := hcs
    rfl
  · have hcs' : Value.slice a0 len0 cap0 = .slice (some a) len cap := by simpa [Value.cells] using hcs
    cases hcs'
    simp only [if_true] at hz
    simp only [Prod.mk.injEq] at hx
    have hlen : (zs.take len0).length = len0 := by simp; omega
    refine ⟨zs.take len0, ?_, ?_, fun z hm => hwz z (List.mem_of_mem_take hm)⟩
    · by_cases h0 : len0 = 0
      · subst h0; exact .inl ⟨by simp, some a, cap0, rfl⟩
      · obtain ⟨b, off, spot⟩ := a
        have hsp : spot = none := by
          have := hcell 0 (by omega)
          cases spot with
          | none => rfl
          | some s => simp [World.cell?, Addr.add] at this; split at this <;> cases this
        subst hsp
        refine .inr ⟨by rw [hlen]; omega, b, off, cap0, by rw [hlen], by rw [hlen]; exact hl, fun j hj => ?_⟩
        rw [hlen] at hj
        have := hcell j (by omega)
        rw [show zAt (zs.take len0) j = zs.getD j 0 by simp [zAt, hj, List.getD]]
        have ea : (⟨b, off, none⟩ : Addr).add j = ⟨b, off + j, none⟩ := by unfold Addr.add; split <;> simp_all
        rw [ea] at this
        exact this
    · rw [hlen, hx.1]
      have := bulk_length (H := H) (lits k (zs.take len0))
      simp only [Rows.uptoBulk]
      have hl2 : (lits (H := H) k (zs.take len0)).length = len0 := by simp [lits]; omega
      omega

/-- A nil slice that came in has no capacity. -/
theorem nil_of_read {H : Type} {enc : TypeId × Value → H} {W : World} {t e : TypeId} {k : IntKind} {v : Value} {d : DataW H} {p : List MemPlace} (ht : Tryz.prog.underlying t = some (.slice e)) (he : Tryz.prog.underlying e = some (.int k)) (hc : Tryz.prog.cellsOf e = 1)
    (hv : ∃ a len cap, v = .slice a len cap) (h : DataW.Trod enc Tryz.prog W 0 (fun _ => true) true t v d p) : v = .slice none 0 0 ∨ ∃ ad len cap, v = .slice (some ad) len cap := by
  obtain ⟨a0, len0, cap0, rfl⟩ := hv
  obtain ⟨fuel, hf⟩ := h
  rcases open_ints ht he hc hf with ⟨hcs, _⟩ | ⟨a, len, cap, zs, hcs, _⟩
  · left; simpa [Value.cells] using hcs
  · right; exact ⟨a, len, cap, by simpa [Value.cells] using hcs⟩
theorem laidOut : laidOutB Tryz.prog = true := by kernel_rfl
/-- What was handed in reads as it did. -/
theorem stays {H : Type} {enc : TypeId × Value → H} {W W' : World} {t : TypeId} {v : Value} {d : DataW H} {ps : List MemPlace} (hr : Tryz.prog.readableRec t = true) (hrow : t < Tryz.prog.types.size)
    (h : DataW.Trod enc Tryz.prog W 0 (fun _ => true) true t v d ps) (hb : Below W.heap.size W W') (hlt : ∀ x ∈ ps, x.block < W.heap.size) : DataW.Trod enc Tryz.prog W' 0 (fun b => decide (b < W.heap.size)) true t v d ps :=
  Below.trod laidOut hr hrow h hb hlt

/-- Bytes that came in. -/
theorem bytes_of_read {H : Type} {enc : TypeId × Value → H} {W : World} {v : Value} {d : DataW H} {p : List MemPlace} (hc : Tryz.prog.cellsOf 5 = 1)
    (hv : ∃ a len cap, v = .slice a len cap) (h : DataW.Trod enc Tryz.prog W 0 (fun _ => true) true 36 v d p) :
    ∃ bs : List UInt8, HasB W.heap.size W v bs ∧ bs.length ≤ Rows.uptoBulk d := by
  obtain ⟨zs, hz, hl, hw⟩ := ints_of_read Tryz.underlying36 Tryz.underlying5 hc hv h
  refine ⟨zs.map fun z => UInt8.ofNat z.toNat, ?_, by simpa using hl⟩
  rcases hz with ⟨rfl, a, cap, rfl⟩ | ⟨hp, b, off, cap, rfl, hcap, hx⟩
  · exact .inl ⟨rfl, a, cap, rfl⟩
  · refine .inr ⟨by simpa using hp, b, off, cap, by simp, by simpa using hcap, cell_lt (hx 0 hp), fun j hj => ?_⟩
    simp only [List.length_map] at hj
    rw [hx j hj]
    have hm : zAt zs j ∈ zs := by simp [zAt, hj]
    have hb := wf_bounds (hw _ hm)
    simp [IntKind.min, IntKind.max, IntKind.signed, IntKind.bits] at hb
    have : ((byteAt (zs.map fun z => UInt8.ofNat z.toNat) j : Nat) : Int) = zAt zs j := by
      have e1 : byteAt (zs.map fun z => UInt8.ofNat z.toNat) j = (zAt zs j).toNat % 256 := by simp [byteAt, zAt, hj]
      rw [e1]; omega
    rw [this]

end Go.Proofs.YthjjigobkndgjaaGreatDoor.U

/- What is proved here: a row of candidates that came in. -/
namespace Go.Proofs.YthjjigobkndgjaaGreatDoor.L
open Go.RowKit Go.Shelf Go.Proofs.YthjjigobkndgjaaGreatDoor.N Go.Proofs.YthjjigobkndgjaaGreatDoor.U

theorem bulk_cands {H : Type} (D0 D1 : Nat → DataW H) (q : Nat → Two) : ∀ L : List Nat, (∀ i ∈ L, (q i).1.length ≤ Rows.uptoBulk (D0 i) ∧ (q i).2.length ≤ Rows.uptoBulk (D1 i)) → L.length ≤ Rows.uptoBulkAll (L.map fun i => DataW.agg [D0 i, D1 i]) ∧ ∀ x ∈ L.map q, x.1.length + x.2.length ≤ Rows.uptoBulkAll (L.map fun i => DataW.agg [D0 i, D1 i])
  | [], _ => ⟨by simp, fun x hx => by simp at hx⟩
  | i :: r, h => by
    obtain ⟨h1, h1'⟩ := bulk_cands D0 D1 q r (fun j hj => h j (by simp [hj]))
    have h2 := h i (by simp)
    simp only [List.map_cons, List.length_cons, Rows.uptoBulkAll, Rows.uptoBulk]
    refine ⟨by omega, fun x hx => ?_⟩
    rcases List.mem_cons.1 hx with rfl | hx
    · omega
    · have := h1' x hx; omega
set_option maxRecDepth 100000 in
theorem cands_of_trod {H : Type} {enc : TypeId × Value → H} {W : World} {v : Value} {d : DataW H} {p : List MemPlace} {fuel : Nat} (hf : DataW.trod enc Tryz.prog W 0 (fun _ => true) true fuel 22 [v] = some (d, p)) :
    ∃ (a : Option Addr) (cap : Nat) (L : List Two), v = .slice a L.length cap ∧ L.length ≤ cap ∧ TwosAt W a L ∧ L.length ≤ Rows.uptoBulk d ∧ ∀ x ∈ L, x.1.length + x.2.length ≤ Rows.uptoBulk d := by
  rcases Deep.open_slice_pairs Tryz.underlying22 Tryz.underlying27 (by kernel_rfl) rfl rfl (by kernel_rfl) (by kernel_rfl) hf with ⟨hcs, hx⟩ | ⟨a, len, cap, m, n, V0, V1, D0, D1, P0, P1, hcs, _, hl, _, hm, hx, hat⟩
  · obtain rfl : v = .slice none 0 0 := by simpa using hcs
    exact ⟨none, 0, [], rfl, by simp, fun j hj => by simp at hj, by simp, fun x hx => by simp at hx⟩
  · obtain rfl : v = .slice (some a) len cap := by simpa using hcs
    simp only [if_true] at hm
    simp only [Prod.mk.injEq] at hx
    have each : ∀ i, i < len → ∃ q : Two, V0 i = .string ⟨q.1.toArray⟩ ∧ V1 i = .string ⟨q.2.toArray⟩ ∧ q.1.length ≤ Rows.uptoBulk (D0 i) ∧ q.2.length ≤ Rows.uptoBulk (D1 i) := fun i hi => by
      obtain ⟨_, _, t0, t1⟩ := hat i (by omega)
      obtain ⟨s0, e0, x0, _⟩ := DataW.trod_string Tryz.underlying9 t0
      obtain ⟨s1, e1, x1, _⟩ := DataW.trod_string Tryz.underlying9 t1
      simp only [Prod.mk.injEq] at x0 x1
      refine ⟨(s0.data.toList, s1.data.toList), by rw [Lib.mk_data]; simpa using e0, by rw [Lib.mk_data]; simpa using e1, ?_, ?_⟩
      · show s0.data.toList.length ≤ _; rw [x0.1]; simp only [Rows.uptoBulk]; omega
      · show s1.data.toList.length ≤ _; rw [x1.1]; simp only [Rows.uptoBulk]; omega
    obtain ⟨q, hq⟩ := Deep.choose_lt each
    obtain ⟨hb1, hb2⟩ := bulk_cands D0 D1 q (List.range len) (fun i hi => (hq i (by simpa using hi)).2.2)
    rw [List.length_range] at hb1
    refine ⟨some a, cap, (List.range len).map q, by simp, by simpa using hl, fun i hi => ?_, ?_, fun x hx9 => ?_⟩
    · have hi' : i < len := by simpa using hi
      obtain ⟨b, off, spot⟩ := a
      have hsp : spot = none := by
        have := (hat 0 (by omega)).1
        cases spot with
        | none => rfl
        | some s => simp [World.cell?, Addr.add] at this; split at this <;> cases this
      subst hsp
      obtain ⟨g0, g1, _, _⟩ := hat i (by omega)
      rw [C.add_none] at g0 g1
      obtain ⟨q1, q2, _⟩ := hq i hi'
      refine ⟨b, off, rfl, ?_, ?_⟩
      · rw [g0, q1]; simp [hi']
      · rw [show off + i * 2 + 1 = off + (i * 2 + 1) by omega, g1, q2]; simp [hi']
    · rw [hx.1]
      simp only [Rows.uptoBulk, List.length_map, List.length_range]
      omega
    · have := hb2 x hx9
      rw [hx.1]
      simp only [Rows.uptoBulk]
      omega
set_option maxRecDepth 100000 in
theorem cands_of_read {H : Type} {enc : TypeId × Value → H} {W : World} {v : Value} {d : DataW H} {p : List MemPlace} (hv : ∃ a len cap, v = .slice a len cap) (h : DataW.Trod enc Tryz.prog W 0 (fun _ => true) true 22 v d p) :
    ∃ (a : Option Addr) (cap : Nat) (L : List Two), v = .slice a L.length cap ∧ L.length ≤ cap ∧ TwosAt W a L ∧ L.length ≤ Rows.uptoBulk d ∧ ∀ x ∈ L, x.1.length + x.2.length ≤ Rows.uptoBulk d := by
  obtain ⟨a0, len0, cap0, rfl⟩ := hv
  obtain ⟨fuel, hf0⟩ := h
  have hf : DataW.trod enc Tryz.prog W 0 (fun _ => true) true fuel 22 [.slice a0 len0 cap0] = some (d, p) := hf0
  exact cands_of_trod hf
end Go.Proofs.YthjjigobkndgjaaGreatDoor.L
