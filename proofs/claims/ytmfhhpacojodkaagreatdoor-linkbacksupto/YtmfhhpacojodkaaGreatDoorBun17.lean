/- What is proved here: laws and contracts of Open, LkTwoS, one behind the other (each says its own). -/
import Derived.Test.YtmfhhpacojodkaaGreatDoorBun16
import Derived.ProofKit
import Derived.OpenShut
import Derived.Deep.SlicePairs
import Derived.Test.YtmfhhpacojodkaaGreatDoorRows
/- What is proved here: what a slice of integers or bytes that was handed in reads as in memory, how many values its datum holds at least, and that reading goes on where nothing that was there is turned. -/
namespace Go.Proofs.YtmfhhpacojodkaaGreatDoor.U
open Go.ChangeShapes Go.WideShapes Go.ChangeAt Go.RowKit

theorem bulk_one {H : Type} (d : DataW H) : 1 ≤ Rows.uptoBulk d := by
  cases d with
  | lit l => cases l <;> simp [Rows.uptoBulk]
  | nil => simp [Rows.uptoBulk]
  | ptr d => simp [Rows.uptoBulk]
  | slice elems spare => simp [Rows.uptoBulk]
  | agg parts => simp [Rows.uptoBulk]
  | iface t d => simp [Rows.uptoBulk]
  | map entries => simp [Rows.uptoBulk]
  | held h => simp [Rows.uptoBulk]
theorem bulk_length {H : Type} (l : List (DataW H)) : l.length ≤ Rows.uptoBulkAll l := by
  induction l with
  | nil => simp [Rows.uptoBulkAll]
  | cons x r ih => have := bulk_one x; simp only [Rows.uptoBulkAll, List.length_cons]; omega

theorem wf_bounds {k : IntKind} {z : Int} (h : (Lit.int k z).wf = true) : k.min ≤ z ∧ z ≤ k.max := by
  simpa [Lit.wf] using h

/-- A slice of integers that came in. -/
theorem ints_of_read {H : Type} {enc : TypeId × Value → H} {W : World} {t e : TypeId} {k : IntKind} {v : Value} {d : DataW H} {p : List MemPlace} (ht : Tryz.prog.underlying t = some (.slice e)) (he : Tryz.prog.underlying e = some (.int k)) (hc : Tryz.prog.cellsOf e = 1)
    (hv : ∃ a len cap, v = .slice a len cap) (h : DataW.Trod enc Tryz.prog W 0 (fun _ => true) true t v d p) :
    ∃ zs : List Int, HasI k W v zs ∧ zs.length ≤ Rows.uptoBulk d ∧ ∀ z ∈ zs, (Lit.int k z).wf = true := by
  obtain ⟨a0, len0, cap0, rfl⟩ := hv
  obtain ⟨fuel, hf⟩ := h
  rcases open_ints ht he hc hf with ⟨hcs, hx⟩ | ⟨a, len, cap, zs, hcs, _, hl, _, hz, hx, hcell, hwz⟩
  · refine ⟨[], .inl ⟨rfl, a0, cap0, ?_⟩, by simp, by simp⟩
    simp [Value.cells] at hcs
    obtain ⟨rfl, rfl, rfl⟩ := hcs
    rfl
  · have hcs' : Value.slice a0 len0 cap0 = .slice (some a) len cap := by simpa [Value.cells] using hcs
    cases hcs'
    simp only [if_true] at hz
    simp only [Prod.mk.injEq] at hx
    have hlen : (zs.take len0).length = len0 := by simp; omega
    refine ⟨zs.take len0, ?_, ?_, fun z hm => hwz z (List.mem_of_mem_take hm)⟩
    · by_cases h0 : len0 = 0
      · subst h0; exact .inl ⟨by simp, some a, cap0, rfl⟩
      · obtain ⟨b, off, spot⟩ := a
        have hsp : spot = none := by
          have := hcell 0 (by omega)
          cases spot with
          | none => rfl
          | some s => simp [World.cell?, Addr.add] at this; split at this <;> cases this
        subst hsp
        refine .inr ⟨by rw [hlen]; omega, b, off, cap0, by rw [hlen], by rw [hlen]; exact hl, fun j hj => ?_⟩
        rw [hlen] at hj
        have := hcell j (by omega)
        rw [show zAt (zs.take len0) j = zs.getD j 0 by simp [zAt, hj, List.getD]]
        have ea : (⟨b, off, none⟩ : Addr).add j = ⟨b, off + j, none⟩ := by unfold Addr.add; split <;> simp_all
        rw [ea] at this
        exact this
    · rw [hlen, hx.1]
      have := bulk_length (H := H) (lits k (zs.take len0))
      simp only [Rows.uptoBulk]
      have hl2 : (lits (H := H) k (zs.take len0)).length = len0 := by simp [lits]; omega
      omega

/-- A nil slice that came in has no capacity. -/
theorem nil_of_read {H : Type} {enc : TypeId × Value → H} {W : World} {t e : TypeId} {k : IntKind} {v : Value} {d : DataW H} {p : List MemPlace} (ht : Tryz.prog.underlying t = some (.slice e)) (he : Tryz.prog.underlying e = some (.int k)) (hc : Tryz.prog.cellsOf e = 1)
    (hv : ∃ a len cap, v = .slice a len cap) (h : DataW.Trod enc Tryz.prog W 0 (fun _ => true) true t v d p) : v = .slice none 0 0 ∨ ∃ ad len cap, v = .slice (some ad) len cap := by
  obtain ⟨a0, len0, cap0, rfl⟩ := hv
  obtain ⟨fuel, hf⟩ := h
  rcases open_ints ht he hc hf with ⟨hcs, _⟩ | ⟨a, len, cap, zs, hcs, _⟩
  · left; simpa [Value.cells] using hcs
  · right; exact ⟨a, len, cap, by simpa [Value.cells] using hcs⟩
theorem laidOut : laidOutB Tryz.prog = true := by kernel_rfl
/-- What was handed in reads as it did. -/
theorem stays {H : Type} {enc : TypeId × Value → H} {W W' : World} {t : TypeId} {v : Value} {d : DataW H} {ps : List MemPlace} (hr : Tryz.prog.readableRec t = true) (hrow : t < Tryz.prog.types.size)
    (h : DataW.Trod enc Tryz.prog W 0 (fun _ => true) true t v d ps) (hb : Below W.heap.size W W') (hlt : ∀ x ∈ ps, x.block < W.heap.size) : DataW.Trod enc Tryz.prog W' 0 (fun b => decide (b < W.heap.size)) true t v d ps :=
  Below.trod laidOut hr hrow h hb hlt

/-- Bytes that came in. -/
theorem bytes_of_read {H : Type} {enc : TypeId × Value → H} {W : World} {v : Value} {d : DataW H} {p : List MemPlace} (hc : Tryz.prog.cellsOf 5 = 1)
    (hv : ∃ a len cap, v = .slice a len cap) (h : DataW.Trod enc Tryz.prog W 0 (fun _ => true) true 29 v d p) :
    ∃ bs : List UInt8, HasB W.heap.size W v bs ∧ bs.length ≤ Rows.uptoBulk d := by
  obtain ⟨zs, hz, hl, hw⟩ := ints_of_read Tryz.underlying29 Tryz.underlying5 hc hv h
  refine ⟨zs.map fun z => UInt8.ofNat z.toNat, ?_, by simpa using hl⟩
  rcases hz with ⟨rfl, a, cap, rfl⟩ | ⟨hp, b, off, cap, rfl, hcap, hx⟩
  · exact .inl ⟨rfl, a, cap, rfl⟩
  · refine .inr ⟨by simpa using hp, b, off, cap, by simp, by simpa using hcap, cell_lt (hx 0 hp), fun j hj => ?_⟩
    simp only [List.length_map] at hj
    rw [hx j hj]
    have hm : zAt zs j ∈ zs := by simp [zAt, hj]
    have hb := wf_bounds (hw _ hm)
    simp [IntKind.min, IntKind.max, IntKind.signed, IntKind.bits] at hb
    have : ((byteAt (zs.map fun z => UInt8.ofNat z.toNat) j : Nat) : Int) = zAt zs j := by
      have e1 : byteAt (zs.map fun z => UInt8.ofNat z.toNat) j = (zAt zs j).toNat % 256 := by simp [byteAt, zAt, hj]
      rw [e1]; omega
    rw [this]

end Go.Proofs.YtmfhhpacojodkaaGreatDoor.U

/- What is proved here: rows of structs of two texts that came in, with the sum of their lengths; a struct of two texts that came in. -/
namespace Go.Proofs.YtmfhhpacojodkaaGreatDoor.L
open Go.RowKit Go.Shelf Go.ChangeShapes Go.WideShapes Go.ChangeAt Go.Proofs.YtmfhhpacojodkaaGreatDoor.N Go.Proofs.YtmfhhpacojodkaaGreatDoor.U

/-- How many bytes the texts have. -/
def sumT (L : List Two) : Nat := (L.map fun x => x.1.length + x.2.length).sum
theorem sumT_mem {L : List Two} {x : Two} (h : x ∈ L) : x.1.length + x.2.length ≤ sumT L := by
  induction L with
  | nil => simp at h
  | cons y t ih =>
    unfold sumT at *
    simp only [List.map_cons, List.sum_cons]
    rcases List.mem_cons.1 h with rfl | h
    · omega
    · have := ih h; omega
theorem bulk_sum {H : Type} (D0 D1 : Nat → DataW H) (q : Nat → Two) : ∀ L : List Nat, (∀ i ∈ L, (q i).1.length ≤ Rows.uptoBulk (D0 i) ∧ (q i).2.length ≤ Rows.uptoBulk (D1 i)) → L.length + sumT (L.map q) ≤ Rows.uptoBulkAll (L.map fun i => DataW.agg [D0 i, D1 i])
  | [], _ => by simp [sumT]
  | i :: r, h => by
    have h1 := bulk_sum D0 D1 q r (fun j hj => h j (by simp [hj]))
    have h2 := h i (by simp)
    unfold sumT at *
    simp only [List.map_cons, List.length_cons, List.sum_cons, Rows.uptoBulkAll, Rows.uptoBulk]
    omega
set_option maxRecDepth 100000 in
theorem attrs_of_read {H : Type} {enc : TypeId × Value → H} {W : World} {v : Value} {d : DataW H} {p : List MemPlace} (hv : ∃ a len cap, v = .slice a len cap) (h : DataW.Trod enc Tryz.prog W 0 (fun _ => true) true 23 v d p) :
    ∃ (a : Option Addr) (cap : Nat) (L : List Two), v = .slice a L.length cap ∧ L.length ≤ cap ∧ TwosAt W a L ∧ L.length + sumT L ≤ Rows.uptoBulk d := by
  obtain ⟨a0, len0, cap0, rfl⟩ := hv
  obtain ⟨fuel, hf0⟩ := h
  have hf : DataW.trod enc Tryz.prog W 0 (fun _ => true) true fuel 23 [.slice a0 len0 cap0] = some (d, p) := hf0
  rcases Deep.open_slice_pairs Tryz.underlying23 Tryz.underlying36 (by kernel_rfl) rfl rfl (by kernel_rfl) (by kernel_rfl) hf with ⟨hcs, hx⟩ | ⟨a, len, cap, m, n, V0, V1, D0, D1, P0, P1, hcs, _, hl, _, hm, hx, hat⟩
  · have e : (Value.slice a0 len0 cap0) = .slice none 0 0 := by simpa using hcs
    rw [e]
    exact ⟨none, 0, [], rfl, by simp, fun j hj => by simp at hj, by simp [sumT]⟩
  · have e : (Value.slice a0 len0 cap0) = .slice (some a) len cap := by simpa using hcs
    rw [e]
    simp only [if_true] at hm
    simp only [Prod.mk.injEq] at hx
    have each : ∀ i, i < len → ∃ q : Two, V0 i = .string ⟨q.1.toArray⟩ ∧ V1 i = .string ⟨q.2.toArray⟩ ∧ q.1.length ≤ Rows.uptoBulk (D0 i) ∧ q.2.length ≤ Rows.uptoBulk (D1 i) := fun i hi => by
      obtain ⟨_, _, t0, t1⟩ := hat i (by omega)
      obtain ⟨s0, e0, x0, _⟩ := DataW.trod_string Tryz.underlying9 t0
      obtain ⟨s1, e1, x1, _⟩ := DataW.trod_string Tryz.underlying9 t1
      simp only [Prod.mk.injEq] at x0 x1
      refine ⟨(s0.data.toList, s1.data.toList), by rw [Lib.mk_data]; simpa using e0, by rw [Lib.mk_data]; simpa using e1, ?_, ?_⟩
      · show s0.data.toList.length ≤ _; rw [x0.1]; simp only [Rows.uptoBulk]; omega
      · show s1.data.toList.length ≤ _; rw [x1.1]; simp only [Rows.uptoBulk]; omega
    obtain ⟨q, hq⟩ := Deep.choose_lt each
    have hb1 := bulk_sum D0 D1 q (List.range len) (fun i hi => (hq i (by simpa using hi)).2.2)
    rw [List.length_range] at hb1
    refine ⟨some a, cap, (List.range len).map q, by simp, by simpa using hl, fun i hi => ?_, ?_⟩
    · have hi' : i < len := by simpa using hi
      obtain ⟨b, off, spot⟩ := a
      have hsp : spot = none := by
        have := (hat 0 (by omega)).1
        cases spot with
        | none => rfl
        | some s => simp [World.cell?, Addr.add] at this; split at this <;> cases this
      subst hsp
      obtain ⟨g0, g1, _, _⟩ := hat i (by omega)
      rw [C.add_none] at g0 g1
      obtain ⟨q1, q2, _⟩ := hq i hi'
      refine ⟨b, off, rfl, ?_, ?_⟩
      · rw [g0, q1]; simp [hi']
      · rw [show off + i * 2 + 1 = off + (i * 2 + 1) by omega, g1, q2]; simp [hi']
    · rw [hx.1]
      simp only [Rows.uptoBulk, List.length_map, List.length_range]
      omega
set_option maxRecDepth 100000 in
theorem cands_of_read {H : Type} {enc : TypeId × Value → H} {W : World} {v : Value} {d : DataW H} {p : List MemPlace} (hv : ∃ a len cap, v = .slice a len cap) (h : DataW.Trod enc Tryz.prog W 0 (fun _ => true) true 22 v d p) :
    ∃ (a : Option Addr) (cap : Nat) (L : List Two), v = .slice a L.length cap ∧ L.length ≤ cap ∧ TwosAt W a L ∧ L.length + sumT L ≤ Rows.uptoBulk d := by
  obtain ⟨a0, len0, cap0, rfl⟩ := hv
  obtain ⟨fuel, hf0⟩ := h
  have hf : DataW.trod enc Tryz.prog W 0 (fun _ => true) true fuel 22 [.slice a0 len0 cap0] = some (d, p) := hf0
  rcases Deep.open_slice_pairs Tryz.underlying22 Tryz.underlying27 (by kernel_rfl) rfl rfl (by kernel_rfl) (by kernel_rfl) hf with ⟨hcs, hx⟩ | ⟨a, len, cap, m, n, V0, V1, D0, D1, P0, P1, hcs, _, hl, _, hm, hx, hat⟩
  · have e : (Value.slice a0 len0 cap0) = .slice none 0 0 := by simpa using hcs
    rw [e]
    exact ⟨none, 0, [], rfl, by simp, fun j hj => by simp at hj, by simp [sumT]⟩
  · have e : (Value.slice a0 len0 cap0) = .slice (some a) len cap := by simpa using hcs
    rw [e]
    simp only [if_true] at hm
    simp only [Prod.mk.injEq] at hx
    have each : ∀ i, i < len → ∃ q : Two, V0 i = .string ⟨q.1.toArray⟩ ∧ V1 i = .string ⟨q.2.toArray⟩ ∧ q.1.length ≤ Rows.uptoBulk (D0 i) ∧ q.2.length ≤ Rows.uptoBulk (D1 i) := fun i hi => by
      obtain ⟨_, _, t0, t1⟩ := hat i (by omega)
      obtain ⟨s0, e0, x0, _⟩ := DataW.trod_string Tryz.underlying9 t0
      obtain ⟨s1, e1, x1, _⟩ := DataW.trod_string Tryz.underlying9 t1
      simp only [Prod.mk.injEq] at x0 x1
      refine ⟨(s0.data.toList, s1.data.toList), by rw [Lib.mk_data]; simpa using e0, by rw [Lib.mk_data]; simpa using e1, ?_, ?_⟩
      · show s0.data.toList.length ≤ _; rw [x0.1]; simp only [Rows.uptoBulk]; omega
      · show s1.data.toList.length ≤ _; rw [x1.1]; simp only [Rows.uptoBulk]; omega
    obtain ⟨q, hq⟩ := Deep.choose_lt each
    have hb1 := bulk_sum D0 D1 q (List.range len) (fun i hi => (hq i (by simpa using hi)).2.2)
    rw [List.length_range] at hb1
    refine ⟨some a, cap, (List.range len).map q, by simp, by simpa using hl, fun i hi => ?_, ?_⟩
    · have hi' : i < len := by simpa using hi
      obtain ⟨b, off, spot⟩ := a
      have hsp : spot = none := by
        have := (hat 0 (by omega)).1
        cases spot with
        | none => rfl
        | some s => simp [World.cell?, Addr.add] at this; split at this <;> cases this
      subst hsp
      obtain ⟨g0, g1, _, _⟩ := hat i (by omega)
      rw [C.add_none] at g0 g1
      obtain ⟨q1, q2, _⟩ := hq i hi'
      refine ⟨b, off, rfl, ?_, ?_⟩
      · rw [g0, q1]; simp [hi']
      · rw [show off + i * 2 + 1 = off + (i * 2 + 1) by omega, g1, q2]; simp [hi']
    · rw [hx.1]
      simp only [Rows.uptoBulk, List.length_map, List.length_range]
      omega
set_option maxRecDepth 100000 in
theorem two_of_read {H : Type} {enc : TypeId × Value → H} {W : World} {r : Reach} {b0 : Nat} {v : Value} {d : DataW H} {p : List MemPlace} (hval : Value.okWide Tryz.prog W r b0 25 v) (h : DataW.Trod enc Tryz.prog W 0 (fun _ => true) true 25 v d p) :
    ∃ x y : List UInt8, v = .agg #[.string ⟨x.toArray⟩, .string ⟨y.toArray⟩] ∧ x.length + y.length ≤ Rows.uptoBulk d := by
  obtain ⟨cells, rfl, hsz⟩ := okWide_struct Tryz.underlying25 hval
  rw [show Tryz.prog.cellsOf 25 = 2 by kernel_rfl] at hsz
  obtain ⟨c0, c1, rfl⟩ : ∃ c0 c1, cells = #[c0, c1] := by
    match cells, hsz with
    | ⟨[c0, c1]⟩, _ => exact ⟨c0, c1, rfl⟩
  obtain ⟨fuel, hf0⟩ := h
  have hf : DataW.trod enc Tryz.prog W 0 (fun _ => true) true fuel 25 [c0, c1] = some (d, p) := hf0
  obtain ⟨xs, n, _, hd, hl, hlen, hg⟩ := DataW.trod_struct Tryz.underlying25 hf
  match xs, hlen with
  | [y0, y1], _ =>
    have t0 := hg 0 _ rfl
    have t1 := hg 1 _ rfl
    have k1 : Tryz.prog.cellsOf 9 = 1 := by kernel_rfl
    simp [k1] at t0 t1
    obtain ⟨s0, e0, x0, _⟩ := DataW.trod_string Tryz.underlying9 t0
    obtain ⟨s1, e1, x1, _⟩ := DataW.trod_string Tryz.underlying9 t1
    refine ⟨s0.data.toList, s1.data.toList, ?_, ?_⟩
    · simp at e0 e1
      simp only [Lib.mk_data]
      rw [e0, e1]
    · try simp only [Prod.mk.injEq] at x0 x1
      have hd1 : d = .agg [y0.1, y1.1] := by first | exact hd | simpa using hd | (simp at hd; exact hd.1) | (cases hd; rfl)
      rw [hd1]
      simp only [Rows.uptoBulk, Rows.uptoBulkAll]
      first
        | (rw [x0, x1]; simp only [Rows.uptoBulk]; omega)
        | (rw [x0.1, x1.1]; simp only [Rows.uptoBulk]; omega)
end Go.Proofs.YtmfhhpacojodkaaGreatDoor.L
