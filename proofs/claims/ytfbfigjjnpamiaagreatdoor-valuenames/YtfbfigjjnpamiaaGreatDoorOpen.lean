/- What is proved here: what a slice of integers or bytes that was handed in reads as in memory, how many values its datum holds at least, and that reading goes on where nothing that was there is turned. -/
import Derived.Test.YtfbfigjjnpamiaaGreatDoorBun1
import Derived.ProofKit
import Derived.OpenShut
namespace Go.Proofs.YtfbfigjjnpamiaaGreatDoor.U
open Go.ChangeShapes Go.WideShapes Go.ChangeAt Go.RowKit

theorem bulk_one {H : Type} (d : DataW H) : 1 ≤ Rows.uptoBulk d := by
  cases d with
  | lit l => cases l <;> simp [Rows.uptoBulk]
  | nil => simp [Rows.uptoBulk]
  | ptr d => simp [Rows.uptoBulk]
  | slice elems spare => simp [Rows.uptoBulk]
  | agg parts => simp [Rows.uptoBulk]
  | iface t d => simp [Rows.uptoBulk]
  | map entries => simp [Rows.uptoBulk]
  | held h => simp [Rows.uptoBulk]
theorem bulk_length {H : Type} (l : List (DataW H)) : l.length ≤ Rows.uptoBulkAll l := by
  induction l with
  | nil => simp [Rows.uptoBulkAll]
  | cons x r ih => have := bulk_one x; simp only [Rows.uptoBulkAll, List.length_cons]; omega

theorem wf_bounds {k : IntKind} {z : Int} (h : (Lit.int k z).wf = true) : k.min ≤ z ∧ z ≤ k.max := by
  simpa [Lit.wf] using h

/-- A slice of integers that came in. -/
theorem ints_of_read {H : Type} {enc : TypeId × Value → H} {W : World} {t e : TypeId} {k : IntKind} {v : Value} {d : DataW H} {p : List MemPlace} (ht : Tryz.prog.underlying t = some (.slice e)) (he : Tryz.prog.underlying e = some (.int k)) (hc : Tryz.prog.cellsOf e = 1)
    (hv : ∃ a len cap, v = .slice a len cap) (h : DataW.Trod enc Tryz.prog W 0 (fun _ => true) true t v d p) :
    ∃ zs : List Int, HasI k W v zs ∧ zs.length ≤ Rows.uptoBulk d ∧ ∀ z ∈ zs, (Lit.int k z).wf = true := by
  obtain ⟨a0, len0, cap0, rfl⟩ := hv
  obtain ⟨fuel, hf⟩ := h
  rcases open_ints ht he hc hf with ⟨hcs, hx⟩ | ⟨a, len, cap, zs, hcs, _, hl, _, hz, hx, hcell, hwz⟩
  · refine ⟨[], .inl ⟨rfl, a0, cap0, ?_⟩, by simp, by simp⟩
    simp [Value.cells] at hcs
    obtain ⟨rfl, rfl, rfl⟩ := hcs
    rfl
  · have hcs' : Value.slice a0 len0 cap0 = .slice (some a) len cap := by simpa [Value.cells] using hcs
    cases hcs'
    simp only [if_true] at hz
    simp only [Prod.mk.injEq] at hx
    have hlen : (zs.take len0).length = len0 := by simp; omega
    refine ⟨zs.take len0, ?_, ?_, fun z hm => hwz z (List.mem_of_mem_take hm)⟩
    · by_cases h0 : len0 = 0
      · subst h0; exact .inl ⟨by simp, some a, cap0, rfl⟩
      · obtain ⟨b, off, spot⟩ := a
        have hsp : spot = none := by
          have := hcell 0 (by omega)
          cases spot with
          | none => rfl
          | some s => simp [World.cell?, Addr.add] at this; split at this <;> cases this
        subst hsp
        refine .inr ⟨by rw [hlen]; omega, b, off, cap0, by rw [hlen], by rw [hlen]; exact hl, fun j hj => ?_⟩
        rw [hlen] at hj
        have := hcell j (by omega)
        rw [show zAt (zs.take len0) j = zs.getD j 0 by simp [zAt, hj, List.getD]]
        have ea : (⟨b, off, none⟩ : Addr).add j = ⟨b, off + j, none⟩ := by unfold Addr.add; split <;> simp_all
        rw [ea] at this
        exact this
    · rw [hlen, hx.1]
      have := bulk_length (H := H) (lits k (zs.take len0))
      simp only [Rows.uptoBulk]
      have hl2 : (lits (H := H) k (zs.take len0)).length = len0 := by simp [lits]; omega
      omega

/-- A nil slice that came in has no capacity. -/
theorem nil_of_read {H : Type} {enc : TypeId × Value → H} {W : World} {t e : TypeId} {k : IntKind} {v : Value} {d : DataW H} {p : List MemPlace} (ht : Tryz.prog.underlying t = some (.slice e)) (he : Tryz.prog.underlying e = some (.int k)) (hc : Tryz.prog.cellsOf e = 1)
    (hv : ∃ a len cap, v = .slice a len cap) (h : DataW.Trod enc Tryz.prog W 0 (fun _ => true) true t v d p) : v = .slice none 0 0 ∨ ∃ ad len cap, v = .slice (some ad) len cap := by
  obtain ⟨a0, len0, cap0, rfl⟩ := hv
  obtain ⟨fuel, hf⟩ := h
  rcases open_ints ht he hc hf with ⟨hcs, _⟩ | ⟨a, len, cap, zs, hcs, _⟩
  · left; simpa [Value.cells] using hcs
  · right; exact ⟨a, len, cap, by simpa [Value.cells] using hcs⟩
theorem laidOut : laidOutB Tryz.prog = true := by kernel_rfl
/-- What was handed in reads as it did. -/
theorem stays {H : Type} {enc : TypeId × Value → H} {W W' : World} {t : TypeId} {v : Value} {d : DataW H} {ps : List MemPlace} (hr : Tryz.prog.readableRec t = true) (hrow : t < Tryz.prog.types.size)
    (h : DataW.Trod enc Tryz.prog W 0 (fun _ => true) true t v d ps) (hb : Below W.heap.size W W') (hlt : ∀ x ∈ ps, x.block < W.heap.size) : DataW.Trod enc Tryz.prog W' 0 (fun b => decide (b < W.heap.size)) true t v d ps :=
  Below.trod laidOut hr hrow h hb hlt

/-- Bytes that came in. -/
theorem bytes_of_read {H : Type} {enc : TypeId × Value → H} {W : World} {v : Value} {d : DataW H} {p : List MemPlace} (hc : Tryz.prog.cellsOf 5 = 1)
    (hv : ∃ a len cap, v = .slice a len cap) (h : DataW.Trod enc Tryz.prog W 0 (fun _ => true) true 47 v d p) :
    ∃ bs : List UInt8, HasB W.heap.size W v bs ∧ bs.length ≤ Rows.uptoBulk d := by
  obtain ⟨zs, hz, hl, hw⟩ := ints_of_read Tryz.underlying47 Tryz.underlying5 hc hv h
  refine ⟨zs.map fun z => UInt8.ofNat z.toNat, ?_, by simpa using hl⟩
  rcases hz with ⟨rfl, a, cap, rfl⟩ | ⟨hp, b, off, cap, rfl, hcap, hx⟩
  · exact .inl ⟨rfl, a, cap, rfl⟩
  · refine .inr ⟨by simpa using hp, b, off, cap, by simp, by simpa using hcap, cell_lt (hx 0 hp), fun j hj => ?_⟩
    simp only [List.length_map] at hj
    rw [hx j hj]
    have hm : zAt zs j ∈ zs := by simp [zAt, hj]
    have hb := wf_bounds (hw _ hm)
    simp [IntKind.min, IntKind.max, IntKind.signed, IntKind.bits] at hb
    have : ((byteAt (zs.map fun z => UInt8.ofNat z.toNat) j : Nat) : Int) = zAt zs j := by
      have e1 : byteAt (zs.map fun z => UInt8.ofNat z.toNat) j = (zAt zs j).toNat % 256 := by simp [byteAt, zAt, hj]
      rw [e1]; omega
    rw [this]

end Go.Proofs.YtfbfigjjnpamiaaGreatDoor.U
