/- What is proved here: what a slice of integers or bytes, a struct of bytes, places and a truth value, or a script that was handed in reads as in memory, and how many values its datum holds at least. -/
import Derived.Deep.Strs
import Derived.Deep.SlicePairs
import Derived.Test.YtkpjmcoihbebkaaBun1
namespace Go.Proofs.Ytkpjmcoihbebkaa.C
open Go.ChangeShapes Go.WideShapes Go.ChangeAt Go.RowKit

theorem bulk_one {H : Type} (d : DataW H) : 1 ≤ Rows.uptoBulk d := by
  cases d with
  | lit l => cases l <;> simp [Rows.uptoBulk]
  | nil => simp [Rows.uptoBulk]
  | ptr d => simp [Rows.uptoBulk]
  | slice elems spare => simp [Rows.uptoBulk]
  | agg parts => simp [Rows.uptoBulk]
  | iface t d => simp [Rows.uptoBulk]
  | map entries => simp [Rows.uptoBulk]
  | held h => simp [Rows.uptoBulk]
theorem bulk_length {H : Type} (l : List (DataW H)) : l.length ≤ Rows.uptoBulkAll l := by
  induction l with
  | nil => simp [Rows.uptoBulkAll]
  | cons x r ih => have := bulk_one x; simp only [Rows.uptoBulkAll, List.length_cons]; omega
theorem wf_bounds {k : IntKind} {z : Int} (h : (Lit.int k z).wf = true) : k.min ≤ z ∧ z ≤ k.max := by
  simpa [Lit.wf] using h

/-- A cell that reads as a slice of integers. -/
theorem ints_of_trod {H : Type} {enc : TypeId × Value → H} {W : World} {t e : TypeId} {k : IntKind} {v : Value} {d : DataW H} {p : List MemPlace} {fuel : Nat} (ht : Try.prog.underlying t = some (.slice e)) (he : Try.prog.underlying e = some (.int k)) (hc : Try.prog.cellsOf e = 1)
    (hf : DataW.trod enc Try.prog W 0 (fun _ => true) true fuel t [v] = some (d, p)) :
    ∃ zs : List Int, HasI k W v zs ∧ zs.length ≤ Rows.uptoBulk d ∧ ∀ z ∈ zs, (Lit.int k z).wf = true := by
  rcases open_ints ht he hc hf with ⟨hcs, hx⟩ | ⟨a, len, cap, zs, hcs, _, hl, _, hz, hx, hcell, hwz⟩
  · obtain rfl : v = .slice none 0 0 := by simpa using hcs
    exact ⟨[], .inl ⟨rfl, none, 0, rfl⟩, by simp, by simp⟩
  · obtain rfl : v = .slice (some a) len cap := by simpa using hcs
    simp only [if_true] at hz
    simp only [Prod.mk.injEq] at hx
    have hlen : (zs.take len).length = len := by simp; omega
    refine ⟨zs.take len, ?_, ?_, fun z hm => hwz z (List.mem_of_mem_take hm)⟩
    · by_cases h0 : len = 0
      · subst h0; exact .inl ⟨by simp, some a, cap, rfl⟩
      · obtain ⟨b, off, spot⟩ := a
        have hsp : spot = none := by
          have := hcell 0 (by omega)
          cases spot with
          | none => rfl
          | some s => simp [World.cell?, Addr.add] at this; split at this <;> cases this
        subst hsp
        refine .inr ⟨by rw [hlen]; omega, b, off, cap, by rw [hlen], by rw [hlen]; exact hl, fun j hj => ?_⟩
        rw [hlen] at hj
        have := hcell j (by omega)
        rw [show zAt (zs.take len) j = zs.getD j 0 by simp [zAt, hj, List.getD]]
        rw [add_none] at this
        exact this
    · rw [hlen, hx.1]
      have := bulk_length (H := H) (lits k (zs.take len))
      simp only [Rows.uptoBulk]
      have hl2 : (lits (H := H) k (zs.take len)).length = len := by simp [lits]; omega
      omega
/-- A cell that reads as bytes. -/
theorem bytes_of_trod {H : Type} {enc : TypeId × Value → H} {W : World} {v : Value} {d : DataW H} {p : List MemPlace} {fuel : Nat} (hc : Try.prog.cellsOf 5 = 1)
    (h : DataW.trod enc Try.prog W 0 (fun _ => true) true fuel 39 [v] = some (d, p)) :
    ∃ bs : List UInt8, HasB W.heap.size W v bs ∧ bs.length ≤ Rows.uptoBulk d := by
  obtain ⟨zs, hz, hl, hw⟩ := ints_of_trod Try.underlying39 Try.underlying5 hc h
  refine ⟨zs.map fun z => UInt8.ofNat z.toNat, ?_, by simpa using hl⟩
  rcases hz with ⟨rfl, a, cap, rfl⟩ | ⟨hp, b, off, cap, rfl, hcap, hx⟩
  · exact .inl ⟨rfl, a, cap, rfl⟩
  · refine .inr ⟨by simpa using hp, b, off, cap, by simp, by simpa using hcap, cell_lt (hx 0 hp), fun j hj => ?_⟩
    simp only [List.length_map] at hj
    rw [hx j hj]
    have hm : zAt zs j ∈ zs := by simp [zAt, hj]
    have hb := wf_bounds (hw _ hm)
    simp [IntKind.min, IntKind.max, IntKind.signed, IntKind.bits] at hb
    have : ((byteAt (zs.map fun z => UInt8.ofNat z.toNat) j : Nat) : Int) = zAt zs j := by
      have e1 : byteAt (zs.map fun z => UInt8.ofNat z.toNat) j = (zAt zs j).toNat % 256 := by simp [byteAt, zAt, hj]
      rw [e1]; omega
    rw [this]
theorem ints_of_read {H : Type} {enc : TypeId × Value → H} {W : World} {t e : TypeId} {k : IntKind} {v : Value} {d : DataW H} {p : List MemPlace} (ht : Try.prog.underlying t = some (.slice e)) (he : Try.prog.underlying e = some (.int k)) (hc : Try.prog.cellsOf e = 1)
    (hv : ∃ a len cap, v = .slice a len cap) (h : DataW.Trod enc Try.prog W 0 (fun _ => true) true t v d p) :
    ∃ zs : List Int, HasI k W v zs ∧ zs.length ≤ Rows.uptoBulk d ∧ ∀ z ∈ zs, (Lit.int k z).wf = true := by
  obtain ⟨a0, len0, cap0, rfl⟩ := hv
  obtain ⟨fuel, hf⟩ := h
  exact ints_of_trod ht he hc hf
theorem bytes_of_read {H : Type} {enc : TypeId × Value → H} {W : World} {v : Value} {d : DataW H} {p : List MemPlace} (hc : Try.prog.cellsOf 5 = 1)
    (hv : ∃ a len cap, v = .slice a len cap) (h : DataW.Trod enc Try.prog W 0 (fun _ => true) true 39 v d p) :
    ∃ bs : List UInt8, HasB W.heap.size W v bs ∧ bs.length ≤ Rows.uptoBulk d := by
  obtain ⟨a0, len0, cap0, rfl⟩ := hv
  obtain ⟨fuel, hf⟩ := h
  exact bytes_of_trod hc hf

end Go.Proofs.Ytkpjmcoihbebkaa.C
