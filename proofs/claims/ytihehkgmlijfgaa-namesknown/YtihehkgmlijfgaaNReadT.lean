/- What is proved here: a row of texts that came in, read. -/
import Derived.Deep.Strs
import Derived.SizedLaws
import Derived.Test.YtihehkgmlijfgaaNFrame
import Derived.Test.YtihehkgmlijfgaaNGiven
namespace Go.Proofs.Ytihehkgmlijfgaa.N
open Go.ChangeShapes Go.WideShapes Go.ChangeAt Go.RowKit C

theorem bulk_strs {H : Type} (S : Nat → ByteArray) : ∀ L : List Nat, L.length ≤ Rows.uptoBulkAll (H := H) (L.map fun i => DataW.lit (.string (S i).data.toList))
  | [] => by simp [Rows.uptoBulkAll]
  | i :: r => by
    have h1 := bulk_strs (H := H) S r
    simp only [List.map_cons, List.length_cons, Rows.uptoBulkAll, Rows.uptoBulk]
    omega
theorem lt_of_cell {W : World} {b off : Nat} {u : Value} (h : W.cell? ⟨b, off, none⟩ = some u) : b < W.heap.size := by
  by_cases hb : b < W.heap.size
  · exact hb
  · have h0 : W.heap[b]? = none := Array.getElem?_eq_none (by omega)
    simp [World.cell?, h0] at h
set_option maxRecDepth 100000 in
theorem texts_of_read {H : Type} {enc : TypeId × Value → H} {W : World} {v : Value} {d : DataW H} {p : List MemPlace} (hv : ∃ a len cap, v = .slice a len cap) (h : DataW.Trod enc Try.prog W 0 (fun _ => true) true 23 v d p) :
    ∃ L : List (List UInt8), HasO W v L ∧ (∀ x ∈ L, x.length ≤ 9223372036854775807) ∧ L.length ≤ Rows.uptoBulk d ∧ (L = [] ∨ ∃ el sp, d = .slice el sp ∧ el.length = L.length) := by
  obtain ⟨a0, len0, cap0, rfl⟩ := hv
  obtain ⟨fuel, hf⟩ := h
  rcases Deep.open_strs Try.underlying23 Try.underlying9 (by kernel_rfl) hf with ⟨hcs, hx⟩ | ⟨a, len, cap, m, S, hcs, _, hl, hmx, hm, hx, hat⟩
  · have : Value.slice a0 len0 cap0 = .slice none 0 0 := by simpa [Value.cells] using hcs
    rw [this]
    exact ⟨[], .inl ⟨rfl, .inl rfl⟩, by simp, by simp, .inl rfl⟩
  · have : Value.slice a0 len0 cap0 = .slice (some a) len cap := by simpa [Value.cells] using hcs
    rw [this]
    simp only [if_true] at hm
    simp only [Prod.mk.injEq] at hx
    refine ⟨(List.range len).map fun i => (S i).data.toList, ?_, fun x hx' => ?_, ?_, .inr ⟨_, _, hx.1, by simp⟩⟩
    · by_cases h0 : len = 0
      · subst h0; exact .inl ⟨by simp, .inr ⟨a, cap, rfl⟩⟩
      · obtain ⟨b, off, spot⟩ := a
        have hsp : spot = none := by
          have := (hat 0 (by omega)).1
          cases spot with
          | none => rfl
          | some s => simp [World.cell?, Addr.add] at this; split at this <;> cases this
        subst hsp
        have c0 := (hat 0 (by omega)).1
        rw [add_none] at c0
        refine .inr ⟨b, off, cap, by simp, by simpa using hl, lt_of_cell c0, fun j hj => ?_⟩
        have hj' : j < len := by simpa using hj
        have g := (hat j (by omega)).1
        rw [add_none] at g
        rw [g]
        simp
    · obtain ⟨i, hi, rfl⟩ := List.mem_map.1 hx'
      have := (hat i (by have := List.mem_range.1 hi; omega)).2
      rw [size_data]
      unfold maxLen at this
      omega
    · rw [hx.1]
      have hb := bulk_strs (H := H) S (List.range len)
      simp only [Rows.uptoBulk]
      simp only [List.length_map, List.length_range] at hb ⊢
      omega
end Go.Proofs.Ytihehkgmlijfgaa.N
