/- What is proved here: a row of texts that came in, as a stack. -/
import Derived.Deep.Strs
import Derived.Test.YtdkcibafbdmajaaNFrame
import Derived.Test.YtdkcibafbdmajaaNeAwake
namespace Go.Proofs.Ytdkcibafbdmajaa.E
open Go.ChangeShapes Go.WideShapes Go.ChangeAt Go.RowKit Go.Shelf Go.Proofs.Ytdkcibafbdmajaa.N Go.Proofs.Ytdkcibafbdmajaa.C

theorem bulk_words {H : Type} (S : Nat → ByteArray) : ∀ L : List Nat, L.length ≤ Rows.uptoBulkAll (H := H) (L.map fun i => DataW.lit (.string (S i).data.toList)) ∧ ∀ i ∈ L, (S i).data.toList.length ≤ Rows.uptoBulkAll (H := H) (L.map fun i => DataW.lit (.string (S i).data.toList))
  | [] => ⟨by simp, fun i hi => absurd hi (by simp)⟩
  | i :: r => by
    obtain ⟨h1, h2⟩ := bulk_words (H := H) S r
    simp only [List.map_cons, List.length_cons, Rows.uptoBulkAll, Rows.uptoBulk]
    refine ⟨by omega, fun j hj => ?_⟩
    rcases List.mem_cons.1 hj with rfl | hj
    · omega
    · have := h2 j hj; omega
set_option maxRecDepth 100000 in
theorem words_of_read {H : Type} {enc : TypeId × Value → H} {W : World} {v : Value} {d : DataW H} {p : List MemPlace} (hv : ∃ a len cap, v = .slice a len cap) (h : DataW.Trod enc Try.prog W 0 (fun _ => true) true 22 v d p) :
    ∃ (a : Option Addr) (cap : Nat) (L : List Txt), v = .slice a L.length cap ∧ L.length ≤ cap ∧ TextsAt W a L ∧ L.length ≤ Rows.uptoBulk d ∧ ∀ x ∈ L, x.length ≤ Rows.uptoBulk d := by
  obtain ⟨a0, len0, cap0, rfl⟩ := hv
  obtain ⟨fuel, hf0⟩ := h
  have hf : DataW.trod enc Try.prog W 0 (fun _ => true) true fuel 22 [.slice a0 len0 cap0] = some (d, p) := hf0
  rcases Deep.open_strs Try.underlying22 Try.underlying9 (by kernel_rfl) hf with ⟨hcs, hx⟩ | ⟨a, len, cap, m, S, hcs, _, hl, hmx, hm, hx, hat⟩
  · simp only [List.cons.injEq, and_true] at hcs
    exact ⟨none, 0, [], hcs, by simp, fun j hj => absurd hj (by simp), by simp, fun x hx => absurd hx (by simp)⟩
  · simp only [List.cons.injEq, and_true] at hcs
    simp only [if_true] at hm
    simp only [Prod.mk.injEq] at hx
    obtain ⟨b1, b2⟩ := bulk_words (H := H) S (List.range len)
    rw [List.length_range] at b1
    refine ⟨some a, cap, (List.range len).map fun i => (S i).data.toList, by rw [hcs]; simp, by simpa using hl, fun j hj => ?_, ?_, fun x hx' => ?_⟩
    · have hj' : j < len := by simpa using hj
      obtain ⟨b, off, spot⟩ := a
      have hsp : spot = none := by
        have := (hat 0 (by omega)).1
        cases spot with
        | none => rfl
        | some s => simp [World.cell?, Addr.add] at this; split at this <;> cases this
      subst hsp
      refine ⟨b, off, rfl, ?_⟩
      have g := (hat j (by omega)).1
      rw [add_none] at g
      rw [g]
      simp [hj', List.getD]
    · rw [hx.1]
      simp only [Rows.uptoBulk, List.length_map, List.length_range]
      omega
    · obtain ⟨i, hi, rfl⟩ := List.mem_map.1 hx'
      have := b2 i hi
      rw [hx.1]
      simp only [Rows.uptoBulk]
      omega
/-- A row that came in and is not long is a stack. -/
theorem stack_of {w : World} {a : Option Addr} {c : Nat} {S : List Txt} (hc : S.length ≤ c) (hT : TextsAt w a S) (hl : S.length ≤ 600) (hx : ∀ x ∈ S, x.length ≤ 1048576) : StackAt w a S c := ⟨hT, hc, ⟨by omega, fun j => by
  rw [List.getD_eq_getElem?_getD]
  by_cases hj : j < S.length
  · rw [List.getElem?_eq_getElem hj]
    have := hx _ (List.getElem_mem hj)
    simp
    omega
  · rw [List.getElem?_eq_none (by omega)]
    simp⟩, by omega⟩
end Go.Proofs.Ytdkcibafbdmajaa.E
