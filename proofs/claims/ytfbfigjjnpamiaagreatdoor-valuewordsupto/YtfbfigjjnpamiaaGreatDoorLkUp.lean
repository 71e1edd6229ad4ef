/- What is proved here: the document's upTo of layer 12: where the first one of some bytes stands. -/
import Derived.Test.YtfbfigjjnpamiaaGreatDoorLkChk
namespace Go.Proofs.YtfbfigjjnpamiaaGreatDoor.L
open Go.RowKit Go.Shelf Go.Proofs.YtfbfigjjnpamiaaGreatDoor.N Go.Proofs.YtfbfigjjnpamiaaGreatDoor.U

/-- Where the first one of some bytes stands, or the end. -/
def upToL (so s : List UInt8) : Nat := (s.takeWhile fun c => !so.contains c).length
theorem upToL_le (so s : List UInt8) : upToL so s ≤ s.length := (List.takeWhile_sublist _).length_le
theorem upTo_none (so : List UInt8) : ∀ (s : List UInt8), (∀ j, j < s.length → so.contains (s.getD j 0) = false) → upToL so s = s.length
  | [], _ => rfl
  | c :: t, h => by
    have h0 := h 0 (by simp)
    simp only [List.getD_cons_zero] at h0
    have h1 := upTo_none so t (fun j hj => by have := h (j + 1) (by simpa using hj); simpa using this)
    unfold upToL at h1 ⊢
    rw [List.takeWhile_cons, if_pos (by rw [h0]; rfl), List.length_cons, h1, List.length_cons]
theorem upTo_at (so : List UInt8) : ∀ (s : List UInt8) (i : Nat), i < s.length → (∀ j, j < i → so.contains (s.getD j 0) = false) → so.contains (s.getD i 0) = true → upToL so s = i
  | [], _, h, _, _ => by simp at h
  | c :: t, 0, _, _, h => by
    simp only [List.getD_cons_zero] at h
    unfold upToL
    rw [List.takeWhile_cons, if_neg (by rw [h]; decide)]; rfl
  | c :: t, i + 1, hi, hp, h => by
    have h0 := hp 0 (by omega)
    simp only [List.getD_cons_zero] at h0
    have h1 := upTo_at so t i (by simpa using hi) (fun j hj => by have := hp (j + 1) (by omega); simpa using this) (by simpa using h)
    unfold upToL at h1 ⊢
    rw [List.takeWhile_cons, if_pos (by rw [h0]; rfl), List.length_cons, h1]
theorem has_no (so : List UInt8) (c : UInt8) (h : ∀ j, j < so.length → (c == so.getD j 0) = false) : so.contains c = false := by
  rw [List.contains_eq_mem, decide_eq_false_iff_not]
  intro hm
  obtain ⟨j, hj, e⟩ := List.getElem_of_mem hm
  have h9 := h j hj
  have e9 : so.getD j 0 = c := by simp [hj, e]
  rw [e9] at h9
  simp at h9
theorem has_yes (so : List UInt8) (c : UInt8) (j : Nat) (hj : j < so.length) (h : (c == so.getD j 0) = true) : so.contains c = true := by
  have e : c = so.getD j 0 := by simpa using h
  rw [List.contains_eq_mem, decide_eq_true_iff, e]
  have e9 : so.getD j 0 = so[j] := by simp [hj]
  rw [e9]
  exact List.getElem_mem hj
end Go.Proofs.YtfbfigjjnpamiaaGreatDoor.L
