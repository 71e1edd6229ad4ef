/- What is proved here: facts on an insertion sort of texts, as lists: what the row is in its course, and that at the end it is the sorted row. -/
import Derived.Test.YtjgppdjbcmadcaaNFields
namespace Go.Proofs.Ytjgppdjbcmadcaa.N

/-- The first i are sorted; the row has the same texts as L. -/
def Srt (L M : List (List UInt8)) (i : Nat) : Prop := i ≤ M.length ∧ (M.take i).Pairwise (fun a b => a ≤ b) ∧ M.Perm L
/-- The text at place k is on its way down among the first ones. -/
def Mid (L M : List (List UInt8)) (i k : Nat) : Prop := ∃ A x B C, M = A ++ x :: (B ++ C) ∧ A.length = k ∧ A.length + B.length = i ∧ (A ++ B).Pairwise (fun a b => a ≤ b) ∧ (∀ b ∈ B, x ≤ b) ∧ M.Perm L
theorem Srt.start (L : List (List UInt8)) : Srt L L 0 := ⟨by omega, by simp, .refl _⟩
theorem Srt.mid {L M : List (List UInt8)} {i : Nat} (h : Srt L M i) (hi : i < M.length) : Mid L M i i := by
  refine ⟨M.take i, M[i], [], M.drop (i + 1), ?_, by simp; omega, by simp; omega, by simpa using h.2.1, by simp, h.2.2⟩
  simp
theorem Mid.length {L M : List (List UInt8)} {i k : Nat} (h : Mid L M i k) : k ≤ i ∧ i < M.length := by
  obtain ⟨A, x, B, C, rfl, h1, h2, _⟩ := h
  simp; omega
theorem Mid.stop0 {L M : List (List UInt8)} {i : Nat} (h : Mid L M i 0) : Srt L M (i + 1) := by
  have hl := h.length
  obtain ⟨A, x, B, C, e, h1, h2, h3, h4, h5⟩ := h
  obtain rfl : A = [] := List.length_eq_zero_iff.1 h1
  refine ⟨by omega, ?_, h5⟩
  have : M.take (i + 1) = x :: B := by
    rw [e, List.nil_append, List.take_succ_cons, List.take_append_of_le_length (by simp at h2; omega), List.take_of_length_le (by simp at h2; omega)]
  rw [this, List.pairwise_cons]
  exact ⟨h4, by simpa using h3⟩
theorem Mid.get {M A B : List (List UInt8)} {x y : List UInt8} (e : M = (A ++ [y]) ++ x :: B) (k : Nat) (hk : A.length = k) (h0 : k < M.length) (h1 : k + 1 < M.length) : M[k] = y ∧ M[k + 1] = x := by
  subst e hk
  constructor
  · simp
  · simp
theorem snoc_of {A : List (List UInt8)} {k : Nat} (h : A.length = k + 1) : ∃ A' y, A = A' ++ [y] ∧ A'.length = k := by
  have hne : A ≠ [] := by intro e; rw [e] at h; simp at h
  exact ⟨A.dropLast, A.getLast hne, (List.dropLast_concat_getLast hne).symm, by rw [List.length_dropLast]; omega⟩
theorem Mid.stop {L M : List (List UInt8)} {i k : Nat} (h : Mid L M i (k + 1)) (hk : k + 1 < M.length) (hn : ¬ M[k + 1] < M[k]) : Srt L M (i + 1) := by
  have hl := h.length
  obtain ⟨A, x, B, C, e, h1, h2, h3, h4, h5⟩ := h
  obtain ⟨A', y, rfl, hA⟩ := snoc_of h1
  obtain ⟨g1, g2⟩ := Mid.get e k hA (by omega) hk
  rw [g1, g2] at hn
  have hyx : y ≤ x := List.not_lt.1 hn
  refine ⟨by omega, ?_, h5⟩
  have ht : M.take (i + 1) = (A' ++ [y]) ++ x :: B := by
    rw [e, show (A' ++ [y]) ++ x :: (B ++ C) = ((A' ++ [y]) ++ x :: B) ++ C by simp, List.take_left' (by simp at h2 ⊢; omega)]
  rw [ht]
  obtain ⟨p1, p2, p3⟩ := List.pairwise_append.1 h3
  refine List.pairwise_append.2 ⟨p1, List.pairwise_cons.2 ⟨h4, p2⟩, fun a ha b hb => ?_⟩
  rcases List.mem_cons.1 hb with rfl | hb
  · rcases List.mem_append.1 ha with ha | ha
    · exact List.le_trans ((List.pairwise_append.1 p1).2.2 a ha y (by simp)) hyx
    · obtain rfl : a = y := by simpa using ha
      exact hyx
  · exact p3 a ha b hb
theorem Mid.step {L M : List (List UInt8)} {i k : Nat} (h : Mid L M i (k + 1)) (hk : k + 1 < M.length) (hn : M[k + 1] < M[k]) : Mid L ((M.set (k + 1) M[k]).set k M[k + 1]) i k := by
  have hl := h.length
  obtain ⟨A, x, B, C, e, h1, h2, h3, h4, h5⟩ := h
  obtain ⟨A', y, rfl, hA⟩ := snoc_of h1
  obtain ⟨g1, g2⟩ := Mid.get e k hA (by omega) hk
  rw [g1, g2] at hn
  rw [g1, g2]
  have hxy : x ≤ y := List.le_of_lt hn
  have hs : (M.set (k + 1) y).set k x = A' ++ x :: ((y :: B) ++ C) := by
    subst hA
    rw [e, show (A' ++ [y]) ++ x :: (B ++ C) = A' ++ (y :: x :: (B ++ C)) by simp]
    rw [List.set_append_right _ _ (by omega), List.set_append_right _ _ (by omega)]
    simp
  refine ⟨A', x, y :: B, C, hs, hA, by simp at h2 ⊢; omega, by simpa using h3, fun b hb => ?_, ?_⟩
  · rcases List.mem_cons.1 hb with rfl | hb
    · exact hxy
    · exact h4 b hb
  · rw [hs]
    refine List.Perm.trans ?_ h5
    rw [e]
    simp only [List.append_assoc, List.cons_append]
    exact List.Perm.append_left A' (List.Perm.swap y x _)
theorem Srt.done {L M : List (List UInt8)} (h : Srt L M M.length) (S : List (List UInt8)) (hS : S.Pairwise (fun a b => a ≤ b)) (hp : S.Perm L) : M = S := by
  have h2 := h.2.1
  rw [List.take_length] at h2
  exact List.Perm.eq_of_pairwise (le := fun a b => a ≤ b) (fun a b _ _ h1 h2 => List.le_antisymm h1 h2) h2 hS (h.2.2.trans hp.symm)
end Go.Proofs.Ytjgppdjbcmadcaa.N
