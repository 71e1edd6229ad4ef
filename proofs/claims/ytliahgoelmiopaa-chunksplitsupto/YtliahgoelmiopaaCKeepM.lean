/- What is proved here: plain facts on scripts: what a read tells is a piece of the script's bytes, at the place that was told so far; where it tells an error all of them were told, and which error it is. -/
import Derived.Test.YtliahgoelmiopaaCInv
import Derived.Test.YtliahgoelmiopaaCBytes
namespace Go.Proofs.Ytliahgoelmiopaa.CInv
open Go.RowKit C

theorem bytes_reach : ∀ (l : Scr), (bytesOf l).1 = (reach l).flatMap Prod.fst
  | [] => rfl
  | (d, true) :: t => by simp [bytesOf, reach]
  | (d, false) :: t => by simp [bytesOf, reach, bytes_reach t]
theorem fails_reach : ∀ (l : Scr), (bytesOf l).2 = (reach l).any Prod.snd
  | [] => rfl
  | (d, true) :: t => by simp [bytesOf, reach]
  | (d, false) :: t => by simp [bytesOf, reach, fails_reach t]
/-- A step that fails is the last one that is reached. -/
theorem reach_last : ∀ (l : Scr) (i : Nat) (h : i < (reach l).length), (reach l)[i].2 = true → i + 1 = (reach l).length
  | [], i, h, _ => by simp [reach] at h
  | (d, true) :: t, i, h, _ => by
    simp [reach] at h ⊢
    omega
  | (d, false) :: t, 0, h, hf => by simp [reach] at hf
  | (d, false) :: t, i + 1, h, hf => by
    have h' : i < (reach t).length := by simpa [reach] using h
    have hf' : (reach t)[i].2 = true := by simpa [reach] using hf
    have := reach_last t i h' hf'
    simp [reach]
    omega
theorem sizeS_flat (L : Scr) (i : Nat) : sizeS L i = ((L.take i).flatMap Prod.fst).length := by
  simp [sizeS, List.length_flatMap]
theorem flat_drop (L : Scr) (i p : Nat) (h : i < L.length) (hp : p ≤ L[i].1.length) : (L.flatMap Prod.fst).drop (sizeS L i + p) = L[i].1.drop p ++ (L.drop (i + 1)).flatMap Prod.fst := by
  have e : L = L.take i ++ L[i] :: L.drop (i + 1) := by
    conv => lhs; rw [← List.take_append_drop i L, List.drop_eq_getElem_cons h]
  have e2 : L.flatMap Prod.fst = (L.take i).flatMap Prod.fst ++ (L[i].1 ++ (L.drop (i + 1)).flatMap Prod.fst) := by
    have h' := congrArg (List.flatMap Prod.fst) e
    rw [List.flatMap_append, List.flatMap_cons] at h'
    exact h'
  rw [e2, sizeS_flat, ← List.drop_drop, List.drop_left, List.drop_append_of_le_length hp]
/-- **What a read tells.** -/
theorem rdX_bytes {l : Scr} {i p t : Nat} (hI : Inv l i p t) (n : Nat) : rdX l i p n = ((bytesOf l).1.drop t).take (rdK l i p n) := by
  rcases hI.cases with ⟨h1, h2, e⟩ | ⟨h1, e⟩
  · have hp := hI.part_le h1
    have ht := hI.told
    rw [← reach_size l i hI.le] at ht
    rw [bytes_reach, ht, flat_drop (reach l) i p h1 hp]
    simp only [rdX, rdK, dif_pos h2, e]
    rw [List.take_append_of_le_length (by simp; omega)]
  · have h4 : ¬ i < l.length := by omega
    simp only [rdX, rdK, dif_neg h4, List.take_zero]
theorem total (l : Scr) : (bytesOf l).1.length = sizeS (reach l) (reach l).length := by
  rw [bytes_reach, sizeS_flat, List.take_length]
/-- **Where a read tells an error.** -/
theorem rdE_end {l : Scr} {i p t : Nat} (hI : Inv l i p t) (he : rdE l i p ≠ 0) : t = (bytesOf l).1.length ∧ ((rdE l i p = 20 ∧ (bytesOf l).2 = true) ∨ (rdE l i p = 21 ∧ (bytesOf l).2 = false)) := by
  rcases hI.cases with ⟨h1, h2, e⟩ | ⟨h1, e⟩
  · have hp := hI.part_le h1
    have ht := hI.told
    rw [← reach_size l i hI.le] at ht
    simp only [rdE, dif_pos h2] at he ⊢
    by_cases hf : (l[i].2 && decide (p = l[i].1.length)) = true
    · rw [if_pos hf]
      simp only [Bool.and_eq_true, decide_eq_true_eq] at hf
      have hf1 : (reach l)[i].2 = true := by rw [← e]; exact hf.1
      have hl := reach_last l i h1 hf1
      have hs := sizeS_succ (reach l) i h1
      refine ⟨?_, .inl ⟨rfl, ?_⟩⟩
      · rw [total, ← hl, hs, ht, hf.2, e]
      · rw [fails_reach, List.any_eq_true]
        exact ⟨(reach l)[i], List.getElem_mem _, hf1⟩
    · rw [if_neg hf] at he
      exact absurd rfl he
  · have h4 : ¬ i < l.length := by omega
    have h5 := hI.over (by rw [e]; exact h1)
    have ht := hI.told
    refine ⟨?_, .inr ⟨by simp only [rdE, dif_neg h4], ?_⟩⟩
    · rw [total, e, ht, h5, h1, Nat.add_zero]
    · rw [fails_reach, List.any_eq_false]
      intro x hx
      obtain ⟨k, hk, rfl⟩ := List.mem_iff_getElem.1 hx
      have := hI.good k hk (by rw [e] at hk; omega)
      simp [this]
/-- All that was told is a beginning of the script's bytes. -/
theorem told_le {l : Scr} {i p t : Nat} (hI : Inv l i p t) : t ≤ (bytesOf l).1.length := by
  have ht := hI.told
  rcases hI.cases with ⟨h1, h2, e⟩ | ⟨h1, e⟩
  · have hp := hI.part_le h1
    rw [← reach_size l i hI.le] at ht
    have hs := sizeS_succ (reach l) i h1
    have hm := sizeS_mono (reach l) (i + 1) ((reach l).length - (i + 1))
    rw [show i + 1 + ((reach l).length - (i + 1)) = (reach l).length by omega] at hm
    rw [total]
    omega
  · have h5 := hI.over (by rw [e]; exact h1)
    rw [total, e, ht, h5, h1, Nat.add_zero]
    exact Nat.le_refl _
/-- One read more. -/
theorem told_on {l : Scr} {i p t : Nat} (hI : Inv l i p t) (n : Nat) : (bytesOf l).1.take (t + rdK l i p n) = (bytesOf l).1.take t ++ rdX l i p n := by
  rw [rdX_bytes hI, List.take_add]

end Go.Proofs.Ytliahgoelmiopaa.CInv
