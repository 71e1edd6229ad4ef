/- What is proved here: plain facts of the search from the top and of right stacks. No program in sight. -/
import Derived.Test.YtdkcibafbdmajaaNeM
namespace Go.Proofs.Ytdkcibafbdmajaa.E
open Go.RowKit Go.Shelf Go.Proofs.Ytdkcibafbdmajaa.N

theorem findK_hit {S : List Txt} {p q : Txt → Bool} : ∀ {k : Nat}, 0 ≤ findK S p q k → ∃ z : Nat, findK S p q k = z ∧ z < k ∧ p (S.getD z []) = true ∧ ∀ j, z < j → j < k → p (S.getD j []) = false ∧ q (S.getD j []) = false
  | 0, h => by simp [findK] at h
  | k + 1, h => by
    unfold findK at h ⊢
    cases hp : p (S.getD k [])
    · rw [hp] at h
      simp only [Bool.false_eq_true, if_false] at h ⊢
      cases hq : q (S.getD k [])
      · rw [hq] at h
        simp only [Bool.false_eq_true, if_false] at h ⊢
        obtain ⟨z, e, hz, h1, h2⟩ := findK_hit h
        refine ⟨z, e, by omega, h1, fun j hj hk => ?_⟩
        by_cases hjk : j = k
        · subst hjk; exact ⟨hp, hq⟩
        · exact h2 j hj (by omega)
      · rw [hq] at h
        simp at h
    · simp only [if_true]
      exact ⟨k, rfl, by omega, hp, fun j hj hk => by omega⟩
/-- Where nothing is found, what is sought lies below something that stops. -/
theorem findK_miss {S : List Txt} {p q : Txt → Bool} : ∀ {k : Nat}, findK S p q k < 0 → ∀ j, j < k → p (S.getD j []) = true → ∃ i, j < i ∧ i < k ∧ q (S.getD i []) = true ∧ p (S.getD i []) = false
  | 0, _, j, hj, _ => by omega
  | k + 1, h, j, hj, hp => by
    unfold findK at h
    cases hpk : p (S.getD k [])
    · rw [hpk] at h
      simp only [Bool.false_eq_true, if_false] at h
      by_cases hjk : j = k
      · subst hjk; rw [hp] at hpk; cases hpk
      cases hqk : q (S.getD k [])
      · rw [hqk] at h
        simp only [Bool.false_eq_true, if_false] at h
        obtain ⟨i, h1, h2, h3, h4⟩ := findK_miss h j (by omega) hp
        exact ⟨i, h1, by omega, h3, h4⟩
      · exact ⟨k, by omega, by omega, hqk, hpk⟩
    · rw [hpk] at h
      simp at h
      omega
theorem findK_top {S : List Txt} {p q : Txt → Bool} {k : Nat} (h : p (S.getD k []) = true) : findK S p q (k + 1) = k := by
  unfold findK; rw [if_pos h]
theorem findK_none {S : List Txt} {p q : Txt → Bool} : ∀ {k : Nat}, (∀ j, j < k → p (S.getD j []) = false) → findK S p q k = -1
  | 0, _ => rfl
  | k + 1, h => by
    unfold findK
    rw [h k (by omega)]
    simp only [Bool.false_eq_true, if_false]
    split
    · rfl
    · exact findK_none (fun j hj => h j (by omega))
/-- The end of the top closes one. -/
theorem ended_top (S : List Txt) (k : Nat) : endedK S (k + 1) (S.getD k []) = k := by
  unfold endedK
  split
  · rename_i h; exact findK_top h
  · split
    · exact findK_top (by simp [isB])
    · split <;> exact findK_top (by simp [isB])
/-- The end of what is not there closes nothing. -/
theorem ended_none (S : List Txt) (x : Txt) (h : headB x = false) (hn : x ∉ S) : endedK S S.length x = -1 := by
  have hj : ∀ j, j < S.length → isB x (S.getD j []) = false := fun j hj => by
    unfold isB
    rw [beq_eq_false_iff_ne]
    rintro e
    apply hn
    rw [← e, List.getD_eq_getElem?_getD, List.getElem?_eq_getElem hj]
    exact List.getElem_mem hj
  unfold endedK
  rw [h]
  simp only [Bool.false_eq_true, if_false]
  split
  · exact findK_none hj
  · split <;> exact findK_none hj
end Go.Proofs.Ytdkcibafbdmajaa.E
