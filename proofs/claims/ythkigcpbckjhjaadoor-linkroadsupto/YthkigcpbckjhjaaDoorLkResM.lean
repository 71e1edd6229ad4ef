/- What is proved here: a reference resolved, as lists: what the document says. -/
import Derived.Test.YthkigcpbckjhjaaDoorLkVal
import Derived.Test.YthkigcpbckjhjaaDoorBun8
import Derived.Test.YthkigcpbckjhjaaDoorLkDotM
namespace Go.Proofs.YthkigcpbckjhjaaDoor.L
open Go.RowKit Go.Shelf Go.Proofs.YthkigcpbckjhjaaDoor.N Go.Proofs.YthkigcpbckjhjaaDoor.U

/-- How long a path is up to its last slash, that one too. -/
def folderN (p : List UInt8) : Nat := (p.reverse.dropWhile fun c => !(c == 47)).length
theorem drop_none (q : UInt8 → Bool) : ∀ (a b : List UInt8), (∀ c ∈ a, q c = true) → (a ++ b).dropWhile q = b.dropWhile q
  | [], _, _ => rfl
  | c :: t, b, h => by rw [List.cons_append, List.dropWhile_cons, if_pos (h c (by simp)), drop_none q t b (fun d hd => h d (by simp [hd]))]
theorem folderN_at (p : List UInt8) (k : Nat) (hk : k ≤ p.length) (h1 : ∀ j, k ≤ j → j < p.length → (p.getD j 0 == 47) = false) (h2 : k = 0 ∨ (p.getD (k - 1) 0 == 47) = true) : folderN p = k := by
  have e : p.reverse = (p.drop k).reverse ++ (p.take k).reverse := by rw [← List.reverse_append, List.take_append_drop]
  unfold folderN
  rw [e, drop_none _ _ _ (fun c hc => by
    rw [List.mem_reverse] at hc
    obtain ⟨j, hj, rfl⟩ := List.getElem_of_mem hc
    have hj' : k + j < p.length := by simpa using (by simpa using hj : j < p.length - k) |> fun h => (by omega : k + j < p.length)
    have := h1 (k + j) (by omega) hj'
    have e2 : p.getD (k + j) 0 = (p.drop k)[j] := by simp [hj']
    rw [e2] at this
    rw [this]; rfl)]
  rcases h2 with rfl | h2
  · simp
  · have hk0 : 0 < k := by
      rcases Nat.eq_zero_or_pos k with e | e
      · subst e
        by_cases hl : 0 < p.length
        · have := h1 0 (Nat.le_refl _) hl; rw [Nat.zero_sub] at h2; rw [h2] at this; cases this
        · have : p = [] := List.eq_nil_of_length_eq_zero (by omega)
          subst this; exact absurd h2 (by decide)
      · exact e
    obtain ⟨t, ht⟩ : ∃ t, p.take k = t ++ [47] := by
      refine ⟨p.take (k - 1), ?_⟩
      have h3 : p.getD (k - 1) 0 = 47 := by simpa using h2
      have h4 : k - 1 < p.length := by omega
      have h5 := List.take_succ_eq_append_getElem h4
      rw [show k - 1 + 1 = k by omega] at h5
      rw [h5]
      have e2 : p.getD (k - 1) 0 = p[k - 1] := by simp [h4]
      rw [← e2, h3]
    have hl := congrArg List.length ht
    rw [List.length_take, List.length_append] at hl
    rw [ht, List.reverse_append, List.reverse_cons, List.reverse_nil, List.nil_append, List.cons_append, List.dropWhile_cons, if_neg (by decide)]
    simp at hl ⊢
    omega
theorem folderN_cases (p : List UInt8) : (folderN p = 0 ∨ (p.getD (folderN p - 1) 0 == 47) = true) ∧ folderN p ≤ p.length ∧ ∀ j, folderN p ≤ j → j < p.length → (p.getD j 0 == 47) = false := by
  induction hn : p.length generalizing p with
  | zero =>
    have : p = [] := List.eq_nil_of_length_eq_zero hn
    subst this
    exact ⟨.inl rfl, by simp [folderN], fun j _ hj => by omega⟩
  | succ n ih =>
    have h4 : n < p.length := by omega
    have e2 : p.getD n 0 = p[n] := by simp [h4]
    have hp : p = p.take n ++ [p[n]] := by
      have := List.take_succ_eq_append_getElem h4
      rw [show n + 1 = p.length by omega, List.take_length] at this
      exact this
    cases hc : (p.getD n 0 == 47) with
    | true =>
      have : folderN p = n + 1 := folderN_at p (n + 1) (by omega) (fun j h1 h2 => by omega) (.inr (by simpa using hc))
      rw [this]
      exact ⟨.inr (by simpa using hc), by omega, fun j h1 h2 => by omega⟩
    | false =>
      have ht : (p.take n).length = n := by simp; omega
      obtain ⟨i1, i2, i3⟩ := ih (p.take n) ht
      have g : ∀ j, j < n → (p.take n).getD j 0 = p.getD j 0 := fun j hj => by simp [hj]
      have hF : folderN p = folderN (p.take n) := by
        refine folderN_at p _ (by omega) (fun j h1 h2 => ?_) ?_
        · by_cases e : j = n
          · rw [e]; exact hc
          · rw [← g j (by omega)]; exact i3 j h1 (by omega)
        · rcases i1 with h | h
          · exact .inl h
          · by_cases e : folderN (p.take n) = 0
            · exact .inl e
            · right; rw [← g _ (by omega)]; exact h
      rw [hF]
      refine ⟨?_, by omega, fun j h1 h2 => ?_⟩
      · rcases i1 with h | h
        · exact .inl h
        · by_cases e : folderN (p.take n) = 0
          · exact .inl e
          · right; rw [← g _ (by omega)]; exact h
      · by_cases e : j = n
        · rw [e]; exact hc
        · rw [← g j (by omega)]; exact i3 j h1 (by omega)
def folderK (b : Lk) : List UInt8 := if b.hh && (b.pa == []) then [47] else b.pa.take (folderN b.pa)
/-- What a reference says in a place that a base names. -/
def resolveK (b r : Lk) : Lk :=
  if r.hs then { r with pa := dotsM r.pa }
  else if r.hh then { r with pa := dotsM r.pa, sc := b.sc, hs := b.hs }
  else if r.pa == [] then { r with pa := b.pa, qu := if r.hq then r.qu else b.qu, hq := if r.hq then r.hq else b.hq, sc := b.sc, hs := b.hs, ho := b.ho, hh := b.hh }
  else if r.pa.getD 0 0 == 47 then { r with pa := dotsM r.pa, sc := b.sc, hs := b.hs, ho := b.ho, hh := b.hh }
  else { r with pa := dotsM (folderK b ++ r.pa), sc := b.sc, hs := b.hs, ho := b.ho, hh := b.hh }
theorem val_folder {b : Lk} (h : Val b.pa) : Val (folderK b) := by
  unfold folderK
  split
  · exact val_one 47 (by decide)
  · obtain ⟨h1, h2, _⟩ := folderN_cases b.pa
    rcases h1 with e | e
    · rw [e]; exact val_nil
    · by_cases e0 : folderN b.pa = 0
      · rw [e0]; exact val_nil
      · have h4 : folderN b.pa - 1 < b.pa.length := by omega
        have h5 := List.take_succ_eq_append_getElem h4
        rw [show folderN b.pa - 1 + 1 = folderN b.pa by omega] at h5
        have e2 : b.pa.getD (folderN b.pa - 1) 0 = b.pa[folderN b.pa - 1] := by simp [h4]
        have e3 : b.pa[folderN b.pa - 1] = 47 := by rw [← e2]; simpa using e
        rw [h5, e3]
        have h6 : b.pa = b.pa.take (folderN b.pa - 1) ++ 47 :: b.pa.drop (folderN b.pa) := by
          have h7 := List.take_append_drop (folderN b.pa) b.pa
          rw [h5, e3] at h7
          rw [List.append_assoc] at h7
          exact h7.symm
        rw [h6] at h
        exact (h.cut (by decide)).1.app (val_one 47 (by decide))
theorem folder_le (b : Lk) : (folderK b).length ≤ b.pa.length + 1 := by
  unfold folderK
  split
  · simp
  · simp; omega
end Go.Proofs.YthkigcpbckjhjaaDoor.L
