/- What is proved here: facts on how far two texts are apart, as lists: the least number of bytes put in, taken out or replaced; that it is 0 only of the same, the same both ways, and that no way around is shorter. -/
import Derived.Test.YtihehkgmlijfgaaNFields
namespace Go.Proofs.Ytihehkgmlijfgaa.N

def diff (x y : UInt8) : Nat := if x = y then 0 else 1
/-- How far two lists are apart. -/
def lev : List UInt8 → List UInt8 → Nat
  | [], b => b.length
  | x :: a, [] => a.length + 1
  | x :: a, y :: b => min (min (lev a (y :: b) + 1) (lev (x :: a) b + 1)) (lev a b + diff x y)
termination_by a b => a.length + b.length
theorem lev_nil (b : List UInt8) : lev [] b = b.length := by rw [lev]
theorem lev_nil' (a : List UInt8) : lev a [] = a.length := by cases a <;> simp [lev]
theorem lev_cons (x y : UInt8) (a b : List UInt8) : lev (x :: a) (y :: b) = min (min (lev a (y :: b) + 1) (lev (x :: a) b + 1)) (lev a b + diff x y) := by rw [lev]
theorem diff_le (x y : UInt8) : diff x y ≤ 1 := by unfold diff; split <;> omega
theorem diff_self (x : UInt8) : diff x x = 0 := by simp [diff]
theorem diff_comm (x y : UInt8) : diff x y = diff y x := by unfold diff; by_cases h : x = y <;> simp [h, eq_comm]
theorem diff_tri (x y z : UInt8) : diff x z ≤ diff x y + diff y z := by
  unfold diff
  by_cases h : x = y
  · subst h; simp
  · rw [if_neg h]; split <;> omega
theorem lev_comm : ∀ a b : List UInt8, lev a b = lev b a
  | [], b => by rw [lev_nil, lev_nil']
  | x :: a, [] => by rw [lev_nil, lev_nil']
  | x :: a, y :: b => by
    rw [lev_cons, lev_cons, lev_comm a (y :: b), lev_comm (x :: a) b, lev_comm a b, diff_comm x y]
    omega
termination_by a b => a.length + b.length
theorem lev_del (x : UInt8) (a b : List UInt8) : lev (x :: a) b ≤ lev a b + 1 := by
  cases b with
  | nil => rw [lev_nil', lev_nil']; simp
  | cons y b => rw [lev_cons]; omega
theorem lev_ins (y : UInt8) (a b : List UInt8) : lev a (y :: b) ≤ lev a b + 1 := by rw [lev_comm a, lev_comm a]; exact lev_del y b a
theorem lev_sub (x y : UInt8) (a b : List UInt8) : lev (x :: a) (y :: b) ≤ lev a b + diff x y := by rw [lev_cons]; omega
theorem lev_drop (x : UInt8) (a : List UInt8) : ∀ b, lev a b ≤ lev (x :: a) b + 1
  | [] => by rw [lev_nil', lev_nil']; simp; omega
  | y :: b => by
    have h1 := lev_drop x a b
    have h2 := lev_ins y a b
    rw [lev_cons]
    omega
theorem lev_max : ∀ a b : List UInt8, lev a b ≤ max a.length b.length
  | [], b => by rw [lev_nil]; omega
  | x :: a, [] => by rw [lev_nil']; omega
  | x :: a, y :: b => by
    have := lev_max a b
    have h := diff_le x y
    have h' := lev_sub x y a b
    simp only [List.length_cons]
    omega
theorem lev_low : ∀ a b : List UInt8, a.length ≤ lev a b + b.length
  | [], b => by simp
  | x :: a, [] => by rw [lev_nil']; simp
  | x :: a, y :: b => by
    have h1 := lev_low a (y :: b)
    have h2 := lev_low (x :: a) b
    have h3 := lev_low a b
    rw [lev_cons]
    simp only [List.length_cons] at *
    omega
termination_by a b => a.length + b.length
theorem lev_self : ∀ a : List UInt8, lev a a = 0
  | [] => by rw [lev_nil]; rfl
  | x :: a => by rw [lev_cons, lev_self a, diff_self]; omega
theorem lev_zero : ∀ a b : List UInt8, lev a b = 0 → a = b
  | [], b => fun h => by rw [lev_nil] at h; exact (List.length_eq_zero_iff.1 h).symm
  | x :: a, [] => fun h => by rw [lev_nil'] at h; simp at h
  | x :: a, y :: b => fun h => by
    rw [lev_cons] at h
    have h1 := lev_zero a b (by omega)
    have h2 : diff x y = 0 := by omega
    unfold diff at h2
    by_cases e : x = y
    · rw [h1, e]
    · rw [if_neg e] at h2; omega
/-- No way around is shorter. -/
theorem lev_tri : ∀ a b c : List UInt8, lev a c ≤ lev a b + lev b c
  | [], b, c => by
    have := lev_low c b
    rw [lev_comm c b] at this
    rw [lev_nil, lev_nil]; omega
  | a, b, [] => by
    have := lev_low a b
    rw [lev_nil', lev_nil']; omega
  | x :: a, [], z :: c => by
    have := lev_max (x :: a) (z :: c)
    rw [lev_nil, lev_nil']
    omega
  | x :: a, y :: b, z :: c => by
    have i1 := lev_tri a (y :: b) (z :: c)
    have i2 := lev_tri (x :: a) b (z :: c)
    have i3 := lev_tri (x :: a) (y :: b) c
    have i4 := lev_tri a b c
    have i5 := lev_tri a b (z :: c)
    have i6 := lev_tri (x :: a) b c
    have d1 := lev_del x a (z :: c)
    have d2 := lev_ins z (x :: a) c
    have d3 := lev_sub x z a c
    have d4 := lev_drop y b (z :: c)
    have t := diff_tri x y z
    have e1 := lev_cons x y a b
    have e2 := lev_cons y z b c
    omega
termination_by a b c => a.length + b.length + c.length

/-- How far the first i of a are from the first j of b. -/
def dp (a b : List UInt8) (i j : Nat) : Nat := lev (a.take i).reverse (b.take j).reverse
theorem dp_top (a b : List UInt8) (j : Nat) (h : j ≤ b.length) : dp a b 0 j = j := by simp [dp, lev_nil]; omega
theorem dp_left (a b : List UInt8) (i : Nat) (h : i ≤ a.length) : dp a b i 0 = i := by simp [dp, lev_nil']; omega
theorem dp_succ (a b : List UInt8) (i j : Nat) (hi : i < a.length) (hj : j < b.length) : dp a b (i + 1) (j + 1) = min (min (dp a b i (j + 1) + 1) (dp a b (i + 1) j + 1)) (dp a b i j + diff a[i] b[j]) := by
  have e1 : (a.take (i + 1)).reverse = a[i] :: (a.take i).reverse := by rw [List.take_succ_eq_append_getElem hi]; simp
  have e2 : (b.take (j + 1)).reverse = b[j] :: (b.take j).reverse := by rw [List.take_succ_eq_append_getElem hj]; simp
  unfold dp
  rw [e1, e2, lev_cons]
theorem dp_le (a b : List UInt8) (i j : Nat) : dp a b i j ≤ max i j := by
  have := lev_max (a.take i).reverse (b.take j).reverse
  simp only [List.length_reverse, List.length_take] at this
  unfold dp
  omega
/-- How far two texts are apart: their first 100 bytes. -/
def dist (a b : List UInt8) : Nat := lev (a.take 100).reverse (b.take 100).reverse
theorem dist_dp (a b : List UInt8) : dist a b = dp (a.take 100) (b.take 100) (a.take 100).length (b.take 100).length := by unfold dist dp; rw [List.take_length, List.take_length]
theorem dist_le (a b : List UInt8) : dist a b ≤ 100 := by
  have := dp_le a b 100 100
  unfold dp at this
  unfold dist
  omega
theorem dist_self (a : List UInt8) : dist a a = 0 := lev_self _
theorem dist_zero {a b : List UInt8} (h : dist a b = 0) (ha : a.length ≤ 100) (hb : b.length ≤ 100) : a = b := by
  have := lev_zero _ _ h
  rw [List.reverse_inj, List.take_of_length_le ha, List.take_of_length_le hb] at this
  exact this

/-- The nearest of some names, with how far it is. -/
def nearTo (l : List UInt8) (K : List (List UInt8)) : List UInt8 × Nat := K.foldl (fun p n => if dist l n < p.2 then (n, dist l n) else p) ([], 101)
theorem nearTo_succ (l : List UInt8) (K : List (List UInt8)) (k : Nat) (h : k < K.length) : nearTo l (K.take (k + 1)) = if dist l K[k] < (nearTo l (K.take k)).2 then (K[k], dist l K[k]) else nearTo l (K.take k) := by
  unfold nearTo
  rw [List.take_succ_eq_append_getElem h, List.foldl_append]
  rfl
theorem nearTo_is (l : List UInt8) (K : List (List UInt8)) : ∀ k, k ≤ K.length → (k = 0 ∧ nearTo l (K.take k) = ([], 101)) ∨ (0 < k ∧ (nearTo l (K.take k)).1 ∈ K ∧ (nearTo l (K.take k)).2 = dist l (nearTo l (K.take k)).1 ∧ ∀ x ∈ K.take k, (nearTo l (K.take k)).2 ≤ dist l x)
  | 0 => fun _ => .inl ⟨rfl, by simp [nearTo]⟩
  | k + 1 => fun h => by
    have hk : k < K.length := by omega
    have ih := nearTo_is l K k (by omega)
    have hx := dist_le l K[k]
    rw [nearTo_succ l K k hk]
    refine .inr ⟨by omega, ?_⟩
    have hm : ∀ x ∈ K.take (k + 1), x ∈ K.take k ∨ x = K[k] := fun x hx => by
      rw [List.take_succ_eq_append_getElem hk, List.mem_append, List.mem_singleton] at hx
      exact hx
    by_cases hc : dist l K[k] < (nearTo l (K.take k)).2
    · rw [if_pos hc]
      refine ⟨List.getElem_mem _, rfl, fun x hx => ?_⟩
      rcases hm x hx with h1 | rfl
      · rcases ih with ⟨rfl, _⟩ | ⟨_, _, _, h2⟩
        · simp at h1
        · have := h2 x h1
          show dist l K[k] ≤ _
          omega
      · exact Nat.le_refl _
    · rw [if_neg hc]
      rcases ih with ⟨_, h1⟩ | ⟨_, h1, h2, h3⟩
      · rw [h1] at hc
        omega
      · refine ⟨h1, h2, fun x hx => ?_⟩
        rcases hm x hx with h4 | rfl
        · exact h3 x h4
        · omega
theorem nearTo_le (l : List UInt8) (K : List (List UInt8)) (k : Nat) (h : k ≤ K.length) : (nearTo l (K.take k)).2 ≤ 101 := by
  rcases nearTo_is l K k h with ⟨_, h1⟩ | ⟨_, _, h2, _⟩
  · rw [h1]; omega
  · rw [h2]; have := dist_le l (nearTo l (K.take k)).1; omega
theorem nearTo_all (l : List UInt8) (K : List (List UInt8)) (h : 0 < K.length) : (nearTo l K).1 ∈ K ∧ (nearTo l K).2 = dist l (nearTo l K).1 ∧ ∀ x ∈ K, (nearTo l K).2 ≤ dist l x := by
  rcases nearTo_is l K K.length (Nat.le_refl _) with ⟨h1, _⟩ | ⟨_, h1, h2, h3⟩
  · omega
  · rw [List.take_length] at h1 h2 h3
    exact ⟨h1, h2, h3⟩
theorem nearTo_self (l : List UInt8) (K : List (List UInt8)) (h : l ∈ K) (hK : ∀ x ∈ K, x.length ≤ 100) : nearTo l K = (l, 0) := by
  obtain ⟨h1, h2, h3⟩ := nearTo_all l K (List.length_pos_of_mem h)
  have h4 := h3 l h
  rw [dist_self] at h4
  have h5 : dist l (nearTo l K).1 = 0 := by omega
  have h6 := dist_zero h5 (hK l h) (hK _ h1)
  exact Prod.ext h6.symm (by omega)
end Go.Proofs.Ytihehkgmlijfgaa.N
