/- What is proved here: plain facts on sixteen-bit units: what runes are as units, units as runes, and that runes written so and read again are themselves. -/
import Derived.Test.YtjleehhgcpdapaaDoorMathB
namespace Go.Proofs.YtjleehhgcpdapaaDoor.U

/-- A rune's units. -/
def six (r : Int) : List Int := if Utf8.valid r = true then (if r < 65536 then [r] else [55296 + (r - 65536) / 1024, 56320 + (r - 65536) % 1024]) else [65533]
def sixs (zs : List Int) : List Int := zs.flatMap six
theorem six_length (r : Int) : (six r).length ≤ 2 := by unfold six; repeat' split
                                                        all_goals simp
theorem sixs_length (zs : List Int) : (sixs zs).length ≤ 2 * zs.length := by
  induction zs with
  | nil => simp [sixs]
  | cons z r ih => have := six_length z; unfold sixs at *; simp only [List.flatMap_cons, List.length_append, List.length_cons]; omega
theorem six_mendR (r : Int) : six (mendR r) = six r := by
  unfold mendR
  split
  · rfl
  · rename_i h
    unfold six
    rw [if_neg h]
    decide
theorem sixs_mendR (zs : List Int) : sixs (zs.map mendR) = sixs zs := by
  unfold sixs
  rw [List.flatMap_map]
  congr 1
  funext r
  exact six_mendR r
theorem sixs_snoc (l : List Int) (z : Int) : sixs (l ++ [z]) = sixs l ++ six z := by simp [sixs]

def isF (u : Int) : Bool := decide (55296 ≤ u) && decide (u < 56320)
def isS (u : Int) : Bool := decide (56320 ≤ u) && decide (u < 57344)
/-- Do a pair's units begin here? -/
def isP (l : List Int) : Bool := isF (zAt l 0) && (decide (1 < l.length) && isS (zAt l 1))
/-- One unit alone. -/
def lone (u : Int) : Int := if isF u || isS u then 65533 else u
def pairV (a b : Int) : Int := 65536 + (a - 55296) * 1024 + b - 56320
/-- Units as runes. -/
def frF : Nat → List Int → List Int
  | 0, _ => []
  | f + 1, l => if l.length = 0 then [] else if isP l = true then pairV (zAt l 0) (zAt l 1) :: frF f (l.drop 2) else lone (zAt l 0) :: frF f (l.drop 1)
def fr (us : List Int) : List Int := frF us.length us
theorem frF_fuel : ∀ f g (l : List Int), l.length ≤ f → l.length ≤ g → frF f l = frF g l
  | 0, 0, _, _, _ => rfl
  | 0, g + 1, l, h, _ => by have : l.length = 0 := by omega
                            simp [frF, this]
  | f + 1, 0, l, _, h => by have : l.length = 0 := by omega
                            simp [frF, this]
  | f + 1, g + 1, l, hf, hg => by
    unfold frF
    split
    · rfl
    · split
      · rw [frF_fuel f g _ (by simp; omega) (by simp; omega)]
      · rw [frF_fuel f g _ (by simp; omega) (by simp; omega)]
theorem frF_length : ∀ f (l : List Int), (frF f l).length ≤ f
  | 0, _ => by simp [frF]
  | f + 1, l => by
    unfold frF
    repeat' split
    · simp
    · have := frF_length f (l.drop 2); rw [List.length_cons]; omega
    · have := frF_length f (l.drop 1); rw [List.length_cons]; omega
theorem fr_length (us : List Int) : (fr us).length ≤ us.length := frF_length _ _
/-- The runes from a place on. -/
def frA (us : List Int) (k : Nat) : List Int := fr (us.drop k)
theorem frA_end (us : List Int) (k : Nat) (h : us.length ≤ k) : frA us k = [] := by
  unfold frA fr; rw [List.drop_eq_nil_of_le h]; rfl
theorem zAt_drop (l : List Int) (k j : Nat) : zAt (l.drop k) j = zAt l (k + j) := by simp [zAt]
theorem frA_pair (us : List Int) (k : Nat) (_ : k < us.length) (hp : isF (zAt us k) = true ∧ k + 1 < us.length ∧ isS (zAt us (k + 1)) = true) : frA us k = pairV (zAt us k) (zAt us (k + 1)) :: frA us (k + 2) := by
  unfold frA fr
  obtain ⟨f, hf⟩ : ∃ f, (us.drop k).length = f + 1 := ⟨(us.drop k).length - 1, by simp; omega⟩
  have hP : isP (us.drop k) = true := by
    unfold isP; rw [zAt_drop, zAt_drop, Nat.add_zero, hp.1, hp.2.2]; simp; omega
  rw [hf]; conv => lhs; unfold frF
  rw [if_neg (by omega), if_pos hP, zAt_drop, zAt_drop, Nat.add_zero, List.drop_drop]
  congr 1
  simp only [List.length_drop] at hf
  refine frF_fuel _ _ _ ?_ ?_
  · rw [List.length_drop]; omega
  · exact Nat.le_refl _
theorem frA_lone (us : List Int) (k : Nat) (h : k < us.length) (hp : ¬ (isF (zAt us k) = true ∧ k + 1 < us.length ∧ isS (zAt us (k + 1)) = true)) : frA us k = lone (zAt us k) :: frA us (k + 1) := by
  unfold frA fr
  obtain ⟨f, hf⟩ : ∃ f, (us.drop k).length = f + 1 := ⟨(us.drop k).length - 1, by simp; omega⟩
  have hP : ¬ isP (us.drop k) = true := by
    intro h'
    apply hp
    unfold isP at h'
    rw [zAt_drop, zAt_drop, Nat.add_zero] at h'
    simp only [Bool.and_eq_true, decide_eq_true_eq, List.length_drop] at h'
    exact ⟨h'.1, by omega, h'.2.2⟩
  rw [hf]; conv => lhs; unfold frF
  rw [if_neg (by omega), if_neg hP, zAt_drop, Nat.add_zero, List.drop_drop]
  congr 1
  simp only [List.length_drop] at hf
  refine frF_fuel _ _ _ ?_ ?_
  · rw [List.length_drop]; omega
  · exact Nat.le_refl _
theorem zAt_zero (a : Int) (l : List Int) : zAt (a :: l) 0 = a := rfl
theorem zAt_one (a b : Int) (l : List Int) : zAt (a :: b :: l) 1 = b := rfl
/-- **Runes as units, and back.** -/
theorem fr_sixs : ∀ (zs : List Int) f, (sixs zs).length ≤ f → frF f (sixs zs) = zs.map mendR
  | [], f, _ => by cases f <;> simp [sixs, frF]
  | z :: r, f, hf => by
    have he : sixs (z :: r) = six z ++ sixs r := rfl
    rw [he] at hf ⊢
    rw [List.length_append] at hf
    rw [List.map_cons]
    by_cases hv : Utf8.valid z = true
    · obtain ⟨v0, v1, v2⟩ := (valid_iff z).1 hv
      have hm : mendR z = z := by unfold mendR; rw [if_pos hv]
      rw [hm]
      by_cases h6 : z < 65536
      · have hs : six z = [z] := by unfold six; rw [if_pos hv, if_pos h6]
        rw [hs] at hf ⊢
        simp only [List.length_cons, List.length_nil] at hf
        obtain ⟨g, rfl⟩ : ∃ g, f = g + 1 := ⟨f - 1, by omega⟩
        have nf : isF z = false := by simp [isF]; omega
        have ns : isS z = false := by simp [isS]; omega
        simp only [List.cons_append, List.nil_append]
        unfold frF
        rw [if_neg (by simp), if_neg (by simp [isP, zAt_zero, nf]), zAt_zero]
        simp only [List.drop_succ_cons, List.drop_zero, lone, nf, ns]
        rw [fr_sixs r g (by omega)]
        rfl
      · have hs : six z = [55296 + (z - 65536) / 1024, 56320 + (z - 65536) % 1024] := by unfold six; rw [if_pos hv, if_neg h6]
        rw [hs] at hf ⊢
        simp only [List.length_cons, List.length_nil] at hf
        obtain ⟨g, rfl⟩ : ∃ g, f = g + 1 := ⟨f - 1, by omega⟩
        simp only [List.cons_append, List.nil_append]
        have y1 : isF (55296 + (z - 65536) / 1024) = true := by simp [isF]; omega
        have y2 : isS (56320 + (z - 65536) % 1024) = true := by simp [isS]; omega
        unfold frF
        rw [if_neg (by simp), if_pos (by simp [isP, zAt_zero, zAt_one, y1, y2]), zAt_zero, zAt_one]
        simp only [List.drop_succ_cons, List.drop_zero]
        rw [fr_sixs r g (by omega)]
        congr 1
        unfold pairV; omega
    · have hs : six z = [65533] := by unfold six; rw [if_neg hv]
      have hm : mendR z = 65533 := by unfold mendR; rw [if_neg hv]
      rw [hs] at hf ⊢
      rw [hm]
      simp only [List.length_cons, List.length_nil] at hf
      obtain ⟨g, rfl⟩ : ∃ g, f = g + 1 := ⟨f - 1, by omega⟩
      have nf : isF 65533 = false := by decide
      have ns : isS 65533 = false := by decide
      simp only [List.cons_append, List.nil_append]
      unfold frF
      rw [if_neg (by simp), if_neg (by simp [isP, zAt_zero, nf]), zAt_zero]
      simp only [List.drop_succ_cons, List.drop_zero, lone, nf, ns]
      rw [fr_sixs r g (by omega)]
      rfl

end Go.Proofs.YtjleehhgcpdapaaDoor.U
