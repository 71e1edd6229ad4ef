/- What is proved here: plain facts of right stacks: parts of a table stand where they must; what is put in is little. No program in sight. -/
import Derived.Test.YtdkcibafbdmajaaNeFacts
namespace Go.Proofs.Ytdkcibafbdmajaa.E
open Go.RowKit Go.Shelf Go.Proofs.Ytdkcibafbdmajaa.N

theorem right_take {S : List Txt} : ∀ {L k : Nat}, rightK S L = true → k < L → rightAt S k = true
  | 0, k, _, h => by omega
  | L + 1, k, hr, h => by
    unfold rightK at hr
    rw [Bool.and_eq_true] at hr
    by_cases e : k = L
    · subst e; exact hr.2
    · exact right_take hr.1 (by omega)
/-- What a right place says. -/
structure RA (S : List Txt) (k : Nat) (x : Txt) : Prop where
  allow : allowB x = true
  void : voidB x = false
  left : (elementK S k x).1 = k
  ins : (elementK S k x).2 = []
theorem ra_of {S : List Txt} {k : Nat} (h : rightAt S k = true) : RA S k (S.getD k []) := by
  unfold rightAt nothingB at h
  simp only [Bool.and_eq_true, Bool.not_eq_true', decide_eq_true_eq] at h
  obtain ⟨h1, h2, h3, h4⟩ := h
  exact ⟨h1, h2, by have := element_le S k (S.getD k []); omega, List.length_eq_zero_iff.1 h4⟩
/-- Nothing is closed on the way. -/
theorem RA.steps {S : List Txt} {k : Nat} {x : Txt} (h : RA S k x) : areaN S k = k ∧ closeLikeN S k x = k ∧ (ownK S (k, []) (ownOf x)).1 = k ∧ (ownK S (k, []) (ownOf x)).2 = [] := by
  have h0 : (elementK S k x).1 = (ownK S (closeLikeN S (areaN S k) x, []) (ownOf x)).1 := rfl
  have a1 := areaN_le S k
  have a2 := like_le S (areaN S k) x
  have a3 := own_le S (closeLikeN S (areaN S k) x, []) (ownOf x)
  have e1 := h.left
  rw [h0] at e1
  simp only at a3
  have b1 : areaN S k = k := by omega
  rw [b1] at a2 a3 e1
  have b2 : closeLikeN S k x = k := by omega
  rw [b2] at e1
  have e2 := h.ins
  unfold elementK at e2
  rw [b1, b2] at e2
  exact ⟨b1, b2, e1, e2⟩
/-- A part of a table stands on it. -/
theorem RA.part {S : List Txt} {k : Nat} {x : Txt} (h : RA S k x) (ho : ownOf x = .part) : 0 < k ∧ S.getD (k - 1) [] = xTable := by
  obtain ⟨_, _, h1, h2⟩ := h.steps
  rw [ho] at h1 h2
  have e : ownK S (k, []) .part = tabledK S (k, []) (isB xTable) := rfl
  rw [e] at h1 h2
  unfold tabledK at h1 h2
  by_cases hf : 0 ≤ findK S (isB xTable) neverB k
  · simp only [if_pos hf] at h1
    obtain ⟨z, e1, hz, hp, _⟩ := findK_hit hf
    rw [e1] at h1
    unfold closeToK at h1
    rw [if_pos (by omega)] at h1
    have : z = k - 1 := by omega
    subst this
    exact ⟨by omega, by simpa [isB] using hp⟩
  · simp only [if_neg hf] at h2
    simp [putK] at h2
def partB (x : Txt) : Bool := x == xCaption || (x == xColgroup || groupB x)
theorem own_part {x : Txt} (h : partB x = true) : ownOf x = .part := by
  simp only [partB, groupB, Bool.or_eq_true, beq_iff_eq] at h
  rcases h with rfl | rfl | rfl | rfl | rfl <;> rfl
/-- A group or colgroup has a table under it. -/
theorem part_table {S : List Txt} {L k : Nat} (hr : rightK S L = true) (hk : k < L) (hp : partB (S.getD k []) = true) : 0 < k ∧ S.getD (k - 1) [] = xTable := (ra_of (right_take hr hk)).part (own_part hp)
/-- The top of what is left puts in one at most, if there is no table. -/
theorem standI_small {S : List Txt} {L k : Nat} (hr : rightK S L = true) (hk : k ≤ L) (hn : ∀ j, j < k → S.getD j [] ≠ xTable) : (standI (topK S k)).length ≤ 1 := by
  unfold topK
  by_cases h0 : k = 0
  · subst h0; rw [if_pos rfl]; decide
  rw [if_neg h0]
  have h1 := hn (k - 1) (by omega)
  have h2 : partB (S.getD (k - 1) []) = false := by
    rw [Bool.eq_false_iff]
    intro hp
    obtain ⟨g1, g2⟩ := part_table hr (by omega) hp
    exact hn (k - 1 - 1) (by omega) g2
  generalize S.getD (k - 1) [] = t at *
  simp only [partB, Bool.or_eq_false_iff, beq_eq_false_iff_ne] at h2
  unfold standI
  rw [if_neg (by rintro (h | h); exact h2.2.1 h; exact h1 h), if_neg (by rw [h2.2.2]; simp)]
  repeat' split
  all_goals simp
theorem closePN_le' (S : List Txt) (k : Nat) : closePN S k ≤ k := closePN_le S k
/-- tabled puts in two at most on a right stack, if what it seeks tables among others. -/
theorem tabled_small {S : List Txt} {L k : Nat} (hr : rightK S L = true) (hk : k ≤ L) (on : Txt → Bool) (hon : on xTable = true) : (tabledK S (k, []) on).2.length ≤ 2 ∧ (0 ≤ findK S on neverB k → (tabledK S (k, []) on).2 = []) := by
  unfold tabledK
  by_cases hf : 0 ≤ findK S on neverB k
  · simp only [if_pos hf]
    exact ⟨by simp, fun _ => trivial⟩
  · simp only [if_neg hf]
    refine ⟨?_, fun h => absurd h hf⟩
    have hn : ∀ j, j < closePN S k → S.getD j [] ≠ xTable := fun j hj e => by
      obtain ⟨i, h1, h2, h3, _⟩ := findK_miss (S := S) (p := on) (q := neverB) (k := k) (by omega) j (by have := closePN_le S k; omega) (by rw [e]; exact hon)
      cases h3
    have := standI_small hr (Nat.le_trans (closePN_le S k) hk) hn
    simp [putK, standK]
    omega
/-- **No more is put in than four.** -/
theorem ins_four {S : List Txt} {x : Txt} (hr : rightK S S.length = true) : (elementK S S.length x).2.length ≤ 4 := by
  unfold elementK
  have hk : closeLikeN S (areaN S S.length) x ≤ S.length := Nat.le_trans (like_le _ _ _) (areaN_le _ _)
  generalize closeLikeN S (areaN S S.length) x = k at *
  cases ownOf x with
  | item => have := within_len S (k, []) listB xUl; simpa [ownK, itemK] using this
  | term => have := within_len S (k, []) (isB xDl) xDl; simpa [ownK, termK] using this
  | part => have := tabled_len S (k, []) (isB xTable); simpa [ownK, partK] using this
  | column =>
    have := (tabled_small hr hk (isB xTable) (by rfl)).1
    show (columnK S (k, [])).2.length ≤ 4
    unfold columnK
    split
    · simp
    · simp [putK]; omega
  | row =>
    have := (tabled_small hr hk bodyB (by rfl)).1
    show (rowK S (k, [])).2.length ≤ 4
    unfold rowK
    split
    · simp [putK]; omega
    · omega
  | cell =>
    have := (tabled_small hr hk rowB (by rfl)).1
    show (cellK S (k, [])).2.length ≤ 4
    unfold cellK
    split
    · simp [putK]; omega
    · split
      · simp [putK]; omega
      · omega
  | stand => have := standI_len (topK S k); simp [ownK, standK]; omega
/-- All that may be put in may be allowed and is not void. -/
theorem fine_ins (S : List Txt) (k : Nat) (x : Txt) : ∀ y ∈ (elementK S k x).2, allowB y = true ∧ voidB y = false := by
  have H : ∀ y ∈ [xTbody, xTr, xTd, xLi, xDd, xUl, xDl, xTable, xColgroup], allowB y = true ∧ voidB y = false := by decide +kernel
  have hs : ∀ t y, y ∈ standI t → y ∈ [xTbody, xTr, xTd, xLi, xDd, xUl, xDl, xTable, xColgroup] := fun t y hy => by
    unfold standI at hy
    repeat' split at hy
    all_goals simp at hy
    all_goals (try rcases hy with rfl | rfl | rfl) <;> (try rcases hy with rfl | rfl) <;> (try subst hy) <;> simp
  have hstand : ∀ s : St, s.2 = [] → ∀ y ∈ (standK S s).2, y ∈ [xTbody, xTr, xTd, xLi, xDd, xUl, xDl, xTable, xColgroup] := fun s h0 y hy => by
    unfold standK at hy
    rw [h0] at hy
    exact hs _ y (by simpa using hy)
  have hput : ∀ (s : St) z, (∀ y ∈ s.2, y ∈ [xTbody, xTr, xTd, xLi, xDd, xUl, xDl, xTable, xColgroup]) → z ∈ [xTbody, xTr, xTd, xLi, xDd, xUl, xDl, xTable, xColgroup] → ∀ y ∈ (putK s z).2, y ∈ [xTbody, xTr, xTd, xLi, xDd, xUl, xDl, xTable, xColgroup] := fun s z h hz y hy => by
    rcases List.mem_append.1 hy with h1 | h1
    · exact h y h1
    · rw [List.mem_singleton.1 h1]; exact hz
  have htab : ∀ j on, ∀ y ∈ (tabledK S (j, []) on).2, y ∈ [xTbody, xTr, xTd, xLi, xDd, xUl, xDl, xTable, xColgroup] := fun j on => by
    unfold tabledK
    split
    · simp
    · exact hput _ _ (hstand _ rfl) (by simp)
  have hwith : ∀ j on z, z ∈ [xTbody, xTr, xTd, xLi, xDd, xUl, xDl, xTable, xColgroup] → ∀ y ∈ (withinK S (j, []) on z).2, y ∈ [xTbody, xTr, xTd, xLi, xDd, xUl, xDl, xTable, xColgroup] := fun j on z hz => by
    unfold withinK
    split
    · simp
    · exact hput _ _ (hstand _ rfl) hz
  intro y hy
  apply H
  unfold elementK at hy
  generalize closeLikeN S (areaN S k) x = j at *
  generalize ownOf x = o at *
  cases o with
  | item => exact hwith j listB xUl (by simp) y hy
  | term => exact hwith j (isB xDl) xDl (by simp) y hy
  | part => exact htab j (isB xTable) y hy
  | column =>
    have hy' : y ∈ (columnK S (j, [])).2 := hy
    unfold columnK at hy'
    split at hy'
    · simp at hy'
    · exact hput _ _ (htab j _) (by simp) y hy'
  | row =>
    have hy' : y ∈ (rowK S (j, [])).2 := hy
    unfold rowK at hy'
    split at hy'
    · exact hput _ _ (htab j _) (by simp) y hy'
    · exact htab j _ y hy'
  | cell =>
    have hy' : y ∈ (cellK S (j, [])).2 := hy
    unfold cellK at hy'
    split at hy'
    · exact hput _ _ (hput _ _ (htab j _) (by simp)) (by simp) y hy'
    · split at hy'
      · exact hput _ _ (htab j _) (by simp) y hy'
      · exact htab j _ y hy'
  | stand => exact hstand _ rfl y hy
end Go.Proofs.Ytdkcibafbdmajaa.E
