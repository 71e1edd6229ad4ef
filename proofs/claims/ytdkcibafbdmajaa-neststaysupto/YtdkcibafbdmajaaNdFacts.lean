/- What is proved here: plain facts: of a right stack the document's asks says what the program's table says; so with what a text asks, what an end tag closes. No program in sight. -/
import Derived.Test.YtdkcibafbdmajaaNdAsks
import Derived.Test.YtdkcibafbdmajaaNeTFacts
namespace Go.Proofs.Ytdkcibafbdmajaa.E
open Go.RowKit Go.Shelf Go.Proofs.Ytdkcibafbdmajaa.N

/-- In a right stack the search for a p stops at edges as at walls. -/
theorem p_edge {S : List Txt} {L : Nat} (hr : rightK S L = true) : ∀ k, k ≤ L → findK S (isB xP) edgeB k = findK S (isB xP) wallB k
  | 0, _ => rfl
  | k + 1, hk => by
    have ih := p_edge hr k (by omega)
    unfold findK
    split
    · rfl
    · unfold edgeB
      cases hw : wallB (S.getD k [])
      · cases hb : blockB (S.getD k [])
        · rw [if_neg (by decide), if_neg (by decide)]; exact ih
        · have h1 := no_p hr (show k < L by omega) hb
          have h2 := findK_ge S (isB xP) wallB k
          simp
          omega
      · simp
theorem closeP_unblock {S : List Txt} {L : Nat} (hr : rightK S L = true) (k : Nat) (hk : k ≤ L) : closePN S k = unblockN S k := by
  unfold closePN unblockN
  rw [p_edge hr k hk]
theorem dlike_like {S : List Txt} {L : Nat} (hr : rightK S L = true) (k : Nat) (hk : k ≤ L) (x : Txt) : dlikeN S k x = closeLikeN S k x := by
  unfold dlikeN closeLikeN dlikeN3 likeN3
  have h1 := like1_le S k x
  have h2 := like2_le S (likeN1 S k x) x
  split
  · exact (closeP_unblock hr _ (by omega)).symm
  · rfl
/-- What is put in by the top. -/
theorem inn_stand (t : Txt) (h : t ≠ xColgroup) : innI t = standI t := by
  unfold innI standI
  simp only [h, false_or]
theorem inner_stand {S : List Txt} {L : Nat} (hr : rightK S L = true) (k : Nat) (hk : k ≤ L) : innerK S k = standK S (k, []) := by
  cases k with
  | zero => rfl
  | succ j =>
    have ht : topK S (j + 1) = S.getD j [] := rfl
    unfold standK standN
    simp only [ht]
    unfold innerK
    by_cases hc : S.getD j [] = xColgroup
    · rw [if_pos hc, if_pos hc, hc]
      obtain ⟨h0, h1⟩ := part_table hr (show j < L by omega) (by rw [hc]; decide)
      obtain ⟨i, rfl⟩ : ∃ i, j = i + 1 := ⟨j - 1, by omega⟩
      rw [Nat.add_sub_cancel] at h1
      unfold innerK
      rw [if_neg (by rw [h1]; decide), h1]
      rfl
    · rw [if_neg hc, if_neg hc, inn_stand _ hc]
      rfl
theorem closeTo_pos {k : Nat} {z : Int} (h : 0 ≤ z) : closeToK k z = (z + 1).toNat := by unfold closeToK; rw [if_pos h]
theorem home_within {S : List Txt} {L : Nat} (hr : rightK S L = true) (k : Nat) (hk : k ≤ L) (p : Txt → Bool) (put : Txt) : homeK S k p put = withinK S (k, []) p put := by
  unfold homeK withinK
  by_cases h : 0 ≤ findK S p wallB k
  · rw [if_pos h, if_pos h, closeTo_pos h]
  · rw [if_neg h, if_neg h, inner_stand hr k hk]
    rfl
theorem place_no {S : List Txt} {L : Nat} (hr : rightK S L = true) (k : Nat) (hk : k ≤ L) (p : Txt → Bool) (T G : List Txt) (h : findK S p neverB k < 0) : placeK S p k T G = ((tabledK S (k, []) p).1, (tabledK S (k, []) p).2 ++ T) ∧ tabledT S k p = xTable := by
  have hu : unblockN S k ≤ k := unblock_le S k
  constructor
  · unfold placeK tabledK
    rw [if_pos h, if_neg (show ¬ 0 ≤ findK S p neverB k by omega), closeP_unblock hr k hk, inner_stand hr _ (by omega)]
    simp [putK]
  · unfold tabledT
    rw [if_neg (by omega)]
theorem place_yes {S : List Txt} (k : Nat) (p : Txt → Bool) (T G : List Txt) (z : Nat) (h : findK S p neverB k = z) : placeK S p k T G = (z + 1, if S.getD z [] = xTable then T else if groupB (S.getD z []) then G else []) ∧ tabledK S (k, []) p = (z + 1, []) ∧ tabledT S k p = S.getD z [] := by
  refine ⟨?_, ?_, ?_⟩
  · unfold placeK
    rw [h, if_neg (by omega)]
    rfl
  · unfold tabledK
    rw [h, if_pos (by omega), closeTo_pos (by omega)]
    rfl
  · unfold tabledT
    rw [h, if_pos (by omega), closeTo_pos (by omega)]
    rfl
theorem body_cases {x : Txt} (h : bodyB x = true) : x = xTable ∨ (x ≠ xTable ∧ groupB x = true) := by
  have : x = xThead ∨ x = xTbody ∨ x = xTfoot ∨ x = xTable := by simpa [bodyB] using h
  rcases this with rfl | rfl | rfl | rfl
  · exact .inr (by decide)
  · exact .inr (by decide)
  · exact .inr (by decide)
  · exact .inl rfl
theorem place_part {S : List Txt} {L : Nat} (hr : rightK S L = true) (k : Nat) (hk : k ≤ L) : placeK S (isB xTable) k [] [] = partK S (k, []) := by
  unfold partK
  by_cases h : findK S (isB xTable) neverB k < 0
  · rw [(place_no hr k hk _ [] [] h).1, List.append_nil]
  · obtain ⟨z, e, -, -, -⟩ := findK_hit (S := S) (p := isB xTable) (q := neverB) (k := k) (by omega)
    obtain ⟨h1, h2, -⟩ := place_yes k (isB xTable) [] [] z e
    rw [h1, h2]
    simp
theorem place_row {S : List Txt} {L : Nat} (hr : rightK S L = true) (k : Nat) (hk : k ≤ L) : placeK S bodyB k [xTbody] [] = rowK S (k, []) := by
  unfold rowK
  by_cases h : findK S bodyB neverB k < 0
  · obtain ⟨h1, h2⟩ := place_no hr k hk bodyB [xTbody] [] h
    rw [h1, if_pos h2]
    rfl
  · obtain ⟨z, e, -, hp, -⟩ := findK_hit (S := S) (p := bodyB) (q := neverB) (k := k) (by omega)
    obtain ⟨h1, h2, h3⟩ := place_yes k bodyB [xTbody] [] z e
    rw [h1, h2]
    show _ = if tabledT S k bodyB = xTable then _ else _
    rw [h3]
    by_cases ht : S.getD z [] = xTable
    · rw [if_pos ht, if_pos ht]
      rfl
    · rw [if_neg ht, if_neg ht]
      simp
theorem place_cell {S : List Txt} {L : Nat} (hr : rightK S L = true) (k : Nat) (hk : k ≤ L) : placeK S rowB k [xTbody, xTr] [xTr] = cellK S (k, []) := by
  unfold cellK
  by_cases h : findK S rowB neverB k < 0
  · obtain ⟨h1, h2⟩ := place_no hr k hk rowB [xTbody, xTr] [xTr] h
    rw [h1, if_pos h2]
    simp [putK]
  · obtain ⟨z, e, -, hp, -⟩ := findK_hit (S := S) (p := rowB) (q := neverB) (k := k) (by omega)
    obtain ⟨h1, h2, h3⟩ := place_yes k rowB [xTbody, xTr] [xTr] z e
    rw [h1, h2]
    show _ = if tabledT S k rowB = xTable then _ else if groupB (tabledT S k rowB) then _ else _
    rw [h3]
    by_cases ht : S.getD z [] = xTable
    · rw [if_pos ht, if_pos ht]
      rfl
    · rw [if_neg ht, if_neg ht]
      cases hg : groupB (S.getD z [])
      · simp
      · simp [putK]
/-- Where the topmost table or colgroup stands. -/
theorem tabcol {S : List Txt} : ∀ k, findK S (isB xColgroup) (isB xTable) k = (if 0 ≤ findK S tabColB neverB k ∧ S.getD (findK S tabColB neverB k).toNat [] = xColgroup then findK S tabColB neverB k else -1) ∧ (findK S tabColB neverB k < 0 → findK S (isB xTable) neverB k < 0) ∧ (0 ≤ findK S tabColB neverB k → S.getD (findK S tabColB neverB k).toNat [] = xTable → findK S (isB xTable) neverB k = findK S tabColB neverB k)
  | 0 => by simp [findK]
  | k + 1 => by
    obtain ⟨i1, i2, i3⟩ := tabcol (S := S) k
    by_cases h1 : S.getD k [] = xColgroup
    · have e1 : findK S tabColB neverB (k + 1) = k := by unfold findK; rw [if_pos (by rw [h1]; decide)]
      have e2 : findK S (isB xColgroup) (isB xTable) (k + 1) = k := by unfold findK; rw [if_pos (by rw [h1]; decide)]
      rw [e1, e2]
      refine ⟨?_, by omega, fun _ h => ?_⟩
      · rw [if_pos ⟨by omega, by simpa using h1⟩]
      · rw [show ((k : Int)).toNat = k from rfl, h1] at h
        exact absurd h (by decide)
    · by_cases h2 : S.getD k [] = xTable
      · have e1 : findK S tabColB neverB (k + 1) = k := by unfold findK; rw [if_pos (by rw [h2]; decide)]
        have e2 : findK S (isB xColgroup) (isB xTable) (k + 1) = -1 := by unfold findK; rw [h2]; rfl
        have e3 : findK S (isB xTable) neverB (k + 1) = k := by unfold findK; rw [if_pos (by rw [h2]; decide)]
        rw [e1, e2, e3]
        refine ⟨?_, by omega, fun _ _ => rfl⟩
        rw [if_neg (fun h => h1 (by simpa using h.2))]
      · have b1 : isB xColgroup (S.getD k []) = false := beq_eq_false_iff_ne.2 h1
        have b2 : isB xTable (S.getD k []) = false := beq_eq_false_iff_ne.2 h2
        have b3 : tabColB (S.getD k []) = false := by show (isB xTable (S.getD k []) || isB xColgroup (S.getD k [])) = false; rw [b1, b2]; rfl
        have b4 : neverB (S.getD k []) = false := rfl
        have e1 : findK S tabColB neverB (k + 1) = findK S tabColB neverB k := by rw [findK, b3, b4, if_neg (by decide), if_neg (by decide)]
        have e2 : findK S (isB xColgroup) (isB xTable) (k + 1) = findK S (isB xColgroup) (isB xTable) k := by rw [findK, b1, b2, if_neg (by decide), if_neg (by decide)]
        have e3 : findK S (isB xTable) neverB (k + 1) = findK S (isB xTable) neverB k := by rw [findK, b2, b4, if_neg (by decide), if_neg (by decide)]
        rw [e1, e2, e3]
        exact ⟨i1, i2, i3⟩
theorem place_col {S : List Txt} {L : Nat} (hr : rightK S L = true) (k : Nat) (hk : k ≤ L) : placeK S tabColB k [xColgroup] [] = columnK S (k, []) := by
  unfold columnK
  obtain ⟨t1, t2, t3⟩ := tabcol (S := S) k
  show _ = if 0 ≤ findK S (isB xColgroup) (isB xTable) k then _ else _
  rw [t1]
  by_cases h : findK S tabColB neverB k < 0
  · have hT := t2 h
    have hC : (if 0 ≤ findK S tabColB neverB k ∧ S.getD (findK S tabColB neverB k).toNat [] = xColgroup then findK S tabColB neverB k else -1) = -1 := if_neg (fun hh => absurd hh.1 (by omega))
    rw [hC, if_neg (by omega)]
    have hu : unblockN S k ≤ k := unblock_le S k
    unfold placeK tabledK
    rw [if_pos h, if_neg (by simp only; omega)]
    simp only
    rw [closeP_unblock hr k hk, inner_stand hr _ (by omega)]
    simp [putK]
  · obtain ⟨z, e, -, hp, -⟩ := findK_hit (S := S) (p := tabColB) (q := neverB) (k := k) (by omega)
    obtain ⟨h1, -, -⟩ := place_yes k tabColB [xColgroup] [] z e
    rw [h1, e]
    by_cases hc : S.getD z [] = xColgroup
    · have hC : (if 0 ≤ (z : Int) ∧ S.getD ((z : Int)).toNat [] = xColgroup then (z : Int) else -1) = z := if_pos ⟨by omega, hc⟩
      rw [hC, if_pos (show 0 ≤ (z : Int) by omega), closeTo_pos (by omega), if_neg (show ¬ S.getD z [] = xTable by rw [hc]; decide), if_neg (show ¬ groupB (S.getD z []) = true by rw [hc]; decide)]
      rfl
    · have hT : S.getD z [] = xTable := by
        generalize S.getD z [] = y at *
        simpa [tabColB, hc] using hp
      have e3 := t3 (by omega) (by rw [e]; exact hT)
      rw [e] at e3
      obtain ⟨-, h2, -⟩ := place_yes k (isB xTable) [] [] z e3
      have hC : (if 0 ≤ (z : Int) ∧ S.getD ((z : Int)).toNat [] = xColgroup then (z : Int) else -1) = -1 := if_neg (fun hh => hc hh.2)
      rw [hC, h2, if_pos hT, if_neg (show ¬ (0 : Int) ≤ -1 by decide)]
      rfl
/-- A name's own place. -/
theorem down_own {S : List Txt} {L : Nat} (hr : rightK S L = true) (k : Nat) (hk : k ≤ L) (x : Txt) : downK S k x = ownK S (k, []) (ownOf x) := by
  unfold downK
  by_cases h1 : x = xLi
  · subst h1; rw [if_pos rfl]; exact home_within hr k hk listB xUl
  rw [if_neg h1]
  by_cases h2 : x = xDt ∨ x = xDd
  · rw [if_pos h2]
    rcases h2 with rfl | rfl <;> exact home_within hr k hk (isB xDl) xDl
  rw [if_neg h2]
  cases h3 : partB x
  rotate_left
  · rw [if_pos rfl, own_part h3]
    exact place_part hr k hk
  rw [if_neg (by decide)]
  by_cases h4 : x = xCol
  · subst h4; rw [if_pos rfl]; exact place_col hr k hk
  rw [if_neg h4]
  by_cases h5 : x = xTr
  · subst h5; rw [if_pos rfl]; exact place_row hr k hk
  rw [if_neg h5]
  by_cases h6 : x = xTd ∨ x = xTh
  · rw [if_pos h6]
    rcases h6 with rfl | rfl <;> exact place_cell hr k hk
  rw [if_neg h6]
  have h7 : x ≠ xCaption ∧ x ≠ xColgroup ∧ x ≠ xThead ∧ x ≠ xTbody ∧ x ≠ xTfoot := by
    refine ⟨?_, ?_, ?_, ?_, ?_⟩ <;> (rintro rfl; exact absurd h3 (by decide))
  have ho : ownOf x = .stand := by
    unfold ownOf
    rw [if_neg h1, if_neg (fun e => h2 (.inl e)), if_neg (fun e => h2 (.inr e)), if_neg h7.1, if_neg h7.2.1, if_neg h7.2.2.1, if_neg h7.2.2.2.1, if_neg h7.2.2.2.2, if_neg h4, if_neg h5, if_neg (fun e => h6 (.inl e)), if_neg (fun e => h6 (.inr e))]
  rw [ho]
  exact inner_stand hr k hk
/-- The document's asks says what the table says. -/
theorem asks_element {S : List Txt} {L : Nat} (hr : rightK S L = true) (k : Nat) (hk : k ≤ L) (x : Txt) : asksD S k x = elementK S k x := by
  have h1 := areaN_le S k
  have h2 := like_le S (areaN S k) x
  unfold asksD elementK
  rw [dlike_like hr _ (by omega), down_own hr _ (by omega)]
/-- Whether the document's Right goes on at a place. -/
def rightAtD (S : List Txt) (L i : Nat) : Bool :=
  allowB (S.getD i []) && (!voidB (S.getD i []) && (!(decide (S.getD i [] = xArea) && decide ((i : Int) < (L : Int) - 1)) && (decide (i ≤ (asksD S i (S.getD i [])).1) && decide ((asksD S i (S.getD i [])).2.length = 0))))
theorem area_last {S : List Txt} {L i : Nat} (hr : rightK S L = true) (hi : i + 1 < L) : S.getD i [] ≠ xArea := fun e => by
  have h := (ra_of (right_take hr hi)).notArea (by omega)
  exact h e
theorem right_up {S : List Txt} : ∀ {L k : Nat}, rightK S L = true → k ≤ L → rightK S k = true
  | 0, k, h, hk => by obtain rfl : k = 0 := by omega
                      exact h
  | L + 1, k, h, hk => by
    by_cases e : k = L + 1
    · subst e; exact h
    · unfold rightK at h
      rw [Bool.and_eq_true] at h
      exact right_up h.1 (by omega)
theorem rightD_on {S : List Txt} {L i : Nat} (_hi : i < L) (hr : rightK S i = true) (h : rightAtD S L i = true) : rightK S (i + 1) = true := by
  unfold rightAtD at h
  simp only [Bool.and_eq_true, decide_eq_true_eq] at h
  obtain ⟨h1, h2, h3, h4, h5⟩ := h
  unfold rightK rightAt nothingB
  rw [hr, h1, h2]
  rw [asks_element hr i (Nat.le_refl _)] at h4 h5
  have := element_le S i (S.getD i [])
  simp only [Bool.true_and, Bool.and_eq_true, decide_eq_true_eq]
  exact ⟨by omega, h5⟩
theorem rightD_off {S : List Txt} {L i : Nat} (hi : i < L) (hr : rightK S i = true) (h : rightAtD S L i = false) : rightK S L = false := by
  cases hL : rightK S L
  · rfl
  exfalso
  have ha := right_take hL hi
  unfold rightAt nothingB at ha
  simp only [Bool.and_eq_true, decide_eq_true_eq] at ha
  obtain ⟨h1, h2, h3, h4⟩ := ha
  unfold rightAtD at h
  rw [asks_element hr i (Nat.le_refl _), h1, h2] at h
  have hle := element_le S i (S.getD i [])
  have h5 : i ≤ (elementK S i (S.getD i [])).1 := by omega
  rw [decide_eq_true h5, decide_eq_true h4] at h
  have h6 : S.getD i [] = xArea ∧ (i : Int) < (L : Int) - 1 := by simpa using h
  exact area_last hL (show i + 1 < L by omega) h6.1
end Go.Proofs.Ytdkcibafbdmajaa.E
