/- What is proved here: plain facts of right stacks: where each part, each item stands; what lies around it. No program in sight. -/
import Derived.Test.YtdkcibafbdmajaaNeRFacts
namespace Go.Proofs.Ytdkcibafbdmajaa.E
open Go.RowKit Go.Shelf Go.Proofs.Ytdkcibafbdmajaa.N

theorem putK_ne {s : St} {x : Txt} (h : (putK s x).2 = []) : False := by simp [putK] at h
/-- What within says of a right place. -/
theorem RA.within {S : List Txt} {k : Nat} {on : Txt → Bool} {one : Txt} (h1 : (withinK S (k, []) on one).1 = k) (h2 : (withinK S (k, []) on one).2 = []) : 0 < k ∧ on (S.getD (k - 1) []) = true := by
  unfold withinK at h1 h2
  by_cases hf : 0 ≤ findK S on wallB k
  · simp only [if_pos hf] at h1
    obtain ⟨z, e1, hz, hp, _⟩ := findK_hit hf
    rw [e1] at h1
    unfold closeToK at h1
    rw [if_pos (by omega)] at h1
    have : z = k - 1 := by omega
    subst this
    exact ⟨by omega, hp⟩
  · simp only [if_neg hf] at h2
    exact (putK_ne h2).elim
/-- What tabled says, where nothing is closed or put in. -/
theorem tabled_right {S : List Txt} {k : Nat} {on : Txt → Bool} (h1 : (tabledK S (k, []) on).1 = k) (h2 : (tabledK S (k, []) on).2 = []) : 0 < k ∧ on (S.getD (k - 1) []) = true ∧ tabledT S k on = S.getD (k - 1) [] := by
  unfold tabledK at h1 h2
  by_cases hf : 0 ≤ findK S on neverB k
  · simp only [if_pos hf] at h1
    obtain ⟨z, e1, hz, hp, _⟩ := findK_hit hf
    have e2 : closeToK k (findK S on neverB k) = k := h1
    rw [e1] at h1
    unfold closeToK at h1
    rw [if_pos (by omega)] at h1
    have : z = k - 1 := by omega
    subst this
    refine ⟨by omega, hp, ?_⟩
    unfold tabledT
    rw [if_pos hf, e2]
    unfold topK
    rw [if_neg (by omega)]
  · simp only [if_neg hf] at h2
    exact (putK_ne h2).elim
theorem RA.item {S : List Txt} {k : Nat} (h : RA S k xLi) : 0 < k ∧ listB (S.getD (k - 1) []) = true := by
  obtain ⟨_, _, h1, h2⟩ := h.steps
  exact RA.within h1 h2
theorem RA.term {S : List Txt} {k : Nat} {x : Txt} (h : RA S k x) (ho : ownOf x = .term) : 0 < k ∧ S.getD (k - 1) [] = xDl := by
  obtain ⟨_, _, h1, h2⟩ := h.steps
  rw [ho] at h1 h2
  have := RA.within (on := isB xDl) (one := xDl) h1 h2
  exact ⟨this.1, by simpa [isB] using this.2⟩
theorem RA.row {S : List Txt} {k : Nat} (h : RA S k xTr) : 0 < k ∧ groupB (S.getD (k - 1) []) = true := by
  obtain ⟨_, _, h1, h2⟩ := h.steps
  have e : ownK S (k, []) (ownOf xTr) = rowK S (k, []) := rfl
  rw [e] at h1 h2
  unfold rowK at h1 h2
  by_cases ht : tabledT S k bodyB = xTable
  · simp only [if_pos ht] at h2
    exact (putK_ne h2).elim
  · simp only [if_neg ht] at h1 h2
    obtain ⟨g1, g2, g3⟩ := tabled_right h1 h2
    rw [g3] at ht
    refine ⟨g1, ?_⟩
    unfold bodyB at g2
    unfold groupB
    have : (S.getD (k - 1) [] == xTable) = false := by rw [beq_eq_false_iff_ne]; exact ht
    rw [this] at g2
    simpa using g2
theorem RA.cell {S : List Txt} {k : Nat} {x : Txt} (h : RA S k x) (ho : ownOf x = .cell) : 0 < k ∧ S.getD (k - 1) [] = xTr := by
  obtain ⟨_, _, h1, h2⟩ := h.steps
  rw [ho] at h1 h2
  have e : ownK S (k, []) .cell = cellK S (k, []) := rfl
  rw [e] at h1 h2
  unfold cellK at h1 h2
  by_cases ht : tabledT S k rowB = xTable
  · simp only [if_pos ht] at h2
    exact (putK_ne h2).elim
  · simp only [if_neg ht] at h1 h2
    by_cases hg : groupB (tabledT S k rowB) = true
    · simp only [if_pos hg] at h2
      exact (putK_ne h2).elim
    · simp only [if_neg hg] at h1 h2
      obtain ⟨g1, g2, g3⟩ := tabled_right h1 h2
      rw [g3] at ht hg
      refine ⟨g1, ?_⟩
      unfold rowB bodyB at g2
      unfold groupB at hg
      have e2 : (S.getD (k - 1) [] == xTable) = false := by rw [beq_eq_false_iff_ne]; exact ht
      rw [e2] at g2
      simp only [Bool.or_false] at g2
      rw [Bool.not_eq_true] at hg
      rw [hg, Bool.or_false] at g2
      simpa using g2
theorem RA.notArea {S : List Txt} {k : Nat} {x : Txt} (h : RA S k x) (h0 : 0 < k) : S.getD (k - 1) [] ≠ xArea := fun e => by
  have h1 := h.steps.1
  have ht : topK S k = xArea := by unfold topK; rw [if_neg (by omega)]; exact e
  unfold areaN at h1
  rw [if_pos ht] at h1
  omega
theorem own_spec (x : Txt) : (ownOf x = .part → partB x = true) ∧ (ownOf x = .cell → x = xTd ∨ x = xTh) ∧ (ownOf x = .row → x = xTr) := by
  by_cases h1 : x = xLi
  · subst h1; decide
  by_cases h2 : x = xDt
  · subst h2; decide
  by_cases h3 : x = xDd
  · subst h3; decide
  by_cases h4 : x = xCaption
  · subst h4; decide
  by_cases h5 : x = xColgroup
  · subst h5; decide
  by_cases h6 : x = xThead
  · subst h6; decide
  by_cases h7 : x = xTbody
  · subst h7; decide
  by_cases h8 : x = xTfoot
  · subst h8; decide
  by_cases h9 : x = xCol
  · subst h9; decide
  by_cases h10 : x = xTr
  · subst h10; decide
  by_cases h11 : x = xTd
  · subst h11; decide
  by_cases h12 : x = xTh
  · subst h12; decide
  have e : ownOf x = .stand := by unfold ownOf; rw [if_neg h1, if_neg h2, if_neg h3, if_neg h4, if_neg h5, if_neg h6, if_neg h7, if_neg h8, if_neg h9, if_neg h10, if_neg h11, if_neg h12]
  rw [e]
  exact ⟨(fun h => by cases h), (fun h => by cases h), (fun h => by cases h)⟩
theorem own_not_part {x : Txt} (h : ownOf x = .part) : partB x = true := (own_spec x).1 h
theorem own_cell {x : Txt} (h : ownOf x = .cell) : x = xTd ∨ x = xTh := (own_spec x).2.1 h
/-- Directly on a table stand its parts alone. -/
theorem RA.onTable {S : List Txt} {k : Nat} {x : Txt} (h : RA S k x) (h0 : 0 < k) (hu : S.getD (k - 1) [] = xTable) : partB x = true := by
  obtain ⟨_, _, h1, h2⟩ := h.steps
  obtain ⟨j, rfl⟩ : ∃ j, k = j + 1 := ⟨k - 1, by omega⟩
  rw [Nat.add_sub_cancel] at hu
  have ft : topK S (j + 1) = xTable := by unfold topK; rw [if_neg (by omega), Nat.add_sub_cancel, hu]
  cases ho : ownOf x with
  | part => exact own_not_part ho
  | item =>
    rw [ho] at h1 h2
    have := RA.within (on := listB) (one := xUl) h1 h2
    rw [Nat.add_sub_cancel, hu] at this
    cases this.2
  | term =>
    rw [ho] at h1 h2
    have := RA.within (on := isB xDl) (one := xDl) h1 h2
    rw [Nat.add_sub_cancel, hu] at this
    cases this.2
  | column =>
    rw [ho] at h2
    have e : (columnK S (j + 1, [])).2 = [] := h2
    unfold columnK at e
    have hf : findK S (isB xColgroup) (isB xTable) (j + 1) = -1 := by
      show (if isB xColgroup (S.getD j []) then _ else if isB xTable (S.getD j []) then _ else _) = _
      rw [hu]
      rfl
    simp only [hf] at e
    exact (putK_ne e).elim
  | row =>
    rw [ho] at h2
    have e : (rowK S (j + 1, [])).2 = [] := h2
    unfold rowK at e
    have hf : findK S bodyB neverB (j + 1) = j := findK_top (by rw [hu]; rfl)
    have ht : tabledT S (j + 1) bodyB = xTable := by
      unfold tabledT
      rw [hf, if_pos (by omega)]
      unfold closeToK
      rw [if_pos (by omega)]
      exact ft
    rw [if_pos ht] at e
    exact (putK_ne e).elim
  | cell =>
    rw [ho] at h2
    have e : (cellK S (j + 1, [])).2 = [] := h2
    unfold cellK at e
    have hf : findK S rowB neverB (j + 1) = j := findK_top (by rw [hu]; rfl)
    have ht : tabledT S (j + 1) rowB = xTable := by
      unfold tabledT
      rw [hf, if_pos (by omega)]
      unfold closeToK
      rw [if_pos (by omega)]
      exact ft
    rw [if_pos ht] at e
    exact (putK_ne e).elim
  | stand =>
    rw [ho] at h2
    have e : (standK S (j + 1, [])).2 = [] := h2
    unfold standK at e
    simp only [ft] at e
    cases e
/-- Directly on a row stand its cells alone. -/
theorem on_row {S : List Txt} {L k : Nat} (hr : rightK S L = true) (hk : k < L) (h0 : 0 < k) (hu : S.getD (k - 1) [] = xTr) : S.getD k [] = xTd ∨ S.getD k [] = xTh := by
  have h := ra_of (right_take hr hk)
  obtain ⟨_, _, h1, h2⟩ := h.steps
  obtain ⟨j, rfl⟩ : ∃ j, k = j + 1 := ⟨k - 1, by omega⟩
  rw [Nat.add_sub_cancel] at hu
  have ft : topK S (j + 1) = xTr := by unfold topK; rw [if_neg (by omega), Nat.add_sub_cancel, hu]
  have hj := ra_of (right_take hr (show j < L by omega))
  rw [hu] at hj
  obtain ⟨g1, g2⟩ := hj.row
  obtain ⟨i, rfl⟩ : ∃ i, j = i + 1 := ⟨j - 1, by omega⟩
  rw [Nat.add_sub_cancel] at g2
  have gp : partB (S.getD i []) = true := by unfold partB; rw [g2]; simp
  obtain ⟨t1, t2⟩ := part_table hr (show i < L by omega) gp
  obtain ⟨q, rfl⟩ : ∃ q, i = q + 1 := ⟨i - 1, by omega⟩
  rw [Nat.add_sub_cancel] at t2
  have gs : S.getD (q + 1) [] = xThead ∨ S.getD (q + 1) [] = xTbody ∨ S.getD (q + 1) [] = xTfoot := by simpa [groupB] using g2
  cases ho : ownOf (S.getD (q + 1 + 1 + 1) []) with
  | cell => exact own_cell ho
  | item =>
    rw [ho] at h1 h2
    have := RA.within (on := listB) (one := xUl) h1 h2
    rw [Nat.add_sub_cancel, hu] at this
    cases this.2
  | term =>
    rw [ho] at h1 h2
    have := RA.within (on := isB xDl) (one := xDl) h1 h2
    rw [Nat.add_sub_cancel, hu] at this
    cases this.2
  | part =>
    have := h.part ho
    rw [Nat.add_sub_cancel, hu] at this
    cases this.2
  | row =>
    exfalso
    have hx : S.getD (q + 1 + 1 + 1) [] = xTr := (own_spec _).2.2 ho
    rw [hx] at h
    have := h.row
    rw [Nat.add_sub_cancel, hu] at this
    cases this.2
  | column =>
    exfalso
    rw [ho] at h2
    have e : (columnK S (q + 1 + 1 + 1, [])).2 = [] := h2
    unfold columnK at e
    have hf : findK S (isB xColgroup) (isB xTable) (q + 1 + 1 + 1) = -1 := by
      show (if isB xColgroup (S.getD (q + 1 + 1) []) then _ else if isB xTable (S.getD (q + 1 + 1) []) then _ else if isB xColgroup (S.getD (q + 1) []) then _ else if isB xTable (S.getD (q + 1) []) then _ else if isB xColgroup (S.getD q []) then _ else if isB xTable (S.getD q []) then _ else _) = _
      rw [hu, t2]
      rcases gs with g | g | g <;> rw [g] <;> rfl
    simp only [hf] at e
    exact (putK_ne e).elim
  | stand =>
    exfalso
    rw [ho] at h2
    have e : (standK S (q + 1 + 1 + 1, [])).2 = [] := h2
    unfold standK at e
    simp only [ft] at e
    cases e
/-- No a around an a but behind a cell. -/
theorem RA.noA {S : List Txt} {k : Nat} (h : RA S k xA) : findK S (isB xA) cellB k < 0 := by
  have h1 := h.steps.2.1
  by_cases hf : 0 ≤ findK S (isB xA) cellB k
  · obtain ⟨z, e, hz, _⟩ := findK_hit hf
    have : likeN1 S k xA ≤ z := by unfold likeN1; rw [if_pos rfl, e]; unfold closeK; rw [if_pos (by omega)]; simp
    have h2 := like3_le S (likeN2 S (likeN1 S k xA) xA) xA
    have h3 := like2_le S (likeN1 S k xA) xA
    unfold closeLikeN at h1
    omega
  · omega
theorem RA.noHead {S : List Txt} {k : Nat} {x : Txt} (h : RA S k x) (hx : headB x = true) : findK S headB wallB k < 0 := by
  have h1 := h.steps.2.1
  have h4 := like1_le S k x
  have h3 := like2_le S (likeN1 S k x) x
  have h2 := like3_le S (likeN2 S (likeN1 S k x) x) x
  unfold closeLikeN at h1
  have e1 : likeN1 S k x = k := by omega
  rw [e1] at h1 h2 h3
  have e2 : likeN2 S k x = k := by omega
  by_cases hf : 0 ≤ findK S headB wallB k
  · obtain ⟨z, e, hz, _⟩ := findK_hit hf
    unfold likeN2 at e2
    rw [if_pos hx, e] at e2
    unfold closeK at e2
    rw [if_pos (by omega)] at e2
    simp at e2
    omega
  · omega
theorem RA.noP {S : List Txt} {k : Nat} {x : Txt} (h : RA S k x) (hx : blockB x = true) : findK S (isB xP) edgeB k < 0 := by
  have h1 := h.steps.2.1
  have h4 := like1_le S k x
  have h3 := like2_le S (likeN1 S k x) x
  have h2 := like3_le S (likeN2 S (likeN1 S k x) x) x
  unfold closeLikeN at h1
  have e1 : likeN1 S k x = k := by omega
  rw [e1] at h1 h2 h3
  have e2 : likeN2 S k x = k := by omega
  rw [e2] at h1 h2
  by_cases hf : 0 ≤ findK S (isB xP) edgeB k
  · obtain ⟨z, e, hz, _⟩ := findK_hit hf
    unfold likeN3 closePN at h1
    rw [if_pos hx, e] at h1
    unfold closeK at h1
    rw [if_pos (by omega)] at h1
    simp at h1
    omega
  · omega
/-- Above a p of a right stack, up to the next wall, no block stands. -/
theorem no_block {S : List Txt} {L : Nat} (hr : rightK S L = true) (z : Nat) (hz : isB xP (S.getD z []) = true) : ∀ k, k ≤ L → (∀ i, z < i → i < k → wallB (S.getD i []) = false) → ∀ i, z < i → i < k → blockB (S.getD i []) = false
  | 0, _, _, i, _, hi => by omega
  | k + 1, hk, hw, i, h1, h2 => by
    by_cases e : i = k
    · subst e
      have ih := no_block hr z hz i (by omega) (fun j hj hjk => hw j hj (by omega))
      rw [Bool.eq_false_iff]
      intro hb
      have hn := (ra_of (right_take hr (show i < L by omega))).noP hb
      obtain ⟨j, g1, g2, g3, _⟩ := findK_miss hn z h1 hz
      unfold edgeB at g3
      rw [hw j g1 (by omega), ih j g1 g2] at g3
      cases g3
    · exact no_block hr z hz k (by omega) (fun j hj hjk => hw j hj (by omega)) i h1 (by omega)
/-- No p around a block but behind a wall. -/
theorem no_p {S : List Txt} {L k : Nat} (hr : rightK S L = true) (hk : k < L) (hb : blockB (S.getD k []) = true) : findK S (isB xP) wallB k < 0 := by
  by_cases hf : 0 ≤ findK S (isB xP) wallB k
  · obtain ⟨z, e, hz, hp, hz2⟩ := findK_hit hf
    have := no_block hr z hp (k + 1) (by omega) (fun i h1 h2 => by
      by_cases e : i = k
      · subst e
        have hn := (ra_of (right_take hr hk)).noP hb
        rw [Bool.eq_false_iff]
        intro hw
        have : edgeB (S.getD i []) = true := by unfold edgeB; rw [hw]; rfl
        have H : ∀ y, blockB y = true → wallB y = true → isB xTable y = true ∨ isB xCaption y = true ∨ isB xTd y = true ∨ isB xTh y = true := fun y _ h => by
          simp only [wallB, cellB, Bool.or_eq_true, beq_iff_eq] at h
          simp only [isB, beq_iff_eq]
          rcases h with (h | h | h) | h
          · exact .inr (.inr (.inl h))
          · exact .inr (.inr (.inr h))
          · exact .inr (.inl h)
          · exact .inl h
        obtain ⟨j, g1, g2, g3, _⟩ := findK_miss hn z h1 hp
        have ih := no_block hr z hp i (by omega) (fun j hj hjk => (hz2 j hj hjk).2)
        unfold edgeB at g3
        rw [(hz2 j g1 g2).2, ih j g1 g2] at g3
        cases g3
      · exact (hz2 i h1 (by omega)).2) k hz (by omega)
    rw [hb] at this
    cases this
  · omega
/-- Of two searches without a stop: what is sought first lies below. -/
theorem last_below {S : List Txt} {p q : Txt → Bool} {k : Nat} (h : findK S p q k < 0) : ¬ findK S q neverB k < findK S p neverB k := fun hlt => by
  by_cases hf : 0 ≤ findK S p neverB k
  · obtain ⟨z, e, hz, hp, _⟩ := findK_hit hf
    obtain ⟨i, h1, h2, h3, _⟩ := findK_miss h z hz hp
    by_cases hg : 0 ≤ findK S q neverB k
    · obtain ⟨y, e2, hy, _, hy2⟩ := findK_hit hg
      have : i ≤ y := by
        by_cases hc : y < i
        · rw [(hy2 i hc h2).1] at h3; cases h3
        · omega
      omega
    · obtain ⟨i2, _, _, h5, _⟩ := findK_miss (S := S) (p := q) (q := neverB) (k := k) (by omega) i h2 h3
      cases h5
  · have := findK_ge S p neverB k
    have := findK_ge S q neverB k
    omega
end Go.Proofs.Ytdkcibafbdmajaa.E
