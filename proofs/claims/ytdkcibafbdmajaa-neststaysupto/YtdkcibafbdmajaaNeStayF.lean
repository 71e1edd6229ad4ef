/- What is proved here: plain facts: a right stack stays right behind what a name or a text asks; behind that nothing more is asked. No program in sight. -/
import Derived.Test.YtdkcibafbdmajaaNeAgree
namespace Go.Proofs.Ytdkcibafbdmajaa.E
open Go.RowKit Go.Shelf Go.Proofs.Ytdkcibafbdmajaa.N

/-- The top of a whole stack. -/
def tp (U : List Txt) : Txt := topK U U.length
theorem tp_put (U : List Txt) (t : Txt) : tp (U ++ [t]) = t := by
  unfold tp topK
  rw [List.length_append]
  simp
theorem tp_take {U : List Txt} {z : Nat} (hz : z < U.length) : tp (U.take (z + 1)) = U.getD z [] := by
  unfold tp
  have e : (U.take (z + 1)).length = z + 1 := by rw [List.length_take]; omega
  rw [e, top_agree (agree_take U (z + 1))]
  rfl
theorem tp_at {U : List Txt} {t : Txt} (h : tp U = t) (hne : t ≠ []) : ∃ n, U.length = n + 1 ∧ U.getD n [] = t := by
  unfold tp topK at h
  by_cases h0 : U.length = 0
  · rw [if_pos h0] at h
    exact absurd h.symm hne
  · rw [if_neg h0] at h
    exact ⟨U.length - 1, by omega, h⟩
theorem closeK_no {k : Nat} {z : Int} (h : z < 0) : closeK k z = k := by unfold closeK; rw [if_neg (by omega)]
/-! ### what stands directly on what it must -/
theorem chain {U : List Txt} {t x : Txt} (h : tp U = t) (hne : t ≠ []) (hta : t ≠ xArea) (hxa : x ≠ xA) (hxh : headB x = false) (hb : blockB x = true → isB xP t = false ∧ edgeB t = true)
    (ho : ∀ n, U.length = n + 1 → U.getD n [] = t → ownK U (n + 1, []) (ownOf x) = (n + 1, [])) : Nn U x := by
  obtain ⟨n, hn, ht⟩ := tp_at h hne
  unfold Nn
  rw [hn]
  have h0 : areaN U (n + 1) = n + 1 := by
    unfold areaN
    rw [show topK U (n + 1) = U.getD n [] from rfl, ht, if_neg hta]
  have h1 : closeLikeN U (n + 1) x = n + 1 := by
    unfold closeLikeN likeN1 likeN2
    rw [if_neg hxa, hxh, if_neg (by decide)]
    unfold likeN3
    cases hbx : blockB x
    · rw [if_neg (by decide)]
    · rw [if_pos rfl]
      obtain ⟨b1, b2⟩ := hb hbx
      unfold closePN
      have : findK U (isB xP) edgeB (n + 1) = -1 := by unfold findK; rw [ht, b1, b2]; rfl
      rw [this]
      rfl
  unfold elementK
  rw [h0, h1]
  exact ho n hn ht
theorem within_top {S : List Txt} {n : Nat} {on : Txt → Bool} (one : Txt) (h : on (S.getD n []) = true) : withinK S (n + 1, []) on one = (n + 1, []) := by
  unfold withinK
  simp only
  rw [findK_top h, if_pos (by omega)]
  unfold closeToK
  rw [if_pos (by omega)]
  rfl
theorem tabled_top {S : List Txt} {n : Nat} {on : Txt → Bool} (h : on (S.getD n []) = true) : tabledK S (n + 1, []) on = (n + 1, []) ∧ tabledT S (n + 1) on = S.getD n [] := by
  have e : closeToK (n + 1) (n : Int) = n + 1 := by unfold closeToK; rw [if_pos (by omega)]; omega
  constructor
  · unfold tabledK
    simp only
    rw [findK_top h, if_pos (by omega), e]
  · unfold tabledT
    rw [findK_top h, if_pos (by omega), e]
    rfl
theorem on_table {U : List Txt} (h : tp U = xTable) {x : Txt} (hx : partB x = true) : Nn U x := by
  have hc : x = xCaption ∨ x = xColgroup ∨ x = xThead ∨ x = xTbody ∨ x = xTfoot := by simpa [partB, groupB] using hx
  have hq : x ≠ xA ∧ headB x = false ∧ blockB x = false := by
    rcases hc with rfl | rfl | rfl | rfl | rfl <;> decide +kernel
  refine chain h (by decide) (by decide) hq.1 hq.2.1 (fun hb => by rw [hq.2.2] at hb; cases hb) fun n _ ht => ?_
  rw [own_part hx]
  exact (tabled_top (on := isB xTable) (by rw [ht]; decide)).1
theorem on_group {U : List Txt} (h : groupB (tp U) = true) : Nn U xTr := by
  have hc : tp U = xThead ∨ tp U = xTbody ∨ tp U = xTfoot := by simpa [groupB] using h
  have hq : tp U ≠ [] ∧ tp U ≠ xArea ∧ bodyB (tp U) = true ∧ tp U ≠ xTable := by
    rcases hc with e | e | e <;> rw [e] <;> decide
  refine chain rfl hq.1 hq.2.1 (by decide) (by decide +kernel) (fun hb => absurd hb (by decide +kernel)) fun n _ ht => ?_
  show rowK U (n + 1, []) = _
  obtain ⟨e1, e2⟩ := tabled_top (S := U) (n := n) (on := bodyB) (by rw [ht]; exact hq.2.2.1)
  unfold rowK
  simp only
  rw [e2, ht, if_neg hq.2.2.2, e1]
theorem on_tr {U : List Txt} (h : tp U = xTr) {x : Txt} (hx : x = xTd ∨ x = xTh) : Nn U x := by
  have hq : x ≠ xA ∧ headB x = false ∧ blockB x = false ∧ ownOf x = .cell := by
    rcases hx with rfl | rfl <;> decide +kernel
  refine chain h (by decide) (by decide) hq.1 hq.2.1 (fun hb => by rw [hq.2.2.1] at hb; cases hb) fun n _ ht => ?_
  rw [hq.2.2.2]
  show cellK U (n + 1, []) = _
  obtain ⟨e1, e2⟩ := tabled_top (S := U) (n := n) (on := rowB) (by rw [ht]; decide)
  unfold cellK
  simp only
  rw [e2, ht, if_neg (by decide), if_neg (by decide), e1]
theorem on_list {U : List Txt} (h : listB (tp U) = true) : Nn U xLi := by
  have hc : tp U = xUl ∨ tp U = xOl ∨ tp U = xMenu := by simpa [listB] using h
  have hq : tp U ≠ [] ∧ tp U ≠ xArea ∧ isB xP (tp U) = false ∧ edgeB (tp U) = true := by
    rcases hc with e | e | e <;> rw [e] <;> decide +kernel
  refine chain rfl hq.1 hq.2.1 (by decide) (by decide +kernel) (fun _ => hq.2.2) fun n _ ht => ?_
  exact within_top xUl (by rw [ht]; exact h)
theorem on_dl {U : List Txt} (h : tp U = xDl) {x : Txt} (hx : x = xDt ∨ x = xDd) : Nn U x := by
  have hq : x ≠ xA ∧ headB x = false ∧ ownOf x = .term := by
    rcases hx with rfl | rfl <;> decide +kernel
  refine chain h (by decide) (by decide) hq.1 hq.2.1 (fun _ => by decide +kernel) fun n _ ht => ?_
  rw [hq.2.2]
  exact within_top xDl (by rw [ht]; decide)
theorem on_colgroup {U : List Txt} (h : tp U = xColgroup) : Nn U xCol := by
  refine chain h (by decide) (by decide) (by decide) (by decide +kernel) (fun hb => absurd hb (by decide +kernel)) fun n _ ht => ?_
  show columnK U (n + 1, []) = _
  unfold columnK
  simp only
  rw [findK_top (show isB xColgroup (U.getD n []) = true by rw [ht]; decide), if_pos (by omega)]
  unfold closeToK
  rw [if_pos (by omega)]
  rfl
theorem ok_names : ∀ y ∈ [xTbody, xTr, xTd, xLi, xDd, xUl, xDl, xTable, xColgroup], allowB y = true ∧ voidB y = false := by decide +kernel
theorem put_name {U : List Txt} (h : Rt U) {y : Txt} (hy : y ∈ [xTbody, xTr, xTd, xLi, xDd, xUl, xDl, xTable, xColgroup]) (hn : Nn U y) : Rt (U ++ [y]) := h.put (ok_names y hy).1 (ok_names y hy).2 hn
theorem put_group {U : List Txt} (h : Rt U) (ht : groupB (tp U) = true) : Rt (U ++ [xTr, xTd]) := by
  have h1 := put_name h (by decide) (on_group ht)
  have h2 := put_name h1 (by decide) (on_tr (tp_put U xTr) (.inl rfl))
  rw [List.append_assoc] at h2
  exact h2
theorem put_table {U : List Txt} (h : Rt U) (ht : tp U = xTable) : Rt (U ++ [xTbody, xTr, xTd]) := by
  have h1 := put_name h (by decide) (on_table ht (x := xTbody) (by decide))
  have h2 := put_group h1 (by rw [tp_put]; decide)
  rw [List.append_assoc] at h2
  exact h2
/-! ### standing -/
def standV (U : List Txt) : List Txt := U.take (standN U U.length) ++ standI (tp U)
theorem tp_three (V : List Txt) : tp (V ++ [xTbody, xTr, xTd]) = xTd := by
  have := tp_put (V ++ [xTbody, xTr]) xTd
  rwa [List.append_assoc] at this
theorem tp_two (V : List Txt) : tp (V ++ [xTr, xTd]) = xTd := by
  have := tp_put (V ++ [xTr]) xTd
  rwa [List.append_assoc] at this
/-- What comes of standing: nothing, or a cell, or an item. -/
inductive Stood (U : List Txt) : Prop where
  | same (e : standV U = U) (h1 : standI (tp U) = []) (h2 : tp U ≠ xColgroup)
  | cell (e : tp (standV U) = xTd)
  | li (e : standV U = U ++ [xLi])
  | dd (e : standV U = U ++ [xDd])
theorem stood {U : List Txt} (h : Rt U) : Rt (standV U) ∧ Stood U := by
  have full : tp U ≠ xColgroup → standV U = U ++ standI (tp U) := fun hc => by
    have : standN U U.length = U.length := by
      unfold standN
      rw [if_neg (show ¬ topK U U.length = xColgroup from hc)]
    unfold standV
    rw [this, List.take_length]
  by_cases h1 : tp U = xColgroup
  · obtain ⟨n, hn, ht⟩ := tp_at h1 (by decide)
    have hp := part_table (S := U) (L := U.length) (k := n) h (by omega) (by rw [ht]; decide)
    have hs : standV U = U.take n ++ [xTbody, xTr, xTd] := by
      unfold standV
      have e1 : standN U U.length = n := by
        unfold standN
        rw [if_pos (show topK U U.length = xColgroup from h1)]
        omega
      rw [e1, h1]
      rfl
    have htt : tp (U.take n) = xTable := by
      obtain ⟨m, rfl⟩ : ∃ m, n = m + 1 := ⟨n - 1, by omega⟩
      rw [tp_take (by omega)]
      exact hp.2
    exact ⟨by rw [hs]; exact put_table (h.take (by omega)) htt, .cell (by rw [hs]; exact tp_three _)⟩
  have hf := full h1
  by_cases h2 : tp U = xTable
  · have hs : standV U = U ++ [xTbody, xTr, xTd] := by rw [hf, h2]; rfl
    exact ⟨by rw [hs]; exact put_table h h2, .cell (by rw [hs]; exact tp_three _)⟩
  cases h3 : groupB (tp U)
  rotate_left
  · have hs : standV U = U ++ [xTr, xTd] := by
      rw [hf]
      unfold standI
      rw [if_neg (by simp [h1, h2]), if_pos h3]
    exact ⟨by rw [hs]; exact put_group h h3, .cell (by rw [hs]; exact tp_two _)⟩
  by_cases h4 : tp U = xTr
  · have hs : standV U = U ++ [xTd] := by rw [hf, h4]; rfl
    exact ⟨by rw [hs]; exact put_name h (by decide) (on_tr h4 (.inl rfl)), .cell (by rw [hs]; exact tp_put _ _)⟩
  cases h5 : listB (tp U)
  rotate_left
  · have hs : standV U = U ++ [xLi] := by
      rw [hf]
      unfold standI
      rw [if_neg (by simp [h1, h2]), if_neg (by rw [h3]; decide), if_neg h4, if_pos h5]
    exact ⟨by rw [hs]; exact put_name h (by decide) (on_list h5), .li hs⟩
  by_cases h6 : tp U = xDl
  · have hs : standV U = U ++ [xDd] := by rw [hf, h6]; rfl
    exact ⟨by rw [hs]; exact put_name h (by decide) (on_dl h6 (.inr rfl)), .dd hs⟩
  have hi : standI (tp U) = [] := by
    unfold standI
    rw [if_neg (by simp [h1, h2]), if_neg (by rw [h3]; decide), if_neg h4, if_neg (by rw [h5]; decide), if_neg h6]
  have hs : standV U = U := by rw [hf, hi, List.append_nil]
  exact ⟨by rw [hs]; exact h, .same hs hi h1⟩
/-- Nothing stands open ahead of a name: no area at the top, nothing like it. -/
structure Free (U : List Txt) (x : Txt) : Prop where
  area : tp U ≠ xArea
  a : x = xA → findK U (isB xA) cellB U.length < 0
  head : headB x = true → findK U headB wallB U.length < 0
  p : blockB x = true → findK U (isB xP) edgeB U.length < 0
theorem find_put (U : List Txt) (t : Txt) (p q : Txt → Bool) : findK (U ++ [t]) p q (U ++ [t]).length = if p t then (U.length : Int) else if q t then -1 else findK U p q U.length := by
  rw [show (U ++ [t]).length = U.length + 1 by simp, findK, find_agree p q (agree_append U [t])]
  simp
theorem find_tp {V : List Txt} {t : Txt} (h : tp V = t) (hne : t ≠ []) {p q : Txt → Bool} (hp : p t = false) (hq : q t = true) : findK V p q V.length < 0 := by
  obtain ⟨n, hn, ht⟩ := tp_at h hne
  rw [hn, findK, ht, hp, hq, if_neg (by decide), if_pos rfl]
  decide
/-- Free stays free behind standing; then the top asks nothing more. -/
theorem Free.stands {U : List Txt} {x : Txt} (h : Free U x) (hR : Rt U) : Free (standV U) x ∧ standI (tp (standV U)) = [] ∧ tp (standV U) ≠ xColgroup := by
  rcases (stood hR).2 with ⟨e, h1, h2⟩ | e | e | e
  · rw [e]; exact ⟨h, h1, h2⟩
  · refine ⟨⟨by rw [e]; decide, fun _ => find_tp e (by decide) (by decide) (by decide), fun _ => find_tp e (by decide) (by decide +kernel) (by decide), fun _ => find_tp e (by decide) (by decide) (by decide +kernel)⟩, by rw [e]; decide, by rw [e]; decide⟩
  · have et : tp (standV U) = xLi := by rw [e]; exact tp_put _ _
    refine ⟨⟨by rw [et]; decide, fun hx => ?_, fun hx => ?_, fun _ => find_tp et (by decide) (by decide) (by decide +kernel)⟩, by rw [et]; decide, by rw [et]; decide⟩
    · rw [e, find_put, if_neg (by decide), if_neg (by decide)]; exact h.a hx
    · rw [e, find_put, if_neg (by decide +kernel), if_neg (by decide)]; exact h.head hx
  · have et : tp (standV U) = xDd := by rw [e]; exact tp_put _ _
    refine ⟨⟨by rw [et]; decide, fun hx => ?_, fun hx => ?_, fun _ => find_tp et (by decide) (by decide) (by decide +kernel)⟩, by rw [et]; decide, by rw [et]; decide⟩
    · rw [e, find_put, if_neg (by decide), if_neg (by decide)]; exact h.a hx
    · rw [e, find_put, if_neg (by decide +kernel), if_neg (by decide)]; exact h.head hx
/-- What is free closes nothing like a name. -/
theorem Free.like {U : List Txt} {x : Txt} (h : Free U x) : areaN U U.length = U.length ∧ closeLikeN U U.length x = U.length := by
  constructor
  · unfold areaN
    rw [if_neg (show ¬ topK U U.length = xArea from h.area)]
  · have e1 : likeN1 U U.length x = U.length := by
      unfold likeN1
      by_cases hx : x = xA
      · rw [if_pos hx, closeK_no (h.a hx)]
      · rw [if_neg hx]
    have e2 : likeN2 U U.length x = U.length := by
      unfold likeN2
      cases hx : headB x
      · rw [if_neg (by decide)]
      · rw [if_pos rfl, closeK_no (h.head hx)]
    unfold closeLikeN
    rw [e1, e2]
    unfold likeN3 closePN
    cases hx : blockB x
    · rw [if_neg (by decide)]
    · rw [if_pos rfl, closeK_no (h.p hx)]
theorem nn_stand {V : List Txt} {x : Txt} (h : Free V x) (ho : ownOf x = .stand) (h1 : standI (tp V) = []) (h2 : tp V ≠ xColgroup) : Nn V x := by
  obtain ⟨e1, e2⟩ := h.like
  unfold Nn elementK
  rw [e1, e2, ho]
  show standK V (V.length, []) = _
  unfold standK standN
  simp only
  rw [if_neg (show ¬ topK V V.length = xColgroup from h2), show standI (topK V V.length) = [] from h1]
  rfl
/-- ul, dl, table: put in behind standing. -/
theorem put_block {U : List Txt} {x y : Txt} (h : Free U x) (hx : blockB x = true) (hR : Rt U) (hy : y = xUl ∨ y = xDl ∨ y = xTable) : Rt (standV U ++ [y]) := by
  have hq : y ∈ [xTbody, xTr, xTd, xLi, xDd, xUl, xDl, xTable, xColgroup] ∧ ownOf y = .stand ∧ y ≠ xA ∧ headB y = false := by
    rcases hy with rfl | rfl | rfl <;> decide +kernel
  have hf : Free U y := ⟨h.area, fun e => absurd e hq.2.2.1, fun e => absurd e (by rw [hq.2.2.2]; decide), fun _ => h.p hx⟩
  obtain ⟨f1, f2, f3⟩ := hf.stands hR
  exact put_name (stood hR).1 hq.1 (nn_stand f1 hq.2.1 f2 f3)
/-! ### what is closed ahead -/
theorem find_down {S : List Txt} {p q : Txt → Bool} {z k : Nat} (hz : z ≤ k) (hq : ∀ i, z ≤ i → i < k → q (S.getD i []) = false) (h : findK S p q k < 0) : findK S p q z < 0 := by
  by_cases hf : 0 ≤ findK S p q z
  · obtain ⟨j, e, hj, hp, hn⟩ := findK_hit hf
    obtain ⟨i, h1, h2, h3, _⟩ := findK_miss h j (by omega) hp
    by_cases hi : i < z
    · rw [(hn i h1 hi).2] at h3; cases h3
    · rw [hq i (by omega) h2] at h3; cases h3
  · omega
theorem area_low {S : List Txt} (h : Rt S) {k : Nat} (hk : k < S.length) : topK S k ≠ xArea := fun e => by
  unfold topK at e
  by_cases h0 : k = 0
  · rw [if_pos h0] at e; cases e
  · rw [if_neg h0] at e
    exact (ra_of (right_take h hk)).notArea (by omega) e
theorem closed_p {S : List Txt} (h : Rt S) {k : Nat} (hk : k ≤ S.length) : findK S (isB xP) edgeB (closePN S k) < 0 := by
  unfold closePN
  by_cases hf : 0 ≤ findK S (isB xP) edgeB k
  · obtain ⟨z, e, hz, hp, _⟩ := findK_hit hf
    rw [e]
    have ez : closeK k (z : Int) = z := by unfold closeK; rw [if_pos (by omega)]; rfl
    rw [ez]
    have ep : S.getD z [] = xP := by simpa [isB] using hp
    exact (ra_of (right_take h (show z < S.length by omega))).noP (by rw [ep]; decide +kernel)
  · rw [closeK_no (by omega)]; omega
/-- Behind the closings of a name the rest is free of what is like it. -/
theorem free_like {S : List Txt} (h : Rt S) (x : Txt) : Free (S.take (closeLikeN S (areaN S S.length) x)) x := by
  have hk0 := areaN_le S S.length
  have hk1 := like_le S (areaN S S.length) x
  have hl1 := like1_le S (areaN S S.length) x
  have hl2 := like2_le S (likeN1 S (areaN S S.length) x) x
  have hlen : (S.take (closeLikeN S (areaN S S.length) x)).length = closeLikeN S (areaN S S.length) x := by rw [List.length_take]; omega
  have hag := agree_take S (closeLikeN S (areaN S S.length) x)
  refine ⟨?_, fun hx => ?_, fun hx => ?_, fun hx => ?_⟩
  · unfold tp
    rw [hlen, top_agree hag]
    by_cases hlt : closeLikeN S (areaN S S.length) x < S.length
    · exact area_low h hlt
    · have e1 : areaN S S.length = S.length := by omega
      have e2 : closeLikeN S (areaN S S.length) x = S.length := by omega
      rw [e2]
      intro ha
      unfold areaN at e1
      rw [if_pos ha] at e1
      have : S.length ≠ 0 := fun e => by unfold topK at ha; rw [if_pos e] at ha; cases ha
      omega
  · rw [hlen, find_agree _ _ hag]
    subst hx
    have e : closeLikeN S (areaN S S.length) xA = closeK (areaN S S.length) (findK S (isB xA) cellB (areaN S S.length)) := by
      unfold closeLikeN likeN1 likeN2 likeN3
      rw [if_pos rfl, if_neg (by decide +kernel), if_neg (by decide +kernel)]
    rw [e]
    by_cases hf : 0 ≤ findK S (isB xA) cellB (areaN S S.length)
    · obtain ⟨z, ez, hz, hp, _⟩ := findK_hit hf
      rw [ez]
      have e2 : closeK (areaN S S.length) (z : Int) = z := by unfold closeK; rw [if_pos (by omega)]; rfl
      rw [e2]
      have ea : S.getD z [] = xA := by simpa [isB] using hp
      have hra := ra_of (right_take h (show z < S.length by omega))
      rw [ea] at hra
      exact hra.noA
    · rw [closeK_no (by omega)]; omega
  · rw [hlen, find_agree _ _ hag]
    have hk2 : findK S headB wallB (likeN2 S (likeN1 S (areaN S S.length) x) x) < 0 := by
      generalize likeN1 S (areaN S S.length) x = k1 at *
      unfold likeN2
      rw [if_pos hx]
      by_cases hf : 0 ≤ findK S headB wallB k1
      · obtain ⟨z, ez, hz, hp, _⟩ := findK_hit hf
        rw [ez]
        have e2 : closeK k1 (z : Int) = z := by unfold closeK; rw [if_pos (by omega)]; rfl
        rw [e2]
        exact (ra_of (right_take h (show z < S.length by omega))).noHead hp
      · rw [closeK_no (by omega)]; omega
    show findK S headB wallB (likeN3 S (likeN2 S (likeN1 S (areaN S S.length) x) x) x) < 0
    generalize likeN2 S (likeN1 S (areaN S S.length) x) x = k2 at *
    unfold likeN3
    cases hb : blockB x
    · rw [if_neg (by decide)]; exact hk2
    · rw [if_pos rfl]
      unfold closePN
      by_cases hf : 0 ≤ findK S (isB xP) edgeB k2
      · obtain ⟨z, ez, hz, hp, hn⟩ := findK_hit hf
        rw [ez]
        have e2 : closeK k2 (z : Int) = z := by unfold closeK; rw [if_pos (by omega)]; rfl
        rw [e2]
        refine find_down (Nat.le_of_lt hz) (fun i h1 h2 => ?_) hk2
        by_cases hi : i = z
        · subst hi
          have ep : S.getD i [] = xP := by simpa [isB] using hp
          rw [ep]; decide
        · have := (hn i (by omega) h2).2
          unfold edgeB at this
          rw [Bool.or_eq_false_iff] at this
          exact this.1
      · rw [closeK_no (by omega)]; exact hk2
  · rw [hlen, find_agree _ _ hag]
    show findK S (isB xP) edgeB (likeN3 S (likeN2 S (likeN1 S (areaN S S.length) x) x) x) < 0
    unfold likeN3
    rw [if_pos hx]
    exact closed_p h (by omega)
/-! ### a name's own place -/
def app (U : List Txt) (r : St) : List Txt := U.take r.1 ++ r.2
theorem stand_app (U : List Txt) (x : Txt) : app U (putK (standK U (U.length, [])) x) = standV U ++ [x] := by
  unfold app putK standK standV tp
  simp
theorem take_app (U : List Txt) (k : Nat) : app U (k, []) = U.take k := by unfold app; simp
theorem within_stay {U : List Txt} {x one : Txt} {on : Txt → Bool} (hR : Rt U) (hf : Free U x) (hx : blockB x = true) (h1 : on one = true) (hy : one = xUl ∨ one = xDl ∨ one = xTable)
    (hn : ∀ W, on (tp W) = true → Nn W x) : Rt (app U (withinK U (U.length, []) on one)) ∧ Nn (app U (withinK U (U.length, []) on one)) x := by
  unfold withinK
  by_cases h : 0 ≤ findK U on wallB U.length
  · obtain ⟨z, e, hz, hp, _⟩ := findK_hit h
    simp only
    rw [if_pos h, e]
    have e2 : closeToK U.length (z : Int) = z + 1 := by unfold closeToK; rw [if_pos (by omega)]; rfl
    rw [e2, take_app]
    exact ⟨hR.take (by omega), hn _ (by rw [tp_take hz]; exact hp)⟩
  · simp only
    rw [if_neg h, stand_app]
    exact ⟨put_block hf hx hR hy, hn _ (by rw [tp_put]; exact h1)⟩
/-- Closed to a part of a table, or a table put in. -/
theorem tabled_stay {U : List Txt} {on : Txt → Bool} (hR : Rt U) (ha : tp U ≠ xArea) (h1 : on xTable = true) :
    Rt (app U (tabledK U (U.length, []) on)) ∧ on (tp (app U (tabledK U (U.length, []) on))) = true ∧ tabledT U U.length on = tp (app U (tabledK U (U.length, []) on)) := by
  unfold tabledK tabledT
  by_cases h : 0 ≤ findK U on neverB U.length
  · obtain ⟨z, e, hz, hp, _⟩ := findK_hit h
    simp only
    rw [if_pos h, if_pos h, e]
    have e2 : closeToK U.length (z : Int) = z + 1 := by unfold closeToK; rw [if_pos (by omega)]; rfl
    rw [e2, take_app, tp_take hz]
    exact ⟨hR.take (by omega), hp, rfl⟩
  · simp only
    rw [if_neg h, if_neg h]
    have hc := closePN_le U U.length
    have hlen : (U.take (closePN U U.length)).length = closePN U U.length := by rw [List.length_take]; omega
    have hag := agree_take U (closePN U U.length)
    have e : app U (putK (standK U (closePN U U.length, [])) xTable) = standV (U.take (closePN U U.length)) ++ [xTable] := by
      rw [← stand_app, hlen, ← stand_agree hag.symm]
      unfold app putK
      simp only
      rw [List.take_take, Nat.min_eq_left (show (standK U (closePN U U.length, [])).1 ≤ closePN U U.length from standN_le _ _)]
    rw [e, tp_put]
    refine ⟨?_, h1, rfl⟩
    have hf : Free (U.take (closePN U U.length)) xTable := by
      refine ⟨?_, fun e => absurd e (by decide), fun e => absurd e (by decide +kernel), fun _ => ?_⟩
      · unfold tp
        rw [hlen, top_agree hag]
        by_cases hlt : closePN U U.length < U.length
        · exact area_low hR hlt
        · have : closePN U U.length = U.length := by omega
          rw [this]
          exact ha
      · rw [hlen, find_agree _ _ hag]
        exact closed_p hR (Nat.le_refl _)
    exact put_block hf (by decide +kernel) (hR.take hc) (.inr (.inr rfl))
theorem app_put (U : List Txt) (r : St) (x : Txt) : app U (putK r x) = app U r ++ [x] := by unfold app putK; simp
theorem own_is (x : Txt) : (ownOf x = .item → x = xLi) ∧ (ownOf x = .term → x = xDt ∨ x = xDd) ∧ (ownOf x = .column → x = xCol) := by
  by_cases h0 : x = xLi
  · subst h0; exact ⟨fun _ => rfl, fun h => absurd h (by decide), fun h => absurd h (by decide)⟩
  by_cases h1 : x = xDt
  · subst h1; exact ⟨fun h => absurd h (by decide), fun _ => .inl rfl, fun h => absurd h (by decide)⟩
  by_cases h2 : x = xDd
  · subst h2; exact ⟨fun h => absurd h (by decide), fun _ => .inr rfl, fun h => absurd h (by decide)⟩
  by_cases h3 : x = xCaption
  · subst h3; exact ⟨fun h => absurd h (by decide), fun h => absurd h (by decide), fun h => absurd h (by decide)⟩
  by_cases h4 : x = xColgroup
  · subst h4; exact ⟨fun h => absurd h (by decide), fun h => absurd h (by decide), fun h => absurd h (by decide)⟩
  by_cases h5 : x = xThead
  · subst h5; exact ⟨fun h => absurd h (by decide), fun h => absurd h (by decide), fun h => absurd h (by decide)⟩
  by_cases h6 : x = xTbody
  · subst h6; exact ⟨fun h => absurd h (by decide), fun h => absurd h (by decide), fun h => absurd h (by decide)⟩
  by_cases h7 : x = xTfoot
  · subst h7; exact ⟨fun h => absurd h (by decide), fun h => absurd h (by decide), fun h => absurd h (by decide)⟩
  by_cases h8 : x = xCol
  · subst h8; exact ⟨fun h => absurd h (by decide), fun h => absurd h (by decide), fun _ => rfl⟩
  by_cases h9 : x = xTr
  · subst h9; exact ⟨fun h => absurd h (by decide), fun h => absurd h (by decide), fun h => absurd h (by decide)⟩
  by_cases h10 : x = xTd
  · subst h10; exact ⟨fun h => absurd h (by decide), fun h => absurd h (by decide), fun h => absurd h (by decide)⟩
  by_cases h11 : x = xTh
  · subst h11; exact ⟨fun h => absurd h (by decide), fun h => absurd h (by decide), fun h => absurd h (by decide)⟩
  have ho : ownOf x = .stand := by
    unfold ownOf
    rw [if_neg h0, if_neg h1, if_neg h2, if_neg h3, if_neg h4, if_neg h5, if_neg h6, if_neg h7, if_neg h8, if_neg h9, if_neg h10, if_neg h11]
  rw [ho]
  exact ⟨fun h => absurd h (by decide), fun h => absurd h (by decide), fun h => absurd h (by decide)⟩
theorem own_stay {U : List Txt} {x : Txt} (hR : Rt U) (hf : Free U x) : Rt (app U (ownK U (U.length, []) (ownOf x))) ∧ Nn (app U (ownK U (U.length, []) (ownOf x))) x := by
  have hs := own_spec x
  have hi := own_is x
  cases ho : ownOf x
  · obtain rfl := hi.1 ho
    exact within_stay hR hf (by decide +kernel) (by decide) (.inl rfl) fun W h => on_list h
  · have hx := hi.2.1 ho
    refine within_stay hR hf ?_ (by decide) (.inr (.inl rfl)) fun W h => on_dl (by simpa [isB] using h) hx
    rcases hx with rfl | rfl <;> decide +kernel
  · have hx := hs.1 ho
    obtain ⟨t1, t2, t3⟩ := tabled_stay (on := isB xTable) hR hf.area (by decide)
    have hT : tp (app U (tabledK U (U.length, []) (isB xTable))) = xTable := by simpa [isB] using t2
    exact ⟨t1, on_table hT hx⟩
  · obtain rfl := hi.2.2 ho
    show Rt (app U (columnK U (U.length, []))) ∧ Nn (app U (columnK U (U.length, []))) xCol
    unfold columnK
    by_cases h : 0 ≤ findK U (isB xColgroup) (isB xTable) U.length
    · obtain ⟨z, e, hz, hp, _⟩ := findK_hit h
      simp only
      rw [if_pos h, e]
      have e2 : closeToK U.length (z : Int) = z + 1 := by unfold closeToK; rw [if_pos (by omega)]; rfl
      rw [e2, take_app]
      exact ⟨hR.take (by omega), on_colgroup (by rw [tp_take hz]; simpa [isB] using hp)⟩
    · simp only
      rw [if_neg h, app_put]
      obtain ⟨t1, t2, t3⟩ := tabled_stay (on := isB xTable) hR hf.area (by decide)
      have hT : tp (app U (tabledK U (U.length, []) (isB xTable))) = xTable := by simpa [isB] using t2
      exact ⟨put_name t1 (by decide) (on_table hT (by decide)), on_colgroup (tp_put _ _)⟩
  · obtain rfl := hs.2.2 ho
    show Rt (app U (rowK U (U.length, []))) ∧ Nn (app U (rowK U (U.length, []))) xTr
    obtain ⟨t1, t2, t3⟩ := tabled_stay (on := bodyB) hR hf.area (by decide)
    unfold rowK
    simp only
    rw [t3]
    by_cases h : tp (app U (tabledK U (U.length, []) bodyB)) = xTable
    · rw [if_pos h, app_put]
      exact ⟨put_name t1 (by decide) (on_table h (by decide)), on_group (by rw [tp_put]; decide)⟩
    · rw [if_neg h]
      refine ⟨t1, on_group ?_⟩
      generalize tp (app U (tabledK U (U.length, []) bodyB)) = t at *
      have : t = xThead ∨ t = xTbody ∨ t = xTfoot ∨ t = xTable := by simpa [bodyB] using t2
      rcases this with rfl | rfl | rfl | rfl
      · decide
      · decide
      · decide
      · exact absurd rfl h
  · have hx := hs.2.1 ho
    show Rt (app U (cellK U (U.length, []))) ∧ Nn (app U (cellK U (U.length, []))) x
    obtain ⟨t1, t2, t3⟩ := tabled_stay (on := rowB) hR hf.area (by decide)
    unfold cellK
    simp only
    rw [t3]
    by_cases h : tp (app U (tabledK U (U.length, []) rowB)) = xTable
    · rw [if_pos h, app_put, app_put]
      have h2 := put_name t1 (by decide) (on_table h (x := xTbody) (by decide))
      exact ⟨put_name h2 (by decide) (on_group (by rw [tp_put]; decide)), on_tr (tp_put _ _) hx⟩
    · rw [if_neg h]
      cases hg : groupB (tp (app U (tabledK U (U.length, []) rowB)))
      · rw [if_neg (by decide)]
        refine ⟨t1, on_tr ?_ hx⟩
        generalize tp (app U (tabledK U (U.length, []) rowB)) = t at *
        have : t = xTr ∨ t = xThead ∨ t = xTbody ∨ t = xTfoot ∨ t = xTable := by simpa [rowB, bodyB] using t2
        rcases this with rfl | rfl | rfl | rfl | rfl
        · rfl
        · exact absurd hg (by decide)
        · exact absurd hg (by decide)
        · exact absurd hg (by decide)
        · exact absurd rfl h
      · rw [if_pos rfl, app_put]
        exact ⟨put_name t1 (by decide) (on_group hg), on_tr (tp_put _ _) hx⟩
  · obtain ⟨f1, f2, f3⟩ := hf.stands hR
    have e : app U (ownK U (U.length, []) .stand) = standV U := by
      show app U (standK U (U.length, [])) = _
      unfold app standK standV tp
      simp
    rw [e]
    exact ⟨(stood hR).1, nn_stand f1 ho f2 f3⟩
/-- **A stack stays right behind what a name asks; then the name asks nothing.** -/
theorem element_stay {S : List Txt} (h : Rt S) (x : Txt) : Rt (app S (elementK S S.length x)) ∧ Nn (app S (elementK S S.length x)) x := by
  have hk0 := areaN_le S S.length
  have hk1 := like_le S (areaN S S.length) x
  have hlen : (S.take (closeLikeN S (areaN S S.length) x)).length = closeLikeN S (areaN S S.length) x := by rw [List.length_take]; omega
  have hf := free_like h x
  have hR := h.take (show closeLikeN S (areaN S S.length) x ≤ S.length by omega)
  have hs := own_stay hR hf
  rw [hlen, own_agree (agree_take S _)] at hs
  have hle := own_le S (closeLikeN S (areaN S S.length) x, []) (ownOf x)
  have e : app (S.take (closeLikeN S (areaN S S.length) x)) (ownK S (closeLikeN S (areaN S S.length) x, []) (ownOf x)) = app S (elementK S S.length x) := by
    unfold elementK app
    rw [List.take_take, Nat.min_eq_left hle]
  rwa [e] at hs
/-- So behind the name itself. -/
theorem element_put {S : List Txt} (h : Rt S) {x : Txt} (ha : allowB x = true) (hv : voidB x = false) : Rt (app S (elementK S S.length x) ++ [x]) := (element_stay h x).1.put ha hv (element_stay h x).2
/-- **So behind what a text asks; then a text asks nothing.** -/
theorem text_stay {S : List Txt} (h : Rt S) : Rt (app S (textK S S.length)) ∧ textK (app S (textK S S.length)) (app S (textK S S.length)).length = ((app S (textK S S.length)).length, []) := by
  have e : app S (textK S S.length) = standV S := by
    show app S (standK S (S.length, [])) = _
    unfold app standK standV tp
    simp
  rw [e]
  refine ⟨(stood h).1, ?_⟩
  have hk : standI (tp (standV S)) = [] ∧ tp (standV S) ≠ xColgroup := by
    rcases (stood h).2 with ⟨e, h1, h2⟩ | e | e | e
    · rw [e]; exact ⟨h1, h2⟩
    · rw [e]; decide
    · rw [e, tp_put]; decide
    · rw [e, tp_put]; decide
  show standK (standV S) ((standV S).length, []) = _
  unfold standK standN
  simp only
  rw [if_neg (show ¬ topK (standV S) (standV S).length = xColgroup from hk.2), show standI (topK (standV S) (standV S).length) = [] from hk.1]
  rfl
end Go.Proofs.Ytdkcibafbdmajaa.E
