/- What is proved here: what strings.IndexFunc, strings.TrimLeftFunc and strings.FieldsFunc find by runes below 128, told by bytes. No program in it. -/
import Derived.Lib.FieldsP
import Derived.Lib.Join
import Derived.Lib.TrimByte
import Derived.Shelf.Strings.FuncGrows
import Derived.Test.YtmfhhpacojodkaaGreatDoorBun2
import Derived.Test.YtmfhhpacojodkaaGreatDoorMathV
import Derived.Test.YtmfhhpacojodkaaGreatDoorBun7
import Derived.Test.YtmfhhpacojodkaaGreatDoorLkPairM
namespace Go.Proofs.YtmfhhpacojodkaaGreatDoor.L
open Go.RowKit Go.Shelf Go.Proofs.YtmfhhpacojodkaaGreatDoor.N Go.Proofs.YtmfhhpacojodkaaGreatDoor.U

theorem next_highS (bs : List UInt8) (h0 : 0 < bs.length) (h : 128 ≤ byteAt bs 0) : 128 ≤ nextR bs ∧ (nextAll bs = true → ∀ b ∈ bs.take (nextN bs), 128 ≤ b.toNat) := by
  cases ha : nextAll bs with
  | false => exact ⟨by unfold nextR; rw [if_neg (by rw [ha]; simp)]; omega, fun h => by cases h⟩
  | true =>
    have he := enc_rune bs h0 ha
    have hr : nextR bs = runeOf bs := by unfold nextR; rw [if_pos ha]
    have hge : ¬ (0 ≤ (runeOf bs : Int) ∧ (runeOf bs : Int) < 128) := by
      intro hlt
      rw [enc_one hlt.1 hlt.2] at he
      have hn : nextN bs = 1 := by
        have := congrArg List.length he
        have h2 := nextN_len bs h0
        simp at this
        omega
      rw [hn] at he
      have hb : byteAt bs 0 = (runeOf bs : Int).toNat % 256 := by
        cases bs with
        | nil => simp at h0
        | cons c t => simp only [List.take_succ_cons, List.take_zero] at he; injection he with he _; have h5 := congrArg UInt8.toNat he; show c.toNat = _; rw [← h5]; simp
      omega
    refine ⟨by rw [hr]; omega, fun _ => ?_⟩
    rw [← he]
    exact enc_high hge
/-- The rune at a place: a byte below 128, or one of high bytes alone. -/
theorem rune_at (bs : List UInt8) (pos : Nat) (hlt : pos < bs.length) :
    ((bs.getD pos 0).toNat < 128 ∧ Utf8.decode ⟨bs.toArray⟩ pos = ((bs.getD pos 0).toNat, 1)) ∨ (∃ r n, Utf8.decode ⟨bs.toArray⟩ pos = (r, n) ∧ 128 ≤ r ∧ 1 ≤ n ∧ pos + n ≤ bs.length ∧ ∀ b ∈ (bs.drop pos).take n, 128 ≤ b.toNat) := by
  have hd0 : 0 < (bs.drop pos).length := by simp; omega
  have hdec := decode_drop bs pos
  have hb0 : byteAt (bs.drop pos) 0 = (bs.getD pos 0).toNat := by
    rw [List.drop_eq_getElem_cons hlt, getD_at bs pos hlt]
    rfl
  rcases Nat.lt_or_ge (byteAt (bs.drop pos) 0) 128 with hl | hl
  · left
    rw [show Lib.decodeN (bs.drop pos).length (byteAt (bs.drop pos) 0) (byteAt (bs.drop pos) 1) (byteAt (bs.drop pos) 2) (byteAt (bs.drop pos) 3) = (byteAt (bs.drop pos) 0, 1) by simp [Lib.decodeN, hl]] at hdec
    exact ⟨by omega, by rw [hdec, hb0]⟩
  · right
    cases ha : nextAll (bs.drop pos) with
    | true =>
      rw [decode_right _ hd0 ha] at hdec
      have hh := next_highS _ hd0 hl
      have hr : nextR (bs.drop pos) = runeOf (bs.drop pos) := by unfold nextR; rw [if_pos ha]
      have hn := nextN_len _ hd0
      rw [List.length_drop] at hn
      exact ⟨_, _, hdec, by rw [← hr]; exact hh.1, nextN_pos _, by omega, hh.2 ha⟩
    | false =>
      rw [decode_wrong _ hd0 ha] at hdec
      refine ⟨_, _, hdec, by omega, Nat.le_refl _, by omega, fun b hb => ?_⟩
      rw [List.drop_eq_getElem_cons hlt, List.take_succ_cons, List.take_zero, List.mem_singleton] at hb
      subst hb
      rw [hb0, getD_at bs pos hlt] at hl
      exact hl
/-- A question to runes that only runes below 128 answer with yes, and the same to bytes. -/
structure Low7 (p : Nat → Bool) (q : UInt8 → Bool) : Prop where
  low : ∀ c : UInt8, c.toNat < 128 → p c.toNat = q c
  high : ∀ r, 128 ≤ r → p r = false
  byte : ∀ c : UInt8, 128 ≤ c.toNat → q c = false
def yesN (q : UInt8 → Bool) (s : List UInt8) : Nat := (s.takeWhile fun c => !q c).length
def noN (q : UInt8 → Bool) (s : List UInt8) : Nat := (s.takeWhile q).length
theorem yesN_le (q : UInt8 → Bool) (s : List UInt8) : yesN q s ≤ s.length := (List.takeWhile_sublist _).length_le
theorem noN_le (q : UInt8 → Bool) (s : List UInt8) : noN q s ≤ s.length := (List.takeWhile_sublist _).length_le
theorem while_at (q : UInt8 → Bool) : ∀ (s : List UInt8) (k : Nat), k ≤ s.length → (∀ j, j < k → q (s.getD j 0) = true) → (k = s.length ∨ q (s.getD k 0) = false) → (s.takeWhile q).length = k
  | [], k, hk, _, _ => by simp at hk; subst hk; rfl
  | c :: t, 0, _, _, h => by
    have h0 : q c = false := by rcases h with h | h; simp at h; simpa using h
    rw [List.takeWhile_cons, if_neg (by rw [h0]; decide)]; rfl
  | c :: t, k + 1, hk, h1, h2 => by
    have h0 : q c = true := by simpa using h1 0 (by omega)
    have ih := while_at q t k (by simpa using hk) (fun j hj => by simpa using h1 (j + 1) (by omega)) (by rcases h2 with h | h; left; simpa using h; right; simpa using h)
    rw [List.takeWhile_cons, if_pos h0, List.length_cons, ih]
theorem drop_run {s : List UInt8} {pos n : Nat} (h : pos + n ≤ s.length) (P : UInt8 → Prop) (hb : ∀ b ∈ (s.drop pos).take n, P b) : ∀ j, pos ≤ j → j < pos + n → P (s.getD j 0) := fun j h1 h2 => by
  have hj : j < s.length := by omega
  refine hb _ ?_
  rw [getD_at s j hj]
  refine List.mem_iff_getElem.2 ⟨j - pos, by simp; omega, ?_⟩
  simp [show pos + (j - pos) = j by omega]
/-- strings.IndexFunc, and where strings.TrimLeftFunc cuts. -/
theorem idx_yes {p : Nat → Bool} {q : UInt8 → Bool} (h7 : Low7 p q) (s : List UInt8) : ∀ (f pos : Nat), pos ≤ s.length → s.length ≤ pos + f → (∀ j, j < pos → q (s.getD j 0) = false) →
    Lib.idxFuncFrom p true ⟨s.toArray⟩ f pos = if yesN q s < s.length then (yesN q s : Int) else -1
  | 0, pos, h1, h2, h3 => by
    have e : yesN q s = s.length := while_at _ s s.length (Nat.le_refl _) (fun j hj => by rw [h3 j (by omega)]; rfl) (.inl rfl)
    rw [e, if_neg (by omega)]
    rfl
  | f + 1, pos, h1, h2, h3 => by
    unfold Lib.idxFuncFrom
    rw [arr_size]
    by_cases hlt : pos < s.length
    · rw [if_pos hlt]
      rcases rune_at s pos hlt with ⟨hl, hd⟩ | ⟨r, n, hd, hr, hn1, hn2, hb⟩
      · rw [hd]
        simp only
        rw [h7.low _ hl]
        cases hq : q (s.getD pos 0) with
        | true =>
          have e : yesN q s = pos := while_at _ s pos h1 (fun j hj => by rw [h3 j hj]; rfl) (.inr (by rw [hq]; rfl))
          rw [if_pos rfl, e, if_pos hlt]
        | false =>
          rw [if_neg (by decide)]
          exact idx_yes h7 s f (pos + 1) (by omega) (by omega) (fun j hj => by
            by_cases e : j = pos
            · rw [e]; exact hq
            · exact h3 j (by omega))
      · rw [hd]
        simp only
        rw [h7.high r hr, if_neg (by decide)]
        exact idx_yes h7 s f (pos + n) hn2 (by omega) (fun j hj => by
          by_cases e : j < pos
          · exact h3 j e
          · exact h7.byte _ (drop_run hn2 _ hb j (by omega) hj))
    · rw [if_neg hlt]
      have e : yesN q s = s.length := while_at _ s s.length (Nat.le_refl _) (fun j hj => by rw [h3 j (by omega)]; rfl) (.inl rfl)
      rw [e, if_neg (by omega)]
theorem idx_no {p : Nat → Bool} {q : UInt8 → Bool} (h7 : Low7 p q) (s : List UInt8) : ∀ (f pos : Nat), pos ≤ s.length → s.length ≤ pos + f → (∀ j, j < pos → q (s.getD j 0) = true) →
    Lib.idxFuncFrom p false ⟨s.toArray⟩ f pos = if noN q s < s.length then (noN q s : Int) else -1
  | 0, pos, h1, h2, h3 => by
    have e : noN q s = s.length := while_at _ s s.length (Nat.le_refl _) (fun j hj => h3 j (by omega)) (.inl rfl)
    rw [e, if_neg (by omega)]
    rfl
  | f + 1, pos, h1, h2, h3 => by
    unfold Lib.idxFuncFrom
    rw [arr_size]
    by_cases hlt : pos < s.length
    · rw [if_pos hlt]
      rcases rune_at s pos hlt with ⟨hl, hd⟩ | ⟨r, n, hd, hr, hn1, hn2, hb⟩
      · rw [hd]
        simp only
        rw [h7.low _ hl]
        cases hq : q (s.getD pos 0) with
        | false =>
          have e : noN q s = pos := while_at _ s pos h1 h3 (.inr hq)
          rw [if_pos rfl, e, if_pos hlt]
        | true =>
          rw [if_neg (by decide)]
          exact idx_no h7 s f (pos + 1) (by omega) (by omega) (fun j hj => by
            by_cases e : j = pos
            · rw [e]; exact hq
            · exact h3 j (by omega))
      · rw [hd]
        simp only
        have hq : q (s.getD pos 0) = false := h7.byte _ (drop_run hn2 _ hb pos (by omega) (by omega))
        have e : noN q s = pos := while_at _ s pos h1 h3 (.inr hq)
        rw [h7.high r hr, if_pos rfl, e, if_pos hlt]
    · rw [if_neg hlt]
      have e : noN q s = s.length := while_at _ s s.length (Nat.le_refl _) (fun j hj => h3 j (by omega)) (.inl rfl)
      rw [e, if_neg (by omega)]
theorem index_low {p : Nat → Bool} {q : UInt8 → Bool} (h7 : Low7 p q) (s : List UInt8) : Lib.idxFunc p true ⟨s.toArray⟩ = if yesN q s < s.length then (yesN q s : Int) else -1 := by
  unfold Lib.idxFunc
  rw [arr_size]
  exact idx_yes h7 s s.length 0 (by omega) (by omega) (fun j hj => by omega)
theorem trim_low {p : Nat → Bool} {q : UInt8 → Bool} (h7 : Low7 p q) (s : List UInt8) : Lib.trimLeftF p ⟨s.toArray⟩ = ⟨(s.drop (noN q s)).toArray⟩ := by
  have hi : Lib.idxFunc p false ⟨s.toArray⟩ = if noN q s < s.length then (noN q s : Int) else -1 := by
    unfold Lib.idxFunc
    rw [arr_size]
    exact idx_no h7 s s.length 0 (by omega) (by omega) (fun j hj => by omega)
  have hle := noN_le q s
  unfold Lib.trimLeftF
  rw [hi]
  by_cases h : noN q s < s.length
  · rw [if_pos h, if_neg (by omega)]
    apply ByteArray.ext
    simp
    rw [arr_size]
    exact List.take_of_length_le (by simp)
  · rw [if_neg h, if_pos rfl, List.drop_eq_nil_of_le (by omega)]
/-- The words of a text, with one space between each two. -/
def sqStep (q : UInt8 → Bool) (st : List UInt8 × Bool) (c : UInt8) : List UInt8 × Bool := if q c then (st.1, !st.1.isEmpty) else (st.1 ++ (if st.2 then [32] else []) ++ [c], false)
def sqF (q : UInt8 → Bool) (s : List UInt8) : List UInt8 × Bool := s.foldl (sqStep q) ([], false)
theorem sqF_snoc (q : UInt8 → Bool) (s : List UInt8) (c : UInt8) : sqF q (s ++ [c]) = sqStep q (sqF q s) c := by unfold sqF; rw [List.foldl_append]; rfl
theorem sq_run (q : UInt8 → Bool) : ∀ (y : List UInt8) (st : List UInt8 × Bool), y ≠ [] → (∀ c ∈ y, q c = false) → y.foldl (sqStep q) st = (st.1 ++ (if st.2 then [32] else []) ++ y, false)
  | [], _, h, _ => absurd rfl h
  | [c], st, _, h => by simp [sqStep, h c (by simp)]
  | c :: d :: t, st, _, h => by
    rw [List.foldl_cons, sq_run q (d :: t) _ (by simp) (fun x hx => h x (by simp only [List.mem_cons] at hx ⊢; right; exact hx))]
    simp [sqStep, h c (by simp)]
theorem join_snoc (L : List (List UInt8)) (x : List UInt8) : Lib.join (L ++ [x]) [32] = Lib.join L [32] ++ (if L.isEmpty then [] else [32]) ++ x := by
  cases L with
  | nil => simp [Lib.join_one, Lib.join_nil]
  | cons a r =>
    rw [List.cons_append, Lib.join_cons, Lib.join_cons]
    simp [Lib.joinTail]
theorem join_ne (L : List (List UInt8)) (h : ∀ x ∈ L, x ≠ []) : (Lib.join L [32]).isEmpty = L.isEmpty := by
  cases L with
  | nil => rfl
  | cons a r =>
    rw [Lib.join_cons]
    have := h a (by simp)
    cases a with
    | nil => exact absurd rfl this
    | cons b t => simp
def cutL (s : List UInt8) (x : Nat × Nat) : List UInt8 := (s.take x.2).drop x.1
def curL (s : List UInt8) (st : Option Nat) (pos : Nat) : List (List UInt8) := (st.map fun a => cutL s (a, pos)).toList
def shutL (st : Option Nat) (pos : Nat) (acc : List (Nat × Nat)) : List (Nat × Nat) := acc ++ (st.map fun a => (a, pos)).toList
/-- What FieldsFunc has told up to a place. -/
structure SpanI (q : UInt8 → Bool) (s : List UInt8) (pos : Nat) (st : Option Nat) (acc : List (Nat × Nat)) : Prop where
  fa : ∀ x ∈ acc, x.1 < x.2 ∧ x.2 ≤ s.length
  fc : ∀ a, st = some a → a < pos
  fo : sqF q (s.take pos) = (Lib.join (acc.map (cutL s) ++ curL s st pos) [32], st.isNone && !acc.isEmpty)
theorem cut_ne {s : List UInt8} {x : Nat × Nat} (h : x.1 < x.2 ∧ x.2 ≤ s.length) : cutL s x ≠ [] := fun e => by
  have := congrArg List.length e
  simp [cutL] at this
  omega
theorem SpanI.run {q : UInt8 → Bool} {s : List UInt8} {pos n : Nat} {st : Option Nat} {acc : List (Nat × Nat)} (h : SpanI q s pos st acc) (hn : 1 ≤ n) (hl : pos + n ≤ s.length) (hq : ∀ c ∈ (s.drop pos).take n, q c = false) : SpanI q s (pos + n) (some (st.getD pos)) acc := by
  have e : s.take (pos + n) = s.take pos ++ (s.drop pos).take n := by rw [List.take_add]
  have hne : (s.drop pos).take n ≠ [] := fun x => by have := congrArg List.length x; simp at this; omega
  refine ⟨h.fa, fun a ha => ?_, ?_⟩
  · cases st with
    | none => simp at ha; omega
    | some b => simp at ha; have := h.fc b rfl; omega
  · rw [e]
    unfold sqF
    rw [List.foldl_append, sq_run q _ _ hne hq]
    have ho := h.fo
    unfold sqF at ho
    rw [ho]
    cases st with
    | none =>
      simp only [curL, Option.map_none, Option.toList_none, Option.map_some, Option.toList_some, Option.isNone_none, Bool.true_and, List.append_nil, Option.getD_none, Option.isNone_some, Bool.false_and]
      rw [join_snoc]
      have e2 : cutL s (pos, pos + n) = (s.drop pos).take n := by unfold cutL; rw [List.drop_take]; simp
      rw [e2]
      cases acc with
      | nil => simp
      | cons x r => simp
    | some b =>
      have hb := h.fc b rfl
      simp only [curL, Option.map_some, Option.toList_some, Option.isNone_some, Bool.false_and, Option.getD_some]
      rw [join_snoc, join_snoc]
      have e2 : cutL s (b, pos + n) = cutL s (b, pos) ++ (s.drop pos).take n := by
        unfold cutL
        rw [e, List.drop_append_of_le_length (by simp; omega)]
      rw [e2]
      simp
theorem SpanI.gap {q : UInt8 → Bool} {s : List UInt8} {pos : Nat} {st : Option Nat} {acc : List (Nat × Nat)} (h : SpanI q s pos st acc) (hl : pos < s.length) (hq : q (s.getD pos 0) = true) : SpanI q s (pos + 1) none (shutL st pos acc) := by
  have e : s.take (pos + 1) = s.take pos ++ [s.getD pos 0] := by rw [List.take_succ_eq_append_getElem hl, getD_at s pos hl]
  have hac : ∀ x ∈ shutL st pos acc, x.1 < x.2 ∧ x.2 ≤ s.length := by
    cases st with
    | none => intro x hx; exact h.fa x (by simpa [shutL] using hx)
    | some a =>
      intro x hx
      simp only [shutL, Option.map_some, Option.toList_some] at hx
      rcases List.mem_append.1 hx with hx | hx
      · exact h.fa x hx
      · simp at hx; subst hx; exact ⟨h.fc a rfl, by simp; omega⟩
  refine ⟨hac, fun a ha => (by cases ha), ?_⟩
  rw [e, sqF_snoc, h.fo]
  unfold sqStep
  rw [hq]
  have hm : acc.map (cutL s) ++ curL s st pos = (shutL st pos acc).map (cutL s) := by
    cases st <;> simp [curL, shutL]
  rw [hm]
  simp only [if_true, Option.isNone_none, Bool.true_and]
  rw [join_ne _ (fun x hx => by
    obtain ⟨y, hy, rfl⟩ := List.mem_map.1 hx
    exact cut_ne (hac y hy))]
  simp [curL]
theorem span_all {p : Nat → Bool} {q : UInt8 → Bool} (h7 : Low7 p q) (s : List UInt8) : ∀ (f pos : Nat) (st : Option Nat) (acc : List (Nat × Nat)), pos ≤ s.length → s.length ≤ pos + f → SpanI q s pos st acc → SpanI q s s.length (Lib.spansFromP p ⟨s.toArray⟩ f pos st acc).2 (Lib.spansFromP p ⟨s.toArray⟩ f pos st acc).1
  | 0, pos, st, acc, h1, h2, h => by
    obtain rfl : pos = s.length := by omega
    exact h
  | f + 1, pos, st, acc, h1, h2, h => by
    unfold Lib.spansFromP
    rw [arr_size]
    by_cases hlt : pos < s.length
    · rw [if_pos hlt]
      rcases rune_at s pos hlt with ⟨hl, hd⟩ | ⟨r, n, hd, hr, hn1, hn2, hb⟩
      · rw [hd]
        simp only
        rw [h7.low _ hl]
        cases hq : q (s.getD pos 0) with
        | true =>
          have h9 := h.gap hlt hq
          cases st with
          | none => exact span_all h7 s f (pos + 1) none acc (by omega) (by omega) (by simpa [shutL] using h9)
          | some a => exact span_all h7 s f (pos + 1) none (acc ++ [(a, pos)]) (by omega) (by omega) h9
        | false =>
          have h9 := h.run (n := 1) (Nat.le_refl _) (by omega) (fun c hc => by
            rw [List.drop_eq_getElem_cons hlt, List.take_succ_cons, List.take_zero, List.mem_singleton] at hc
            rw [hc, ← getD_at s pos hlt]; exact hq)
          cases st with
          | none => exact span_all h7 s f (pos + 1) (some pos) acc (by omega) (by omega) h9
          | some a => exact span_all h7 s f (pos + 1) (some a) acc (by omega) (by omega) h9
      · rw [hd]
        simp only
        rw [h7.high r hr]
        have h9 := h.run hn1 hn2 (fun c hc => h7.byte c (hb c hc))
        cases st with
        | none => exact span_all h7 s f (pos + n) (some pos) acc hn2 (by omega) h9
        | some a => exact span_all h7 s f (pos + n) (some a) acc hn2 (by omega) h9
    · rw [if_neg hlt]
      obtain rfl : pos = s.length := by omega
      exact h
/-- strings.Join of strings.FieldsFunc with a space. -/
theorem fields_low {p : Nat → Bool} {q : UInt8 → Bool} (h7 : Low7 p q) (s : List UInt8) : Lib.join ((Lib.goFieldsP p ⟨s.toArray⟩).map (·.data.toList)) [32] = (sqF q s).1 := by
  have h := span_all h7 s s.length 0 none [] (by omega) (by omega) ⟨fun x hx => by simp at hx, fun a ha => (by cases ha), by simp [sqF, Lib.join_nil, curL]⟩
  have ho := h.fo
  rw [List.take_length] at ho
  rw [ho]
  simp only
  unfold Lib.goFieldsP Lib.spansOfP Lib.closeSpans
  rw [arr_size]
  have hcut : ∀ x : Nat × Nat, ((⟨s.toArray⟩ : ByteArray).extract x.1 x.2).data.toList = cutL s x := fun x => by
    unfold cutL
    rw [ByteArray.data_extract]
    simp [List.drop_take]
  generalize Lib.spansFromP p ⟨s.toArray⟩ s.length 0 none [] = z at *
  obtain ⟨acc, st⟩ := z
  cases st with
  | none => simp only [curL, Option.map_none, Option.toList_none, List.append_nil, List.map_map, Function.comp_def, hcut]
  | some a => simp only [curL, Option.map_some, Option.toList_some, List.map_map, Function.comp_def, hcut, List.map_append, List.map_cons, List.map_nil]; rw [← hcut (a, s.length)]
end Go.Proofs.YtmfhhpacojodkaaGreatDoor.L
