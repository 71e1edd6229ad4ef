/- What is proved here: the pairs of a query, the form of a name or a value, and the parts of an authority, as lists. No program in it. -/
import Derived.Lib.SplitLaws
import Derived.Lib.CountLaws
import Derived.Lib.Replace
import Derived.Lib.IndexLaws
import Derived.Lib.IndexBytes
import Derived.Test.YtmfhhpacojodkaaGreatDoorBun13
namespace Go.Proofs.YtmfhhpacojodkaaGreatDoor.L
open Go.RowKit Go.Shelf Go.Proofs.YtmfhhpacojodkaaGreatDoor.N Go.Proofs.YtmfhhpacojodkaaGreatDoor.U

theorem one_has (p c : UInt8) : ([p] : List UInt8).contains c = (c == p) := by simp only [List.contains_cons, List.contains_nil, Bool.or_false]
theorem getD_at (s : List UInt8) (j : Nat) (h : j < s.length) : s.getD j 0 = s[j] := by simp [h]
theorem indexP_up (p : UInt8) (s : List UInt8) : Lib.index s [p] = if upToL [p] s < s.length then (upToL [p] s : Int) else -1 := by
  have hio := Lib.index_one s p
  by_cases h : Lib.index s [p] = -1
  · rw [h] at hio ⊢
    have hno := Lib.indexByte_none hio.symm
    have e : upToL [p] s = s.length := upTo_none [p] s (fun j hj => by
      rw [one_has, getD_at s j hj, beq_eq_false_iff_ne]
      intro e
      exact hno j (by rw [List.getElem?_eq_getElem hj, e]))
    rw [if_neg (by omega)]
  · have hge := Lib.indexByte_ge s p
    obtain ⟨i, hi⟩ : ∃ i : Nat, Lib.index s [p] = i := ⟨(Lib.index s [p]).toNat, by omega⟩
    rw [hi] at hio ⊢
    obtain ⟨h1, h2⟩ := Lib.indexByte_some hio.symm
    obtain ⟨hil, hg⟩ := List.getElem?_eq_some_iff.1 h1
    have e : upToL [p] s = i := upTo_at [p] s i hil (fun j hj => by
      rw [one_has, getD_at s j (by omega), beq_eq_false_iff_ne]
      intro e
      exact h2 j hj (by rw [List.getElem?_eq_getElem (by omega), e])) (by rw [one_has, getD_at s i hil, hg]; simp)
    rw [e, if_pos hil]
/-- The parts of a text between its ampersands. -/
def ampP (s : List UInt8) : List (List UInt8) := Lib.splitK [38] 0 (Lib.count s [38]) s
theorem ampP_miss (s : List UInt8) (h : ¬ upToL [38] s < s.length) : ampP s = [s] := by
  have hi := indexP_up 38 s
  rw [if_neg h] at hi
  unfold ampP
  rw [Lib.count_miss hi]
  rfl
theorem ampP_hit (s : List UInt8) (h : upToL [38] s < s.length) : ampP s = s.take (upToL [38] s) :: ampP (s.drop (upToL [38] s + 1)) := by
  have hi := indexP_up 38 s
  rw [if_pos h] at hi
  have hm : ¬ (Lib.index s [38] == -1) = true := fun e => by have := beq_iff_eq.1 e; omega
  have e : (Lib.index s [38]).toNat = upToL [38] s := by omega
  unfold ampP
  rw [Lib.count_hit (by simp) hi, Nat.add_comm 1, Lib.splitK, if_neg hm, e]
  rfl
theorem ampP_le : ∀ (n : Nat) (s : List UInt8), s.length ≤ n → (ampP s).length ≤ s.length + 1 ∧ ∀ x ∈ ampP s, x.length ≤ s.length
  | n, s, hn => by
    by_cases h : upToL [38] s < s.length
    · cases n with
      | zero => omega
      | succ n =>
        have hd : (s.drop (upToL [38] s + 1)).length = s.length - (upToL [38] s + 1) := List.length_drop
        obtain ⟨h1, h2⟩ := ampP_le n (s.drop (upToL [38] s + 1)) (by omega)
        rw [ampP_hit s h]
        refine ⟨by rw [List.length_cons]; omega, fun x hx => ?_⟩
        rcases List.mem_cons.1 hx with rfl | hx
        · rw [List.length_take]; omega
        · have := h2 x hx; omega
    · rw [ampP_miss s h]
      exact ⟨by simp, fun x hx => by simp at hx; subst hx; exact Nat.le_refl _⟩
def plusC (c : UInt8) : UInt8 := if c == 43 then 32 else c
theorem map_plus (s : List UInt8) (h : ∀ c ∈ s, (c == 43) = false) : s.map plusC = s := by
  have : ∀ c ∈ s, plusC c = c := fun c hc => by unfold plusC; rw [h c hc]; rfl
  exact (List.map_congr_left this).trans (List.map_id s)
theorem rep_plus : ∀ (n : Nat) (s : List UInt8), s.length ≤ n → Lib.replaceK [43] [32] (Lib.count s [43]) s = s.map plusC
  | n, s, hn => by
    have hio := Lib.index_one s 43
    by_cases h : Lib.index s [43] = -1
    · rw [Lib.count_miss h]
      rw [h] at hio
      have hno := Lib.indexByte_none hio.symm
      rw [map_plus s (fun c hc => by
        rw [beq_eq_false_iff_ne]
        rintro rfl
        obtain ⟨k, hk, e⟩ := List.mem_iff_getElem.1 hc
        exact hno k (by rw [List.getElem?_eq_getElem hk, e]))]
      rfl
    · have hge := Lib.indexByte_ge s 43
      obtain ⟨i, hi⟩ : ∃ i : Nat, Lib.index s [43] = i := ⟨(Lib.index s [43]).toNat, by omega⟩
      rw [hi] at hio
      obtain ⟨h1, h2⟩ := Lib.indexByte_some hio.symm
      obtain ⟨hil, hg⟩ := List.getElem?_eq_some_iff.1 h1
      have hs : s = s.take i ++ 43 :: s.drop (i + 1) := by
        conv => lhs; rw [← List.take_append_drop i s, List.drop_eq_getElem_cons hil, hg]
      have hpre : (s.take i).map plusC = s.take i := map_plus _ (fun c hc => by
        rw [beq_eq_false_iff_ne]
        rintro rfl
        obtain ⟨k, hk, e⟩ := List.mem_iff_getElem.1 hc
        rw [List.length_take] at hk
        rw [List.getElem_take] at e
        exact h2 k (by omega) (by rw [List.getElem?_eq_getElem (by omega), e]))
      cases n with
      | zero => omega
      | succ n =>
        rw [Lib.count_hit (by simp) hi, Nat.add_comm 1, Lib.replaceK_hit _ _ _ _ _ hi]
        show s.take i ++ [32] ++ Lib.replaceK [43] [32] (Lib.count (s.drop (i + 1)) [43]) (s.drop (i + 1)) = _
        rw [rep_plus n (s.drop (i + 1)) (by rw [List.length_drop]; omega)]
        conv => rhs; rw [hs]
        rw [List.map_append, hpre, List.map_cons]
        simp [plusC]
theorem replace_plus (s : List UInt8) : Lib.replaceAll s [43] [32] = s.map plusC := by
  unfold Lib.replaceAll Lib.replace Lib.replaceNum
  rw [if_neg (by decide), if_pos (by left; decide)]
  exact rep_plus s.length s (Nat.le_refl _)
/-- What a name or a value of a query says. -/
def unfL (s : List UInt8) : List UInt8 := decL (s.map plusC)
theorem unfL_nil : unfL [] = [] := rfl
abbrev Two := List UInt8 × List UInt8
def pairOf (p : List UInt8) : Two := (unfL (p.take (upToL [61] p)), unfL (p.drop (upToL [61] p + 1)))
/-- The pairs that parts say. -/
def pairsP (L : List (List UInt8)) : List Two := (L.filter fun p => !p.isEmpty).map pairOf
theorem pairsP_snoc (L : List (List UInt8)) (p : List UInt8) : pairsP (L ++ [p]) = pairsP L ++ if p.isEmpty then [] else [pairOf p] := by
  unfold pairsP
  rw [List.filter_append, List.map_append]
  cases h : p.isEmpty <;> simp [h]
theorem pairsP_le (L : List (List UInt8)) : (pairsP L).length ≤ L.length := by
  unfold pairsP
  rw [List.length_map]
  exact List.length_filter_le _ _
/-- The pairs of a query that is mended. -/
def pairsK (s : List UInt8) : List Two := pairsP (ampP s)
theorem pairsK_nil : pairsK [] = [] := by
  unfold pairsK
  rw [ampP_miss [] (by simp [upToL])]
  rfl
theorem pairsK_step (s : List UInt8) (h : s ≠ []) : pairsK s = (if (s.take (upToL [38] s)).isEmpty then [] else [pairOf (s.take (upToL [38] s))]) ++ pairsK (s.drop (upToL [38] s + 1)) := by
  by_cases hl : upToL [38] s < s.length
  · unfold pairsK
    rw [ampP_hit s hl]
    unfold pairsP
    cases he : (s.take (upToL [38] s)).isEmpty <;> simp [he]
  · have hle := upToL_le [38] s
    have e : upToL [38] s = s.length := by omega
    have hd : s.drop (upToL [38] s + 1) = [] := List.drop_eq_nil_of_le (by omega)
    have ht : s.take (upToL [38] s) = s := List.take_of_length_le (by omega)
    rw [hd, ht, pairsK_nil]
    unfold pairsK
    rw [ampP_miss s hl]
    unfold pairsP
    cases s with
    | nil => exact absurd rfl h
    | cons a t => simp
/-- A byte of a name or a value, as it stands in a query. -/
def plainF (c : UInt8) : Bool := letterZ (c.toNat : Int) || digitZ (c.toNat : Int) || (([42, 45, 46, 95] : List UInt8).contains c)
def formC (c : UInt8) : List UInt8 := if plainF c then [c] else if c == 32 then [43] else escC c
theorem form_tab : ∀ n : Fin 256, (if (UInt8.ofNat n.val) == 32 then [43] else if plainF (UInt8.ofNat n.val) then [UInt8.ofNat n.val] else escC (UInt8.ofNat n.val)) = formC (UInt8.ofNat n.val) := by decide +kernel
theorem formC_doc (c : UInt8) : (if c == 32 then [43] else if plainF c then [c] else escC c) = formC c := by
  have := form_tab ⟨c.toNat, c.toNat_lt⟩
  simp only [UInt8.ofNat_toNat] at this
  exact this
theorem formC_le (c : UInt8) : (formC c).length ≤ 3 := by unfold formC escC; split <;> (try split) <;> simp
def formL (s : List UInt8) : List UInt8 := (mendL s).flatMap formC
theorem flat_le (s : List UInt8) : (s.flatMap formC).length ≤ 3 * s.length := by
  induction s with
  | nil => simp
  | cons c t ih =>
    have := formC_le c
    rw [List.flatMap_cons, List.length_append, List.length_cons]
    omega
theorem formL_le (s : List UInt8) : (formL s).length ≤ 12 * s.length := by
  have h1 := flat_le (mendL s)
  have h2 := mend_le s
  unfold formL
  omega
theorem form_snoc (s : List UInt8) (k : Nat) (h : k < s.length) : (s.take (k + 1)).flatMap formC = (s.take k).flatMap formC ++ formC (s.getD k 0) := by
  rw [List.take_succ_eq_append_getElem h, List.flatMap_append, getD_at s k h]
  simp
/-- The first pairs, as a query. -/
def qC (l : List Two) (i : Nat) : List UInt8 := (if i = 0 then [] else [38]) ++ formL (l.getD i ([], [])).1 ++ [61] ++ formL (l.getD i ([], [])).2
def qPre (l : List Two) (k : Nat) : List UInt8 := (List.range k).flatMap (qC l)
theorem qPre_succ (l : List Two) (k : Nat) : qPre l (k + 1) = qPre l k ++ qC l k := by
  unfold qPre
  rw [List.range_succ, List.flatMap_append]
  simp
def queryK (l : List Two) : List UInt8 := qPre l l.length
theorem qC_le (l : List Two) (N i : Nat) (hN : ∀ x ∈ l, x.1.length + x.2.length ≤ N) : (qC l i).length ≤ 12 * N + 2 := by
  have hx : (l.getD i ([], [])).1.length + (l.getD i ([], [])).2.length ≤ N := by
    by_cases h : i < l.length
    · rw [List.getD_eq_getElem?_getD, List.getElem?_eq_getElem h]
      exact hN _ (List.getElem_mem h)
    · rw [List.getD_eq_getElem?_getD, List.getElem?_eq_none (by omega)]
      simp
  have h1 := formL_le (l.getD i ([], [])).1
  have h2 := formL_le (l.getD i ([], [])).2
  have hd : (if i = 0 then ([] : List UInt8) else [38]).length ≤ 1 := by split <;> simp
  unfold qC
  simp only [List.length_append, List.length_singleton]
  omega
theorem qPre_le (l : List Two) (N : Nat) (hN : ∀ x ∈ l, x.1.length + x.2.length ≤ N) : ∀ k, (qPre l k).length ≤ k * (12 * N + 2)
  | 0 => by simp [qPre]
  | k + 1 => by
    have h1 := qPre_le l N hN k
    have h2 := qC_le l N k hN
    rw [qPre_succ, List.length_append, Nat.succ_mul]
    omega
/-- The place behind the last one of a byte, or 0. -/
def lastN (c : UInt8) : List UInt8 → Nat
  | [] => 0
  | b :: t => if 0 < lastN c t then lastN c t + 1 else if b == c then 1 else 0
theorem lastN_le (c : UInt8) : ∀ s, lastN c s ≤ s.length
  | [] => Nat.le_refl _
  | b :: t => by have := lastN_le c t; unfold lastN; rw [List.length_cons]; split <;> (try split) <;> omega
theorem lastN_at (c : UInt8) : ∀ (s : List UInt8) (k : Nat), k ≤ s.length → (∀ j, k ≤ j → j < s.length → (s.getD j 0 == c) = false) → (k = 0 ∨ (s.getD (k - 1) 0 == c) = true) → lastN c s = k
  | [], k, hk, _, _ => by simp at hk; subst hk; rfl
  | b :: t, 0, _, h1, _ => by
    have h0 := lastN_at c t 0 (by omega) (fun j _ hj => by have := h1 (j + 1) (by omega) (by simpa using hj); simpa using this) (.inl rfl)
    have hb := h1 0 (by omega) (by simp)
    simp only [List.getD_cons_zero] at hb
    unfold lastN
    rw [h0, if_neg (by omega), hb]
    rfl
  | b :: t, 1, _, h1, h2 => by
    have h0 := lastN_at c t 0 (by omega) (fun j _ hj => by have := h1 (j + 1) (by omega) (by simpa using hj); simpa using this) (.inl rfl)
    have hb : (b == c) = true := by rcases h2 with h | h; omega; simpa using h
    unfold lastN
    rw [h0, if_neg (by omega), hb]
    rfl
  | b :: t, k + 2, hk, h1, h2 => by
    have h0 := lastN_at c t (k + 1) (by simpa using hk) (fun j hj1 hj => by have := h1 (j + 1) (by omega) (by simpa using hj); simpa using this) (.inr (by rcases h2 with h | h; omega; simpa using h))
    unfold lastN
    rw [h0, if_pos (by omega)]
theorem lastN_facts (c : UInt8) : ∀ (s : List UInt8), (∀ j, lastN c s ≤ j → j < s.length → (s.getD j 0 == c) = false) ∧ (lastN c s = 0 ∨ (s.getD (lastN c s - 1) 0 == c) = true)
  | [] => ⟨fun j _ hj => by simp at hj, .inl rfl⟩
  | b :: t => by
    obtain ⟨h1, h2⟩ := lastN_facts c t
    unfold lastN
    split
    · next hp =>
      refine ⟨fun j hj hl => ?_, .inr ?_⟩
      · cases j with
        | zero => omega
        | succ j => simpa using h1 j (by omega) (by simpa using hl)
      · rcases h2 with h | h
        · omega
        · rw [show lastN c t + 1 - 1 = (lastN c t - 1) + 1 by omega]; simpa using h
    · next hp =>
      have h0 : lastN c t = 0 := by omega
      rw [h0] at h1
      cases hb : (b == c) with
      | true =>
        refine ⟨fun j hj hl => ?_, .inr (by simpa using hb)⟩
        simp only [if_true] at hj
        cases j with
        | zero => omega
        | succ j => simpa using h1 j (by omega) (by simpa using hl)
      | false =>
        refine ⟨fun j _ hl => ?_, .inl rfl⟩
        cases j with
        | zero => simpa using hb
        | succ j => simpa using h1 j (by omega) (by simpa using hl)
def digB (c : UInt8) : Bool := digitZ (c.toNat : Int)
/-- How many digits a text begins with. -/
def digitsN (s : List UInt8) : Nat := (s.takeWhile digB).length
theorem digitsN_le (s : List UInt8) : digitsN s ≤ s.length := (List.takeWhile_sublist _).length_le
theorem digitsN_at : ∀ (s : List UInt8) (k : Nat), k ≤ s.length → (∀ j, j < k → digB (s.getD j 0) = true) → (k = s.length ∨ digB (s.getD k 0) = false) → digitsN s = k
  | [], k, hk, _, _ => by simp at hk; subst hk; rfl
  | c :: t, 0, _, _, h => by
    have h0 : digB c = false := by rcases h with h | h; simp at h; simpa using h
    unfold digitsN
    rw [List.takeWhile_cons, if_neg (by rw [h0]; decide)]; rfl
  | c :: t, k + 1, hk, h1, h2 => by
    have h0 : digB c = true := by simpa using h1 0 (by omega)
    have ih := digitsN_at t k (by simpa using hk) (fun j hj => by simpa using h1 (j + 1) (by omega)) (by rcases h2 with h | h; left; simpa using h; right; simpa using h)
    unfold digitsN at ih ⊢
    rw [List.takeWhile_cons, if_pos h0, List.length_cons, ih]
theorem digitsN_facts : ∀ (s : List UInt8), (∀ j, j < digitsN s → digB (s.getD j 0) = true) ∧ (digitsN s = s.length ∨ digB (s.getD (digitsN s) 0) = false)
  | [] => ⟨fun j hj => by simp [digitsN] at hj, .inl rfl⟩
  | c :: t => by
    obtain ⟨h1, h2⟩ := digitsN_facts t
    cases hc : digB c with
    | true =>
      have e : digitsN (c :: t) = digitsN t + 1 := by unfold digitsN; rw [List.takeWhile_cons, if_pos hc, List.length_cons]
      rw [e]
      refine ⟨fun j hj => ?_, ?_⟩
      · cases j with
        | zero => simpa using hc
        | succ j => simpa using h1 j (by omega)
      · rcases h2 with h | h
        · left; rw [h, List.length_cons]
        · right; simpa using h
    | false =>
      have e : digitsN (c :: t) = 0 := by unfold digitsN; rw [List.takeWhile_cons, if_neg (by rw [hc]; decide)]; rfl
      rw [e]
      exact ⟨fun j hj => by omega, .inr (by simpa using hc)⟩
/-- The user, the host and the port of an authority that is mended. -/
def userK (h : List UInt8) : List UInt8 := h.take (lastN 64 h - 1)
def portAt (h : List UInt8) : Option Nat := if 0 < lastN 58 h ∧ digitsN (h.drop (lastN 58 h)) = (h.drop (lastN 58 h)).length then some (lastN 58 h) else none
def authV (u h : List UInt8) : Value := match portAt h with
  | some p => .tuple #[.string ⟨u.toArray⟩, .string ⟨(h.take (p - 1)).toArray⟩, .string ⟨(h.drop p).toArray⟩]
  | none => .tuple #[.string ⟨u.toArray⟩, .string ⟨h.toArray⟩, .string ⟨#[]⟩]
/-- As the document finds the port: the digits at the end, and a colon ahead of them. -/
theorem portAt_doc (h : List UInt8) (n : Nat) (hn : n ≤ h.length) (h1 : ∀ j, n ≤ j → j < h.length → digB (h.getD j 0) = true) (h2 : n = 0 ∨ digB (h.getD (n - 1) 0) = false) : portAt h = if n ≠ 0 ∧ (h.getD (n - 1) 0 == 58) = true then some n else none := by
  obtain ⟨l1, l2⟩ := lastN_facts 58 h
  have hle := lastN_le 58 h
  have nod : ∀ c : UInt8, (c == 58) = true → digB c = false := fun c hc => by rw [beq_iff_eq.1 hc]; decide
  have hget : ∀ p j, (h.drop p).getD j 0 = h.getD (p + j) 0 := fun p j => by simp [List.getD_eq_getElem?_getD]
  unfold portAt
  by_cases hc : n ≠ 0 ∧ (h.getD (n - 1) 0 == 58) = true
  · rw [if_pos hc]
    have e : lastN 58 h = n := lastN_at 58 h n hn (fun j hj hl => by
      cases hq : (h.getD j 0 == 58) with
      | false => rfl
      | true => have a := nod _ hq; rw [h1 j hj hl] at a; cases a) (.inr hc.2)
    rw [e, if_pos]
    refine ⟨by omega, digitsN_at _ _ (Nat.le_refl _) (fun j hj => ?_) (.inl rfl)⟩
    rw [List.length_drop] at hj
    rw [hget]
    exact h1 _ (by omega) (by omega)
  · rw [if_neg hc, if_neg]
    rintro ⟨hp, hd⟩
    obtain ⟨d1, _⟩ := digitsN_facts (h.drop (lastN 58 h))
    rw [hd] at d1
    have hcol : (h.getD (lastN 58 h - 1) 0 == 58) = true := by rcases l2 with h | h; omega; exact h
    have hn1 : n = lastN 58 h := by
      apply Nat.le_antisymm
      · apply Nat.le_of_not_lt
        intro hlt
        rcases h2 with h0 | h0
        · omega
        · have := d1 (n - 1 - lastN 58 h) (by rw [List.length_drop]; omega)
          rw [hget, show lastN 58 h + (n - 1 - lastN 58 h) = n - 1 by omega, h0] at this
          cases this
      · apply Nat.le_of_not_lt
        intro hlt
        have := h1 (lastN 58 h - 1) (by omega) (by omega)
        rw [nod _ hcol] at this
        cases this
    exact hc ⟨by omega, by rw [hn1]; exact hcol⟩
end Go.Proofs.YtmfhhpacojodkaaGreatDoor.L
