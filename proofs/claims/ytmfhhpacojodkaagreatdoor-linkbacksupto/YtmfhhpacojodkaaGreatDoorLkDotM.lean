/- What is proved here: plain facts on dot segments: what Dots does to a path, and that its answer stays. -/
import Derived.Test.YtmfhhpacojodkaaGreatDoorBun12
namespace Go.Proofs.YtmfhhpacojodkaaGreatDoor.L
open Go.RowKit Go.Shelf Go.Proofs.YtmfhhpacojodkaaGreatDoor.N Go.Proofs.YtmfhhpacojodkaaGreatDoor.U

/-- Without the last segment and the / ahead of it. -/
def cutLast (o : List UInt8) : List UInt8 := ((o.reverse.dropWhile fun c => !(c == 47)).drop 1).reverse
/-- How long the first segment is, with the / ahead of it. -/
def segN (i : List UInt8) : Nat := 1 + upToL [47] (i.drop 1)
def dotStep (i o : List UInt8) : List UInt8 × List UInt8 :=
  if ([46, 46, 47] : List UInt8).isPrefixOf i then (i.drop 3, o)
  else if ([46, 47] : List UInt8).isPrefixOf i then (i.drop 2, o)
  else if ([47, 46, 47] : List UInt8).isPrefixOf i then (i.drop 2, o)
  else if i == [47, 46] then ([47], o)
  else if ([47, 46, 46, 47] : List UInt8).isPrefixOf i then (i.drop 3, cutLast o)
  else if i == [47, 46, 46] then ([47], cutLast o)
  else if i == [46] || i == [46, 46] then ([], o)
  else (i.drop (segN i), o ++ i.take (segN i))
def dotsF : Nat → List UInt8 → List UInt8 → List UInt8
  | 0, _, o => o
  | f + 1, i, o => if i == [] then o else dotsF f (dotStep i o).1 (dotStep i o).2
/-- A path without dot segments. -/
def dotsM (i : List UInt8) : List UInt8 := dotsF i.length i []
theorem cutLast_le (o : List UInt8) : (cutLast o).length ≤ o.length := by
  unfold cutLast
  have h := (List.dropWhile_sublist (fun c => !(c == 47)) (l := o.reverse)).length_le
  simp only [List.length_reverse, List.length_drop] at h ⊢
  omega
theorem segN_le (i : List UInt8) (h : 0 < i.length) : segN i ≤ i.length := by
  have := upToL_le [47] (i.drop 1)
  unfold segN
  simp only [List.length_drop] at this
  omega
theorem prefix_len {p i : List UInt8} (h : p.isPrefixOf i = true) : p.length ≤ i.length := (List.isPrefixOf_iff_prefix.1 h).length_le
/-- Every step takes something away, and the whole does not grow. -/
theorem dotStep_lt (i o : List UInt8) (h : 0 < i.length) : (dotStep i o).1.length < i.length ∧ (dotStep i o).1.length + (dotStep i o).2.length ≤ i.length + o.length := by
  have hc := cutLast_le o
  unfold dotStep
  split
  · rename_i h1; have := prefix_len h1; simp at this ⊢; omega
  · split
    · rename_i h1; have := prefix_len h1; simp at this ⊢; omega
    · split
      · rename_i h1; have := prefix_len h1; simp at this ⊢; omega
      · split
        · rename_i h1; have e : i = [47, 46] := by simpa using h1
          subst e; simp
        · split
          · rename_i h1; have := prefix_len h1; simp at this ⊢; omega
          · split
            · rename_i h1; have e : i = [47, 46, 46] := by simpa using h1
              subst e; simp; omega
            · split
              · simp; omega
              · have h1 := segN_le i h
                have h2 : 1 ≤ segN i := by unfold segN; omega
                simp only [List.length_drop, List.length_append, List.length_take]
                omega
theorem dotsF_fuel : ∀ (f g : Nat) (i o : List UInt8), i.length ≤ f → i.length ≤ g → dotsF f i o = dotsF g i o
  | 0, g, i, o, h, _ => by
    obtain rfl : i = [] := List.length_eq_zero_iff.1 (by omega)
    cases g <;> rfl
  | f + 1, 0, i, o, _, h => by
    obtain rfl : i = [] := List.length_eq_zero_iff.1 (by omega)
    rfl
  | f + 1, g + 1, i, o, h1, h2 => by
    unfold dotsF
    cases hi : i == [] with
    | true => rfl
    | false =>
      have h0 : 0 < i.length := List.length_pos_iff.2 (by simpa using hi)
      have := (dotStep_lt i o h0).1
      rw [if_neg (by decide), if_neg (by decide), dotsF_fuel f g _ _ (by omega) (by omega)]
/-- One step, whatever the fuel. -/
theorem dots_step (i o : List UInt8) (h : 0 < i.length) : dotsF i.length i o = dotsF (dotStep i o).1.length (dotStep i o).1 (dotStep i o).2 := by
  have hlt := (dotStep_lt i o h).1
  obtain ⟨n, hn⟩ : ∃ n, i.length = n + 1 := ⟨i.length - 1, by omega⟩
  have hne : (i == []) = false := by
    rw [beq_eq_false_iff_ne]; intro e; rw [e] at h; simp at h
  rw [hn, dotsF, hne, if_neg (by decide)]
  exact dotsF_fuel _ _ _ _ (by omega) (Nat.le_refl _)
theorem dotsF_le : ∀ (f : Nat) (i o : List UInt8), (dotsF f i o).length ≤ i.length + o.length
  | 0, i, o => by simp [dotsF]
  | f + 1, i, o => by
    unfold dotsF
    cases hi : i == [] with
    | true => rw [if_pos rfl]; omega
    | false =>
      have h0 : 0 < i.length := List.length_pos_iff.2 (by simpa using hi)
      have h1 := dotStep_lt i o h0
      have h2 := dotsF_le f (dotStep i o).1 (dotStep i o).2
      rw [if_neg (by decide)]
      omega
theorem dotsM_le (i : List UInt8) : (dotsM i).length ≤ i.length := by
  have := dotsF_le i.length i []
  simpa [dotsM] using this
/-- A segment that may stay: no / in it, and no dot segment. -/
def SegOk (s : List UInt8) : Prop := (∀ c ∈ s, (c == 47) = false) ∧ s ≠ [46] ∧ s ≠ [46, 46]
/-- A path of segments that stay. -/
inductive GoodP : List UInt8 → Prop
  | nil : GoodP []
  | one (s : List UInt8) : SegOk s → s ≠ [] → GoodP s
  | more (o s : List UInt8) : GoodP o → SegOk s → GoodP (o ++ 47 :: s)
theorem dropWhile_all (s : List UInt8) (h : ∀ c ∈ s, (c == 47) = false) (t : List UInt8) : (s ++ t).dropWhile (fun c => !(c == 47)) = t.dropWhile (fun c => !(c == 47)) := by
  induction s with
  | nil => rfl
  | cons c r ih =>
    rw [List.cons_append, List.dropWhile_cons, if_pos (by rw [h c (by simp)]; rfl)]
    exact ih (fun d hd => h d (by simp [hd]))
theorem cutLast_one (s : List UInt8) (h : ∀ c ∈ s, (c == 47) = false) : cutLast s = [] := by
  unfold cutLast
  have := dropWhile_all s.reverse (fun c hc => h c (by simpa using hc)) []
  rw [List.append_nil] at this
  rw [this]
  rfl
theorem cutLast_more (o s : List UInt8) (h : ∀ c ∈ s, (c == 47) = false) : cutLast (o ++ 47 :: s) = o := by
  unfold cutLast
  have e : (o ++ 47 :: s).reverse = s.reverse ++ (47 :: o.reverse) := by simp
  rw [e, dropWhile_all s.reverse (fun c hc => h c (by simpa using hc)), List.dropWhile_cons, if_neg (by decide)]
  simp
theorem GoodP.cut {o : List UInt8} (h : GoodP o) : GoodP (cutLast o) := by
  cases h with
  | nil => exact .nil
  | one _ hs _ => rw [cutLast_one o hs.1]; exact .nil
  | more o s ho hs => rw [cutLast_more o s hs.1]; exact ho
theorem up_take (s : List UInt8) : (∀ c ∈ s.take (upToL [47] s), (c == 47) = false) ∧ (s.drop (upToL [47] s) = [] ∨ ∃ t, s.drop (upToL [47] s) = 47 :: t) := by
  induction s with
  | nil => exact ⟨by simp, .inl rfl⟩
  | cons c t ih =>
    cases hc : (c == 47) with
    | true =>
      have e : upToL [47] (c :: t) = 0 := by
        unfold upToL
        rw [List.takeWhile_cons, if_neg (by simpa using hc)]; rfl
      have h47 : c = 47 := by simpa using hc
      rw [e, h47]
      exact ⟨by simp, .inr ⟨t, rfl⟩⟩
    | false =>
      have e : upToL [47] (c :: t) = upToL [47] t + 1 := by
        unfold upToL
        rw [List.takeWhile_cons, if_pos (by simpa using hc)]; rfl
      rw [e, List.take_succ_cons, List.drop_succ_cons]
      refine ⟨fun d hd => ?_, ih.2⟩
      rcases List.mem_cons.1 hd with rfl | hd
      · exact hc
      · exact ih.1 d hd
/-- What the loop keeps. -/
def DotInv (i o : List UInt8) : Prop := GoodP o ∧ (o = [] ∨ i = [] ∨ ∃ t, i = 47 :: t)
theorem pre_of {p i : List UInt8} (h : p.isPrefixOf i = true) : ∃ t, i = p ++ t := by
  obtain ⟨t, ht⟩ := List.isPrefixOf_iff_prefix.1 h
  exact ⟨t, ht.symm⟩
theorem pre_mk (p t : List UInt8) : p.isPrefixOf (p ++ t) = true := List.isPrefixOf_iff_prefix.2 ⟨t, rfl⟩
theorem DotInv.step {i o : List UInt8} (h : DotInv i o) (h0 : 0 < i.length) : DotInv (dotStep i o).1 (dotStep i o).2 := by
  obtain ⟨hG, hI⟩ := h
  unfold dotStep
  have noS : ∀ {p t : List UInt8} {b : UInt8}, i = b :: t → (b == 47) = false → o = [] := by
    intro p t b e hb
    rcases hI with h | h | ⟨t', h⟩
    · exact h
    · rw [e] at h; cases h
    · rw [e] at h; injection h with h1 _; rw [h1] at hb; simp at hb
  split
  · rename_i h1; obtain ⟨t, rfl⟩ := pre_of h1
    exact ⟨hG, .inl (noS (p := []) rfl rfl)⟩
  · split
    · rename_i h1; obtain ⟨t, rfl⟩ := pre_of h1
      exact ⟨hG, .inl (noS (p := []) rfl rfl)⟩
    · split
      · rename_i h1; obtain ⟨t, rfl⟩ := pre_of h1
        exact ⟨hG, .inr (.inr ⟨t, rfl⟩)⟩
      · split
        · exact ⟨hG, .inr (.inr ⟨[], rfl⟩)⟩
        · split
          · rename_i h1; obtain ⟨t, rfl⟩ := pre_of h1
            exact ⟨hG.cut, .inr (.inr ⟨t, rfl⟩)⟩
          · split
            · exact ⟨hG.cut, .inr (.inr ⟨[], rfl⟩)⟩
            · split
              · exact ⟨hG, .inr (.inl rfl)⟩
              · rename_i n1 n2 n3 n4 n5 n6 n7
                cases i with
                | nil => simp at h0
                | cons b t =>
                  obtain ⟨hT, hD⟩ := up_take t
                  have es : segN (b :: t) = upToL [47] t + 1 := by unfold segN; rw [List.drop_one, List.tail_cons]; omega
                  simp only [es, List.take_succ_cons, List.drop_succ_cons]
                  have hsp := List.take_append_drop (upToL [47] t) t
                  refine ⟨?_, hD.elim (fun h => .inr (.inl h)) (fun h => .inr (.inr h))⟩
                  cases hb : (b == 47) with
                  | true =>
                    have e47 : b = 47 := by simpa using hb
                    subst e47
                    refine .more _ _ hG ⟨hT, fun e => ?_, fun e => ?_⟩
                    · rw [e] at hsp
                      rcases hD with hD | ⟨r, hD⟩
                      · rw [hD] at hsp; exact n4 (by rw [← hsp]; rfl)
                      · rw [hD] at hsp; exact n3 (by rw [← hsp]; exact pre_mk [47, 46, 47] r)
                    · rw [e] at hsp
                      rcases hD with hD | ⟨r, hD⟩
                      · rw [hD] at hsp; exact n6 (by rw [← hsp]; rfl)
                      · rw [hD] at hsp; exact n5 (by rw [← hsp]; exact pre_mk [47, 46, 46, 47] r)
                  | false =>
                    have ho : o = [] := noS (p := []) rfl hb
                    subst ho
                    rw [List.nil_append]
                    refine .one _ ⟨fun c hc => ?_, fun e => ?_, fun e => ?_⟩ (by simp)
                    · rcases List.mem_cons.1 hc with rfl | hc
                      · exact hb
                      · exact hT c hc
                    · injection e with e1 e2
                      rw [e2] at hsp
                      rcases hD with hD | ⟨r, hD⟩
                      · rw [hD] at hsp; exact n7 (by rw [← hsp, e1]; rfl)
                      · rw [hD] at hsp; exact n2 (by rw [← hsp, e1]; exact pre_mk [46, 47] r)
                    · injection e with e1 e2
                      rw [e2] at hsp
                      rcases hD with hD | ⟨r, hD⟩
                      · rw [hD] at hsp; exact n7 (by rw [← hsp, e1]; rfl)
                      · rw [hD] at hsp; exact n1 (by rw [← hsp, e1]; exact pre_mk [46, 46, 47] r)
theorem dotsF_good : ∀ (f : Nat) (i o : List UInt8), i.length ≤ f → DotInv i o → GoodP (dotsF f i o)
  | 0, i, o, _, h => h.1
  | f + 1, i, o, hf, h => by
    unfold dotsF
    cases hi : i == [] with
    | true => rw [if_pos rfl]; exact h.1
    | false =>
      have h0 : 0 < i.length := List.length_pos_iff.2 (by simpa using hi)
      rw [if_neg (by decide)]
      exact dotsF_good f _ _ (by have := (dotStep_lt i o h0).1; omega) (h.step h0)
/-- **What Dots answers has segments that stay.** -/
theorem dotsM_good (i : List UInt8) : GoodP (dotsM i) := dotsF_good _ _ _ (Nat.le_refl _) ⟨.nil, .inl rfl⟩
theorem pre_no {p s t : List UInt8} (hs : ∀ c ∈ s, (c == 47) = false) (ht : t = [] ∨ ∃ r, t = 47 :: r) (hp : ∃ q, p = q ++ [47] ∧ (∀ c ∈ q, (c == 47) = false)) (h : p.isPrefixOf (s ++ t) = true) : ∃ q, p = q ++ [47] ∧ s = q := by
  obtain ⟨q, rfl, hq⟩ := hp
  obtain ⟨r, hr⟩ := pre_of h
  refine ⟨q, rfl, ?_⟩
  induction q generalizing s with
  | nil =>
    cases s with
    | nil => rfl
    | cons c s' =>
      simp at hr
      have := hs c (by simp)
      rw [hr.1] at this; simp at this
  | cons d q ih =>
    cases s with
    | nil =>
      rcases ht with rfl | ⟨r', rfl⟩
      · simp at hr
      · simp at hr
        have := hq d (by simp)
        rw [← hr.1] at this; simp at this
    | cons c s' =>
      simp only [List.cons_append, List.cons.injEq] at hr
      rw [hr.1, ih (fun x hx => hs x (by simp [hx])) (fun x hx => hq x (by simp [hx])) (by rw [hr.2]; exact pre_mk _ _) hr.2]
theorem up_seg (s t : List UInt8) (hs : ∀ c ∈ s, (c == 47) = false) (ht : t = [] ∨ ∃ r, t = 47 :: r) : upToL [47] (s ++ t) = s.length := by
  induction s with
  | nil =>
    rcases ht with rfl | ⟨r, rfl⟩ <;> rfl
  | cons c s' ih =>
    have e : upToL [47] (c :: (s' ++ t)) = upToL [47] (s' ++ t) + 1 := by
      unfold upToL
      rw [List.takeWhile_cons, if_pos (by simpa using hs c (by simp))]; rfl
    rw [List.cons_append, e, ih (fun x hx => hs x (by simp [hx])), List.length_cons]
/-- One step at a segment that stays: it goes over. -/
theorem step_seg (s t o : List UInt8) (hs : SegOk s) (ht : t = [] ∨ ∃ r, t = 47 :: r) : dotStep (47 :: (s ++ t)) o = (t, o ++ 47 :: s) := by
  have hp1 : ([46, 46, 47] : List UInt8).isPrefixOf (47 :: (s ++ t)) = false := rfl
  have hp2 : ([46, 47] : List UInt8).isPrefixOf (47 :: (s ++ t)) = false := rfl
  have hp3 : ([47, 46, 47] : List UInt8).isPrefixOf (47 :: (s ++ t)) = false := by
    rw [Bool.eq_false_iff]; intro h
    obtain ⟨q, e1, e2⟩ := pre_no hs.1 ht ⟨[46], rfl, by decide⟩ (p := [46, 47]) (by simpa [List.isPrefixOf] using h)
    have : q = [46] := by simpa using (List.append_inj' (show [46] ++ [47] = q ++ [47] from e1) rfl).1.symm
    exact hs.2.1 (e2.trans this)
  have hp5 : ([47, 46, 46, 47] : List UInt8).isPrefixOf (47 :: (s ++ t)) = false := by
    rw [Bool.eq_false_iff]; intro h
    obtain ⟨q, e1, e2⟩ := pre_no hs.1 ht ⟨[46, 46], rfl, by decide⟩ (p := [46, 46, 47]) (by simpa [List.isPrefixOf] using h)
    have : q = [46, 46] := by simpa using (List.append_inj' (show [46, 46] ++ [47] = q ++ [47] from e1) rfl).1.symm
    exact hs.2.2 (e2.trans this)
  have all : ∀ (x : List UInt8), (∀ c ∈ x, (c == 47) = false) → s ++ t = x → s = x := fun x hx e => by
    rcases ht with rfl | ⟨r, rfl⟩
    · simpa using e
    · have := hx 47 (by rw [← e]; simp)
      simp at this
  have hp4 : ((47 :: (s ++ t)) == [47, 46]) = false := by
    rw [beq_eq_false_iff_ne]; intro e; injection e with _ e
    exact hs.2.1 (all [46] (by decide) e)
  have hp6 : ((47 :: (s ++ t)) == [47, 46, 46]) = false := by
    rw [beq_eq_false_iff_ne]; intro e; injection e with _ e
    exact hs.2.2 (all [46, 46] (by decide) e)
  have hp7 : ((47 :: (s ++ t)) == [46] || (47 :: (s ++ t)) == [46, 46]) = false := rfl
  have es : segN (47 :: (s ++ t)) = s.length + 1 := by
    unfold segN
    rw [List.drop_one, List.tail_cons, up_seg s t hs.1 ht]; omega
  unfold dotStep
  rw [hp1, hp2, hp3, hp4, hp5, hp6, hp7]
  simp only [Bool.false_eq_true, if_false]
  rw [es, List.drop_succ_cons, List.take_succ_cons, List.drop_left, List.take_left]
theorem step_one (s t : List UInt8) (hs : SegOk s) (hn : s ≠ []) (ht : t = [] ∨ ∃ r, t = 47 :: r) : dotStep (s ++ t) [] = (t, s) := by
  cases s with
  | nil => exact absurd rfl hn
  | cons b s' =>
    have hb := hs.1 b (by simp)
    have hb' : (47 == b) = false := by rw [beq_eq_false_iff_ne] at hb ⊢; exact fun e => hb e.symm
    have hp1 : ([46, 46, 47] : List UInt8).isPrefixOf (b :: s' ++ t) = false := by
      rw [Bool.eq_false_iff]; intro h
      obtain ⟨q, e1, e2⟩ := pre_no hs.1 ht ⟨[46, 46], rfl, by decide⟩ (p := [46, 46, 47]) h
      have : q = [46, 46] := by simpa using (List.append_inj' (show [46, 46] ++ [47] = q ++ [47] from e1) rfl).1.symm
      exact hs.2.2 (e2.trans this)
    have hp2 : ([46, 47] : List UInt8).isPrefixOf (b :: s' ++ t) = false := by
      rw [Bool.eq_false_iff]; intro h
      obtain ⟨q, e1, e2⟩ := pre_no hs.1 ht ⟨[46], rfl, by decide⟩ (p := [46, 47]) h
      have : q = [46] := by simpa using (List.append_inj' (show [46] ++ [47] = q ++ [47] from e1) rfl).1.symm
      exact hs.2.1 (e2.trans this)
    have hp3 : ([47, 46, 47] : List UInt8).isPrefixOf (b :: s' ++ t) = false := by simp [List.isPrefixOf, hb']
    have hp5 : ([47, 46, 46, 47] : List UInt8).isPrefixOf (b :: s' ++ t) = false := by simp [List.isPrefixOf, hb']
    have hb2 : b ≠ 47 := by simpa using hb
    have hp4 : ((b :: s' ++ t) == [47, 46]) = false := by
      rw [beq_eq_false_iff_ne]; intro e; injection e with e _; exact hb2 e
    have hp6 : ((b :: s' ++ t) == [47, 46, 46]) = false := by
      rw [beq_eq_false_iff_ne]; intro e; injection e with e _; exact hb2 e
    have all : ∀ (x : List UInt8), (∀ c ∈ x, (c == 47) = false) → b :: s' ++ t = x → b :: s' = x := fun x hx e => by
      rcases ht with rfl | ⟨r, rfl⟩
      · simpa using e
      · have := hx 47 (by rw [← e]; simp)
        simp at this
    have hp7 : ((b :: s' ++ t) == [46] || (b :: s' ++ t) == [46, 46]) = false := by
      rw [Bool.or_eq_false_iff, beq_eq_false_iff_ne, beq_eq_false_iff_ne]
      exact ⟨fun e => hs.2.1 (all [46] (by decide) e), fun e => hs.2.2 (all [46, 46] (by decide) e)⟩
    have es : segN (b :: s' ++ t) = s'.length + 1 := by
      unfold segN
      rw [List.cons_append, List.drop_one, List.tail_cons, up_seg s' t (fun c hc => hs.1 c (by simp [hc])) ht]; omega
    unfold dotStep
    rw [hp1, hp2, hp3, hp4, hp5, hp6, hp7]
    simp only [Bool.false_eq_true, if_false]
    rw [es, List.cons_append, List.drop_succ_cons, List.take_succ_cons, List.drop_left, List.take_left, List.nil_append]
/-- Segments that stay, one behind the other, in front of what is left. -/
theorem good_goes {p : List UInt8} (h : GoodP p) : ∀ (t : List UInt8), (t = [] ∨ ∃ r, t = 47 :: r) → dotsF (p ++ t).length (p ++ t) [] = dotsF t.length t p := by
  induction h with
  | nil => intro t _; rfl
  | one s hs hn =>
    intro t ht
    have h0 : 0 < (s ++ t).length := by have := List.length_pos_iff.2 hn; rw [List.length_append]; omega
    rw [dots_step _ _ h0, step_one s t hs hn ht]
  | more o s _ hs ih =>
    intro t ht
    rw [List.append_assoc, List.cons_append, ih _ (.inr ⟨_, rfl⟩), dots_step _ _ (by simp), step_seg s t o hs ht]
theorem dotsM_stays {p : List UInt8} (h : GoodP p) : dotsM p = p := by
  have := good_goes h [] (.inl rfl)
  rw [List.append_nil] at this
  exact this
/-- **Dots of its own answer is the same.** -/
theorem dotsM_again (i : List UInt8) : dotsM (dotsM i) = dotsM i := dotsM_stays (dotsM_good i)
end Go.Proofs.YtmfhhpacojodkaaGreatDoor.L
