/- What is proved here: laws and contracts of LkSetS, LkBkQ, one behind the other (each says its own). -/
import Derived.Test.YtmfhhpacojodkaaGreatDoorBun14
import Derived.Test.YtmfhhpacojodkaaGreatDoorLkPairM
import Derived.Test.YtmfhhpacojodkaaGreatDoorBun7
/- What is proved here: a srcset's candidates, one behind the other, as lists. No program in it. -/
namespace Go.Proofs.YtmfhhpacojodkaaGreatDoor.L
open Go.RowKit Go.Shelf Go.Proofs.YtmfhhpacojodkaaGreatDoor.N Go.Proofs.YtmfhhpacojodkaaGreatDoor.U

/-- The candidate that a text begins with, and what is left. -/
def candK (r : List UInt8) : Two × List UInt8 :=
  if Lib.trimRightB (r.take (yesN gapS r)) 44 != r.take (yesN gapS r) then ((Lib.trimRightB (r.take (yesN gapS r)) 44, []), r.drop (yesN gapS r))
  else ((r.take (yesN gapS r), (sqF gapS ((r.drop (yesN gapS r)).take (descN (r.drop (yesN gapS r)) false))).1), (r.drop (yesN gapS r)).drop (descN (r.drop (yesN gapS r)) false))
def trimK (s : List UInt8) : List UInt8 := s.drop (noN betS s)
theorem while_stop (q : UInt8 → Bool) : ∀ (s : List UInt8) (c : UInt8) (t : List UInt8), s.drop (s.takeWhile q).length = c :: t → q c = false
  | [], c, t, h => by simp at h
  | a :: s, c, t, h => by
    cases ha : q a with
    | true =>
      rw [List.takeWhile_cons, if_pos ha, List.length_cons, List.drop_succ_cons] at h
      exact while_stop q s c t h
    | false =>
      rw [List.takeWhile_cons, if_neg (by rw [ha]; decide)] at h
      simp at h
      rw [← h.1]; exact ha
theorem trimK_head (s : List UInt8) (c : UInt8) (t : List UInt8) (h : trimK s = c :: t) : gapS c = false ∧ (c == 44) = false := by
  have := while_stop betS s c t h
  unfold betS at this
  simpa using this
theorem yesN_pos (c : UInt8) (t : List UInt8) (h : gapS c = false) : 1 ≤ yesN gapS (c :: t) := by
  unfold yesN
  rw [List.takeWhile_cons, if_pos (by rw [h]; rfl), List.length_cons]
  omega
theorem cand_less (c : UInt8) (t : List UInt8) (h : gapS c = false) : (candK (c :: t)).2.length < (c :: t).length := by
  have h1 := yesN_pos c t h
  have h2 := yesN_le gapS (c :: t)
  unfold candK
  split
  · simp only [List.length_drop]; omega
  · simp only [List.length_drop]; omega
theorem trimK_le (s : List UInt8) : (trimK s).length ≤ s.length := by unfold trimK; rw [List.length_drop]; omega
def srcF : Nat → List UInt8 → List Two × Bool
  | 0, _ => ([], true)
  | f + 1, s => match trimK s with
    | [] => ([], true)
    | c :: t => ((candK (c :: t)).1 :: (srcF f (candK (c :: t)).2).1, goodP (candK (c :: t)).1.2 && (srcF f (candK (c :: t)).2).2)
theorem srcF_enough : ∀ (n : Nat) (s : List UInt8), s.length ≤ n → ∀ f, n < f → srcF f s = srcF (n + 1) s
  | n, s, hn, 0, hf => by omega
  | n, s, hn, f + 1, hf => by
    unfold srcF
    cases ht : trimK s with
    | nil => rfl
    | cons c t =>
      simp only
      obtain ⟨hg, _⟩ := trimK_head s c t ht
      have hl := cand_less c t hg
      have hle := trimK_le s
      rw [ht] at hle
      cases n with
      | zero => simp at hle; omega
      | succ n =>
        have h1 := srcF_enough n (candK (c :: t)).2 (by omega) f (by omega)
        rw [h1]
/-- The candidates of a text that is mended, and whether each one is good. -/
def srcK (s : List UInt8) : List Two × Bool := srcF (s.length + 1) s
theorem srcK_nil (s : List UInt8) (h : trimK s = []) : srcK s = ([], true) := by unfold srcK srcF; rw [h]
theorem srcK_step (s : List UInt8) (h : trimK s ≠ []) : srcK s = ((candK (trimK s)).1 :: (srcK (candK (trimK s)).2).1, goodP (candK (trimK s)).1.2 && (srcK (candK (trimK s)).2).2) ∧ (candK (trimK s)).2.length < s.length := by
  cases ht : trimK s with
  | nil => exact absurd ht h
  | cons c t =>
    obtain ⟨hg, _⟩ := trimK_head s c t ht
    have hl := cand_less c t hg
    have hle := trimK_le s
    rw [ht] at hle
    refine ⟨?_, by omega⟩
    have e : srcF s.length (candK (c :: t)).2 = srcK (candK (c :: t)).2 := srcF_enough _ _ (Nat.le_refl _) s.length (by omega)
    unfold srcK
    rw [srcF, ht]
    simp only
    rw [e]
    rfl
theorem srcF_le : ∀ (f : Nat) (s : List UInt8), (srcF f s).1.length ≤ f
  | 0, _ => by simp [srcF]
  | f + 1, s => by
    unfold srcF
    cases trimK s with
    | nil => simp
    | cons c t => have := srcF_le f (candK (c :: t)).2; simp; omega
/-- A srcset of candidates. -/
def cC (l : List Two) (i : Nat) : List UInt8 := (if i = 0 then [] else [44, 32]) ++ mendL (l.getD i ([], [])).1 ++ (if (l.getD i ([], [])).2 == [] then [] else [32] ++ mendL (l.getD i ([], [])).2)
def cPre (l : List Two) (k : Nat) : List UInt8 := (List.range k).flatMap (cC l)
theorem cPre_succ (l : List Two) (k : Nat) : cPre l (k + 1) = cPre l k ++ cC l k := by
  unfold cPre
  rw [List.range_succ, List.flatMap_append]
  simp
def setK (l : List Two) : List UInt8 := cPre l l.length
theorem cC_le (l : List Two) (N i : Nat) (hN : ∀ x ∈ l, x.1.length + x.2.length ≤ N) : (cC l i).length ≤ 4 * N + 3 := by
  have hx : (l.getD i ([], [])).1.length + (l.getD i ([], [])).2.length ≤ N := by
    by_cases h : i < l.length
    · rw [List.getD_eq_getElem?_getD, List.getElem?_eq_getElem h]
      exact hN _ (List.getElem_mem h)
    · rw [List.getD_eq_getElem?_getD, List.getElem?_eq_none (by omega)]
      simp
  have h1 := mend_le (l.getD i ([], [])).1
  have h2 := mend_le (l.getD i ([], [])).2
  have hd : (if i = 0 then ([] : List UInt8) else [44, 32]).length ≤ 2 := by split <;> simp
  have hd2 : (if (l.getD i ([], [])).2 == [] then ([] : List UInt8) else [32] ++ mendL (l.getD i ([], [])).2).length ≤ 1 + (mendL (l.getD i ([], [])).2).length := by split <;> simp <;> omega
  unfold cC
  simp only [List.length_append]
  omega
theorem cPre_le (l : List Two) (N : Nat) (hN : ∀ x ∈ l, x.1.length + x.2.length ≤ N) : ∀ k, (cPre l k).length ≤ k * (4 * N + 3)
  | 0 => by simp [cPre]
  | k + 1 => by
    have h1 := cPre_le l N hN k
    have h2 := cC_le l N k hN
    rw [cPre_succ, List.length_append, Nat.succ_mul]
    omega
end Go.Proofs.YtmfhhpacojodkaaGreatDoor.L

/- What is proved here: a query of pairs says them again, as lists. No program in it. -/
namespace Go.Proofs.YtmfhhpacojodkaaGreatDoor.L
open Go.RowKit Go.Shelf Go.Proofs.YtmfhhpacojodkaaGreatDoor.N Go.Proofs.YtmfhhpacojodkaaGreatDoor.U

theorem form_tab2 : ∀ n : Fin 256, ((formC (UInt8.ofNat n.val)).all fun d => !(d == 38) && !(d == 61) && decide (d.toNat < 128)) = true := by decide +kernel
theorem formC_safe (c : UInt8) : ∀ d ∈ formC c, (d == 38) = false ∧ (d == 61) = false ∧ d.toNat < 128 := fun d hd => by
  have h := form_tab2 ⟨c.toNat, c.toNat_lt⟩
  simp only [UInt8.ofNat_toNat] at h
  have := List.all_eq_true.1 h d hd
  simp only [Bool.and_eq_true, Bool.not_eq_true', decide_eq_true_eq] at this
  exact ⟨this.1.1, this.1.2, this.2⟩
theorem formL_safe (s : List UInt8) : ∀ d ∈ formL s, (d == 38) = false ∧ (d == 61) = false ∧ d.toNat < 128 := fun d hd => by
  unfold formL at hd
  obtain ⟨c, _, h⟩ := List.mem_flatMap.1 hd
  exact formC_safe c d h
theorem form_tab3 : ∀ n : Fin 256, ((decide ((formC (UInt8.ofNat n.val)).map plusC = [UInt8.ofNat n.val]) && !(UInt8.ofNat n.val == 37)) || decide ((formC (UInt8.ofNat n.val)).map plusC = escC (UInt8.ofNat n.val))) = true := by decide +kernel
theorem formC_cases (c : UInt8) : ((formC c).map plusC = [c] ∧ (c == 37) = false) ∨ (formC c).map plusC = escC c := by
  have h := form_tab3 ⟨c.toNat, c.toNat_lt⟩
  simp only [UInt8.ofNat_toNat] at h
  simp only [Bool.or_eq_true, Bool.and_eq_true, Bool.not_eq_true', decide_eq_true_eq] at h
  exact h
theorem unform : ∀ m : List UInt8, decM ((m.flatMap formC).map plusC) = m
  | [] => rfl
  | c :: t => by
    have ih := unform t
    rw [List.flatMap_cons, List.map_append]
    rcases formC_cases c with ⟨h, h37⟩ | h
    · rw [h, List.singleton_append, decM_plain _ _ (by unfold escB; simp only [List.getD_cons_zero, h37, Bool.false_and]), ih]
    · rw [h]
      show decM (37 :: hexD (c.toNat / 16) :: hexD (c.toNat % 16) :: _) = _
      rw [decM_esc _ _ (escB_esc c _)]
      show hexV (hexD (c.toNat / 16)) (hexD (c.toNat % 16)) :: decM _ = _
      rw [hexV_esc]
      show c :: decM ((t.flatMap formC).map plusC) = _
      rw [ih]
theorem plus_low (d : UInt8) (h : d.toNat < 128) : (plusC d).toNat < 128 := by unfold plusC; split <;> simp_all
theorem unf_form (s : List UInt8) : unfL (formL s) = mendL s := by
  unfold unfL decL
  have hv : Val ((formL s).map plusC) := val_ascii _ fun c hc => by
    obtain ⟨d, hd, rfl⟩ := List.mem_map.1 hc
    exact plus_low d (formL_safe s d hd).2.2
  rw [hv.mend]
  show mendL (decM (((mendL s).flatMap formC).map plusC)) = _
  rw [unform, (val_mend s).mend]
def segQ (x : Two) : List UInt8 := formL x.1 ++ 61 :: formL x.2
theorem range_get {β : Type} (f : Two → List β) : ∀ t : List Two, (List.range t.length).flatMap (fun i => f (t.getD i ([], []))) = t.flatMap f
  | [] => rfl
  | x :: t => by
    rw [List.length_cons, List.range_succ_eq_map, List.flatMap_cons, List.flatMap_map, List.flatMap_cons]
    congr 1
    exact range_get f t
theorem query_segs (x : Two) (t : List Two) : queryK (x :: t) = segQ x ++ t.flatMap fun y => 38 :: segQ y := by
  unfold queryK qPre
  rw [List.length_cons, List.range_succ_eq_map, List.flatMap_cons, List.flatMap_map, ← range_get (fun y => 38 :: segQ y) t]
  congr 1
  · unfold qC segQ
    simp
  · congr 1
    funext i
    unfold qC segQ
    simp
theorem not_in (p : UInt8) {l : List UInt8} (h : ∀ d ∈ l, (d == p) = false) : ∀ d ∈ l, ([p] : List UInt8).contains d = false := fun d hd => by rw [one_has]; exact h d hd
theorem pairs_seg (x : Two) (T : List UInt8) (hT : T = [] ∨ ∃ r, T = 38 :: r) : pairsK (segQ x ++ T) = (mendL x.1, mendL x.2) :: pairsK (T.drop 1) := by
  have hs : ∀ d ∈ segQ x, (d == 38) = false := fun d hd => by
    unfold segQ at hd
    rcases List.mem_append.1 hd with h | h
    · exact (formL_safe _ d h).1
    · rcases List.mem_cons.1 h with rfl | h
      · rfl
      · exact (formL_safe _ d h).1
  have hne : segQ x ≠ [] := by unfold segQ; simp
  have hu : upToL [38] (segQ x ++ T) = (segQ x).length := by
    rw [upToL_app [38] _ _ (not_in 38 hs)]
    rcases hT with rfl | ⟨r, rfl⟩
    · rfl
    · rw [upToL_cons, if_pos (by rw [one_has]; rfl)]
      rfl
  rw [pairsK_step _ (by simp [hne]), hu, List.take_left]
  have hd : (segQ x ++ T).drop ((segQ x).length + 1) = T.drop 1 := by
    rw [← List.drop_drop, List.drop_left]
  rw [hd]
  have he : (segQ x).isEmpty = false := by
    cases h : segQ x with
    | nil => exact absurd h hne
    | cons a b => rfl
  rw [he]
  have h1 : upToL [61] (segQ x) = (formL x.1).length := by
    unfold segQ
    rw [upToL_app [61] _ _ (not_in 61 fun d hd => (formL_safe _ d hd).2.1), upToL_cons, if_pos (by rw [one_has]; rfl)]
    rfl
  have h2 : pairOf (segQ x) = (mendL x.1, mendL x.2) := by
    unfold pairOf
    rw [h1]
    have e1 : (segQ x).take (formL x.1).length = formL x.1 := by unfold segQ; rw [List.take_left]
    have e2 : (segQ x).drop ((formL x.1).length + 1) = formL x.2 := by unfold segQ; rw [← List.drop_drop, List.drop_left]; rfl
    rw [e1, e2, unf_form, unf_form]
  rw [h2]
  rfl
theorem pairs_segs : ∀ (t : List Two) (x : Two), pairsK (segQ x ++ t.flatMap fun y => 38 :: segQ y) = (x :: t).map fun y => (mendL y.1, mendL y.2)
  | [], x => by
    rw [List.flatMap_nil, pairs_seg x [] (.inl rfl)]
    rw [List.drop_nil, pairsK_nil]
    rfl
  | y :: t, x => by
    rw [List.flatMap_cons, List.cons_append, pairs_seg x _ (.inr ⟨_, rfl⟩)]
    rw [List.drop_succ_cons, List.drop_zero, pairs_segs t y]
    rfl
/-- **A query says its pairs.** -/
theorem pairs_back (l : List Two) : pairsK (mendL (queryK l)) = l.map fun y => (mendL y.1, mendL y.2) := by
  cases l with
  | nil => exact pairsK_nil
  | cons x t =>
    have hv : Val (queryK (x :: t)) := val_ascii _ fun c hc => by
      rw [query_segs] at hc
      have hs : ∀ y : Two, ∀ c ∈ segQ y, c.toNat < 128 := fun y c hc => by
        unfold segQ at hc
        rcases List.mem_append.1 hc with h | h
        · exact (formL_safe _ c h).2.2
        · rcases List.mem_cons.1 h with rfl | h
          · decide
          · exact (formL_safe _ c h).2.2
      rcases List.mem_append.1 hc with h | h
      · exact hs x c h
      · obtain ⟨y, _, h⟩ := List.mem_flatMap.1 h
        rcases List.mem_cons.1 h with rfl | h
        · decide
        · exact hs y c h
    rw [hv.mend, query_segs, pairs_segs]
end Go.Proofs.YtmfhhpacojodkaaGreatDoor.L
