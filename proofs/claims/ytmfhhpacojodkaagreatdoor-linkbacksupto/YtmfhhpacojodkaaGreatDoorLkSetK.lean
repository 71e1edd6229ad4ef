/- What is proved here: a srcset's candidates and good descriptors, as lists. No program in it. -/
import Derived.Test.YtmfhhpacojodkaaGreatDoorLkSetM
namespace Go.Proofs.YtmfhhpacojodkaaGreatDoor.L
open Go.RowKit Go.Shelf Go.Proofs.YtmfhhpacojodkaaGreatDoor.N Go.Proofs.YtmfhhpacojodkaaGreatDoor.U

def gapS (c : UInt8) : Bool := c == 13 || blankZ (c.toNat : Int)
def betS (c : UInt8) : Bool := gapS c || c == 44
def gapP (x : Nat) : Bool := blankZ (x : Int) || ((x : Int) == 13)
def betP (x : Nat) : Bool := gapP x || ((x : Int) == 44)
theorem gap_tab : ∀ n : Fin 256, (gapP n.val = gapS (UInt8.ofNat n.val)) ∧ (betP n.val = betS (UInt8.ofNat n.val)) ∧ (128 ≤ n.val → gapS (UInt8.ofNat n.val) = false ∧ betS (UInt8.ofNat n.val) = false) := by decide +kernel
theorem gap_facts (c : UInt8) : gapP c.toNat = gapS c ∧ betP c.toNat = betS c ∧ (128 ≤ c.toNat → gapS c = false ∧ betS c = false) := by
  have := gap_tab ⟨c.toNat, c.toNat_lt⟩
  simp only [UInt8.ofNat_toNat] at this
  exact this
theorem gapP_high (r : Nat) (h : 128 ≤ r) : gapP r = false := by
  unfold gapP blankZ
  rw [Bool.or_eq_false_iff]
  refine ⟨?_, by rw [beq_eq_false_iff_ne]; omega⟩
  rw [decide_eq_false_iff_not]
  omega
theorem low_gap : Low7 gapP gapS := ⟨fun c _ => (gap_facts c).1, gapP_high, fun c h => ((gap_facts c).2.2 h).1⟩
theorem low_bet : Low7 betP betS := ⟨fun c _ => (gap_facts c).2.1, fun r h => by unfold betP; rw [gapP_high r h, Bool.false_or, beq_eq_false_iff_ne]; omega, fun c h => ((gap_facts c).2.2 h).2⟩
/-- Where a descriptor ends. -/
def inS (b : Bool) (c : UInt8) : Bool := if c == 40 then true else if c == 41 then false else b
def descN : List UInt8 → Bool → Nat
  | [], _ => 0
  | c :: t, b => if !b && c == 44 then 0 else descN t (inS b c) + 1
theorem descN_le : ∀ (s : List UInt8) (b : Bool), descN s b ≤ s.length
  | [], _ => Nat.le_refl _
  | c :: t, b => by
    have := descN_le t (inS b c)
    unfold descN
    rw [List.length_cons]
    split <;> omega
def inAt (b : Bool) (s : List UInt8) (k : Nat) : Bool := (s.take k).foldl inS b
theorem inAt_succ (b : Bool) (s : List UInt8) (k : Nat) (h : k < s.length) : inAt b s (k + 1) = inS (inAt b s k) (s.getD k 0) := by
  unfold inAt
  rw [List.take_succ_eq_append_getElem h, List.foldl_append, getD_at s k h]
  rfl
theorem descN_at : ∀ (s : List UInt8) (b : Bool) (k : Nat), k ≤ s.length → (∀ j, j < k → (!inAt b s j && s.getD j 0 == 44) = false) → (k = s.length ∨ (!inAt b s k && s.getD k 0 == 44) = true) → descN s b = k
  | [], _, k, hk, _, _ => by simp at hk; subst hk; rfl
  | c :: t, b, 0, _, _, h => by
    have h0 : (!b && c == 44) = true := by
      rcases h with h | h
      · simp at h
      · simpa [inAt] using h
    unfold descN
    rw [if_pos h0]
  | c :: t, b, k + 1, hk, h1, h2 => by
    have h0 : (!b && c == 44) = false := by
      have := h1 0 (by omega)
      simpa [inAt] using this
    have hs : ∀ j, inAt b (c :: t) (j + 1) = inAt (inS b c) t j := fun j => by unfold inAt; rw [List.take_succ_cons, List.foldl_cons]
    have ih := descN_at t (inS b c) k (by simpa using hk) (fun j hj => by
      have := h1 (j + 1) (by omega)
      rw [hs] at this
      simpa using this) (by
      rcases h2 with h | h
      · left; simpa using h
      · right
        rw [hs] at h
        simpa using h)
    unfold descN
    rw [if_neg (by rw [h0]; decide), ih]
def numOk (s : List UInt8) : Bool := decide (1 ≤ digitsN s) && decide (digitsN s ≤ 9)
/-- Is a descriptor a width, a density, or none? -/
def goodP (d : List UInt8) : Bool :=
  if d == [] then true else if numOk d && [46].isPrefixOf (d.drop (digitsN d)) then numOk ((d.drop (digitsN d)).drop 1) && (((d.drop (digitsN d)).drop 1).drop (digitsN ((d.drop (digitsN d)).drop 1)) == [120])
  else numOk d && (d.drop (digitsN d) == [119] || d.drop (digitsN d) == [120])
def numeralB (s : List UInt8) : Bool := decide (1 ≤ s.length) && decide (s.length ≤ 9) && s.all digB
def goodL (n : List UInt8) (u : UInt8) : Bool :=
  if u != 119 && u != 120 then false else if numeralB n then true
  else (u == 120) && (decide (upToL [46] n < n.length) && (numeralB (n.take (upToL [46] n)) && numeralB (n.drop (upToL [46] n + 1))))
theorem digits_run : ∀ (x y : List UInt8), (∀ c ∈ x, digB c = true) → digitsN (x ++ y) = x.length + digitsN y
  | [], y, _ => by simp
  | c :: t, y, h => by
    have ih := digits_run t y (fun d hd => h d (by simp [hd]))
    unfold digitsN at ih ⊢
    rw [List.cons_append, List.takeWhile_cons, if_pos (h c (by simp)), List.length_cons, ih, List.length_cons]
    omega
theorem digits_none (c : UInt8) (t : List UInt8) (h : digB c = false) : digitsN (c :: t) = 0 := by
  unfold digitsN
  rw [List.takeWhile_cons, if_neg (by rw [h]; decide)]; rfl
theorem digits_split (s : List UInt8) : ∃ x y, s = x ++ y ∧ x.length = digitsN s ∧ (∀ c ∈ x, digB c = true) ∧ (y = [] ∨ ∃ c t, y = c :: t ∧ digB c = false) := by
  induction s with
  | nil => exact ⟨[], [], rfl, rfl, fun c hc => absurd hc (by simp), .inl rfl⟩
  | cons c t ih =>
    cases hc : digB c with
    | true =>
      obtain ⟨x, y, e, hl, hx, hy⟩ := ih
      have hd := digits_run [c] t (fun d hd => by simp at hd; subst hd; exact hc)
      refine ⟨c :: x, y, by rw [e]; rfl, ?_, fun d hd => ?_, hy⟩
      · rw [List.length_cons, hl]
        simp at hd
        omega
      · rcases List.mem_cons.1 hd with rfl | hd
        · exact hc
        · exact hx d hd
    | false => exact ⟨[], c :: t, rfl, (digits_none c t hc).symm, fun d hd => absurd hd (by simp), .inr ⟨c, t, rfl, hc⟩⟩
theorem num_all {x : List UInt8} (h : ∀ c ∈ x, digB c = true) : numeralB x = (decide (1 ≤ x.length) && decide (x.length ≤ 9)) := by
  unfold numeralB
  rw [List.all_eq_true.2 h, Bool.and_true]
theorem num_not {x : List UInt8} {c : UInt8} (hc : c ∈ x) (h : digB c = false) : numeralB x = false := by
  unfold numeralB
  rw [show x.all digB = false from List.all_eq_false.2 ⟨c, hc, by rw [h]; decide⟩, Bool.and_false]
theorem digB_not46 {c : UInt8} (h : digB c = true) : (c == 46) = false := by
  rw [beq_eq_false_iff_ne]
  rintro rfl
  revert h
  decide
theorem up_run (x y : List UInt8) (h : ∀ c ∈ x, digB c = true) : upToL [46] (x ++ 46 :: y) = x.length := by
  refine upTo_at [46] _ x.length (by simp) (fun j hj => ?_) (by simp)
  have e : (x ++ 46 :: y).getD j 0 = x[j] := by rw [List.getD_eq_getElem?_getD, List.getElem?_append_left hj, List.getElem?_eq_getElem hj]; rfl
  rw [one_has, e]
  exact digB_not46 (h _ (List.getElem_mem hj))
theorem up_end (x y : List UInt8) (c : UInt8) (h : ∀ d ∈ x, digB d = true) (hc : digB c = false) (h46 : c ≠ 46) : numeralB ((x ++ c :: y).take (upToL [46] (x ++ c :: y))) = false ∨ ¬ upToL [46] (x ++ c :: y) < (x ++ c :: y).length := by
  by_cases hl : upToL [46] (x ++ c :: y) < (x ++ c :: y).length
  · left
    have hge : x.length + 1 ≤ upToL [46] (x ++ c :: y) := by
      apply Nat.le_of_not_lt
      intro hlt
      have hle : upToL [46] (x ++ c :: y) ≤ x.length := by omega
      have hat : ((x ++ c :: y).getD (upToL [46] (x ++ c :: y)) 0 == 46) = true := by
        have hn : ¬ ∀ j, j < upToL [46] (x ++ c :: y) + 1 → ([46] : List UInt8).contains ((x ++ c :: y).getD j 0) = false := fun hall => by
          by_cases he : upToL [46] (x ++ c :: y) + 1 = (x ++ c :: y).length
          · have := upTo_none [46] (x ++ c :: y) (fun j hj => hall j (by omega))
            omega
          · rcases Classical.em (∃ i, i < (x ++ c :: y).length ∧ ([46] : List UInt8).contains ((x ++ c :: y).getD i 0) = true) with ⟨i, hi, hci⟩ | hno
            · have hfirst : ∃ i, i < (x ++ c :: y).length ∧ ([46] : List UInt8).contains ((x ++ c :: y).getD i 0) = true ∧ ∀ j, j < i → ([46] : List UInt8).contains ((x ++ c :: y).getD j 0) = false := by
                induction i using Nat.strongRecOn with
                | ind i ih =>
                  by_cases hx : ∀ j, j < i → ([46] : List UInt8).contains ((x ++ c :: y).getD j 0) = false
                  · exact ⟨i, hi, hci, hx⟩
                  · obtain ⟨j, hj⟩ := Classical.not_forall.1 hx
                    obtain ⟨hj1, hj2⟩ := Classical.not_imp.1 hj
                    exact ih j hj1 (by omega) (by simpa using hj2)
              obtain ⟨i, hi, hci, hx⟩ := hfirst
              have := upTo_at [46] (x ++ c :: y) i hi hx hci
              have h2 := hall i (by omega)
              rw [hci] at h2
              cases h2
            · have := upTo_none [46] (x ++ c :: y) (fun j hj => by
                cases hq : ([46] : List UInt8).contains ((x ++ c :: y).getD j 0) with
                | false => rfl
                | true => exact absurd ⟨j, hj, hq⟩ hno)
              omega
        rw [← one_has]
        cases hq : ([46] : List UInt8).contains ((x ++ c :: y).getD (upToL [46] (x ++ c :: y)) 0) with
        | true => rfl
        | false =>
          exfalso
          apply hn
          intro j hj
          by_cases e : j = upToL [46] (x ++ c :: y)
          · rw [e]; exact hq
          · have hlt2 : j < upToL [46] (x ++ c :: y) := by omega
            have htw : ∀ (s : List UInt8) (i : Nat), i < (s.takeWhile fun c => !([46] : List UInt8).contains c).length → ([46] : List UInt8).contains (s.getD i 0) = false := fun s => by
              induction s with
              | nil => intro i hi; simp at hi
              | cons a t ih =>
                intro i hi
                cases ha : ([46] : List UInt8).contains a with
                | true => rw [List.takeWhile_cons, if_neg (by rw [ha]; decide)] at hi; simp at hi
                | false =>
                  rw [List.takeWhile_cons, if_pos (by rw [ha]; rfl)] at hi
                  cases i with
                  | zero => simpa using ha
                  | succ i => simpa using ih i (by simpa using hi)
            exact htw _ j hlt2
      rcases Nat.lt_or_ge (upToL [46] (x ++ c :: y)) x.length with h1 | h1
      · have e : (x ++ c :: y).getD (upToL [46] (x ++ c :: y)) 0 = x[upToL [46] (x ++ c :: y)] := by rw [List.getD_eq_getElem?_getD, List.getElem?_append_left h1, List.getElem?_eq_getElem h1]; rfl
        rw [e, digB_not46 (h _ (List.getElem_mem h1))] at hat
        cases hat
      · have e : (x ++ c :: y).getD (upToL [46] (x ++ c :: y)) 0 = c := by
          have : upToL [46] (x ++ c :: y) = x.length := by omega
          rw [this]
          simp
        rw [e] at hat
        exact h46 (by simpa using hat)
    refine num_not (c := c) ?_ hc
    refine List.mem_iff_getElem.2 ⟨x.length, by rw [List.length_take]; simp; omega, ?_⟩
    simp
  · right; exact hl
/-- As the document finds it. -/
theorem good_doc (n : List UInt8) (u : UInt8) : goodP (n ++ [u]) = goodL n u := by
  have hne : ((n ++ [u]) == []) = false := by cases n <;> rfl
  have hu119 : digB 119 = false := by decide
  have hu120 : digB 120 = false := by decide
  unfold goodP goodL
  rw [hne]
  simp only [Bool.false_eq_true, if_false]
  obtain ⟨x, y, e, hl, hx, hy⟩ := digits_split n
  by_cases hu : u = 119 ∨ u = 120
  · have hud : digB u = false := by rcases hu with rfl | rfl <;> assumption
    have hu1 : (u != 119 && u != 120) = false := by rcases hu with rfl | rfl <;> rfl
    have hu46 : (u == 46) = false := by rcases hu with rfl | rfl <;> rfl
    rw [hu1]
    simp only [Bool.false_eq_true, if_false]
    rcases hy with rfl | ⟨c, t, rfl, hc⟩
    · -- all digits
      rw [List.append_nil] at e
      subst e
      have hd : digitsN (n ++ [u]) = n.length := by rw [digits_run n [u] hx, digits_none u [] hud]; rfl
      have hdr : (n ++ [u]).drop n.length = [u] := by simp
      have hok : numOk (n ++ [u]) = numeralB n := by unfold numOk; rw [hd, num_all hx]
      rw [hd, hdr, hok]
      have hpf : ([46] : List UInt8).isPrefixOf [u] = false := by
        simp only [List.isPrefixOf, Bool.and_true]
        rcases hu with rfl | rfl <;> rfl
      rw [hpf, Bool.and_false]
      simp only [Bool.false_eq_true, if_false]
      have hor : ([u] == [119] || [u] == ([120] : List UInt8)) = true := by rcases hu with rfl | rfl <;> rfl
      rw [hor, Bool.and_true]
      cases hnb : numeralB n with
      | true => simp
      | false =>
        have hup : ¬ upToL [46] n < n.length := by
          have := upTo_none [46] n (fun j hj => by rw [one_has, getD_at n j hj]; exact digB_not46 (hx _ (List.getElem_mem hj)))
          omega
        rw [decide_eq_false hup]
        simp
    · subst e
      have hd : digitsN ((x ++ c :: t) ++ [u]) = x.length := by
        rw [List.append_assoc, digits_run x _ hx, List.cons_append, digits_none c _ hc]; rfl
      have hdr : ((x ++ c :: t) ++ [u]).drop x.length = c :: (t ++ [u]) := by rw [List.append_assoc]; simp
      have hnn : numeralB (x ++ c :: t) = false := num_not (c := c) (by simp) hc
      have hok : numOk ((x ++ c :: t) ++ [u]) = numeralB x := by unfold numOk; rw [hd, num_all hx]
      rw [hnn, hd, hdr, hok]
      simp only [Bool.false_eq_true, if_false]
      have hor : (c :: (t ++ [u]) == [119] || c :: (t ++ [u]) == ([120] : List UInt8)) = false := by
        cases t <;> simp
      rw [hor, Bool.and_false]
      by_cases h46 : c = 46
      · subst h46
        have hpf : ([46] : List UInt8).isPrefixOf (46 :: (t ++ [u])) = true := by simp [List.isPrefixOf]
        rw [hpf, Bool.and_true, up_run x t hx]
        have hlt : x.length < (x ++ 46 :: t).length := by simp
        have htk : (x ++ 46 :: t).take x.length = x := by simp
        have hdp : (x ++ 46 :: t).drop (x.length + 1) = t := by simp
        rw [decide_eq_true hlt, htk, hdp, Bool.true_and]
        cases hnx : numeralB x with
        | false => simp
        | true =>
          simp only [if_true, Bool.true_and]
          show (numOk (t ++ [u]) && ((t ++ [u]).drop (digitsN (t ++ [u])) == [120])) = _
          obtain ⟨x2, y2, e2, _, hx2, hy2⟩ := digits_split t
          rcases hy2 with rfl | ⟨c2, t2, rfl, hc2⟩
          · rw [List.append_nil] at e2
            subst e2
            have hd2 : digitsN (t ++ [u]) = t.length := by rw [digits_run t [u] hx2, digits_none u [] hud]; rfl
            have hok2 : numOk (t ++ [u]) = numeralB t := by unfold numOk; rw [hd2, num_all hx2]
            rw [hok2, hd2]
            simp only [List.drop_left]
            rw [Bool.and_comm]
            congr 1
            cases hq : (u == 120) with
            | true => rw [beq_iff_eq.1 hq]; rfl
            | false => simp; intro e; subst e; simp at hq
          · subst e2
            have hnt : numeralB (x2 ++ c2 :: t2) = false := num_not (c := c2) (by simp) hc2
            have hd2 : digitsN ((x2 ++ c2 :: t2) ++ [u]) = x2.length := by
              rw [List.append_assoc, digits_run x2 _ hx2, List.cons_append, digits_none c2 _ hc2]; rfl
            have hdr2 : ((x2 ++ c2 :: t2) ++ [u]).drop x2.length = c2 :: (t2 ++ [u]) := by rw [List.append_assoc]; simp
            rw [hnt, hd2, hdr2, Bool.and_false]
            have : (c2 :: (t2 ++ [u]) == ([120] : List UInt8)) = false := by cases t2 <;> simp
            rw [this, Bool.and_false]
      · have hpf : ([46] : List UInt8).isPrefixOf (c :: (t ++ [u])) = false := by
          simp [List.isPrefixOf]
          exact fun e => h46 e.symm
        rw [hpf, Bool.and_false]
        simp only [Bool.false_eq_true, if_false]
        rcases up_end x t c hx hc h46 with h1 | h1
        · rw [h1]; simp
        · rw [decide_eq_false h1]; simp
  · have hu1 : (u != 119 && u != 120) = true := by simp; exact ⟨fun e => hu (.inl e), fun e => hu (.inr e)⟩
    rw [hu1]
    simp only [if_true]
    have key : ∀ (k : Nat) (c : UInt8), c = 119 ∨ c = 120 → ((n ++ [u]).drop k == [c]) = false := fun k c hc => by
      rw [beq_eq_false_iff_ne]
      intro e9
      have h1 := congrArg List.getLast? e9
      rw [List.getLast?_drop] at h1
      have h2 : k < (n ++ [u]).length := by
        have := congrArg List.length e9
        rw [List.length_drop] at this
        simp at this ⊢
        omega
      rw [if_neg (by omega)] at h1
      simp at h1
      subst h1
      rcases hc with rfl | rfl
      · exact hu (.inl rfl)
      · exact hu (.inr rfl)
    rw [key _ 119 (.inl rfl), key _ 120 (.inr rfl)]
    have h3 : ((((n ++ [u]).drop (digitsN (n ++ [u]))).drop 1).drop (digitsN (((n ++ [u]).drop (digitsN (n ++ [u]))).drop 1)) == [120]) = false := by
      rw [List.drop_drop, List.drop_drop]
      exact key _ 120 (.inr rfl)
    rw [h3]
    simp
end Go.Proofs.YtmfhhpacojodkaaGreatDoor.L
