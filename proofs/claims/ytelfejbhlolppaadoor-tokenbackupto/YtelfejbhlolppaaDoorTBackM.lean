/- What is proved here: nothing of the program: lines that are printed are read again, lines tell tokens apart, merged tokens stay as they are: as lists. -/
import Derived.Test.YtelfejbhlolppaaDoorBun11
import Derived.Test.YtelfejbhlolppaaDoorTLines
import Derived.Test.YtelfejbhlolppaaDoorTList
import Derived.Test.YtelfejbhlolppaaDoorTEqual
namespace Go.Proofs.YtelfejbhlolppaaDoor.T
open Go.RowKit N

theorem unq_q : ∀ (l acc r : List UInt8), unq acc (qL l ++ 34 :: r) = some (acc ++ l, r) := by
  intro l
  induction l with
  | nil => intro acc r; rw [show qL [] = [] from rfl, List.nil_append, unq_end, List.append_nil]
  | cons c t ih =>
    intro acc r
    have e : qL (c :: t) ++ 34 :: r = qB c ++ (qL t ++ 34 :: r) := by unfold qL; simp
    rw [e]
    by_cases h10 : c = 10
    · subst h10; rw [show qB 10 = [92, 110] from rfl, List.cons_append, List.cons_append, List.nil_append, unq_n, ih]; simp
    · by_cases h9 : c = 9
      · subst h9; rw [show qB 9 = [92, 116] from rfl, List.cons_append, List.cons_append, List.nil_append, unq_t, ih]; simp
      · by_cases hq : c = 34 ∨ c = 92
        · rw [show qB c = [92, c] by unfold qB; rw [if_neg h10, if_neg h9, if_pos hq], List.cons_append, List.cons_append, List.nil_append, unq_c _ _ _ hq, ih]; simp
        · rw [show qB c = [c] by unfold qB; rw [if_neg h10, if_neg h9, if_neg hq], List.cons_append, List.nil_append, unq_else _ _ _ (fun e => hq (.inl e)) h9 h10 (fun e => hq (.inr e)), ih]; simp
theorem unqd_q (l r : List UInt8) : unqd (quoteB l ++ r) = some (l, r) := by
  have e : quoteB l ++ r = 34 :: (qL l ++ 34 :: r) := by unfold quoteB; simp
  rw [e]
  show unq [] _ = _
  rw [unq_q, List.nil_append]
theorem no10_q (l : List UInt8) : (10 : UInt8) ∉ quoteB l := by
  unfold quoteB qL
  simp only [List.mem_append, List.mem_singleton, List.mem_flatMap, not_or, not_exists, not_and]
  refine ⟨⟨by decide, fun c _ => ?_⟩, by decide⟩
  unfold qB
  by_cases h10 : c = 10
  · rw [if_pos h10]; decide
  · rw [if_neg h10]
    by_cases h9 : c = 9
    · rw [if_pos h9]; decide
    · rw [if_neg h9]
      by_cases hq : c = 34 ∨ c = 92
      · rw [if_pos hq]; rcases hq with rfl | rfl <;> decide
      · rw [if_neg hq]; simp; exact fun e => h10 e.symm
theorem attrsP_line : ∀ (l : AL) (n : Nat) (acc : AL) (b : Bool), l.length < n → attrsP n acc (attrsL l ++ selfL b) = some (acc ++ l, b, []) := by
  intro l
  induction l with
  | nil =>
    intro n acc b hn
    obtain ⟨m, rfl⟩ : ∃ m, n = m + 1 := ⟨n - 1, by simp at hn; omega⟩
    cases b with
    | true => rw [show attrsL [] ++ selfL true = 32 :: 47 :: [] from rfl, attrsP_self, List.append_nil]
    | false => rw [show attrsL [] ++ selfL false = [] from rfl, attrsP_end _ _ _ (by simp), List.append_nil]
  | cons a t ih =>
    intro n acc b hn
    simp only [List.length_cons] at hn
    obtain ⟨m, rfl⟩ : ∃ m, n = m + 1 := ⟨n - 1, by omega⟩
    have e : attrsL (a :: t) ++ selfL b = 32 :: (quoteB a.1.data.toList ++ (61 :: (quoteB a.2.data.toList ++ (attrsL t ++ selfL b)))) := by
      unfold attrsL attrL; simp
    rw [e, attrsP_attr _ _ _ (by unfold quoteB; simp), unqd_q]
    simp only [List.head?_cons, if_true, List.tail_cons]
    rw [unqd_q]
    simp only
    rw [ih m _ b (by omega), byteArr_eta, byteArr_eta]
    simp
/-- A token without its place. -/
def clr (x : T.Tok × AL) : T.Tok × AL := ({ x.1 with p0 := 0, p1 := 0, p2 := 0 }, x.2)
theorem attrsL_ge (l : AL) : l.length ≤ (attrsL l).length := by
  unfold attrsL
  induction l with
  | nil => simp
  | cons a r ih => simp only [List.flatMap_cons, List.length_append, List.length_cons, attrL]; omega
theorem empty_txt {s : ByteArray} (h : s.toList.isEmpty = true) : s = ⟨#[]⟩ := by
  apply data_inj
  rw [Lib.toList_data] at h
  simpa using h
theorem clr_check (x : T.Tok × AL) : checkB (clr x).1 (clr x).2 = checkB x.1 x.2 := rfl
theorem readP_line (t : T.Tok) (l : AL) (h : checkB t l = true) : readP (lineB t l) = some (clr (t, l)) := by
  have hc := (clr_check (t, l)).trans h
  have hf : fitsB t l = true := by unfold checkB at h; rw [Bool.and_eq_true] at h; exact h.1
  obtain ⟨kind, name, text, self, p0, p1, p2⟩ := t
  unfold fitsB at hf
  unfold clr at hc ⊢
  simp only at hf hc ⊢
  by_cases k0 : kind = 0
  · subst k0
    rw [if_pos rfl] at hf
    simp only [bareB, Bool.and_eq_true, Bool.not_eq_true'] at hf
    obtain ⟨⟨⟨h1, h2⟩, h3⟩, _⟩ := hf
    obtain rfl : l = [] := by simpa using h1
    subst h2
    obtain rfl := empty_txt h3
    have e : lineB (⟨0, ⟨#[]⟩, text, false, p0, p1, p2⟩ : T.Tok) [] = (wordS 0).data.toList ++ 32 :: (quoteB text.data.toList ++ []) := by
      unfold lineB headB; simp [wordB, attrsL, selfL, wordS]
    rw [e, readP_text 0 (.inl rfl) _ _ _ (unqd_q _ _), byteArr_eta, if_pos ⟨rfl, hc⟩]
    rfl
  by_cases k1 : kind = 1
  · subst k1
    rw [if_neg (by decide), if_pos rfl] at hf
    simp only [Bool.and_eq_true] at hf
    obtain ⟨⟨_, h3⟩, _⟩ := hf
    obtain rfl := empty_txt h3
    have e : lineB (⟨1, name, ⟨#[]⟩, self, p0, p1, p2⟩ : T.Tok) l = (wordS 1).data.toList ++ 32 :: (quoteB name.data.toList ++ (attrsL l ++ selfL self)) := by
      unfold lineB headB; simp [wordB, wordS]
    have ha : attrsF ((attrsL l ++ selfL self).length + 1) [] (attrsL l ++ selfL self) = some (l, self) := by
      unfold attrsF
      rw [attrsP_line l _ [] self (by have := attrsL_ge l; rw [List.length_append]; omega)]
      simp
    rw [e, readP_start _ _ _ (unqd_q _ _), ha]
    unfold startR
    simp only [byteArr_eta]
    rw [if_pos hc]
  by_cases k2 : kind = 2
  · subst k2
    rw [if_neg (by decide), if_neg (by decide), if_pos rfl] at hf
    simp only [bareB, Bool.and_eq_true, Bool.not_eq_true'] at hf
    obtain ⟨⟨⟨h1, h2⟩, _⟩, h3⟩ := hf
    obtain rfl : l = [] := by simpa using h1
    subst h2
    obtain rfl := empty_txt h3
    have e : lineB (⟨2, name, ⟨#[]⟩, false, p0, p1, p2⟩ : T.Tok) [] = (wordS 2).data.toList ++ 32 :: (quoteB name.data.toList ++ []) := by
      unfold lineB headB; simp [wordB, attrsL, selfL, wordS]
    rw [e, readP_end _ _ _ (unqd_q _ _), byteArr_eta, if_pos ⟨rfl, hc⟩]
  by_cases k3 : kind = 3
  · subst k3
    rw [if_neg (by decide), if_neg (by decide), if_neg (by decide), if_pos rfl] at hf
    simp only [bareB, Bool.and_eq_true, Bool.not_eq_true'] at hf
    obtain ⟨⟨h1, h2⟩, h3⟩ := hf
    obtain rfl : l = [] := by simpa using h1
    subst h2
    obtain rfl := empty_txt h3
    have e : lineB (⟨3, ⟨#[]⟩, text, false, p0, p1, p2⟩ : T.Tok) [] = (wordS 3).data.toList ++ 32 :: (quoteB text.data.toList ++ []) := by
      unfold lineB headB; simp [wordB, attrsL, selfL, wordS]
    rw [e, readP_text 3 (.inr rfl) _ _ _ (unqd_q _ _), byteArr_eta, if_pos ⟨rfl, hc⟩]
    rfl
  by_cases k4 : kind = 4
  · subst k4
    rw [if_neg (by decide), if_neg (by decide), if_neg (by decide), if_neg (by decide), if_pos rfl] at hf
    simp only [bareB, Bool.and_eq_true, Bool.not_eq_true'] at hf
    obtain ⟨⟨⟨h1, h2⟩, h4⟩, h3⟩ := hf
    obtain rfl : l = [] := by simpa using h1
    subst h2
    obtain rfl := empty_txt h3
    obtain rfl := empty_txt h4
    have e : lineB (⟨4, ⟨#[]⟩, ⟨#[]⟩, false, p0, p1, p2⟩ : T.Tok) [] = (wordS 4).data.toList := by
      unfold lineB headB; simp [wordB, attrsL, selfL, wordS]
    rw [e, readP_doc]
  · rw [if_neg k0, if_neg k1, if_neg k2, if_neg k3, if_neg k4] at hf
    cases hf
theorem no10_line (t : T.Tok) (l : AL) : (10 : UInt8) ∉ lineB t l := by
  have ha : (10 : UInt8) ∉ attrsL l := by
    unfold attrsL attrL
    simp only [List.mem_flatMap, List.mem_append, List.mem_singleton, not_exists, not_and, not_or]
    exact fun a _ => ⟨⟨⟨by decide, no10_q _⟩, by decide⟩, no10_q _⟩
  have hw : (10 : UInt8) ∉ wordB t.kind := by
    unfold wordB
    repeat' split
    all_goals decide
  have hs : (10 : UInt8) ∉ selfL t.self := by unfold selfL; split <;> decide
  have hh : (10 : UInt8) ∉ headB t := by
    unfold headB
    rw [List.mem_append, not_or]
    refine ⟨hw, ?_⟩
    split
    · simp only [List.mem_append, List.mem_singleton, not_or]; exact ⟨by decide, no10_q _⟩
    · split
      · simp only [List.mem_append, List.mem_singleton, not_or]; exact ⟨by decide, no10_q _⟩
      · simp
  unfold lineB
  simp only [List.mem_append, not_or]
  exact ⟨⟨hh, ha⟩, hs⟩
/-- Lines that are printed are read again. -/
theorem parse_lines : ∀ (L : TL) (n : Nat) (acc : TL), okL L = true → parseL n acc (linesOf (linesB L)) = (some (acc ++ L.map clr), 0) := by
  intro L
  induction L with
  | nil => intro n acc _; rw [show linesB [] = [] from rfl, linesOf_nil]; simp [parseL]
  | cons x r ih =>
    intro n acc h
    unfold okL at h
    rw [List.all_cons, Bool.and_eq_true] at h
    have e : linesB (x :: r) = lineB x.1 x.2 ++ 10 :: linesB r := by unfold linesB; simp
    have hl := lineP_at (lineB x.1 x.2) (linesB r) (no10_line _ _)
    rw [e, linesOf_cons _ (by simp), hl.1, hl.2, parseL, readP_line _ _ h.1]
    simp only
    rw [ih _ _ h.2]
    simp
theorem parse_list (L : TL) (h : okL L = true) : parseP ((linesB L).length + 1) 1 [] (linesB L) = (some (L.map clr), 0) := by
  rw [parseP_of, parse_lines L 1 [] h, List.nil_append]
theorem eq_clr (x : T.Tok × AL) : eqTok (clr x).1 (clr x).2 x.1 x.2 = true := by simp [eqTok, clr]
/-- Two tokens are equal just if they print the same. -/
theorem line_eq (t : T.Tok) (l : AL) (t' : T.Tok) (l' : AL) (h : checkB t l = true) (h' : checkB t' l' = true) : decide (lineB t l = lineB t' l') = eqTok t l t' l' := by
  rw [Bool.eq_iff_iff, decide_eq_true_eq]
  constructor
  · intro e
    have e1 := readP_line t l h
    have e2 := readP_line t' l' h'
    rw [e, e2] at e1
    simp only [clr, Option.some.injEq, Prod.mk.injEq, T.Tok.mk.injEq] at e1
    obtain ⟨⟨a1, a2, a3, a4, _⟩, a5⟩ := e1
    simp [eqTok, a1, a2, a3, a4, a5]
  · intro e
    simp only [eqTok, Bool.and_eq_true, beq_iff_eq, decide_eq_true_eq] at e
    obtain ⟨⟨⟨⟨a1, a2⟩, a3⟩, a4⟩, a5⟩ := e
    rw [Lib.toList_data, Lib.toList_data] at a2 a3
    unfold lineB headB
    rw [a1, a2, a3, a4, a5]

def NeatM (M : TL) : Prop := refM M = M ∧ refM M.dropLast = M.dropLast
theorem refM_snoc (R : TL) (x : T.Tok × AL) : refM (R ++ [x]) = stepM (refM R) x := by unfold refM; rw [List.foldl_append]; rfl
theorem neat_plain (M : TL) (x : T.Tok × AL) (h : NeatM M) (e : stepM M x = M ++ [x]) : NeatM (M ++ [x]) := by
  refine ⟨by rw [refM_snoc, h.1, e], ?_⟩
  rw [List.dropLast_concat]; exact h.1
theorem neat_step (M : TL) (x : T.Tok × AL) (h : NeatM M) : NeatM (stepM M x) := by
  by_cases hk : x.1.kind ≠ 0
  · have e : stepM M x = M ++ [x] := by unfold stepM; rw [if_pos hk]
    rw [e]; exact neat_plain M x h e
  by_cases ht : x.1.text.data.toList = []
  · have e : stepM M x = M := by unfold stepM; rw [if_neg hk, if_pos ht]
    rw [e]; exact h
  cases hl : M.getLast? with
  | none =>
    have e : stepM M x = M ++ [x] := by unfold stepM; rw [if_neg hk, if_neg ht, hl]
    rw [e]; exact neat_plain M x h e
  | some y =>
    by_cases hy : y.1.kind = 0
    · have e : stepM M x = M.dropLast ++ [addText y x.1.text] := by unfold stepM; rw [if_neg hk, if_neg ht, hl]; simp only; rw [if_pos hy]
      have hM : M = M.dropLast ++ [y] := by
        have hne : M ≠ [] := fun h0 => by rw [h0] at hl; simp at hl
        have h2 := List.dropLast_concat_getLast hne
        rw [List.getLast?_eq_some_getLast hne] at hl
        simp only [Option.some.injEq] at hl
        rw [hl] at h2; exact h2.symm
      rw [e]
      generalize M.dropLast = M' at hM h
      have h1 : stepM M' y = M' ++ [y] := by
        have h3 := h.1
        rw [hM, refM_snoc] at h3
        have h4 := h.2
        rw [hM, List.dropLast_concat] at h4
        rw [h4] at h3; exact h3
      have h4 : refM M' = M' := by have h4 := h.2; rw [hM, List.dropLast_concat] at h4; exact h4
      have h5 : stepM M' (addText y x.1.text) = M' ++ [addText y x.1.text] := by
        unfold stepM
        rw [if_neg (by simp [addText, hy]), if_neg (by
          simp only [addText]
          rw [app_data]
          simp [ht])]
        cases hz : M'.getLast? with
        | none => rfl
        | some z =>
          simp only
          rw [if_neg ?_]
          intro hzk
          have h6 : stepM M' y = if y.1.text.data.toList = [] then M' else M'.dropLast ++ [addText z y.1.text] := by
            unfold stepM
            rw [if_neg (by simp [hy]), hz]
            simp only [hzk, if_true]
          rw [h6] at h1
          have h7 := congrArg List.length h1
          have hne : M' ≠ [] := fun h0 => by rw [h0] at hz; simp at hz
          have h8 := List.length_pos_iff.2 hne
          split at h7
          · simp at h7
          · simp at h7; omega
      refine ⟨by rw [refM_snoc, h4, h5], ?_⟩
      rw [List.dropLast_concat]; exact h4
    · have e : stepM M x = M ++ [x] := by unfold stepM; rw [if_neg hk, if_neg ht, hl]; simp only; rw [if_neg hy]
      rw [e]; exact neat_plain M x h e
theorem neat_refM (L : TL) : NeatM (refM L) := by
  refine snoc_ind (P := fun L => NeatM (refM L)) ⟨rfl, rfl⟩ (fun R x ih => ?_) L
  rw [refM_snoc]
  exact neat_step _ _ ih
/-- Merged tokens stay as they are. -/
theorem refM_again (L : TL) : refM (refM L) = refM L := (neat_refM L).1
end Go.Proofs.YtelfejbhlolppaaDoor.T
