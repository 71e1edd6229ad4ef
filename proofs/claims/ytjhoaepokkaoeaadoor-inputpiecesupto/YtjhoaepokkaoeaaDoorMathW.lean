/- What is proved here: plain facts on cells of bytes that come in pieces: what a stream holds back, and the cells of two pieces. -/
import Derived.Test.YtjhoaepokkaoeaaDoorMathU
import Derived.Test.YtjhoaepokkaoeaaDoorMathK
namespace Go.Proofs.YtjhoaepokkaoeaaDoor.U

/-- How many bytes are left of a row when a CR at its end is taken off. -/
def cutC (B : List UInt8) : Nat := if [13].isSuffixOf B then B.length - 1 else B.length
theorem cutC_le (B : List UInt8) : cutC B ≤ B.length := by unfold cutC; split <;> omega
theorem cutC_ge (B : List UInt8) : B.length ≤ cutC B + 1 := by unfold cutC; split <;> omega
/-- How many bytes of what a stream has are sure. -/
def cutI (A : List UInt8) : Nat := cutC (A.take (A.length - tailN A))
theorem cutI_le (A : List UInt8) : cutI A ≤ A.length := by
  have := cutC_le (A.take (A.length - tailN A))
  unfold cutI
  simp at this
  omega

/-- Runes with their places, from a place on. -/
def toksA (a : Nat) (bs : List UInt8) : List (Nat × Nat) := toksF bs.length a bs
theorem toksA_nil (a : Nat) : toksA a [] = [] := rfl
theorem toksA_cons (a : Nat) (bs : List UInt8) (h : 0 < bs.length) : toksA a bs = (a, nextR bs) :: toksA (a + nextN bs) (bs.drop (nextN bs)) := by
  obtain ⟨f, hf⟩ : ∃ f, bs.length = f + 1 := ⟨bs.length - 1, by omega⟩
  have hp := nextN_pos bs
  unfold toksA
  conv => lhs; rw [hf]; unfold toksF
  rw [if_neg (by omega), toksF_fuel f (bs.drop (nextN bs)).length _ _ (by simp; omega) (Nat.le_refl _)]
theorem toksA_append (Y : List UInt8) : ∀ n (X : List UInt8) (a : Nat), X.length ≤ n → (noOpen X ∨ Y = [] ∨ lead (byteAt Y 0) ≠ 0) → toksA a (X ++ Y) = toksA a X ++ toksA (a + X.length) Y
  | 0, X, a, hn, _ => by
    obtain rfl : X = [] := List.length_eq_zero_iff.1 (by omega)
    simp [toksA_nil]
  | n + 1, X, a, hn, h => by
    by_cases h0 : X.length = 0
    · obtain rfl : X = [] := List.length_eq_zero_iff.1 h0
      simp [toksA_nil]
    · have hp := nextN_pos X
      have hlen := nextN_len X (by omega)
      have hc : nextOpen X = false ∨ Y = [] ∨ lead (byteAt Y 0) ≠ 0 := by
        rcases h with h | h
        · exact .inl (by simpa using h 0 (by omega))
        · exact .inr h
      rw [toksA_cons a (X ++ Y) (by simp; omega), toksA_cons a X (by omega), nextN_agree X Y (by omega) hc, nextR_agree X Y (by omega) hc, List.drop_append_of_le_length hlen]
      rw [toksA_append Y n (X.drop (nextN X)) _ (by simp; omega)]
      · rw [List.cons_append, List.length_drop, show a + nextN X + (X.length - nextN X) = a + X.length by omega]
      · rcases h with h | h
        · left
          intro k hk
          rw [List.drop_drop]
          exact h _ (by simp at hk; omega)
        · exact .inr h
theorem fold_shift (a : Nat) : ∀ n (Y : List UInt8), Y.length ≤ n → ∀ b (s : Sn), (toksA (a + b) Y).foldl (stepN 0) s = (toksA b Y).foldl (stepN a) s
  | 0, Y, hn, b, s => by
    obtain rfl : Y = [] := List.length_eq_zero_iff.1 (by omega)
    simp [toksA_nil]
  | n + 1, Y, hn, b, s => by
    by_cases h0 : Y.length = 0
    · obtain rfl : Y = [] := List.length_eq_zero_iff.1 h0
      simp [toksA_nil]
    · have hp := nextN_pos Y
      rw [toksA_cons _ Y (by omega), toksA_cons b Y (by omega), List.foldl_cons, List.foldl_cons, Nat.add_assoc, fold_shift a n _ (by simp; omega)]
      congr 1
      unfold stepN
      simp
/-- What stood ahead stays ahead. -/
theorem fold_pre (fr : Nat) : ∀ (ts : List (Nat × Nat)) (s : Sn) (o : List Cn), ts.foldl (stepN fr) { s with out := o ++ s.out } = { ts.foldl (stepN fr) s with out := o ++ (ts.foldl (stepN fr) s).out }
  | [], _, _ => rfl
  | x :: ts, s, o => by
    rw [List.foldl_cons, List.foldl_cons]
    have e : stepN fr { s with out := o ++ s.out } x = { stepN fr s x with out := o ++ (stepN fr s x).out } := by
      unfold stepN
      by_cases h : s.last = 13 ∧ x.2 = 10
      · rw [if_pos h, if_pos h]
      · rw [if_neg h, if_neg h]; simp
    rw [e]
    exact fold_pre fr ts _ o
theorem fold_last (fr : Nat) : ∀ (ts : List (Nat × Nat)) (s : Sn), (ts.foldl (stepN fr) s).last = ((ts.getLast?).map Prod.snd).getD s.last
  | [], _ => rfl
  | [x], s => by
    simp only [List.foldl_cons, List.foldl_nil]
    unfold stepN
    split <;> rfl
  | x :: y :: ts, s => by
    rw [List.foldl_cons, fold_last fr (y :: ts)]
    rw [List.getLast?_cons_cons]
    simp [List.getLast?_cons]
/-- Where it does not begin with an LF behind a CR, the last rune ahead is all one. -/
theorem fold_start (fr : Nat) (ts : List (Nat × Nat)) (s s' : Sn) (hl : s.l = s'.l) (hc : s.c = s'.c) (ho : s.out = s'.out) (h : s.last = 13 → ∀ x, ts.head? = some x → x.2 ≠ 10) (h' : s'.last ≠ 13) :
    (ts.foldl (stepN fr) s).out = (ts.foldl (stepN fr) s').out ∧ (ts.foldl (stepN fr) s).l = (ts.foldl (stepN fr) s').l ∧ (ts.foldl (stepN fr) s).c = (ts.foldl (stepN fr) s').c := by
  cases ts with
  | nil => exact ⟨ho, hl, hc⟩
  | cons x ts =>
    have e : stepN fr s x = stepN fr s' x := by
      unfold stepN
      rw [if_neg (show ¬ (s.last = 13 ∧ x.2 = 10) from fun e => h e.1 x rfl e.2), if_neg (show ¬ (s'.last = 13 ∧ x.2 = 10) from fun e => h' e.1), hl, hc, ho]
    rw [List.foldl_cons, List.foldl_cons, e]
    exact ⟨rfl, rfl, rfl⟩
/-- **The cells of two pieces.** -/
theorem read_append (X Y : List UInt8) (h : noOpen X ∨ Y = [] ∨ lead (byteAt Y 0) ≠ 0) (hj : (readN 0 1 1 (toks X)).last = 13 → ∀ x, (toks Y).head? = some x → x.2 ≠ 10) :
    (readN 0 1 1 (toks (X ++ Y))).out = (readN 0 1 1 (toks X)).out ++ (readN X.length (readN 0 1 1 (toks X)).l (readN 0 1 1 (toks X)).c (toks Y)).out ∧
    (readN 0 1 1 (toks (X ++ Y))).l = (readN X.length (readN 0 1 1 (toks X)).l (readN 0 1 1 (toks X)).c (toks Y)).l ∧ (readN 0 1 1 (toks (X ++ Y))).c = (readN X.length (readN 0 1 1 (toks X)).l (readN 0 1 1 (toks X)).c (toks Y)).c := by
  have e1 : toks (X ++ Y) = toks X ++ toksA X.length Y := by
    have := toksA_append Y X.length X 0 (Nat.le_refl _) h
    rw [Nat.zero_add] at this
    exact this
  obtain ⟨R, hR⟩ : ∃ R, readN 0 1 1 (toks X) = R := ⟨_, rfl⟩
  have e2 : readN 0 1 1 (toks (X ++ Y)) = (toks Y).foldl (stepN X.length) R := by
    rw [e1]
    unfold readN at hR ⊢
    rw [List.foldl_append, hR]
    exact fold_shift X.length Y.length Y (Nat.le_refl _) 0 R
  rw [hR] at hj ⊢
  rw [e2]
  have e3 := fold_start X.length (toks Y) R { (⟨0, X.length, R.l, R.c, []⟩ : Sn) with out := R.out ++ [] } rfl rfl (by simp) hj (by simp)
  rw [fold_pre X.length (toks Y) ⟨0, X.length, R.l, R.c, []⟩ R.out] at e3
  exact e3

theorem nextR_13 (ds : List UInt8) (h0 : 0 < ds.length) (h : nextR ds = 13) : byteAt ds 0 = 13 ∧ nextN ds = 1 := by
  unfold nextR at h
  split at h
  · rename_i ha
    have hn : nextN ds = lead (byteAt ds 0) := by simpa [nextAll] using ha
    obtain ⟨hz, hl, hk⟩ := (all_iff ds h0).1 ha
    have l0 := byteAt_lt ds 0
    have k1 : 1 < lead (byteAt ds 0) → lo2 (byteAt ds 0) ≤ byteAt ds 1 ∧ byteAt ds 1 ≤ hi2 (byteAt ds 0) := fun b => by simpa [okAt, loAt, hiAt] using hk 1 (by omega) b
    unfold runeOf at h
    rw [hn]
    clear hk ha hn hl
    generalize byteAt ds 0 = b0 at *
    generalize byteAt ds 1 = b1 at *
    generalize byteAt ds 2 = b2 at *
    generalize byteAt ds 3 = b3 at *
    rcases lead_cases b0 with ⟨c, e⟩ | ⟨c, c', e⟩ | ⟨c, c', e⟩ | ⟨c, c', e⟩ | ⟨c, c', e⟩ | ⟨c, e⟩
    · rw [e, if_pos rfl] at h; exact ⟨h, e⟩
    · exact absurd e hz
    · rw [e, if_neg (by omega), if_pos rfl] at h; omega
    · rw [e] at k1
      have s := second_ok (by omega) (by omega) (k1 (by omega)).1 (k1 (by omega)).2
      rw [e, if_neg (by omega), if_neg (by omega), if_pos rfl] at h; omega
    · rw [e] at k1
      have s := second_ok (by omega) (by omega) (k1 (by omega)).1 (k1 (by omega)).2
      rw [e, if_neg (by omega), if_neg (by omega), if_neg (by omega)] at h; omega
    · exact absurd e hz
  · omega
theorem byteAt_13 (T : List UInt8) : byteAt (13 :: T) 0 = 13 := by simp [byteAt]
theorem lead_13 : lead 13 = 1 := by decide
theorem nextAll_13 (T : List UInt8) : nextAll (13 :: T) = true := (all_iff _ (by simp)).2 (by rw [byteAt_13, lead_13]; exact ⟨by omega, by simp, fun j h1 h2 => by omega⟩)
theorem nextR_of_13 (T : List UInt8) : nextR (13 :: T) = 13 := by
  unfold nextR
  rw [if_pos (nextAll_13 T)]
  unfold runeOf
  rw [byteAt_13, lead_13, if_pos rfl]
theorem nextN_of_13 (T : List UInt8) : nextN (13 :: T) = 1 := by
  have := nextAll_13 T
  simpa [nextAll, byteAt_13, lead_13] using this
theorem noOpen_13 : noOpen [13] := fun k hk => by
  obtain rfl : k = 0 := by simpa using hk
  have := nextN_of_13 []
  simp [nextOpen, byteAt_13, lead_13, this]
theorem suffix_drop (X : List UInt8) (n : Nat) (h : [13].isSuffixOf (X.drop n) = true) : [13].isSuffixOf X = true := by
  rw [List.isSuffixOf_iff_suffix] at h ⊢
  exact h.trans (List.drop_suffix n X)
/-- A text whose last rune is a CR ends with its byte. -/
theorem last_13 : ∀ n (X : List UInt8) (a : Nat), X.length ≤ n → ((toksA a X).getLast?).map Prod.snd = some 13 → [13].isSuffixOf X = true
  | 0, X, a, hn, h => by
    obtain rfl : X = [] := List.length_eq_zero_iff.1 (by omega)
    simp [toksA_nil] at h
  | n + 1, X, a, hn, h => by
    by_cases h0 : X.length = 0
    · obtain rfl : X = [] := List.length_eq_zero_iff.1 h0
      simp [toksA_nil] at h
    · have hp := nextN_pos X
      rw [toksA_cons a X (by omega)] at h
      by_cases h1 : (X.drop (nextN X)).length = 0
      · have e := List.length_eq_zero_iff.1 h1
        rw [e, toksA_nil] at h
        simp at h
        obtain ⟨hb, hN⟩ := nextR_13 X (by omega) h
        rw [hN] at h1
        simp at h1
        match X, hb, h0, h1 with
        | [x], hb, _, _ =>
          have : x = 13 := by
            simp [byteAt] at hb
            exact UInt8.toNat_inj.1 (by simpa using hb)
          subst this
          decide
        | x :: y :: l, _, _, h1 => simp at h1
      · refine suffix_drop X (nextN X) (last_13 n _ (a + nextN X) (by simp; omega) ?_)
        rw [toksA_cons _ _ (by omega)] at h ⊢
        rw [List.getLast?_cons_cons] at h
        exact h
theorem read_last (X : List UInt8) (h : [13].isSuffixOf X = false) : (readN 0 1 1 (toks X)).last ≠ 13 := fun e => by
  unfold readN at e
  rw [fold_last] at e
  cases hl : (toks X).getLast? with
  | none => rw [hl] at e; simp at e
  | some p =>
    rw [hl] at e
    have := last_13 X.length X 0 (Nat.le_refl _) (by show ((toks X).getLast?).map Prod.snd = some 13; rw [hl]; simpa using e)
    rw [h] at this
    cases this

/-- What a stream has told of bytes, and what it holds. -/
def sureI (P : List UInt8) : List UInt8 := P.take (cutI P)
def heldI (P : List UInt8) : List UInt8 := P.drop (cutI P)
theorem sureI_held (P : List UInt8) : sureI P ++ heldI P = P := List.take_append_drop _ _
/-- Either a CR is held with the rest, or none is and none stands ahead. -/
theorem heldI_cases (P : List UInt8) : (∃ T, heldI P = 13 :: T ∧ T = heldOf P) ∨ (sureI P = sureOf P ∧ heldI P = heldOf P ∧ [13].isSuffixOf (sureI P) = false) := by
  have ht := (tail_le P).1
  cases hs : [13].isSuffixOf (sureOf P) with
  | true =>
    left
    obtain ⟨Z, hZ⟩ := List.isSuffixOf_iff_suffix.1 hs
    have hc : cutI P = Z.length := by
      show cutC (sureOf P) = _
      unfold cutC
      rw [if_pos hs, ← hZ]
      simp
    refine ⟨heldOf P, ?_, rfl⟩
    unfold heldI
    rw [hc]
    conv => lhs; rw [← sure_held P, ← hZ]
    simp
  | false =>
    right
    have hc : cutI P = P.length - tailN P := by
      show cutC (sureOf P) = _
      unfold cutC
      rw [if_neg (by rw [hs]; simp)]
      simp [sureOf]
    have e : sureI P = sureOf P := by unfold sureI sureOf; rw [hc]
    refine ⟨e, by unfold heldI heldOf; rw [hc], by rw [e]; exact hs⟩
theorem tail_13 (T : List UInt8) : tailN (13 :: T) ≤ T.length := by
  by_cases h : T = []
  · subst h
    rw [(tail_zero_iff [13]).2 noOpen_13]
    omega
  · have := tail_append [13] T h (.inl noOpen_13)
    have h2 := (tail_le T).1
    rw [List.singleton_append] at this
    omega
theorem heldI_ok (P c : List UInt8) : noOpen (sureI P) ∨ lead (byteAt (heldI P ++ c) 0) ≠ 0 := by
  rcases heldI_cases P with ⟨T, h, _⟩ | ⟨h1, h2, _⟩
  · right
    rw [h, List.cons_append, byteAt_13, lead_13]
    omega
  · rw [h1, h2]
    exact held_ok P c
theorem suffix_append (S Z : List UInt8) (h : Z ≠ []) : [13].isSuffixOf (S ++ Z) = [13].isSuffixOf Z := by
  obtain ⟨x, L, rfl⟩ : ∃ x L, Z = L ++ [x] := ⟨Z.getLast h, Z.dropLast, (List.dropLast_concat_getLast h).symm⟩
  rw [Bool.eq_iff_iff, List.isSuffixOf_iff_suffix, List.isSuffixOf_iff_suffix, ← List.append_assoc]
  constructor
  · rintro ⟨W, hW⟩
    have := List.append_inj' hW rfl
    exact ⟨L, by rw [this.2]⟩
  · rintro ⟨W, hW⟩
    have := List.append_inj' hW rfl
    exact ⟨S ++ L, by rw [this.2]⟩
/-- **One piece more: how much is sure.** -/
theorem cut_append (P c : List UInt8) : cutI (P ++ c) = cutI P + cutI (heldI P ++ c) := by
  have hSl : (sureI P).length = cutI P := by have := cutI_le P; simp [sureI]; omega
  obtain ⟨A, hA⟩ : ∃ A, heldI P ++ c = A := ⟨_, rfl⟩
  have hPA : P ++ c = sureI P ++ A := by rw [← hA, ← List.append_assoc, sureI_held]
  rw [hA]
  by_cases h0 : A = []
  · subst h0
    obtain ⟨h1, rfl⟩ := List.append_eq_nil_iff.1 hA
    rw [List.append_nil, show cutI [] = 0 from rfl, Nat.add_zero]
  · have ht : tailN (P ++ c) = tailN A := by
      rw [hPA]
      exact tail_append _ _ h0 (by have := heldI_ok P c; rwa [hA] at this)
    have htl := (tail_le A).1
    have e : (P ++ c).take ((P ++ c).length - tailN (P ++ c)) = sureI P ++ A.take (A.length - tailN A) := by
      rw [ht, hPA]
      exact take_end _ _ _ htl
    show cutC ((P ++ c).take ((P ++ c).length - tailN (P ++ c))) = cutI P + cutC (A.take (A.length - tailN A))
    rw [e]
    by_cases h1 : A.take (A.length - tailN A) = []
    · rw [h1, List.append_nil]
      rcases heldI_cases P with ⟨T, h, _⟩ | ⟨_, _, h⟩
      · exfalso
        rw [h, List.cons_append] at hA
        have h3 := tail_13 (T ++ c)
        have h2 := congrArg List.length h1
        rw [← hA] at h2
        simp at h2 h3
        omega
      · unfold cutC
        rw [if_neg (by rw [h]; simp)]
        simp [hSl]
    · unfold cutC
      rw [suffix_append _ _ h1]
      have h2 : 0 < (A.take (A.length - tailN A)).length := List.length_pos_iff.2 h1
      split
      · rw [List.length_append, hSl]; omega
      · rw [List.length_append, hSl]
theorem feedI_sure (P c : List UInt8) : sureI (P ++ c) = sureI P ++ (heldI P ++ c).take (cutI (heldI P ++ c)) := by
  have hSl : (sureI P).length = cutI P := by have := cutI_le P; simp [sureI]; omega
  show (P ++ c).take (cutI (P ++ c)) = _
  rw [cut_append, show P ++ c = sureI P ++ (heldI P ++ c) by rw [← List.append_assoc, sureI_held]]
  rw [List.take_append, List.take_of_length_le (by omega), hSl, Nat.add_sub_cancel_left]
theorem feedI_held (P c : List UInt8) : heldI (P ++ c) = (heldI P ++ c).drop (cutI (heldI P ++ c)) := by
  have hSl : (sureI P).length = cutI P := by have := cutI_le P; simp [sureI]; omega
  show (P ++ c).drop (cutI (P ++ c)) = _
  rw [cut_append, show P ++ c = sureI P ++ (heldI P ++ c) by rw [← List.append_assoc, sureI_held]]
  rw [List.drop_append, List.drop_eq_nil_of_le (by omega), hSl, Nat.add_sub_cancel_left, List.nil_append]
/-- **Whatever begins with what is held is read behind what was told.** -/
theorem heldI_read (P c : List UInt8) (m : Nat) :
    (readN 0 1 1 (toks (sureI P ++ (heldI P ++ c).take m))).out = (readN 0 1 1 (toks (sureI P))).out ++ (readN (cutI P) (readN 0 1 1 (toks (sureI P))).l (readN 0 1 1 (toks (sureI P))).c (toks ((heldI P ++ c).take m))).out ∧
    (readN 0 1 1 (toks (sureI P ++ (heldI P ++ c).take m))).l = (readN (cutI P) (readN 0 1 1 (toks (sureI P))).l (readN 0 1 1 (toks (sureI P))).c (toks ((heldI P ++ c).take m))).l ∧ (readN 0 1 1 (toks (sureI P ++ (heldI P ++ c).take m))).c = (readN (cutI P) (readN 0 1 1 (toks (sureI P))).l (readN 0 1 1 (toks (sureI P))).c (toks ((heldI P ++ c).take m))).c := by
  have hSl : (sureI P).length = cutI P := by have := cutI_le P; simp [sureI]; omega
  rw [← hSl]
  refine read_append _ _ ?_ fun hlast x hx => ?_
  · rcases heldI_ok P c with h | h
    · exact .inl h
    · by_cases h0 : m = 0
      · exact .inr (.inl (by rw [h0, List.take_zero]))
      · exact .inr (.inr (by rw [byteAt_take0 _ _ (by omega)]; exact h))
  · rcases heldI_cases P with ⟨T, hT, _⟩ | ⟨_, _, hn⟩
    · rw [hT, List.cons_append] at hx
      cases m with
      | zero => cases hx
      | succ m =>
        rw [List.take_succ_cons] at hx
        have e : toks (13 :: (T ++ c).take m) = (0, nextR (13 :: (T ++ c).take m)) :: toksA (0 + nextN (13 :: (T ++ c).take m)) ((13 :: (T ++ c).take m).drop (nextN (13 :: (T ++ c).take m))) := toksA_cons 0 _ (by simp)
        rw [e] at hx
        simp only [List.head?_cons, Option.some.injEq] at hx
        rw [← hx, nextR_of_13]
        decide
    · exact absurd hlast (read_last _ hn)
/-- **One piece more: its cells.** -/
theorem feedI_cells (P c : List UInt8) :
    cellsOf (sureI (P ++ c)) = cellsOf (sureI P) ++ (readN (cutI P) (readN 0 1 1 (toks (sureI P))).l (readN 0 1 1 (toks (sureI P))).c (toks ((heldI P ++ c).take (cutI (heldI P ++ c))))).out ∧
    (readN 0 1 1 (toks (sureI (P ++ c)))).l = (readN (cutI P) (readN 0 1 1 (toks (sureI P))).l (readN 0 1 1 (toks (sureI P))).c (toks ((heldI P ++ c).take (cutI (heldI P ++ c))))).l ∧
    (readN 0 1 1 (toks (sureI (P ++ c)))).c = (readN (cutI P) (readN 0 1 1 (toks (sureI P))).l (readN 0 1 1 (toks (sureI P))).c (toks ((heldI P ++ c).take (cutI (heldI P ++ c))))).c := by
  have := heldI_read P c (cutI (heldI P ++ c))
  rw [← feedI_sure] at this
  exact this
/-- **All that comes: the cells that were told, and those of what is held and comes.** -/
theorem restI_cells (P c : List UInt8) : cellsOf (P ++ c) = cellsOf (sureI P) ++ (readN (cutI P) (readN 0 1 1 (toks (sureI P))).l (readN 0 1 1 (toks (sureI P))).c (toks (heldI P ++ c))).out := by
  have := (heldI_read P c (heldI P ++ c).length).1
  rw [List.take_length, ← List.append_assoc, sureI_held] at this
  exact this
/-- Where the first cell stands. -/
theorem first_cell (y l c : Nat) (Y : List UInt8) : ∀ x, (readN y l c (toks Y)).out.head? = some x → x.y = y ∧ x.l = l ∧ x.c = c := fun x hx => by
  by_cases h0 : Y.length = 0
  · obtain rfl : Y = [] := List.length_eq_zero_iff.1 h0
    cases hx
  · have e : toks Y = (0, nextR Y) :: toksA (0 + nextN Y) (Y.drop (nextN Y)) := toksA_cons 0 Y (by omega)
    unfold readN at hx
    rw [e, List.foldl_cons] at hx
    have e2 : stepN y ⟨0, y, l, c, []⟩ (0, nextR Y) = { (⟨nextR Y, y, if plainN (nextR Y) = 10 then l + 1 else l, if plainN (nextR Y) = 10 then 1 else c + 1, []⟩ : Sn) with out := [⟨plainN (nextR Y), y, l, c⟩] ++ [] } := by
      unfold stepN
      rw [if_neg (by simp)]
      simp
    rw [e2, fold_pre] at hx
    simp at hx
    rw [← hx]
    exact ⟨rfl, rfl, rfl⟩
end Go.Proofs.YtjhoaepokkaoeaaDoor.U
