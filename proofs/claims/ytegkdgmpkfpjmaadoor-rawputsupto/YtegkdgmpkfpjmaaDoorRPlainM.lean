/- What is proved here: plain facts for a script without comments: its end tag is found among its bytes where it is found among its runes. -/
import Derived.Test.YtegkdgmpkfpjmaaDoorRPlace
import Derived.Test.YtegkdgmpkfpjmaaDoorBun10
namespace Go.Proofs.YtegkdgmpkfpjmaaDoor.R
open Go.RowKit Go.Shelf Go.Proofs.YtegkdgmpkfpjmaaDoor.U Go.Proofs.YtegkdgmpkfpjmaaDoor.N

/-- A rune of ASCII is a byte: what stands ahead of it and behind it, in bytes and in runes. -/
theorem runes_split (c : Int) (h0 : 0 ≤ c) (h1 : c < 128) : ∀ n (Z : List UInt8) (A B : List Int), Z.length ≤ n → runesI Z = A ++ c :: B → ∃ X Y b, Z = X ++ b :: Y ∧ (UInt8.toNat b : Int) = c ∧ runesI X = A ∧ runesI Y = B
  | 0, Z, A, B, hn, h => by
    obtain rfl : Z = [] := List.length_eq_zero_iff.1 (by omega)
    rw [runesI_nil] at h
    exact absurd (congrArg List.length h) (by simp)
  | n + 1, Z, A, B, hn, h => by
    by_cases hz : 0 < Z.length
    · have hp := nextN_pos Z
      have hln := nextN_len Z hz
      have hc := runesI_cons Z hz
      rw [hc] at h
      cases A with
      | nil =>
        injection h with h2 h3
        rcases Nat.lt_or_ge (byteAt Z 0) 128 with hb | hb
        · cases Z with
          | nil => simp at hz
          | cons b t =>
            have hbt : b.toNat < 128 := by simpa [byteAt] using hb
            have e := runesI_ascii b t hbt
            rw [hc] at e
            injection e with e1 e2
            exact ⟨[], t, b, rfl, by rw [← e1]; exact h2, rfl, by rw [← e2]; exact h3⟩
        · have := (next_high Z hz hb).1
          omega
      | cons a A' =>
        rw [List.cons_append] at h
        injection h with h2 h3
        obtain ⟨X, Y, b, e, eb, ex, ey⟩ := runes_split c h0 h1 n (Z.drop (nextN Z)) A' B (by simp; omega) h3
        have hZ : Z = (Z.take (nextN Z) ++ X) ++ b :: Y := by rw [List.append_assoc, ← e, List.take_append_drop]
        refine ⟨Z.take (nextN Z) ++ X, Y, b, hZ, eb, ?_, ey⟩
        have hV0 : 0 < (Z.take (nextN Z) ++ X).length := by simp; omega
        have hb128 : b.toNat < 128 := by omega
        have hcc : nextOpen (Z.take (nextN Z) ++ X) = false ∨ (b :: Y) = [] ∨ lead (byteAt (b :: Y) 0) ≠ 0 := .inr (.inr (by rw [show byteAt (b :: Y) 0 = b.toNat from rfl, lead_is1 hb128]; decide))
        have e1 := nextN_agree (Z.take (nextN Z) ++ X) (b :: Y) hV0 hcc
        have e2 := nextR_agree (Z.take (nextN Z) ++ X) (b :: Y) hV0 hcc
        rw [← hZ] at e1 e2
        rw [runesI_cons _ hV0, ← e1, ← e2, List.drop_append_of_le_length (by simp; omega), h2]
        have : (Z.take (nextN Z)).drop (nextN Z) = [] := List.drop_eq_nil_of_le (by simp; omega)
        rw [this, List.nil_append, ex]
    · obtain rfl : Z = [] := List.length_eq_zero_iff.1 (by omega)
      rw [runesI_nil] at h
      exact absurd (congrArg List.length h) (by simp)
/-- Runes of ASCII in a row are bytes in a row. -/
theorem runes_run : ∀ (P : List Int), (∀ c ∈ P, 0 ≤ c ∧ c < 128) → ∀ (Z : List UInt8) (A B : List Int), P ≠ [] → runesI Z = A ++ P ++ B → ∃ X Q Y, Z = X ++ Q ++ Y ∧ Q.map (fun b : UInt8 => (b.toNat : Int)) = P ∧ runesI X = A ∧ runesI Y = B
  | [], _, _, _, _, h, _ => absurd rfl h
  | [c], hc, Z, A, B, _, h => by
    obtain ⟨X, Y, b, e, eb, ex, ey⟩ := runes_split c (hc c (by simp)).1 (hc c (by simp)).2 _ Z A B (Nat.le_refl _) (by rw [h]; simp)
    exact ⟨X, [b], Y, by rw [e]; simp, by simp [eb], ex, ey⟩
  | c :: d :: P, hc, Z, A, B, _, h => by
    obtain ⟨X, Y, b, e, eb, ex, ey⟩ := runes_split c (hc c (by simp)).1 (hc c (by simp)).2 _ Z A (d :: P ++ B) (Nat.le_refl _) (by rw [h]; simp)
    obtain ⟨X2, Q2, Y2, e2, eq2, ex2, ey2⟩ := runes_run (d :: P) (fun x hx => hc x (by simp only [List.mem_cons] at hx ⊢; exact .inr hx)) Y [] B (by simp) (by rw [ey]; simp)
    have hX2 : X2 = [] := by
      cases X2 with
      | nil => rfl
      | cons x t =>
        have := congrArg List.length ex2
        rw [runesI_length] at this
        have h4 := pcs_four (x :: t)
        simp at this h4
        rw [this] at h4
        simp at h4
    subst hX2
    exact ⟨X, b :: Q2, Y2, by rw [e, e2]; simp, by simp [eb, eq2], ex, ey2⟩
/-- Where no comment begins, script data is read as raw text is. -/
theorem refF_plain (nm : List Int) : ∀ (l : List Int) (d : Nat), (∀ A B, l ≠ A ++ 60 :: 33 :: 45 :: 45 :: B) → refF true nm 0 d l = refF false nm 0 d l
  | [], d, _ => by rw [refF, refF]
  | c :: t, d, h => by
    have ih : ∀ d, refF true nm 0 d t = refF false nm 0 d t := fun d => refF_plain nm t d (fun A B e => h (c :: A) B (by rw [e]; rfl))
    by_cases c1 : c = 60
    · have hp : ([33, 45, 45] : List Int).isPrefixOf t = false := by
        cases e : ([33, 45, 45] : List Int).isPrefixOf t with
        | false => rfl
        | true =>
          exfalso
          rw [List.isPrefixOf_iff_prefix] at e
          obtain ⟨B, hB⟩ := e
          exact h [] B (by rw [c1, ← hB]; rfl)
      simp [refF, c1, hp, ih]
    · simp [refF, c1, ih]
/-- An end tag at a place, in runes. -/
def FAt (nm l : List Int) (k : Nat) : Prop := ∃ t, l.drop k = 60 :: t ∧ isEnd nm t = true
theorem refF_first (nm : List Int) : ∀ (l : List Int) (d : Nat), match refF false nm 0 d l with
    | none => ∀ j, ¬ FAt nm l j
    | some k => FAt nm l k ∧ ∀ j, j < k → ¬ FAt nm l j
  | [], d => by
    rw [refF]
    rintro j ⟨t, h, _⟩
    simp at h
  | c :: t, d => by
    have hs : ∀ j, FAt nm (c :: t) (j + 1) ↔ FAt nm t j := fun j => by unfold FAt; simp
    have key : ∀ (hn : ¬ FAt nm (c :: t) 0) (r : Option Nat), (match r with | none => ∀ j, ¬ FAt nm t j | some k => FAt nm t k ∧ ∀ j, j < k → ¬ FAt nm t j) → (match r.map (· + 1) with | none => ∀ j, ¬ FAt nm (c :: t) j | some k => FAt nm (c :: t) k ∧ ∀ j, j < k → ¬ FAt nm (c :: t) j) := by
      intro hn r h
      cases r with
      | none =>
        intro j
        cases j with
        | zero => exact hn
        | succ j => rw [hs]; exact h j
      | some k =>
        refine ⟨(hs k).2 h.1, fun j hj => ?_⟩
        cases j with
        | zero => exact hn
        | succ j => rw [hs]; exact h.2 j (by simp only at hj; omega)
    rw [refF, if_neg (by omega)]
    by_cases c1 : c ≠ 60
    · rw [if_pos c1]
      refine key ?_ _ (refF_first nm t _)
      rintro ⟨t', h, _⟩
      simp at h
      exact c1 h.1
    · rw [if_neg c1, if_pos rfl]
      by_cases c2 : isEnd nm t = true
      · rw [if_pos c2]
        exact ⟨⟨t, by simp; omega, c2⟩, fun j hj => by omega⟩
      · rw [if_neg c2]
        refine key ?_ _ (refF_first nm t _)
        rintro ⟨t', h, h'⟩
        simp at h
        rw [← h.2] at h'
        exact c2 h'
abbrev tagB : List UInt8 := [60, 47, 115, 99, 114, 105, 112, 116]
abbrev scr : List UInt8 := [115, 99, 114, 105, 112, 116]
abbrev scZ : List Int := [115, 99, 114, 105, 112, 116]
/-- An end tag of a script at a place, in small letters, in bytes. -/
def GAt (low : List UInt8) (i : Nat) : Prop := i + 9 ≤ low.length ∧ (low.drop i).take 8 = tagB ∧ stopB (low.getD (i + 8) 0) = true
theorem low_int (b : UInt8) : ((lowB b).toNat : Int) = lowZ (b.toNat : Int) := (low_eq b).symm
theorem low_keep {b : UInt8} (h : stopB (lowB b) = true) : lowB b = b := by
  apply UInt8.toNat_inj.1
  have h1 := low_int b
  unfold stopB at h
  rw [h1] at h
  have h2 : lowZ (b.toNat : Int) = (b.toNat : Int) := by
    unfold lowZ at h ⊢
    split
    · rename_i hc
      rw [if_pos hc] at h
      unfold stopZ blankZ at h
      simp only [Bool.or_eq_true, decide_eq_true_eq, beq_iff_eq] at h
      omega
    · rfl
  omega
theorem ascii_runes : ∀ (Q Y : List UInt8), (∀ b ∈ Q, b.toNat < 128) → runesI (Q ++ Y) = Q.map (fun b : UInt8 => (b.toNat : Int)) ++ runesI Y
  | [], _, _ => rfl
  | b :: Q, Y, h => by rw [List.cons_append, runesI_ascii b _ (h b (by simp)), ascii_runes Q Y (fun x hx => h x (by simp [hx]))]; rfl
/-- From bytes to runes. -/
theorem g_to_f (bs : List UInt8) (i : Nat) (h : GAt (lower bs) i) : FAt scZ (runesI bs) (runesI (bs.take i)).length ∧ byteAt (bs.drop i) 0 = 60 ∧ ∃ Q c, bs.take (i + 9) = bs.take i ++ Q ++ [c] ∧ Q.length = 8 ∧ (∀ b ∈ Q, b.toNat < 128) ∧ c.toNat < 128 := by
  obtain ⟨h1, h2, h3⟩ := h
  have hl : (lower bs).length = bs.length := by simp [lower]
  rw [hl] at h1
  obtain ⟨Q, hQ⟩ : ∃ Q, (bs.drop i).take 8 = Q := ⟨_, rfl⟩
  have hQl : Q.length = 8 := by rw [← hQ]; simp; omega
  have hlow : Q.map lowB = tagB := by
    rw [← hQ, List.map_take, List.map_drop]
    exact h2
  obtain ⟨c, hc⟩ : ∃ c, bs.getD (i + 8) 0 = c := ⟨_, rfl⟩
  have hstop : stopB c = true := by
    have e : (lower bs).getD (i + 8) 0 = lowB c := by
      rw [← hc]
      simp only [lower, List.getD_eq_getElem?_getD, List.getElem?_map]
      rw [List.getElem?_eq_getElem (by omega)]
      rfl
    rw [e] at h3
    rw [low_keep h3] at h3
    exact h3
  have hdec : bs.drop i = Q ++ c :: bs.drop (i + 9) := by
    have e1 := List.take_append_drop 8 (bs.drop i)
    rw [hQ, List.drop_drop, List.drop_eq_getElem_cons (by omega : i + 8 < bs.length)] at e1
    rw [← e1, ← hc]
    simp [List.getElem?_eq_getElem (by omega : i + 8 < bs.length)]
  have hasc : ∀ b ∈ Q, b.toNat < 128 := by
    intro b hb
    have hm : lowB b ∈ tagB := by rw [← hlow]; exact List.mem_map_of_mem hb
    have h5 : (lowB b).toNat < 128 := by
      simp only [List.mem_cons, List.not_mem_nil, or_false] at hm
      rcases hm with e | e | e | e | e | e | e | e <;> rw [e] <;> decide
    have h6 := low_int b
    unfold lowZ at h6
    split at h6 <;> omega
  have hcl := stopB_low hstop
  obtain ⟨q0, q1, y, rfl⟩ : ∃ q0 q1 y, Q = q0 :: q1 :: y := by
    cases Q with
    | nil => simp at hQl
    | cons a Q1 =>
      cases Q1 with
      | nil => simp at hQl
      | cons b Q2 => exact ⟨a, b, Q2, rfl⟩
  have hq0 : q0 = 60 := by
    have e : lowB q0 = 60 := by simp [tagB] at hlow; exact hlow.1
    have h6 := low_int q0
    rw [e] at h6
    apply UInt8.toNat_inj.1
    have : ((60 : UInt8).toNat : Int) = 60 := rfl
    unfold lowZ at h6
    have h60 : (60 : UInt8).toNat = 60 := rfl
    split at h6 <;> omega
  have hq1 : q1 = 47 := by
    have e : lowB q1 = 47 := by simp [tagB] at hlow; exact hlow.2.1
    have h6 := low_int q1
    rw [e] at h6
    apply UInt8.toNat_inj.1
    unfold lowZ at h6
    have h47 : (47 : UInt8).toNat = 47 := rfl
    split at h6 <;> omega
  have hy : y.map lowB = scr := by simp [tagB] at hlow; simpa using hlow.2.2
  subst hq0 hq1
  have hbs : bs = bs.take i ++ (60 :: 47 :: y ++ c :: bs.drop (i + 9)) := by rw [← hdec, List.take_append_drop]
  have hyz : (y.map fun b : UInt8 => (b.toNat : Int)).map lowZ = scZ := by
    have e : (y.map fun b : UInt8 => (b.toNat : Int)).map lowZ = (y.map lowB).map fun b : UInt8 => (b.toNat : Int) := by
      rw [List.map_map, List.map_map]
      apply List.map_congr_left
      intro b _
      exact (low_int b).symm
    rw [e, hy]; rfl
  refine ⟨?_, by rw [hdec]; rfl, 60 :: 47 :: y, c, ?_, hQl, hasc, hcl⟩
  · have hr : runesI bs = runesI (bs.take i) ++ (60 :: 47 :: ((y.map fun b : UInt8 => (b.toNat : Int)) ++ (c.toNat : Int) :: runesI (bs.drop (i + 9)))) := by
      conv => lhs; rw [hbs]
      rw [runesI_append _ _ (.inr (by show (60 : UInt8).toNat < 128; decide)), ascii_runes _ _ hasc, runesI_ascii c _ hcl]
      rfl
    refine ⟨47 :: ((y.map fun b : UInt8 => (b.toNat : Int)) ++ (c.toNat : Int) :: runesI (bs.drop (i + 9))), ?_, ?_⟩
    · rw [hr, List.drop_left]
    · rw [isEnd_cons, wordR_full hyz hstop]; rfl
  · have e : (bs.drop i).take 9 = 60 :: 47 :: y ++ [c] := by
      rw [hdec]
      have : y.length = 6 := by simpa using hQl
      rw [show (60 : UInt8) :: 47 :: y ++ c :: bs.drop (i + 9) = (60 :: 47 :: y ++ [c]) ++ bs.drop (i + 9) by simp, List.take_left' (by simp; omega)]
    rw [List.take_add, e, List.append_assoc]
/-- From runes to bytes. -/
theorem f_to_g (bs : List UInt8) (k : Nat) (h : FAt scZ (runesI bs) k) : ∃ X, X.length ≤ bs.length ∧ bs.take X.length = X ∧ runesI X = (runesI bs).take k ∧ GAt (lower bs) X.length := by
  obtain ⟨t, h1, h2⟩ := h
  obtain ⟨t', rfl, hw⟩ : ∃ t', t = 47 :: t' ∧ wordR scZ t' = true := by
    cases t with
    | nil => cases h2
    | cons a t' =>
      rw [isEnd_cons, Bool.and_eq_true, beq_iff_eq] at h2
      exact ⟨t', by rw [h2.1], h2.2⟩
  unfold wordR at hw
  rw [show scZ.length = 6 from rfl, Bool.and_eq_true, Bool.and_eq_true, decide_eq_true_eq, beq_iff_eq] at hw
  obtain ⟨⟨hl, hy⟩, hst⟩ := hw
  obtain ⟨c, hc⟩ : ∃ c, t'.getD 6 0 = c := ⟨_, rfl⟩
  rw [hc] at hst
  have ht : t' = t'.take 6 ++ c :: t'.drop 7 := by
    have e := List.take_append_drop 6 t'
    rw [List.drop_eq_getElem_cons hl] at e
    rw [← hc]
    simp only [List.getD_eq_getElem?_getD, List.getElem?_eq_getElem hl, Option.getD_some]
    exact e.symm
  have hP : ∀ x ∈ (60 :: 47 :: (t'.take 6 ++ [c]) : List Int), 0 ≤ x ∧ x < 128 := by
    intro x hx
    simp only [List.mem_cons, List.mem_append, List.not_mem_nil, or_false] at hx
    rcases hx with rfl | rfl | hx | rfl
    · omega
    · omega
    · have hm : lowZ x ∈ scZ := by rw [← hy]; exact List.mem_map_of_mem hx
      have h5 : 97 ≤ lowZ x ∧ lowZ x ≤ 122 := by
        simp only [List.mem_cons, List.not_mem_nil, or_false] at hm
        omega
      unfold lowZ at h5
      split at h5 <;> omega
    · exact stop_low hst
  have hR : runesI bs = (runesI bs).take k ++ (60 :: 47 :: (t'.take 6 ++ [c])) ++ t'.drop 7 := by
    conv => lhs; rw [← List.take_append_drop k (runesI bs), h1, ht]
    simp
  obtain ⟨X, Q, Y, e, eq, ex, ey⟩ := runes_run _ hP bs _ _ (by simp) hR
  have hQl : Q.length = 9 := by
    have := congrArg List.length eq
    simp at this
    omega
  refine ⟨X, by rw [e]; simp, by rw [e, List.append_assoc, List.take_left], ex, ?_, ?_, ?_⟩
  · rw [lower_length, e]; simp; omega
  · have hlq : (lower bs).drop X.length = Q.map lowB ++ Y.map lowB := by
      rw [e]
      simp [lower]
    rw [hlq, List.take_append_of_le_length (by simp; omega)]
    have e8 : (Q.map lowB).take 8 = tagB := by
      have inj : ∀ (a b : List UInt8), (a.map fun b : UInt8 => (b.toNat : Int)) = (b.map fun b : UInt8 => (b.toNat : Int)) → a = b := by
        intro a
        induction a with
        | nil => intro b h; cases b with
          | nil => rfl
          | cons _ _ => simp at h
        | cons x a ih =>
          intro b h
          cases b with
          | nil => simp at h
          | cons y b =>
            simp only [List.map_cons, List.cons.injEq] at h
            rw [ih b h.2, UInt8.toNat_inj.1 (by omega : x.toNat = y.toNat)]
      apply inj
      have e9 : ((Q.map lowB).map fun b : UInt8 => (b.toNat : Int)) = (Q.map fun b : UInt8 => (b.toNat : Int)).map lowZ := by
        rw [List.map_map, List.map_map]
        apply List.map_congr_left
        intro b _
        exact low_int b
      rw [List.map_take, e9, eq]
      simp only [List.map_cons, List.map_append, List.take_succ_cons, hy]
      rfl
    exact e8
  · have hg : (lower bs).getD (X.length + 8) 0 = lowB (Q.getD 8 0) := by
      rw [e]
      simp only [lower, List.getD_eq_getElem?_getD, List.getElem?_map]
      rw [List.append_assoc, List.getElem?_append_right (by omega), show X.length + 8 - X.length = 8 by omega, List.getElem?_append_left (by omega), List.getElem?_eq_getElem (by omega)]
      rfl
    have hq8 : ((Q.getD 8 0).toNat : Int) = c := by
      have h9 := congrArg (fun l => l[8]?) eq
      simp only [List.getElem?_map] at h9
      rw [List.getElem?_eq_getElem (by omega : 8 < Q.length)] at h9
      have h10 : (60 :: 47 :: (t'.take 6 ++ [c]) : List Int)[8]? = some c := by
        have : (t'.take 6).length = 6 := by simp; omega
        simp [this]
      rw [h10] at h9
      simp only [Option.map_some, Option.some.injEq] at h9
      simp only [List.getD_eq_getElem?_getD]
      rw [List.getElem?_eq_getElem (by omega : 8 < Q.length)]
      exact h9
    rw [hg]
    unfold stopB
    rw [low_int, hq8]
    have : lowZ c = c := by
      unfold stopZ blankZ at hst
      simp only [Bool.or_eq_true, decide_eq_true_eq, beq_iff_eq] at hst
      unfold lowZ
      rw [if_neg (by omega)]
    rw [this]
    exact hst
theorem no_bang (bs : List UInt8) (h : ∀ i, (bs.drop i).take 4 ≠ [60, 33, 45, 45]) : ∀ A B, runesI bs ≠ A ++ 60 :: 33 :: 45 :: 45 :: B := by
  intro A B e
  obtain ⟨X, Q, Y, e1, eq, _, _⟩ := runes_run [60, 33, 45, 45] (by decide) bs A B (by simp) (by rw [e]; simp)
  have hQ : Q = [60, 33, 45, 45] := by
    have hl := congrArg List.length eq
    simp at hl
    match Q, hl, eq with
    | [a, b, c, d], _, eq =>
      simp only [List.map_cons, List.map_nil, List.cons.injEq, and_true] at eq
      obtain ⟨h1, h2, h3, h4⟩ := eq
      have e60 : (60 : UInt8).toNat = 60 := rfl
      have e33 : (33 : UInt8).toNat = 33 := rfl
      have e45 : (45 : UInt8).toNat = 45 := rfl
      rw [UInt8.toNat_inj.1 (by omega : a.toNat = (60 : UInt8).toNat), UInt8.toNat_inj.1 (by omega : b.toNat = (33 : UInt8).toNat), UInt8.toNat_inj.1 (by omega : c.toNat = (45 : UInt8).toNat), UInt8.toNat_inj.1 (by omega : d.toNat = (45 : UInt8).toNat)]
  apply h X.length
  rw [e1, List.append_assoc, List.drop_left, hQ]
  rfl
theorem scZ_ok : NmOk scZ := ⟨by decide, by decide⟩
/-- **A script without comments ends at its first fitting end tag.** -/
theorem plain_right (bs t : List UInt8) (n : Nat) (ok : Bool) (hW : WholeIs scZ 3 bs t n ok) (hb : ∀ i, (bs.drop i).take 4 ≠ [60, 33, 45, 45]) :
    ((∀ i, ¬ GAt (lower bs) i) → ok = false ∧ n = bs.length ∧ t = encs (runesI bs)) ∧ ∀ i, GAt (lower bs) i → (∀ j, j < i → ¬ GAt (lower bs) j) → ok = true ∧ n = i + 9 ∧ t = encs (runesI (bs.take i)) := by
  have hre : refR scZ 3 (runesI bs) = refF false scZ 0 0 (runesI bs) := refF_plain scZ (runesI bs) 0 (no_bang bs hb)
  have hf := refF_first scZ (runesI bs) 0
  refine ⟨fun hn => ?_, fun i hi hj => ?_⟩
  · cases hr : refF false scZ 0 0 (runesI bs) with
    | none => exact whole_none scZ_ok (by omega) (by omega) hW (hre.trans hr)
    | some k =>
      rw [hr] at hf
      obtain ⟨X, _, _, _, hg⟩ := f_to_g bs k hf.1
      exact absurd hg (hn _)
  · obtain ⟨g1, g2, Q, c, g3, g4, g5, g6⟩ := g_to_f bs i hi
    have hi9 : i + 9 ≤ bs.length := by have := hi.1; rw [lower_length] at this; exact this
    cases hr : refF false scZ 0 0 (runesI bs) with
    | none => rw [hr] at hf; exact absurd g1 (hf _)
    | some k =>
      rw [hr] at hf
      obtain ⟨X, x1, x2, x3, x4⟩ := f_to_g bs k hf.1
      have hge : i ≤ X.length := by
        rcases Nat.lt_or_ge X.length i with h | h
        · exact absurd x4 (hj _ h)
        · exact h
      have hkle : k ≤ (runesI (bs.take i)).length := by
        rcases Nat.lt_or_ge (runesI (bs.take i)).length k with h | h
        · exact absurd g1 (hf.2 _ h)
        · exact h
      have hXs : X = bs.take i ++ X.drop i := by
        have : X.take i = bs.take i := by rw [← x2, List.take_take, Nat.min_eq_left hge]
        rw [← this, List.take_append_drop]
      have hkge : (runesI (bs.take i)).length ≤ k := by
        have hr2 : runesI X = runesI (bs.take i) ++ runesI (X.drop i) := by
          conv => lhs; rw [hXs]
          refine runesI_append _ _ ?_
          by_cases h0 : X.length = i
          · left; exact List.drop_eq_nil_of_le (by omega)
          · right
            have : byteAt (X.drop i) 0 = byteAt (bs.drop i) 0 := by
              rw [byteAt_drop, byteAt_drop]
              unfold byteAt
              conv => lhs; rw [← x2]
              rw [List.getElem?_take, if_pos (by omega)]
            rw [this, g2]; omega
        have h5 := congrArg List.length hr2
        rw [x3, List.length_append, List.length_take] at h5
        omega
      have hk : k = (runesI (bs.take i)).length := by omega
      obtain ⟨rfl, h2, h3, h4, h5⟩ := whole_some scZ_ok (by omega) (by omega) hW (hre.trans hr)
      have hrt : (runesI bs).take k = runesI (bs.take i) := by
        have h8 : runesI bs = runesI (bs.take i) ++ runesI (bs.drop i) := by
          have := runesI_append (bs.take i) (bs.drop i) (.inr (by rw [g2]; omega))
          rwa [List.take_append_drop] at this
        rw [h8, hk, List.take_left]
      refine ⟨rfl, ?_, by rw [h2, hrt]⟩
      have e1 := whole_place (by omega) (by omega) hW
      have e2 := place_right bs (bs.take i ++ Q) c (i + 9) g6 g3 hi9
      have e3 : (runesI (bs.take (i + 9))).length = k + 9 := by
        rw [g3, List.append_assoc, runesI_append (bs.take i) (Q ++ [c]) (.inr ?_), ascii_runes Q [c] g5, runesI_ascii c [] g6, runesI_nil, hk]
        · simp [g4]
        · have : byteAt (Q ++ [c]) 0 = byteAt (bs.drop i) 0 := by
            have h9 : bs.drop i = (Q ++ [c]) ++ bs.drop (i + 9) := by
              have h10 := List.take_append_drop 9 (bs.drop i)
              have h11 : (bs.drop i).take 9 = Q ++ [c] := by
                have h12 := List.take_add (l := bs) (i := i) (j := 9)
                rw [g3, List.append_assoc] at h12
                exact (List.append_cancel_left h12).symm
              rw [h11, List.drop_drop] at h10
              exact h10.symm
            rw [h9]
            cases Q with
            | nil => rfl
            | cons a Q' => rfl
          rw [this, g2]; omega
      rw [e3] at e2
      rw [h5, show scZ.length = 6 from rfl, show k + 3 + 6 = k + 9 by omega] at e1
      omega
/-- What a range over a text steps over. -/
theorem dec_skip (bs : List UInt8) (pos : Nat) (h : pos < bs.length) : ∃ r w : Nat, Utf8.decode ⟨bs.toArray⟩ pos = (r, w) ∧ 1 ≤ w ∧ pos + w ≤ bs.length ∧ ∀ i, pos < i → i < pos + w → (bs.drop i).take 4 ≠ [60, 33, 45, 45] := by
  have hd0 : 0 < (bs.drop pos).length := by simp; omega
  have hdec := decode_drop bs pos
  rcases Nat.lt_or_ge (byteAt (bs.drop pos) 0) 128 with hl | hl
  · rw [decodeN_low _ _ _ _ _ hl] at hdec
    exact ⟨_, 1, hdec, by omega, by omega, fun i h1 h2 => by omega⟩
  · cases ha : nextAll (bs.drop pos) with
    | false =>
      rw [decode_wrong _ hd0 ha] at hdec
      exact ⟨_, 1, hdec, by omega, by omega, fun i h1 h2 => by omega⟩
    | true =>
      rw [decode_right _ hd0 ha] at hdec
      have hn := nextN_len (bs.drop pos) hd0
      simp only [List.length_drop] at hn
      refine ⟨_, _, hdec, nextN_pos _, by omega, fun i h1 h2 e => ?_⟩
      have hh := (next_high _ hd0 hl).2 ha
      have hb : bs[i]'(by omega) ∈ (bs.drop pos).take (nextN (bs.drop pos)) := by
        rw [List.mem_iff_getElem]
        exact ⟨i - pos, by simp; omega, by simp [show pos + (i - pos) = i by omega]⟩
      have h128 := hh _ hb
      rw [List.drop_eq_getElem_cons (by omega)] at e
      simp only [List.take_succ_cons, List.cons.injEq] at e
      rw [e.1] at h128
      exact absurd h128 (by decide)
theorem extract_mid (bs : List UInt8) (a b : Nat) : (⟨bs.toArray⟩ : ByteArray).extract a b = ⟨((bs.drop a).take (b - a)).toArray⟩ := by
  apply ByteArray.ext
  simp
end Go.Proofs.YtegkdgmpkfpjmaaDoor.R
