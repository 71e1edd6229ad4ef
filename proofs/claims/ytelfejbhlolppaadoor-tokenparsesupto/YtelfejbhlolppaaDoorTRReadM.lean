/- What is proved here: nothing of the program: the document's Read of a line, as lists, says what token's read says. -/
import Derived.Test.YtelfejbhlolppaaDoorTTok
namespace Go.Proofs.YtelfejbhlolppaaDoor.T
open Go.RowKit N

theorem firstW_word (u r : List UInt8) (h : (32 : UInt8) ∉ u) : firstW (u ++ 32 :: r) = u := by
  unfold firstW
  induction u with
  | nil => simp
  | cons c t ih =>
    simp only [List.mem_cons, not_or] at h
    rw [List.cons_append, List.takeWhile_cons, if_pos (by simpa using fun e => h.1 e.symm), ih h.2]
theorem firstW_all (u : List UInt8) (h : (32 : UInt8) ∉ u) : firstW u = u := by
  unfold firstW
  induction u with
  | nil => simp
  | cons c t ih =>
    simp only [List.mem_cons, not_or] at h
    rw [List.takeWhile_cons, if_pos (by simpa using fun e => h.1 e.symm), ih h.2]
theorem firstW_split (s : List UInt8) : s.drop (firstW s).length = [] ∧ firstW s = s ∨ ∃ r, s.drop (firstW s).length = 32 :: r ∧ s = firstW s ++ 32 :: r := by
  unfold firstW
  induction s with
  | nil => left; simp
  | cons c t ih =>
    by_cases hc : c = 32
    · right; subst hc; exact ⟨t, by simp, by simp⟩
    · rw [List.takeWhile_cons, if_pos (by simpa using hc)]
      rcases ih with ⟨h1, h2⟩ | ⟨r, h1, h2⟩
      · left; simp only [List.length_cons, List.drop_succ_cons]; exact ⟨h1, by rw [h2]⟩
      · right; refine ⟨r, by simpa using h1, ?_⟩
        rw [List.cons_append, ← h2]
theorem readP_word (k : Nat) (hk : k < 4) (r : List UInt8) : readP ((wordS k).data.toList ++ 32 :: r) = match bodyP k (32 :: r) with
    | none => none
    | some (t, l, r) => if r = [] ∧ checkB t l = true then some (t, l) else none := by
  have h32 : (32 : UInt8) ∉ (wordS k).data.toList := by
    match k, hk with
    | 0, _ => decide
    | 1, _ => decide
    | 2, _ => decide
    | 3, _ => decide
  have hkk : kindP (wordS k).data.toList = some k := by
    match k, hk with
    | 0, _ => rfl
    | 1, _ => rfl
    | 2, _ => rfl
    | 3, _ => rfl
  unfold readP
  rw [firstW_word _ _ h32, hkk, List.drop_left]
  rfl
/-- Nothing but the four words with a blank behind, and doctype alone. -/
theorem readP_else (s : List UInt8) (hd : s ≠ (wordS 4).data.toList) (h : ∀ k, k < 4 → ((wordS k).data.toList ++ [32]).isPrefixOf s = false) : readP s = none := by
  unfold readP
  cases hk : kindP (firstW s) with
  | none => rfl
  | some k =>
    have hw : (wordS k).data.toList = firstW s := by
      unfold kindP at hk
      have := List.find?_some hk
      simpa using this
    have hk5 : k < 5 := by
      unfold kindP at hk
      have := List.mem_of_find?_eq_some hk
      simpa using this
    simp only
    rcases firstW_split s with ⟨h1, h2⟩ | ⟨r, h1, h2⟩
    · rw [h1]
      obtain rfl | rfl | rfl | rfl | rfl : k = 0 ∨ k = 1 ∨ k = 2 ∨ k = 3 ∨ k = 4 := by omega
      · rfl
      · rfl
      · rfl
      · rfl
      · exact absurd (h2.symm.trans hw.symm) hd
    · rw [h1]
      by_cases h4 : k = 4
      · subst h4
        show (if 32 :: r = [] ∧ _ then _ else none) = none
        rw [if_neg (fun e => by cases e.1)]
      · have := h k (by omega)
        rw [hw, h2, Bool.eq_false_iff] at this
        refine absurd ?_ this
        rw [List.isPrefixOf_iff_prefix]
        refine ⟨r, ?_⟩
        rw [firstW_word _ _ (by
          intro hm
          have h3 : (32 : UInt8) ∉ (wordS k).data.toList := by
            obtain rfl | rfl | rfl | rfl : k = 0 ∨ k = 1 ∨ k = 2 ∨ k = 3 := by omega
            all_goals decide
          exact h3 (by rw [hw]; exact hm))]
        simp
theorem readP_doc : readP (wordS 4).data.toList = some ((⟨4, ⟨#[]⟩, ⟨#[]⟩, false, 0, 0, 0⟩ : T.Tok), []) := by
  have hc : checkB (⟨4, ⟨#[]⟩, ⟨#[]⟩, false, 0, 0, 0⟩ : T.Tok) [] = true := by decide +kernel
  unfold readP
  rw [firstW_all _ (by decide), show kindP (wordS 4).data.toList = some 4 from rfl, List.drop_length]
  show (if ([] : List UInt8) = [] ∧ _ then _ else none) = _
  rw [if_pos ⟨rfl, hc⟩]
theorem readP_one_none (k : Nat) (hk : k < 4) (r : List UInt8) (h : unqd r = none) : readP ((wordS k).data.toList ++ 32 :: r) = none := by
  rw [readP_word k hk]
  obtain rfl | rfl | rfl | rfl : k = 0 ∨ k = 1 ∨ k = 2 ∨ k = 3 := by omega
  all_goals simp [bodyP, qd, h]
theorem readP_text (k : Nat) (hk : k = 0 ∨ k = 3) (r a r' : List UInt8) (h : unqd r = some (a, r')) : readP ((wordS k).data.toList ++ 32 :: r) = if r' = [] ∧ checkB (⟨k, ⟨#[]⟩, ⟨a.toArray⟩, false, 0, 0, 0⟩ : T.Tok) [] = true then some ((⟨k, ⟨#[]⟩, ⟨a.toArray⟩, false, 0, 0, 0⟩ : T.Tok), []) else none := by
  rw [readP_word k (by omega)]
  rcases hk with rfl | rfl
  all_goals simp [bodyP, qd, h]
theorem readP_end (r a r' : List UInt8) (h : unqd r = some (a, r')) : readP ((wordS 2).data.toList ++ 32 :: r) = if r' = [] ∧ checkB (⟨2, ⟨a.toArray⟩, ⟨#[]⟩, false, 0, 0, 0⟩ : T.Tok) [] = true then some ((⟨2, ⟨a.toArray⟩, ⟨#[]⟩, false, 0, 0, 0⟩ : T.Tok), []) else none := by
  rw [readP_word 2 (by omega)]
  simp [bodyP, qd, h]
/-- A start tag's attributes up to the line's end, and whether it ends with the sign. -/
def attrsF (n : Nat) (l : AL) (s : List UInt8) : Option (AL × Bool) := match attrsP n l s with
  | none => none
  | some (l', b, r) => if r = [] then some (l', b) else none
theorem attrsF_nil (n : Nat) (l : AL) : attrsF (n + 1) l [] = some (l, false) := by
  unfold attrsF; rw [attrsP_end _ _ _ (by simp)]; simp
theorem attrsF_self (n : Nat) (l : AL) : attrsF (n + 1) l [32, 47] = some (l, true) := by
  unfold attrsF; rw [attrsP_self]; simp
theorem attrsF_head (n : Nat) (l : AL) (s : List UInt8) (h0 : s ≠ []) (h : s.head? ≠ some 32) : attrsF (n + 1) l s = none := by
  unfold attrsF; rw [attrsP_end _ _ _ h]; simp [h0]
theorem attrsF_name (n : Nat) (l : AL) (y : List UInt8) (h0 : 32 :: y ≠ [32, 47]) (h : unqd y = none) : attrsF (n + 1) l (32 :: y) = none := by
  unfold attrsF
  by_cases hy : y.head? = some 47
  · cases y with
    | nil => simp at hy
    | cons c z =>
      simp at hy
      subst hy
      rw [attrsP_self]
      have : z ≠ [] := fun e => h0 (by rw [e])
      simp [this]
  · rw [attrsP_attr _ _ _ hy, h]
theorem unqd_47 (y a r : List UInt8) (h : unqd y = some (a, r)) : y.head? ≠ some 47 := by
  intro hy
  rw [unqd_no y (by rw [hy]; simp)] at h
  cases h
theorem attrsF_eq (n : Nat) (l : AL) (y a r : List UInt8) (h : unqd y = some (a, r)) (h61 : r.head? ≠ some 61) : attrsF (n + 1) l (32 :: y) = none := by
  unfold attrsF
  rw [attrsP_attr _ _ _ (unqd_47 _ _ _ h), h]
  simp [h61]
theorem attrsF_value (n : Nat) (l : AL) (y a z : List UInt8) (h : unqd y = some (a, 61 :: z)) (hz : unqd z = none) : attrsF (n + 1) l (32 :: y) = none := by
  unfold attrsF
  rw [attrsP_attr _ _ _ (unqd_47 _ _ _ h), h]
  simp [hz]
theorem attrsF_step (n : Nat) (l : AL) (y a z b r : List UInt8) (h : unqd y = some (a, 61 :: z)) (hz : unqd z = some (b, r)) : attrsF (n + 1) l (32 :: y) = attrsF n (l ++ [((⟨a.toArray⟩ : ByteArray), (⟨b.toArray⟩ : ByteArray))]) r := by
  unfold attrsF
  rw [attrsP_attr _ _ _ (unqd_47 _ _ _ h), h]
  simp [hz]
/-- The start tag of a name and attributes. -/
def startR (a : List UInt8) (R : Option (AL × Bool)) : Option (T.Tok × AL) := match R with
  | none => none
  | some (l, b) => if checkB (⟨1, ⟨a.toArray⟩, ⟨#[]⟩, b, 0, 0, 0⟩ : T.Tok) l = true then some ((⟨1, ⟨a.toArray⟩, ⟨#[]⟩, b, 0, 0, 0⟩ : T.Tok), l) else none
theorem readP_start (r a r' : List UInt8) (h : unqd r = some (a, r')) : readP ((wordS 1).data.toList ++ 32 :: r) = startR a (attrsF (r'.length + 1) [] r') := by
  rw [readP_word 1 (by omega)]
  unfold attrsF startR
  simp only [bodyP, qd, List.head?_cons, List.tail_cons, if_true]
  cases ha : attrsP (r'.length + 1) [] r' with
  | none => simp [h, ha]
  | some x =>
    obtain ⟨l, b, rr⟩ := x
    by_cases hr : rr = []
    · simp [h, ha, hr]
    · simp [h, ha, hr]
end Go.Proofs.YtelfejbhlolppaaDoor.T
