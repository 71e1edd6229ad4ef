/- What is proved here: laws and contracts of TRReadM, NFields, one behind the other (each says its own). -/
import Derived.Test.YtelfejbhlolppaaDoorTTok
import Derived.Test.YtelfejbhlolppaaDoorCBase
import Derived.Test.YtelfejbhlolppaaDoorBun1
/- What is proved here: nothing of the program: the document's Read of a line, as lists, says what token's read says. -/
namespace Go.Proofs.YtelfejbhlolppaaDoor.T
open Go.RowKit N

theorem firstW_word (u r : List UInt8) (h : (32 : UInt8) ∉ u) : firstW (u ++ 32 :: r) = u := by
  unfold firstW
  induction u with
  | nil => simp
  | cons c t ih =>
    simp only [List.mem_cons, not_or] at h
    rw [List.cons_append, List.takeWhile_cons, if_pos (by simpa using fun e => h.1 e.symm), ih h.2]
theorem firstW_all (u : List UInt8) (h : (32 : UInt8) ∉ u) : firstW u = u := by
  unfold firstW
  induction u with
  | nil => simp
  | cons c t ih =>
    simp only [List.mem_cons, not_or] at h
    rw [List.takeWhile_cons, if_pos (by simpa using fun e => h.1 e.symm), ih h.2]
theorem firstW_split (s : List UInt8) : s.drop (firstW s).length = [] ∧ firstW s = s ∨ ∃ r, s.drop (firstW s).length = 32 :: r ∧ s = firstW s ++ 32 :: r := by
  unfold firstW
  induction s with
  | nil => left; simp
  | cons c t ih =>
    by_cases hc : c = 32
    · right; subst hc; exact ⟨t, by simp, by simp⟩
    · rw [List.takeWhile_cons, if_pos (by simpa using hc)]
      rcases ih with ⟨h1, h2⟩ | ⟨r, h1, h2⟩
      · left; simp only [List.length_cons, List.drop_succ_cons]; exact ⟨h1, by rw [h2]⟩
      · right; refine ⟨r, by simpa using h1, ?_⟩
        rw [List.cons_append, ← h2]
theorem readP_word (k : Nat) (hk : k < 4) (r : List UInt8) : readP ((wordS k).data.toList ++ 32 :: r) = match bodyP k (32 :: r) with
    | none => none
    | some (t, l, r) => if r = [] ∧ checkB t l = true then some (t, l) else none := by
  have h32 : (32 : UInt8) ∉ (wordS k).data.toList := by
    match k, hk with
    | 0, _ => decide
    | 1, _ => decide
    | 2, _ => decide
    | 3, _ => decide
  have hkk : kindP (wordS k).data.toList = some k := by
    match k, hk with
    | 0, _ => rfl
    | 1, _ => rfl
    | 2, _ => rfl
    | 3, _ => rfl
  unfold readP
  rw [firstW_word _ _ h32, hkk, List.drop_left]
  rfl
/-- Nothing but the four words with a blank behind, and doctype alone. -/
theorem readP_else (s : List UInt8) (hd : s ≠ (wordS 4).data.toList) (h : ∀ k, k < 4 → ((wordS k).data.toList ++ [32]).isPrefixOf s = false) : readP s = none := by
  unfold readP
  cases hk : kindP (firstW s) with
  | none => rfl
  | some k =>
    have hw : (wordS k).data.toList = firstW s := by
      unfold kindP at hk
      have := List.find?_some hk
      simpa using this
    have hk5 : k < 5 := by
      unfold kindP at hk
      have := List.mem_of_find?_eq_some hk
      simpa using this
    simp only
    rcases firstW_split s with ⟨h1, h2⟩ | ⟨r, h1, h2⟩
    · rw [h1]
      obtain rfl | rfl | rfl | rfl | rfl : k = 0 ∨ k = 1 ∨ k = 2 ∨ k = 3 ∨ k = 4 := by omega
      · rfl
      · rfl
      · rfl
      · rfl
      · exact absurd (h2.symm.trans hw.symm) hd
    · rw [h1]
      by_cases h4 : k = 4
      · subst h4
        show (if 32 :: r = [] ∧ _ then _ else none) = none
        rw [if_neg (fun e => by cases e.1)]
      · have := h k (by omega)
        rw [hw, h2, Bool.eq_false_iff] at this
        refine absurd ?_ this
        rw [List.isPrefixOf_iff_prefix]
        refine ⟨r, ?_⟩
        rw [firstW_word _ _ (by
          intro hm
          have h3 : (32 : UInt8) ∉ (wordS k).data.toList := by
            obtain rfl | rfl | rfl | rfl : k = 0 ∨ k = 1 ∨ k = 2 ∨ k = 3 := by omega
            all_goals decide
          exact h3 (by rw [hw]; exact hm))]
        simp
theorem readP_doc : readP (wordS 4).data.toList = some ((⟨4, ⟨#[]⟩, ⟨#[]⟩, false, 0, 0, 0⟩ : T.Tok), []) := by
  have hc : checkB (⟨4, ⟨#[]⟩, ⟨#[]⟩, false, 0, 0, 0⟩ : T.Tok) [] = true := by decide +kernel
  unfold readP
  rw [firstW_all _ (by decide), show kindP (wordS 4).data.toList = some 4 from rfl, List.drop_length]
  show (if ([] : List UInt8) = [] ∧ _ then _ else none) = _
  rw [if_pos ⟨rfl, hc⟩]
theorem readP_one_none (k : Nat) (hk : k < 4) (r : List UInt8) (h : unqd r = none) : readP ((wordS k).data.toList ++ 32 :: r) = none := by
  rw [readP_word k hk]
  obtain rfl | rfl | rfl | rfl : k = 0 ∨ k = 1 ∨ k = 2 ∨ k = 3 := by omega
  all_goals simp [bodyP, qd, h]
theorem readP_text (k : Nat) (hk : k = 0 ∨ k = 3) (r a r' : List UInt8) (h : unqd r = some (a, r')) : readP ((wordS k).data.toList ++ 32 :: r) = if r' = [] ∧ checkB (⟨k, ⟨#[]⟩, ⟨a.toArray⟩, false, 0, 0, 0⟩ : T.Tok) [] = true then some ((⟨k, ⟨#[]⟩, ⟨a.toArray⟩, false, 0, 0, 0⟩ : T.Tok), []) else none := by
  rw [readP_word k (by omega)]
  rcases hk with rfl | rfl
  all_goals simp [bodyP, qd, h]
theorem readP_end (r a r' : List UInt8) (h : unqd r = some (a, r')) : readP ((wordS 2).data.toList ++ 32 :: r) = if r' = [] ∧ checkB (⟨2, ⟨a.toArray⟩, ⟨#[]⟩, false, 0, 0, 0⟩ : T.Tok) [] = true then some ((⟨2, ⟨a.toArray⟩, ⟨#[]⟩, false, 0, 0, 0⟩ : T.Tok), []) else none := by
  rw [readP_word 2 (by omega)]
  simp [bodyP, qd, h]
/-- A start tag's attributes up to the line's end, and whether it ends with the sign. -/
def attrsF (n : Nat) (l : AL) (s : List UInt8) : Option (AL × Bool) := match attrsP n l s with
  | none => none
  | some (l', b, r) => if r = [] then some (l', b) else none
theorem attrsF_nil (n : Nat) (l : AL) : attrsF (n + 1) l [] = some (l, false) := by
  unfold attrsF; rw [attrsP_end _ _ _ (by simp)]; simp
theorem attrsF_self (n : Nat) (l : AL) : attrsF (n + 1) l [32, 47] = some (l, true) := by
  unfold attrsF; rw [attrsP_self]; simp
theorem attrsF_head (n : Nat) (l : AL) (s : List UInt8) (h0 : s ≠ []) (h : s.head? ≠ some 32) : attrsF (n + 1) l s = none := by
  unfold attrsF; rw [attrsP_end _ _ _ h]; simp [h0]
theorem attrsF_name (n : Nat) (l : AL) (y : List UInt8) (h0 : 32 :: y ≠ [32, 47]) (h : unqd y = none) : attrsF (n + 1) l (32 :: y) = none := by
  unfold attrsF
  by_cases hy : y.head? = some 47
  · cases y with
    | nil => simp at hy
    | cons c z =>
      simp at hy
      subst hy
      rw [attrsP_self]
      have : z ≠ [] := fun e => h0 (by rw [e])
      simp [this]
  · rw [attrsP_attr _ _ _ hy, h]
theorem unqd_47 (y a r : List UInt8) (h : unqd y = some (a, r)) : y.head? ≠ some 47 := by
  intro hy
  rw [unqd_no y (by rw [hy]; simp)] at h
  cases h
theorem attrsF_eq (n : Nat) (l : AL) (y a r : List UInt8) (h : unqd y = some (a, r)) (h61 : r.head? ≠ some 61) : attrsF (n + 1) l (32 :: y) = none := by
  unfold attrsF
  rw [attrsP_attr _ _ _ (unqd_47 _ _ _ h), h]
  simp [h61]
theorem attrsF_value (n : Nat) (l : AL) (y a z : List UInt8) (h : unqd y = some (a, 61 :: z)) (hz : unqd z = none) : attrsF (n + 1) l (32 :: y) = none := by
  unfold attrsF
  rw [attrsP_attr _ _ _ (unqd_47 _ _ _ h), h]
  simp [hz]
theorem attrsF_step (n : Nat) (l : AL) (y a z b r : List UInt8) (h : unqd y = some (a, 61 :: z)) (hz : unqd z = some (b, r)) : attrsF (n + 1) l (32 :: y) = attrsF n (l ++ [((⟨a.toArray⟩ : ByteArray), (⟨b.toArray⟩ : ByteArray))]) r := by
  unfold attrsF
  rw [attrsP_attr _ _ _ (unqd_47 _ _ _ h), h]
  simp [hz]
/-- The start tag of a name and attributes. -/
def startR (a : List UInt8) (R : Option (AL × Bool)) : Option (T.Tok × AL) := match R with
  | none => none
  | some (l, b) => if checkB (⟨1, ⟨a.toArray⟩, ⟨#[]⟩, b, 0, 0, 0⟩ : T.Tok) l = true then some ((⟨1, ⟨a.toArray⟩, ⟨#[]⟩, b, 0, 0, 0⟩ : T.Tok), l) else none
theorem readP_start (r a r' : List UInt8) (h : unqd r = some (a, r')) : readP ((wordS 1).data.toList ++ 32 :: r) = startR a (attrsF (r'.length + 1) [] r') := by
  rw [readP_word 1 (by omega)]
  unfold attrsF startR
  simp only [bodyP, qd, List.head?_cons, List.tail_cons, if_true]
  cases ha : attrsP (r'.length + 1) [] r' with
  | none => simp [h, ha]
  | some x =>
    obtain ⟨l, b, rr⟩ := x
    by_cases hr : rr = []
    · simp [h, ha, hr]
    · simp [h, ha, hr]
end Go.Proofs.YtelfejbhlolppaaDoor.T

/- What is proved here: the contract of names.Fields: the fields of any text, in a row of their own. -/
namespace Go.Proofs.YtelfejbhlolppaaDoor.N
open Go.RowKit C

/-- A part of a text. -/
def part (l : List UInt8) (a b : Nat) : List UInt8 := (l.drop a).take (b - a)
theorem part_none (l : List UInt8) (a : Nat) : part l a a = [] := by simp [part]
theorem part_length (l : List UInt8) (a b : Nat) (h : b ≤ l.length) : (part l a b).length = b - a := by simp [part]; omega
theorem part_succ (l : List UInt8) (a k : Nat) (h : a ≤ k) (hk : k < l.length) : part l a (k + 1) = part l a k ++ [l.getD k 0] := by
  unfold part
  have e : k + 1 - a = (k - a) + 1 := by omega
  have hd : k - a < (l.drop a).length := by simp; omega
  rw [e, List.take_succ_eq_append_getElem hd]
  congr 2
  simp [List.getD, hk]
  congr 1
  omega
theorem part_end (l : List UInt8) (a : Nat) : part l a l.length = l.drop a := by
  unfold part
  rw [List.take_of_length_le (by simp)]
theorem part_extract (s : ByteArray) (a b : Nat) : s.extract a b = ⟨(part s.data.toList a b).toArray⟩ := Lib.extract_eq s a b
theorem drop_step (l : List UInt8) (k : Nat) (h : k < l.length) : l.drop k = l.getD k 0 :: l.drop (k + 1) := by
  rw [List.drop_eq_getElem_cons h]
  simp [List.getD, h]
theorem ff_plain (l w : List UInt8) (k : Nat) (h : k < l.length) (hc : blankB (l.getD k 0) = false) : fieldsFrom (l.drop k) w = fieldsFrom (l.drop (k + 1)) (w ++ [l.getD k 0]) := by
  rw [drop_step l k h, ff_cons, if_neg (by rw [hc]; decide)]
theorem ff_blank (l w : List UInt8) (k : Nat) (h : k < l.length) (hc : blankB (l.getD k 0) = true) (hw : w ≠ []) : fieldsFrom (l.drop k) w = w :: fieldsFrom (l.drop (k + 1)) [] := by
  rw [drop_step l k h, ff_cons, if_pos hc, if_neg (by simpa using hw)]
theorem ff_blank0 (l : List UInt8) (k : Nat) (h : k < l.length) (hc : blankB (l.getD k 0) = true) : fieldsFrom (l.drop k) [] = fieldsFrom (l.drop (k + 1)) [] := by
  rw [drop_step l k h, ff_cons, if_pos hc]; rfl
theorem blank_eq (c : UInt8) : blankZ (wrap32 (c.toNat : Int)) = blankB c := by
  have hc := c.toNat_lt
  have hw : wrap32 (c.toNat : Int) = c.toNat := by unfold wrap32; omega
  have hu : ∀ n : Nat, n < 256 → ((c == UInt8.ofNat n) = true ↔ c.toNat = n) := fun n hn => by
    rw [beq_iff_eq]
    constructor
    · intro h; rw [h]; simp; omega
    · intro h; apply UInt8.toNat_inj.1; simp; omega
  rw [hw, Bool.eq_iff_iff]
  unfold blankZ blankB
  rw [show (9 : UInt8) = UInt8.ofNat 9 from rfl, show (10 : UInt8) = UInt8.ofNat 10 from rfl, show (12 : UInt8) = UInt8.ofNat 12 from rfl, show (32 : UInt8) = UInt8.ofNat 32 from rfl]
  simp only [Bool.or_eq_true, decide_eq_true_eq, hu 9 (by omega), hu 10 (by omega), hu 12 (by omega), hu 32 (by omega)]
  omega

/-- Texts as values. -/
def svs (L : List (List UInt8)) : List Value := L.map fun x => .string ⟨x.toArray⟩
theorem svs_append (a b : List (List UInt8)) : svs (a ++ b) = svs a ++ svs b := by simp [svs]
theorem svs_length (a : List (List UInt8)) : (svs a).length = a.length := by simp [svs]
theorem infoStr : (Tryd.prog.info? 9).map (fun i => (i.zero, i.size, i.bytes)) = some (some (.string ⟨#[]⟩), 1, 16) := by kernel_rfl
theorem info_parts {t : TypeId} {z : Value} {n b : Nat} (h : (Tryd.prog.info? t).map (fun i => (i.zero, i.size, i.bytes)) = some (some z, n, b)) : ∃ i, Tryd.prog.info? t = some i ∧ i.zero = some z ∧ i.size = n ∧ i.bytes = b := by
  cases e : Tryd.prog.info? t with
  | none => rw [e] at h; simp at h
  | some i => rw [e] at h; simp at h; exact ⟨i, rfl, h.1, h.2.1, h.2.2⟩
/-- A row of texts of one's own. -/
abbrev OwnT (base : Nat) (w : World) (v : Value) (L : List (List UInt8)) : Prop := w.ownsRow base 9 1 v L.length (svs L)
theorem cell_one (W : World) (a : Value) (t : TypeId) (n : Nat) (hn : n = W.heap.size) : ∀ j u, [a][j]? = some u → (W.alloc (.cells #[a] t)).cell? ((⟨n, 0, none⟩ : Addr).add j) = some u := by
  intro j u h
  subst hn
  rw [add_none, Nat.zero_add]
  have hb := World.alloc_heap_new W (.cells #[a] t)
  simp only [World.cell?, hb]
  simpa using h

end Go.Proofs.YtelfejbhlolppaaDoor.N
