/- What is proved here: laws and contracts of NSetM, NLower, NFold, one behind the other (each says its own). -/
import Derived.Test.YtdkcibafbdmajabGreatDoorNText
import Derived.Test.YtdkcibafbdmajabGreatDoorBun3
/- What is proved here: what strings.Contains says of a text of names with a space around each; the names of the sets. No program in it. -/
namespace Go.Proofs.YtdkcibafbdmajabGreatDoor.N

def rtxt0 : ByteArray := ⟨#[97, 114, 101, 97, 32, 98, 97, 115, 101, 32, 98, 114, 32, 99, 111, 108, 32, 101, 109, 98, 101, 100, 32, 104, 114, 32, 105, 109, 103, 32, 105, 110, 112, 117, 116, 32, 108, 105, 110, 107, 32, 109, 101, 116, 97, 32, 115, 111, 117, 114, 99, 101, 32, 116, 114, 97, 99, 107, 32, 119, 98, 114]⟩
def rtxt1 : ByteArray := ⟨#[97, 114, 101, 97, 32, 98, 97, 115, 101, 32, 98, 114, 32, 99, 111, 108, 32, 101, 109, 98, 101, 100, 32, 104, 114, 32, 105, 109, 103, 32, 105, 110, 112, 117, 116, 32, 108, 105, 110, 107, 32, 109, 101, 116, 97, 32, 115, 111, 117, 114, 99, 101, 32, 116, 114, 97, 99, 107, 32, 119, 98, 114, 32, 98, 97, 115, 101, 102, 111, 110, 116, 32, 98, 103, 115, 111, 117, 110, 100, 32, 102, 114, 97, 109, 101, 32, 107, 101, 121, 103, 101, 110, 32, 112, 97, 114, 97, 109]⟩
def rtxt2 : ByteArray := ⟨#[116, 101, 120, 116, 97, 114, 101, 97, 32, 116, 105, 116, 108, 101]⟩
def rtxt3 : ByteArray := ⟨#[105, 102, 114, 97, 109, 101, 32, 110, 111, 101, 109, 98, 101, 100, 32, 110, 111, 102, 114, 97, 109, 101, 115, 32, 110, 111, 115, 99, 114, 105, 112, 116, 32, 115, 116, 121, 108, 101, 32, 120, 109, 112]⟩
def rtxt4 : ByteArray := ⟨#[97, 32, 98, 32, 98, 105, 103, 32, 99, 111, 100, 101, 32, 101, 109, 32, 102, 111, 110, 116, 32, 105, 32, 110, 111, 98, 114, 32, 115, 32, 115, 109, 97, 108, 108, 32, 115, 116, 114, 105, 107, 101, 32, 115, 116, 114, 111, 110, 103, 32, 116, 116, 32, 117]⟩
def rtxt5 : ByteArray := ⟨#[104, 49, 32, 104, 50, 32, 104, 51, 32, 104, 52, 32, 104, 53, 32, 104, 54]⟩
def rtxt6 : ByteArray := ⟨#[97, 100, 100, 114, 101, 115, 115, 32, 97, 114, 116, 105, 99, 108, 101, 32, 97, 115, 105, 100, 101, 32, 98, 108, 111, 99, 107, 113, 117, 111, 116, 101, 32, 99, 101, 110, 116, 101, 114, 32, 100, 100, 32, 100, 101, 116, 97, 105, 108, 115, 32, 100, 105, 97, 108, 111, 103, 32, 100, 105, 114, 32, 100, 105, 118, 32, 100, 108, 32, 100, 116, 32, 102, 105, 101, 108, 100, 115, 101, 116, 32, 102, 105, 103, 99, 97, 112, 116, 105, 111, 110, 32, 102, 105, 103, 117, 114, 101, 32, 102, 111, 111, 116, 101, 114, 32, 102, 111, 114, 109, 32, 104, 49, 32, 104, 50, 32, 104, 51, 32, 104, 52, 32, 104, 53, 32, 104, 54, 32, 104, 101, 97, 100, 101, 114, 32, 104, 103, 114, 111, 117, 112, 32, 104, 114, 32, 108, 105, 32, 108, 105, 115, 116, 105, 110, 103, 32, 109, 97, 105, 110, 32, 109, 101, 110, 117, 32, 110, 97, 118, 32, 111, 108, 32, 112, 32, 112, 108, 97, 105, 110, 116, 101, 120, 116, 32, 112, 114, 101, 32, 115, 101, 97, 114, 99, 104, 32, 115, 101, 99, 116, 105, 111, 110, 32, 115, 117, 109, 109, 97, 114, 121, 32, 116, 97, 98, 108, 101, 32, 117, 108, 32, 120, 109, 112]⟩
def rtxt7 : ByteArray := ⟨#[100, 100, 32, 100, 116, 32, 108, 105, 32, 111, 112, 116, 103, 114, 111, 117, 112, 32, 111, 112, 116, 105, 111, 110, 32, 112, 32, 114, 98, 32, 114, 112, 32, 114, 116, 32, 114, 116, 99]⟩
def rtxt8 : ByteArray := ⟨#[97, 112, 112, 108, 101, 116, 32, 99, 97, 112, 116, 105, 111, 110, 32, 104, 116, 109, 108, 32, 109, 97, 114, 113, 117, 101, 101, 32, 111, 98, 106, 101, 99, 116, 32, 116, 97, 98, 108, 101, 32, 116, 100, 32, 116, 101, 109, 112, 108, 97, 116, 101, 32, 116, 104]⟩
def rtxt9 : ByteArray := ⟨#[97, 112, 112, 108, 101, 116, 32, 99, 97, 112, 116, 105, 111, 110, 32, 104, 116, 109, 108, 32, 109, 97, 114, 113, 117, 101, 101, 32, 111, 98, 106, 101, 99, 116, 32, 116, 97, 98, 108, 101, 32, 116, 100, 32, 116, 101, 109, 112, 108, 97, 116, 101, 32, 116, 104, 32, 111, 108, 32, 117, 108]⟩
def rtxt10 : ByteArray := ⟨#[97, 112, 112, 108, 101, 116, 32, 99, 97, 112, 116, 105, 111, 110, 32, 104, 116, 109, 108, 32, 109, 97, 114, 113, 117, 101, 101, 32, 111, 98, 106, 101, 99, 116, 32, 116, 97, 98, 108, 101, 32, 116, 100, 32, 116, 101, 109, 112, 108, 97, 116, 101, 32, 116, 104, 32, 98, 117, 116, 116, 111, 110]⟩
def rtxt11 : ByteArray := ⟨#[104, 116, 109, 108, 32, 116, 97, 98, 108, 101, 32, 116, 101, 109, 112, 108, 97, 116, 101]⟩
def rtxt12 : ByteArray := ⟨#[97, 100, 100, 114, 101, 115, 115, 32, 97, 112, 112, 108, 101, 116, 32, 97, 114, 101, 97, 32, 97, 114, 116, 105, 99, 108, 101, 32, 97, 115, 105, 100, 101, 32, 98, 97, 115, 101, 32, 98, 97, 115, 101, 102, 111, 110, 116, 32, 98, 103, 115, 111, 117, 110, 100, 32, 98, 108, 111, 99, 107, 113, 117, 111, 116, 101, 32, 98, 111, 100, 121, 32, 98, 114, 32, 98, 117, 116, 116, 111, 110, 32, 99, 97, 112, 116, 105, 111, 110, 32, 99, 101, 110, 116, 101, 114, 32, 99, 111, 108, 32, 99, 111, 108, 103, 114, 111, 117, 112, 32, 100, 100, 32, 100, 101, 116, 97, 105, 108, 115, 32, 100, 105, 114, 32, 100, 105, 118, 32, 100, 108, 32, 100, 116, 32, 101, 109, 98, 101, 100, 32, 102, 105, 101, 108, 100, 115, 101, 116, 32, 102, 105, 103, 99, 97, 112, 116, 105, 111, 110, 32, 102, 105, 103, 117, 114, 101, 32, 102, 111, 111, 116, 101, 114, 32, 102, 111, 114, 109, 32, 102, 114, 97, 109, 101, 32, 102, 114, 97, 109, 101, 115, 101, 116, 32, 104, 49, 32, 104, 50, 32, 104, 51, 32, 104, 52, 32, 104, 53, 32, 104, 54, 32, 104, 101, 97, 100, 32, 104, 101, 97, 100, 101, 114, 32, 104, 103, 114, 111, 117, 112, 32, 104, 114, 32, 104, 116, 109, 108, 32, 105, 102, 114, 97, 109, 101, 32, 105, 109, 103, 32, 105, 110, 112, 117, 116, 32, 107, 101, 121, 103, 101, 110, 32, 108, 105, 32, 108, 105, 110, 107, 32, 108, 105, 115, 116, 105, 110, 103, 32, 109, 97, 105, 110, 32, 109, 97, 114, 113, 117, 101, 101, 32, 109, 101, 110, 117, 32, 109, 101, 116, 97, 32, 110, 97, 118, 32, 110, 111, 101, 109, 98, 101, 100, 32, 110, 111, 102, 114, 97, 109, 101, 115, 32, 110, 111, 115, 99, 114, 105, 112, 116, 32, 111, 98, 106, 101, 99, 116, 32, 111, 108, 32, 112, 32, 112, 97, 114, 97, 109, 32, 112, 108, 97, 105, 110, 116, 101, 120, 116, 32, 112, 114, 101, 32, 115, 99, 114, 105, 112, 116, 32, 115, 101, 97, 114, 99, 104, 32, 115, 101, 99, 116, 105, 111, 110, 32, 115, 101, 108, 101, 99, 116, 32, 115, 111, 117, 114, 99, 101, 32, 115, 116, 121, 108, 101, 32, 115, 117, 109, 109, 97, 114, 121, 32, 116, 97, 98, 108, 101, 32, 116, 98, 111, 100, 121, 32, 116, 100, 32, 116, 101, 109, 112, 108, 97, 116, 101, 32, 116, 101, 120, 116, 97, 114, 101, 97, 32, 116, 102, 111, 111, 116, 32, 116, 104, 32, 116, 104, 101, 97, 100, 32, 116, 105, 116, 108, 101, 32, 116, 114, 32, 116, 114, 97, 99, 107, 32, 117, 108, 32, 119, 98, 114, 32, 120, 109, 112]⟩
def rtxt13 : ByteArray := ⟨#[97, 112, 112, 108, 101, 116, 32, 99, 97, 112, 116, 105, 111, 110, 32, 109, 97, 114, 113, 117, 101, 101, 32, 111, 98, 106, 101, 99, 116, 32, 116, 100, 32, 116, 101, 109, 112, 108, 97, 116, 101, 32, 116, 104]⟩
def rtxt14 : ByteArray := ⟨#[99, 97, 112, 116, 105, 111, 110, 32, 99, 111, 108, 32, 99, 111, 108, 103, 114, 111, 117, 112, 32, 116, 98, 111, 100, 121, 32, 116, 100, 32, 116, 102, 111, 111, 116, 32, 116, 104, 32, 116, 104, 101, 97, 100, 32, 116, 114]⟩
def rtxt15 : ByteArray := ⟨#[97, 32, 97, 98, 98, 114, 32, 97, 100, 100, 114, 101, 115, 115, 32, 97, 114, 116, 105, 99, 108, 101, 32, 97, 115, 105, 100, 101, 32, 98, 32, 98, 100, 105, 32, 98, 100, 111, 32, 98, 108, 111, 99, 107, 113, 117, 111, 116, 101, 32, 98, 114, 32, 99, 97, 112, 116, 105, 111, 110, 32, 99, 101, 110, 116, 101, 114, 32, 99, 105, 116, 101, 32, 99, 111, 100, 101, 32, 99, 111, 108, 32, 99, 111, 108, 103, 114, 111, 117, 112, 32, 100, 97, 116, 97, 32, 100, 100, 32, 100, 101, 108, 32, 100, 101, 116, 97, 105, 108, 115, 32, 100, 102, 110, 32, 100, 105, 97, 108, 111, 103, 32, 100, 105, 118, 32, 100, 108, 32, 100, 116, 32, 101, 109, 32, 102, 105, 103, 99, 97, 112, 116, 105, 111, 110, 32, 102, 105, 103, 117, 114, 101, 32, 102, 111, 111, 116, 101, 114, 32, 104, 49, 32, 104, 50, 32, 104, 51, 32, 104, 52, 32, 104, 53, 32, 104, 54, 32, 104, 101, 97, 100, 101, 114, 32, 104, 103, 114, 111, 117, 112, 32, 104, 114, 32, 105, 32, 105, 109, 103, 32, 105, 110, 115, 32, 107, 98, 100, 32, 108, 97, 98, 101, 108, 32, 108, 105, 32, 109, 97, 105, 110, 32, 109, 97, 114, 107, 32, 109, 101, 110, 117, 32, 110, 97, 118, 32, 111, 108, 32, 112, 32, 112, 114, 101, 32, 113, 32, 115, 32, 115, 97, 109, 112, 32, 115, 101, 97, 114, 99, 104, 32, 115, 101, 99, 116, 105, 111, 110, 32, 115, 109, 97, 108, 108, 32, 115, 112, 97, 110, 32, 115, 116, 114, 111, 110, 103, 32, 115, 117, 98, 32, 115, 117, 109, 109, 97, 114, 121, 32, 115, 117, 112, 32, 116, 97, 98, 108, 101, 32, 116, 98, 111, 100, 121, 32, 116, 100, 32, 116, 101, 120, 116, 97, 114, 101, 97, 32, 116, 102, 111, 111, 116, 32, 116, 104, 32, 116, 104, 101, 97, 100, 32, 116, 105, 109, 101, 32, 116, 114, 32, 117, 32, 117, 108, 32, 118, 97, 114, 32, 119, 98, 114]⟩

theorem contains_cons (b : UInt8) (l sub : List UInt8) : Lib.contains (b :: l) sub = (sub.isPrefixOf (b :: l) || Lib.contains l sub) := by
  unfold Lib.contains
  have hg := Lib.index_ge l sub
  rw [Lib.index]
  split
  · rename_i h; simp [h]
  · rename_i h
    have h : sub.isPrefixOf (b :: l) = false := Bool.eq_false_iff.2 h
    rw [h, Bool.false_or]
    split
    · rename_i e; rw [beq_iff_eq] at e; rw [e]
    · rename_i e; rw [beq_iff_eq] at e
      rw [decide_eq_decide]; omega
theorem contains_nil (c : UInt8) (x : List UInt8) : Lib.contains [] (c :: x) = false := by simp [Lib.contains, Lib.index]
theorem contains_skip (w t x : List UInt8) (h : ∀ c ∈ w, c ≠ 32) : Lib.contains (w ++ t) (32 :: x) = Lib.contains t (32 :: x) := by
  induction w with
  | nil => rfl
  | cons c r ih =>
    have hc := h c (by simp)
    rw [List.cons_append, contains_cons, ih (fun y hy => h y (by simp [hy]))]
    have : ((32 : UInt8) :: x).isPrefixOf (c :: (r ++ t)) = false := by
      simp [List.isPrefixOf, Ne.symm hc]
    rw [this, Bool.false_or]
theorem prefix_word : ∀ (l w rest : List UInt8), (∀ c ∈ l, c ≠ 32) → (∀ c ∈ w, c ≠ 32) → (l ++ [32]).isPrefixOf (w ++ 32 :: rest) = decide (l = w)
  | [], [], rest, _, _ => by simp [List.isPrefixOf]
  | [], d :: w, rest, _, hw => by
    have := hw d (by simp)
    simp [List.isPrefixOf, Ne.symm this]
  | c :: l, [], rest, hl, _ => by
    have := hl c (by simp)
    simp [List.isPrefixOf, this]
  | c :: l, d :: w, rest, hl, hw => by
    have ih := prefix_word l w rest (fun y hy => hl y (by simp [hy])) (fun y hy => hw y (by simp [hy]))
    simp only [List.cons_append, List.isPrefixOf, ih]
    rw [Bool.eq_iff_iff]
    simp
/-- A text of names with a space around each. -/
def spaced : List (List UInt8) → List UInt8
  | [] => [32]
  | w :: r => 32 :: (w ++ spaced r)
theorem spaced_head (r : List (List UInt8)) : ∃ t, spaced r = 32 :: t := by cases r <;> exact ⟨_, rfl⟩
theorem contains_spaced (W : List (List UInt8)) (l : List UInt8) (hl : ∀ c ∈ l, c ≠ 32) (hW : ∀ w ∈ W, ∀ c ∈ w, c ≠ 32) : Lib.contains (spaced W) (32 :: (l ++ [32])) = decide (l ∈ W) := by
  induction W with
  | nil =>
    rw [spaced, contains_cons, contains_nil, Bool.or_false]
    cases l <;> simp [List.isPrefixOf]
  | cons w r ih =>
    obtain ⟨t, ht⟩ := spaced_head r
    rw [spaced, contains_cons, contains_skip w _ _ (hW w (by simp)), ih (fun v hv => hW v (by simp [hv]))]
    have e : ((32 : UInt8) :: (l ++ [32])).isPrefixOf (32 :: (w ++ spaced r)) = decide (l = w) := by
      rw [ht]
      simp only [List.isPrefixOf, prefix_word l w t hl (hW w (by simp))]
      simp
    rw [e, Bool.eq_iff_iff]
    simp

/-- The texts of the sets, of names and of the document. -/
def txtOf : Nat → ByteArray
  | 0 => txt0
  | 1 => txt1
  | 2 => txt2
  | 3 => txt3
  | 4 => txt4
  | 5 => txt5
  | 6 => txt6
  | 7 => txt7
  | 8 => txt8
  | 9 => txt9
  | 10 => txt10
  | 11 => txt11
  | 12 => txt12
  | 13 => txt13
  | 14 => txt14
  | 15 => txt15
  | _ => ⟨#[]⟩
def rtxtOf : Nat → ByteArray
  | 0 => rtxt0
  | 1 => rtxt1
  | 2 => rtxt2
  | 3 => rtxt3
  | 4 => rtxt4
  | 5 => rtxt5
  | 6 => rtxt6
  | 7 => rtxt7
  | 8 => rtxt8
  | 9 => rtxt9
  | 10 => rtxt10
  | 11 => rtxt11
  | 12 => rtxt12
  | 13 => rtxt13
  | 14 => rtxt14
  | 15 => rtxt15
  | _ => ⟨#[]⟩
/-- The names of a set, in rising order. -/
def SW (k : Nat) : List (List UInt8) := fields (txtOf k).data.toList
theorem sets_right : ((List.range 16).all fun k => (spaced (SW k) == (txtOf k).data.toList) && (SW k).all (fun w => tagN w) && (SW k).all (fun w => (fields (rtxtOf k).data.toList).contains w) && (fields (rtxtOf k).data.toList).all (fun w => (SW k).contains w) && decide ((txtOf k).size ≤ 100000) && decide ((rtxtOf k).size ≤ 100000)) = true := by decide +kernel
theorem set_right (k : Nat) (hk : k < 16) : spaced (SW k) = (txtOf k).data.toList ∧ (∀ w ∈ SW k, tagN w = true) ∧ (∀ w, w ∈ SW k ↔ w ∈ fields (rtxtOf k).data.toList) ∧ (txtOf k).size ≤ 100000 ∧ (rtxtOf k).size ≤ 100000 := by
  have h := List.all_eq_true.1 sets_right k (List.mem_range.2 hk)
  simp only [Bool.and_eq_true, beq_iff_eq, List.all_eq_true, List.contains_iff_mem, decide_eq_true_eq] at h
  obtain ⟨⟨⟨⟨⟨h1, h2⟩, h3⟩, h4⟩, h5⟩, h6⟩ := h
  exact ⟨h1, h2, fun w => ⟨h3 w, h4 w⟩, h5, h6⟩
theorem tagN_plain (l : List UInt8) (h : tagN l = true) : ∀ c ∈ l, c ≠ 32 := by
  intro c hc e
  simp only [tagN, Bool.and_eq_true, List.all_eq_true] at h
  have := h.2 c hc
  subst e
  revert this
  decide
/-- **Is a name in a set?** As names asks it. -/
theorem in_right (k : Nat) (hk : k < 16) (l : List UInt8) : (tagN l && Lib.contains (txtOf k).data.toList (32 :: (l ++ [32]))) = decide (l ∈ SW k) := by
  obtain ⟨h1, h2, -⟩ := set_right k hk
  cases ht : tagN l with
  | false =>
    rw [Bool.false_and]
    symm
    rw [decide_eq_false_iff_not]
    intro hm
    rw [h2 l hm] at ht
    cases ht
  | true =>
    rw [Bool.true_and, ← h1]
    exact contains_spaced _ l (tagN_plain l ht) (fun w hw => tagN_plain w (h2 w hw))

end Go.Proofs.YtdkcibafbdmajabGreatDoor.N

/- What is proved here: the contracts of Lower, of names and of sieveref04: any text in small letters. -/
namespace Go.Proofs.YtdkcibafbdmajabGreatDoor.N
open Go.RowKit C

/-- Bytes of one's own that are being made small letters: the first k are. -/
structure Low (w wr : World) (l : List UInt8) (k : Nat) : Prop where
  below : Below w.heap.size w wr
  done : ∀ j, j < k → j < l.length → wr.cell? ⟨w.heap.size, j, none⟩ = some (.int .u8 (lowB (l.getD j 0)).toNat)
  rest : ∀ j, k ≤ j → j < l.length → wr.cell? ⟨w.heap.size, j, none⟩ = some (.int .u8 (l.getD j 0).toNat)
  free : ∀ j, j < l.length → wr.frozen? ⟨w.heap.size, j, none⟩ = false
theorem Low.start (w : World) (e : TypeId) (s : ByteArray) : Low w (Lib.bytesWorld w e s) s.data.toList 0 := by
  refine ⟨bytesWorld_below w e s, fun j h => by omega, fun j _ h => Lib.bytesWorld_cell w e s j (by rw [size_data] at h; exact h), fun j h => ?_⟩
  have hn := Lib.bytesWorld_at_new w e s
  have : j < (Lib.bytesCells w e s).size := by rw [size_data] at h; simp [Lib.bytesCells]; omega
  simp [World.frozen?, hn]
  omega
theorem Low.step {w wr : World} {l : List UInt8} {k : Nat} (h : Low w wr l k) (hk : k < l.length) : Low w (wr.setCell ⟨w.heap.size, k, none⟩ (.int .u8 (lowB (l.getD k 0)).toNat)) l (k + 1) := by
  have hc := h.rest k (Nat.le_refl _) hk
  refine ⟨h.below.setCell (Nat.le_refl _) _, fun j hj hl => ?_, fun j hj hl => ?_, fun j hj => ?_⟩
  · by_cases e : j = k
    · subst e; exact cs_same hc
    · rw [cs_other (by simp; first | done | omega)]; exact h.done j (by omega) hl
  · rw [cs_other (by simp; first | done | omega)]; exact h.rest j (by omega) hl
  · rw [World.frozen?_setCell]; exact h.free j hj
theorem Low.keep {w wr : World} {l : List UInt8} {k : Nat} (h : Low w wr l k) (hk : k < l.length) (hl : lowB (l.getD k 0) = l.getD k 0) : Low w wr l (k + 1) := by
  refine ⟨h.below, fun j hj hl' => ?_, fun j hj hl => h.rest j (by omega) hl, h.free⟩
  by_cases e : j = k
  · subst e; rw [hl]; exact h.rest j (Nat.le_refl _) hk
  · exact h.done j (by omega) hl'
theorem Low.over {w wr : World} {l : List UInt8} (h : Low w wr l l.length) (cap : Nat) : (convert 90 9 (.slice (some ⟨w.heap.size, 0, none⟩) l.length cap)).run Tryz.prog wr = .ok (.string ⟨(lower l).toArray⟩) wr := by
  have := run_convert_bytes_back (P := Tryz.prog) wr 90 9 5 ⟨w.heap.size, 0, none⟩ cap (lower l) Tryz.underlying90 Tryz.underlying5 Tryz.underlying9 (fun j hj => by
    rw [lower_length] at hj
    rw [add_none, Nat.zero_add, h.done j hj hj]
    simp [lower, hj])
  rwa [lower_length] at this
theorem low_eq (c : UInt8) : lowZ (c.toNat : Int) = (lowB c).toNat := by
  rw [lowB_toNat]
  unfold lowZ
  repeat' split
  all_goals omega

end Go.Proofs.YtdkcibafbdmajabGreatDoor.N

/- What is proved here: the contracts of Fold and Event, of names and of sieveref04. -/
namespace Go.Proofs.YtdkcibafbdmajabGreatDoor.N
open Go.RowKit C

theorem acc {w W W' : World} (h : Hid (Below w.heap.size w W)) (h' : Below W.heap.size W W') : Hid (Below w.heap.size w W') := h.out.trans (h'.mono h.out.size)
theorem toList_mk (l : List UInt8) : (⟨l.toArray⟩ : ByteArray).toList = l := by rw [Lib.toList_data]
theorem foldE (a b : List UInt8) (h : a.length ≠ b.length) : decide (lower a = lower b) = false := by
  rw [decide_eq_false_iff_not]
  intro e
  have := congrArg List.length e
  rw [lower_length, lower_length] at this
  exact h this
theorem beq_dec (a b : List UInt8) : (a == b) = decide (a = b) := by rw [Bool.eq_iff_iff]; simp

theorem lower_on : lower (⟨#[111, 110]⟩ : ByteArray).data.toList = [111, 110] := by decide +kernel
theorem event_eq (s : ByteArray) (h : 2 ≤ s.size) : eventN s.data.toList = decide (lower (s.data.toList.take 2) = [111, 110]) := by
  rw [← size_data] at h
  unfold eventN
  rw [beq_dec, decide_eq_true h]
  rfl
theorem event_no (s : ByteArray) (h : ¬ 2 ≤ s.size) : eventN s.data.toList = false := by
  rw [← size_data] at h
  unfold eventN
  rw [decide_eq_false h]
  rfl

end Go.Proofs.YtdkcibafbdmajabGreatDoor.N
