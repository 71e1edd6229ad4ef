/- What is proved here: laws and contracts of NTrim, NRFields, one behind the other (each says its own). -/
import Derived.Test.YtmlklbbfmggbfabDoorBun6
/- What is proved here: the contracts of Trim, of names and of sieveref04, and of sieveref04.blank: any text without the blanks at its ends. -/
namespace Go.Proofs.YtmlklbbfmggbfabDoor.N
open Go.RowKit C

theorem ret_str {a b : ByteArray} (h : a = b) : Ending.returned (.string a) = .returned (.string b) := by rw [h]
def strLen : Value → Nat
  | .string s => s.size
  | _ => 0
theorem head_get (t : List UInt8) (c : UInt8) (h : 0 < t.length) (hc : t.getD 0 0 = c) : t = c :: t.drop 1 := by
  cases t with
  | nil => simp at h
  | cons a r => simp at hc; subst hc; rfl
theorem last_get (t : List UInt8) (c : UInt8) (h : 0 < t.length) (hc : t.getD (t.length - 1) 0 = c) : t = t.take (t.length - 1) ++ [c] := by
  have e : t.length = t.length - 1 + 1 := by omega
  conv => lhs; rw [← List.take_length (l := t), e]
  rw [List.take_succ_eq_append_getElem (by omega)]
  congr 2
  rw [← hc]
  simp [List.getD, show t.length - 1 < t.length by omega]
theorem front_blank (t : List UInt8) (c : UInt8) (h : 0 < t.length) (hc : t.getD 0 0 = c) (hb : blankB c = true) : (t.drop 1).dropWhile blankB = t.dropWhile blankB := by
  conv => rhs; rw [head_get t c h hc]
  rw [List.dropWhile_cons, if_pos hb]
theorem front_plain (t : List UInt8) (c : UInt8) (h : 0 < t.length) (hc : t.getD 0 0 = c) (hb : blankB c = false) : t.dropWhile blankB = t := by
  conv => lhs; rw [head_get t c h hc]
  rw [List.dropWhile_cons, if_neg (by rw [hb]; decide), ← head_get t c h hc]
theorem back_blank (t : List UInt8) (c : UInt8) (h : 0 < t.length) (hc : t.getD (t.length - 1) 0 = c) (hb : blankB c = true) : (t.take (t.length - 1)).reverse.dropWhile blankB = t.reverse.dropWhile blankB := by
  conv => rhs; rw [last_get t c h hc]
  rw [List.reverse_append, List.reverse_singleton, List.singleton_append, List.dropWhile_cons, if_pos hb]
theorem back_plain (t : List UInt8) (c : UInt8) (h : 0 < t.length) (hc : t.getD (t.length - 1) 0 = c) (hb : blankB c = false) : (t.reverse.dropWhile blankB).reverse = t := by
  have e : t.reverse = c :: (t.take (t.length - 1)).reverse := by
    conv => lhs; rw [last_get t c h hc]
    rw [List.reverse_append, List.reverse_singleton, List.singleton_append]
  rw [e, List.dropWhile_cons, if_neg (by rw [hb]; decide), ← e, List.reverse_reverse]
theorem str_of (t : ByteArray) (x : List UInt8) (h : t.data.toList = x) : t = ⟨x.toArray⟩ := by rw [← h, Lib.mk_data]
theorem tail_data (t : ByteArray) : (t.extract 1 t.size).data.toList = t.data.toList.drop 1 := by
  rw [Lib.extract_data, List.take_of_length_le (by rw [List.length_drop, size_data]; omega)]
theorem front_data (t : ByteArray) : (t.extract 0 (t.size - 1)).data.toList = t.data.toList.take (t.data.toList.length - 1) := by
  rw [Lib.extract_data, List.drop_zero, size_data]; rfl
theorem empty_data (t : ByteArray) (h : t.size = 0) : t.data.toList = [] := List.length_eq_zero_iff.1 (by rw [size_data]; exact h)

theorem ne_empty (t : ByteArray) (h : ¬ t.size = 0) : (t.toList == ([] : List UInt8)) = false := by
  rw [Lib.toList_data, beq_eq_false_iff_ne]
  intro e
  apply h
  rw [← size_data, e]
  rfl
end Go.Proofs.YtmlklbbfmggbfabDoor.N

/- What is proved here: the contracts of sieveref04.Fields and sieveref04.Collapse: the document's fields of a text. -/
namespace Go.Proofs.YtmlklbbfmggbfabDoor.N
open Go.RowKit C

theorem joinTail_snoc (r : List (List UInt8)) (x : List UInt8) : Lib.joinTail [32] (r ++ [x]) = Lib.joinTail [32] r ++ 32 :: x := by
  simp [Lib.joinTail]
theorem joined_snoc (ws : List (List UInt8)) (x : List UInt8) (h : ws ≠ []) : joined (ws ++ [x]) = joined ws ++ 32 :: x := by
  cases ws with
  | nil => exact absurd rfl h
  | cons y r =>
    unfold joined
    rw [List.cons_append, Lib.join_cons, Lib.join_cons, joinTail_snoc, List.append_assoc]
theorem joined_take_one (L : List (List UInt8)) (h : 0 < L.length) : joined (L.take 1) = L[0] := by
  cases L with
  | nil => simp at h
  | cons x r => exact joined_one x
theorem joined_take (L : List (List UInt8)) (k : Nat) (h : k < L.length) (h0 : 0 < k) : joined (L.take (k + 1)) = joined (L.take k) ++ 32 :: L[k] := by
  rw [List.take_succ_eq_append_getElem h, joined_snoc]
  intro e
  have := congrArg List.length e
  rw [List.length_take, List.length_nil] at this
  omega
theorem joined_take_le (L : List (List UInt8)) (k : Nat) : (joined (L.take k)).length ≤ Lib.lens L + L.length := by
  have h1 := joined_length (L.take k)
  have h2 := Lib.lens_take_le L k
  have : (L.take k).length ≤ L.length := by rw [List.length_take]; omega
  omega
theorem data_two (o f : ByteArray) : (o ++ (⟨#[32]⟩ : ByteArray) ++ f).data.toList = o.data.toList ++ 32 :: f.data.toList := by
  rw [ByteArray.data_append, ByteArray.data_append, Array.toList_append, Array.toList_append]
  simp
theorem data_first (o f : ByteArray) (h : o.data.toList = []) : (o ++ f).data.toList = f.data.toList := by
  rw [ByteArray.data_append, Array.toList_append, h, List.nil_append]

/-- Texts in memory. -/
def HasT (w : World) (v : Value) (L : List (List UInt8)) : Prop :=
  (L = [] ∧ ∃ a cap, v = .slice a 0 cap) ∨ ∃ b cap, v = .slice (some ⟨b, 0, none⟩) L.length cap ∧ L.length ≤ cap ∧ b < w.heap.size ∧ ∀ j (h : j < L.length), w.cell? ⟨b, j, none⟩ = some (.string ⟨L[j].toArray⟩)
theorem HasT.of {base : Nat} {w : World} {v : Value} {L : List (List UInt8)} (h : OwnT base w v L) : HasT w v L := by
  by_cases h0 : L.length = 0
  · obtain ⟨a, c, rfl⟩ := owns_slice h
    exact .inl ⟨List.length_eq_zero_iff.1 h0, a, c, by rw [h0]⟩
  · rcases h.2 with ⟨rfl, e0⟩ | ⟨g, cap, cur, rfl, hb, hg, hcap, _⟩
    · omega
    · refine .inr ⟨g, cap, rfl, hcap, lt_of_block hg, fun j hj => ?_⟩
      rw [World.ownsRow.cellAt h j (by omega)]
      simp [svs, hj]
theorem HasT.below {A B : World} {v : Value} {L : List (List UInt8)} (h : HasT A v L) (hb : Below A.heap.size A B) : HasT B v L := by
  rcases h with h | ⟨b, cap, h1, h2, h3, h4⟩
  · exact .inl h
  · exact .inr ⟨b, cap, h1, h2, Nat.lt_of_lt_of_le h3 hb.size, fun j hj => (hb.cell (p := ⟨b, j, none⟩) h3).trans (h4 j hj)⟩
theorem HasT.slice {w : World} {v : Value} {L : List (List UInt8)} (h : HasT w v L) : ∃ a cap, v = .slice a L.length cap := by
  rcases h with ⟨rfl, a, c, h⟩ | ⟨b, cap, h, _⟩
  · exact ⟨a, c, h⟩
  · exact ⟨_, cap, h⟩
theorem HasT.at {w : World} {a : Option Addr} {n cap : Nat} {L : List (List UInt8)} (h : HasT w (.slice a n cap) L) (h0 : 0 < L.length) : ∃ b, a = some ⟨b, 0, none⟩ ∧ b < w.heap.size ∧ L.length ≤ cap ∧ ∀ j (h : j < L.length), w.cell? ⟨b, j, none⟩ = some (.string ⟨L[j].toArray⟩) := by
  rcases h with ⟨rfl, _⟩ | ⟨b, c, h1, h2, h3, h4⟩
  · simp at h0
  · simp only [Value.slice.injEq] at h1
    obtain ⟨rfl, rfl, rfl⟩ := h1
    exact ⟨b, rfl, h3, h2, h4⟩

end Go.Proofs.YtmlklbbfmggbfabDoor.N
