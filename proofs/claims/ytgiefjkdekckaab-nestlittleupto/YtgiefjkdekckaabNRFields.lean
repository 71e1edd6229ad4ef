/- What is proved here: the contracts of sieveref04.Fields and sieveref04.Collapse: the document's fields of a text. -/
import Derived.Test.YtgiefjkdekckaabNTrim
import Derived.Test.YtgiefjkdekckaabNAwake
namespace Go.Proofs.Ytgiefjkdekckaab.N
open Go.RowKit C

theorem joinTail_snoc (r : List (List UInt8)) (x : List UInt8) : Lib.joinTail [32] (r ++ [x]) = Lib.joinTail [32] r ++ 32 :: x := by
  simp [Lib.joinTail]
theorem joined_snoc (ws : List (List UInt8)) (x : List UInt8) (h : ws ≠ []) : joined (ws ++ [x]) = joined ws ++ 32 :: x := by
  cases ws with
  | nil => exact absurd rfl h
  | cons y r =>
    unfold joined
    rw [List.cons_append, Lib.join_cons, Lib.join_cons, joinTail_snoc, List.append_assoc]
theorem joined_take_one (L : List (List UInt8)) (h : 0 < L.length) : joined (L.take 1) = L[0] := by
  cases L with
  | nil => simp at h
  | cons x r => exact joined_one x
theorem joined_take (L : List (List UInt8)) (k : Nat) (h : k < L.length) (h0 : 0 < k) : joined (L.take (k + 1)) = joined (L.take k) ++ 32 :: L[k] := by
  rw [List.take_succ_eq_append_getElem h, joined_snoc]
  intro e
  have := congrArg List.length e
  rw [List.length_take, List.length_nil] at this
  omega
theorem joined_take_le (L : List (List UInt8)) (k : Nat) : (joined (L.take k)).length ≤ Lib.lens L + L.length := by
  have h1 := joined_length (L.take k)
  have h2 := Lib.lens_take_le L k
  have : (L.take k).length ≤ L.length := by rw [List.length_take]; omega
  omega
theorem data_two (o f : ByteArray) : (o ++ (⟨#[32]⟩ : ByteArray) ++ f).data.toList = o.data.toList ++ 32 :: f.data.toList := by
  rw [ByteArray.data_append, ByteArray.data_append, Array.toList_append, Array.toList_append]
  simp
theorem data_first (o f : ByteArray) (h : o.data.toList = []) : (o ++ f).data.toList = f.data.toList := by
  rw [ByteArray.data_append, Array.toList_append, h, List.nil_append]

/-- Texts in memory. -/
def HasT (w : World) (v : Value) (L : List (List UInt8)) : Prop :=
  (L = [] ∧ ∃ a cap, v = .slice a 0 cap) ∨ ∃ b cap, v = .slice (some ⟨b, 0, none⟩) L.length cap ∧ L.length ≤ cap ∧ b < w.heap.size ∧ ∀ j (h : j < L.length), w.cell? ⟨b, j, none⟩ = some (.string ⟨L[j].toArray⟩)
theorem HasT.of {base : Nat} {w : World} {v : Value} {L : List (List UInt8)} (h : OwnT base w v L) : HasT w v L := by
  by_cases h0 : L.length = 0
  · obtain ⟨a, c, rfl⟩ := owns_slice h
    exact .inl ⟨List.length_eq_zero_iff.1 h0, a, c, by rw [h0]⟩
  · rcases h.2 with ⟨rfl, e0⟩ | ⟨g, cap, cur, rfl, hb, hg, hcap, _⟩
    · omega
    · refine .inr ⟨g, cap, rfl, hcap, lt_of_block hg, fun j hj => ?_⟩
      rw [World.ownsRow.cellAt h j (by omega)]
      simp [svs, hj]
theorem HasT.below {A B : World} {v : Value} {L : List (List UInt8)} (h : HasT A v L) (hb : Below A.heap.size A B) : HasT B v L := by
  rcases h with h | ⟨b, cap, h1, h2, h3, h4⟩
  · exact .inl h
  · exact .inr ⟨b, cap, h1, h2, Nat.lt_of_lt_of_le h3 hb.size, fun j hj => (hb.cell (p := ⟨b, j, none⟩) h3).trans (h4 j hj)⟩
theorem HasT.slice {w : World} {v : Value} {L : List (List UInt8)} (h : HasT w v L) : ∃ a cap, v = .slice a L.length cap := by
  rcases h with ⟨rfl, a, c, h⟩ | ⟨b, cap, h, _⟩
  · exact ⟨a, c, h⟩
  · exact ⟨_, cap, h⟩
theorem HasT.at {w : World} {a : Option Addr} {n cap : Nat} {L : List (List UInt8)} (h : HasT w (.slice a n cap) L) (h0 : 0 < L.length) : ∃ b, a = some ⟨b, 0, none⟩ ∧ b < w.heap.size ∧ L.length ≤ cap ∧ ∀ j (h : j < L.length), w.cell? ⟨b, j, none⟩ = some (.string ⟨L[j].toArray⟩) := by
  rcases h with ⟨rfl, _⟩ | ⟨b, c, h1, h2, h3, h4⟩
  · simp at h0
  · simp only [Value.slice.injEq] at h1
    obtain ⟨rfl, rfl, rfl⟩ := h1
    exact ⟨b, rfl, h3, h2, h4⟩

end Go.Proofs.Ytgiefjkdekckaab.N
