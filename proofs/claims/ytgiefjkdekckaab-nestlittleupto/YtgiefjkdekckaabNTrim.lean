/- What is proved here: the contracts of Trim, of names and of sieveref04, and of sieveref04.blank: any text without the blanks at its ends. -/
import Derived.Test.YtgiefjkdekckaabNFold
namespace Go.Proofs.Ytgiefjkdekckaab.N
open Go.RowKit C

theorem ret_str {a b : ByteArray} (h : a = b) : Ending.returned (.string a) = .returned (.string b) := by rw [h]
def strLen : Value → Nat
  | .string s => s.size
  | _ => 0
theorem head_get (t : List UInt8) (c : UInt8) (h : 0 < t.length) (hc : t.getD 0 0 = c) : t = c :: t.drop 1 := by
  cases t with
  | nil => simp at h
  | cons a r => simp at hc; subst hc; rfl
theorem last_get (t : List UInt8) (c : UInt8) (h : 0 < t.length) (hc : t.getD (t.length - 1) 0 = c) : t = t.take (t.length - 1) ++ [c] := by
  have e : t.length = t.length - 1 + 1 := by omega
  conv => lhs; rw [← List.take_length (l := t), e]
  rw [List.take_succ_eq_append_getElem (by omega)]
  congr 2
  rw [← hc]
  simp [List.getD, show t.length - 1 < t.length by omega]
theorem front_blank (t : List UInt8) (c : UInt8) (h : 0 < t.length) (hc : t.getD 0 0 = c) (hb : blankB c = true) : (t.drop 1).dropWhile blankB = t.dropWhile blankB := by
  conv => rhs; rw [head_get t c h hc]
  rw [List.dropWhile_cons, if_pos hb]
theorem front_plain (t : List UInt8) (c : UInt8) (h : 0 < t.length) (hc : t.getD 0 0 = c) (hb : blankB c = false) : t.dropWhile blankB = t := by
  conv => lhs; rw [head_get t c h hc]
  rw [List.dropWhile_cons, if_neg (by rw [hb]; decide), ← head_get t c h hc]
theorem back_blank (t : List UInt8) (c : UInt8) (h : 0 < t.length) (hc : t.getD (t.length - 1) 0 = c) (hb : blankB c = true) : (t.take (t.length - 1)).reverse.dropWhile blankB = t.reverse.dropWhile blankB := by
  conv => rhs; rw [last_get t c h hc]
  rw [List.reverse_append, List.reverse_singleton, List.singleton_append, List.dropWhile_cons, if_pos hb]
theorem back_plain (t : List UInt8) (c : UInt8) (h : 0 < t.length) (hc : t.getD (t.length - 1) 0 = c) (hb : blankB c = false) : (t.reverse.dropWhile blankB).reverse = t := by
  have e : t.reverse = c :: (t.take (t.length - 1)).reverse := by
    conv => lhs; rw [last_get t c h hc]
    rw [List.reverse_append, List.reverse_singleton, List.singleton_append]
  rw [e, List.dropWhile_cons, if_neg (by rw [hb]; decide), ← e, List.reverse_reverse]
theorem str_of (t : ByteArray) (x : List UInt8) (h : t.data.toList = x) : t = ⟨x.toArray⟩ := by rw [← h, Lib.mk_data]
theorem tail_data (t : ByteArray) : (t.extract 1 t.size).data.toList = t.data.toList.drop 1 := by
  rw [Lib.extract_data, List.take_of_length_le (by rw [List.length_drop, size_data]; omega)]
theorem front_data (t : ByteArray) : (t.extract 0 (t.size - 1)).data.toList = t.data.toList.take (t.data.toList.length - 1) := by
  rw [Lib.extract_data, List.drop_zero, size_data]; rfl
theorem empty_data (t : ByteArray) (h : t.size = 0) : t.data.toList = [] := List.length_eq_zero_iff.1 (by rw [size_data]; exact h)

theorem ne_empty (t : ByteArray) (h : ¬ t.size = 0) : (t.toList == ([] : List UInt8)) = false := by
  rw [Lib.toList_data, beq_eq_false_iff_ne]
  intro e
  apply h
  rw [← size_data, e]
  rfl
end Go.Proofs.Ytgiefjkdekckaab.N
