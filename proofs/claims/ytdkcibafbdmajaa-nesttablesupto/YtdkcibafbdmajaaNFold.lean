/- What is proved here: the contracts of Fold and Event, of names and of sieveref04. -/
import Derived.Test.YtdkcibafbdmajaaNLower
namespace Go.Proofs.Ytdkcibafbdmajaa.N
open Go.RowKit C

theorem acc {w W W' : World} (h : Hid (Below w.heap.size w W)) (h' : Below W.heap.size W W') : Hid (Below w.heap.size w W') := h.out.trans (h'.mono h.out.size)
theorem toList_mk (l : List UInt8) : (⟨l.toArray⟩ : ByteArray).toList = l := by rw [Lib.toList_data]
theorem foldE (a b : List UInt8) (h : a.length ≠ b.length) : decide (lower a = lower b) = false := by
  rw [decide_eq_false_iff_not]
  intro e
  have := congrArg List.length e
  rw [lower_length, lower_length] at this
  exact h this
theorem beq_dec (a b : List UInt8) : (a == b) = decide (a = b) := by rw [Bool.eq_iff_iff]; simp

theorem lower_on : lower (⟨#[111, 110]⟩ : ByteArray).data.toList = [111, 110] := by decide +kernel
theorem event_eq (s : ByteArray) (h : 2 ≤ s.size) : eventN s.data.toList = decide (lower (s.data.toList.take 2) = [111, 110]) := by
  rw [← size_data] at h
  unfold eventN
  rw [beq_dec, decide_eq_true h]
  rfl
theorem event_no (s : ByteArray) (h : ¬ 2 ≤ s.size) : eventN s.data.toList = false := by
  rw [← size_data] at h
  unfold eventN
  rw [decide_eq_false h]
  rfl

end Go.Proofs.Ytdkcibafbdmajaa.N
