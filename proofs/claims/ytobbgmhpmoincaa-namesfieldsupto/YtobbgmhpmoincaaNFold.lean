/- What is proved here: the contracts of Fold and Event, of names and of sieveref04. -/
import Derived.Test.YtobbgmhpmoincaaNLower
namespace Go.Proofs.Ytobbgmhpmoincaa.N
open Go.RowKit C

theorem acc {w W W' : World} (h : Hid (Below w.heap.size w W)) (h' : Below W.heap.size W W') : Hid (Below w.heap.size w W') := h.out.trans (h'.mono h.out.size)
theorem toList_mk (l : List UInt8) : (⟨l.toArray⟩ : ByteArray).toList = l := by rw [Lib.toList_data]
theorem foldE (a b : List UInt8) (h : a.length ≠ b.length) : decide (lower a = lower b) = false := by
  rw [decide_eq_false_iff_not]
  intro e
  have := congrArg List.length e
  rw [lower_length, lower_length] at this
  exact h this
theorem beq_dec (a b : List UInt8) : (a == b) = decide (a = b) := by rw [Bool.eq_iff_iff]; simp

set_option maxRecDepth 100000 in
set_option maxHeartbeats 1000000 in
theorem fold_calls (s t : ByteArray) (w : World) (hs : s.size ≤ 9223372036854775807) (ht : t.size ≤ 9223372036854775807) :
    Calls Try.prog 35 #[.string s, .string t] w fun e w' => e = .returned (.bool (decide (lower s.data.toList = lower t.data.toList))) ∧ Below w.heap.size w w' := by
  have HS : Hid (s.data.toList.length = s.size) := size_data s
  have HT : Hid (t.data.toList.length = t.size) := size_data t
  go_enter Try.func35, Try.ntmps35
  by_cases h : s.size = t.size
  · have hq : ((s.size : Int) == (t.size : Int)) = true := by rw [h]; simp
    have H : Hid (s.size = t.size) := h
    clear h
    go_wp2_with fail
    refine (lower_calls s _ hs).mono ?_
    rintro e W1 ⟨rfl, hB1⟩
    have s1 := hB1.size
    go_wp2_with fail
    refine (lower_calls t _ ht).mono ?_
    rintro e W2 ⟨rfl, hB2⟩
    go_wp2
    all_goals go_ret
    all_goals refine ⟨ret_bool ?_, hB1.trans (hB2.mono s1)⟩
    all_goals rw [← beq_dec]
    all_goals try rw [toList_mk, toList_mk]
  · have hq : ((s.size : Int) == (t.size : Int)) = false := by rw [beq_eq_false_iff_ne]; omega
    go_wp2
    all_goals go_ret
    exact ⟨ret_bool (foldE _ _ (by have := HS.out; have := HT.out; omega)).symm, Below.refl _ _⟩

set_option maxRecDepth 100000 in
set_option maxHeartbeats 1000000 in
theorem rfold_calls (s t : ByteArray) (w : World) (hs : s.size ≤ 9223372036854775807) (ht : t.size ≤ 9223372036854775807) :
    Calls Try.prog 36 #[.string s, .string t] w fun e w' => e = .returned (.bool (decide (lower s.data.toList = lower t.data.toList))) ∧ Below w.heap.size w w' := by
  go_enter Try.func36, Try.ntmps36
  go_wp2_with fail
  refine (rlower_calls s _ hs).mono ?_
  rintro e W1 ⟨rfl, hB1⟩
  have s1 := hB1.size
  go_wp2_with fail
  refine (rlower_calls t _ ht).mono ?_
  rintro e W2 ⟨rfl, hB2⟩
  go_wp2
  all_goals go_ret
  all_goals refine ⟨ret_bool ?_, hB1.trans (hB2.mono s1)⟩
  all_goals rw [← beq_dec]
  all_goals try rw [toList_mk, toList_mk]

theorem lower_on : lower (⟨#[111, 110]⟩ : ByteArray).data.toList = [111, 110] := by decide +kernel
theorem event_eq (s : ByteArray) (h : 2 ≤ s.size) : eventN s.data.toList = decide (lower (s.data.toList.take 2) = [111, 110]) := by
  rw [← size_data] at h
  unfold eventN
  rw [beq_dec, decide_eq_true h]
  rfl
theorem event_no (s : ByteArray) (h : ¬ 2 ≤ s.size) : eventN s.data.toList = false := by
  rw [← size_data] at h
  unfold eventN
  rw [decide_eq_false h]
  rfl

set_option maxRecDepth 100000 in
set_option maxHeartbeats 1000000 in
theorem event_calls (s : ByteArray) (w : World) (hs : s.size ≤ 9223372036854775807) :
    Calls Try.prog 28 #[.string s] w fun e w' => e = .returned (.bool (eventN s.data.toList)) ∧ Below w.heap.size w w' := by
  go_enter Try.func28, Try.ntmps28
  by_cases h : 2 ≤ s.size
  · have HE : Hid (eventN s.data.toList = decide (lower (s.data.toList.take 2) = [111, 110])) := event_eq s h
    have HX : Hid ((s.extract 0 2).size ≤ 9223372036854775807) := by show _ ≤ _; rw [ByteArray.size_extract]; omega
    go_wp2_with (go_at_call 35; refine (fold_calls _ _ _ HX.out (by decide)).mono ?_; rintro e W1 ⟨rfl, hB1⟩)
    all_goals go_ret
    all_goals refine ⟨ret_bool ?_, hB1⟩
    all_goals rw [HE.out]
    all_goals first | rfl | rw [lower_on] | (rw [lower_on, Lib.extract_data, List.drop_zero])
  · have HE : Hid (eventN s.data.toList = false) := event_no s h
    go_wp2
    all_goals go_ret
    exact ⟨ret_bool HE.out.symm, Below.refl _ _⟩

set_option maxRecDepth 100000 in
set_option maxHeartbeats 1000000 in
theorem revent_calls (s : ByteArray) (w : World) (hs : s.size ≤ 9223372036854775807) :
    Calls Try.prog 29 #[.string s] w fun e w' => e = .returned (.bool (eventN s.data.toList)) ∧ Below w.heap.size w w' := by
  go_enter Try.func29, Try.ntmps29
  by_cases h : 2 ≤ s.size
  · have HE : Hid (eventN s.data.toList = decide (lower (s.data.toList.take 2) = [111, 110])) := event_eq s h
    have HX : Hid ((s.extract 0 2).size ≤ 9223372036854775807) := by show _ ≤ _; rw [ByteArray.size_extract]; omega
    go_wp2_with (go_at_call 34; refine (rlower_calls _ _ HX.out).mono ?_; rintro e W1 ⟨rfl, hB1⟩)
    all_goals go_ret
    all_goals refine ⟨ret_bool ?_, hB1⟩
    all_goals rw [HE.out, ← beq_dec]
    all_goals first | rfl | (rw [toList_mk]; rfl) | (rw [toList_mk, Lib.extract_data, List.drop_zero]; rfl)
  · have HE : Hid (eventN s.data.toList = false) := event_no s h
    go_wp2
    all_goals go_ret
    exact ⟨ret_bool HE.out.symm, Below.refl _ _⟩

end Go.Proofs.Ytobbgmhpmoincaa.N
