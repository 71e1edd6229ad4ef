/- What is proved here: the calls of a scanner of package markup: New, ready, Put, End, Text; of one that is made, one that is over, one that no call made. -/
import Derived.Test.YtckhnkkmcgbabaaDoorKStep
namespace Go.Proofs.YtckhnkkmcgbabaaDoor.K
open Go.RowKit Go.Shelf Go.Proofs.YtckhnkkmcgbabaaDoor.U

theorem ScAt.cell0 {W : World} {a : Nat} {q : Int} {bs : List UInt8} (h : ScAt W a q bs) : W.cell? ⟨a, 0, none⟩ = some (.int .i64 q) := by obtain ⟨v, hb, _⟩ := h; rw [cell_blk hb]; rfl
theorem ScAt.frozen0 {W : World} {a : Nat} {q : Int} {bs : List UInt8} (h : ScAt W a q bs) : W.frozen? ⟨a, 0, none⟩ = false := by obtain ⟨v, hb, _⟩ := h; exact frozen_blk hb 0
/-- What New leaves. -/
theorem scat_new (w : World) (q : Int) : ScAt (w.alloc (.cells #[.int .i64 q, .slice none 0 0] 45)) w.heap.size q [] :=
  ⟨_, World.alloc_heap_new w _, World.ownsRow_nil _ _ _ _⟩
set_option maxRecDepth 100000 in
set_option maxHeartbeats 1000000 in
/-- **New** of a kind that there is. -/
theorem new_calls (kind : Int) (w : World) (h0 : 0 ≤ kind) (h2 : kind ≤ 2) :
    Calls Tryd.prog 13 #[.int .i64 kind] w fun e W' => e = .returned (.tuple #[.pointer (some ⟨w.heap.size, 0, none⟩), .int .i64 0]) ∧ ScAt W' w.heap.size (start kind : Nat) [] ∧ Below w.heap.size w W' := by
  have hk : kind = 0 ∨ kind = 1 ∨ kind = 2 := by omega
  rcases hk with rfl | rfl | rfl
  all_goals
    go_enter Tryd.func13, Tryd.ntmps13
    go_wp2
    go_ret2
    exact ⟨rfl, scat_new w _, (Below.refl _ w).alloc (Nat.le_refl _) _⟩
set_option maxRecDepth 100000 in
set_option maxHeartbeats 1000000 in
/-- **New** of any other. -/
theorem new_arg (kind : Int) (w : World) (h : kind < 0 ∨ 2 < kind) :
    Calls Tryd.prog 13 #[.int .i64 kind] w fun e W' => e = .returned (.tuple #[.pointer none, .int .i64 1]) ∧ W' = w := by
  have e0 : (kind == 0) = false := by simp; omega
  have e1 : (kind == 1) = false := by simp; omega
  have e2 : (kind == 2) = false := by simp; omega
  go_enter Tryd.func13, Tryd.ntmps13
  go_wp2
  go_ret2
  exact ⟨rfl, rfl⟩

set_option maxRecDepth 100000 in
set_option maxHeartbeats 1000000 in
theorem ready_calls (a : Nat) (q : Nat) (bs : List UInt8) (w : World) (hq : isQ q) (h9 : q ≠ 9) (hS : ScAt w a (q : Nat) bs) :
    Calls Tryd.prog 28 #[.pointer (some ⟨a, 0, none⟩)] w fun e W' => e = .returned (.int .i64 0) ∧ W' = w := by
  have c0 := hS.cell0
  have t0 : ((q : Int) == 0) = false := by unfold isQ at hq; simp; omega
  have t9 : ((q : Int) == 9) = false := by simp; omega
  clear hS
  go_enter Tryd.func28, Tryd.ntmps28
  go_wp2
  go_ret
  exact ⟨rfl, rfl⟩
set_option maxRecDepth 100000 in
set_option maxHeartbeats 1000000 in
theorem ready_over (a : Nat) (bs : List UInt8) (w : World) (hS : ScAt w a 9 bs) :
    Calls Tryd.prog 28 #[.pointer (some ⟨a, 0, none⟩)] w fun e W' => e = .returned (.int .i64 3) ∧ W' = w := by
  have c0 := hS.cell0
  clear hS
  go_enter Tryd.func28, Tryd.ntmps28
  go_wp2
  go_ret
  exact ⟨rfl, rfl⟩
set_option maxRecDepth 100000 in
set_option maxHeartbeats 1000000 in
theorem ready_zero (a : Nat) (bs : List UInt8) (w : World) (hS : ScAt w a 0 bs) :
    Calls Tryd.prog 28 #[.pointer (some ⟨a, 0, none⟩)] w fun e W' => e = .returned (.int .i64 2) ∧ W' = w := by
  have c0 := hS.cell0
  clear hS
  go_enter Tryd.func28, Tryd.ntmps28
  go_wp2
  go_ret
  exact ⟨rfl, rfl⟩
set_option maxRecDepth 100000 in
set_option maxHeartbeats 1000000 in
theorem ready_nil (w : World) :
    Calls Tryd.prog 28 #[.pointer none] w fun e W' => e = .returned (.int .i64 2) ∧ W' = w := by
  go_enter Tryd.func28, Tryd.ntmps28
  go_wp2
  go_ret
  exact ⟨rfl, rfl⟩

set_option maxRecDepth 100000 in
set_option maxHeartbeats 1000000 in
/-- **Put** of a rune into a scanner that is made and not over. -/
theorem put_calls (a q : Nat) (bs : List UInt8) (r : Int) (w : World) (hq : isQ q) (h9 : q ≠ 9) (hS : ScAt w a (q : Nat) bs) (hl : bs.length ≤ 70368744177600) (hr : -2147483648 ≤ r ∧ r ≤ 2147483647) :
    Calls Tryd.prog 14 #[.pointer (some ⟨a, 0, none⟩), .int .i32 r] w fun e W' => e = .returned (.tuple #[.bool (decide (dl q (cl r) = 9)), .int .i64 0]) ∧ ScAt W' a (dl q (cl r) : Nat) (bs ++ encs (says q r)) ∧ Below a w W' ∧ Kept a w W' := by
  have HR : Hid (Calls Tryd.prog 28 #[.pointer (some ⟨a, 0, none⟩)] w fun e W' => e = .returned (.int .i64 0) ∧ W' = w) := ready_calls a q bs w hq h9 hS
  have HC : Hid (Calls Tryd.prog 29 #[.pointer (some ⟨a, 0, none⟩), .int .i32 r] w (StepEnd w a bs (dl q (cl r)) (says q r))) := step_calls a q bs r w hq h9 hS hl hr
  obtain ⟨q2, hq2⟩ : ∃ q2, dl q (cl r) = q2 := ⟨_, rfl⟩
  obtain ⟨zs2, hzs2⟩ : ∃ zs2, says q r = zs2 := ⟨_, rfl⟩
  rw [hq2, hzs2] at HC
  rw [hq2, hzs2]
  have hb9 : ((q2 : Int) == 9) = decide (q2 = 9) := by
    by_cases h : q2 = 9
    · subst h; rfl
    · simp [h]; omega
  clear hS hq2 hzs2
  go_enter Tryd.func14, Tryd.ntmps14
  go_wp2_with (first
    | (go_at_call 28
       refine HR.out.mono ?_
       rintro e w1 ⟨rfl, rfl⟩)
    | (go_at_call 29
       refine HC.out.mono ?_
       rintro e w2 ⟨rfl, ⟨p, hS2⟩, hB2, hK2⟩
       have c2 := hS2.cell0
       have f2 := hS2.frozen0))
  go_ret2
  exact ⟨rfl, hS2.state _, hB2.setCell (p := ⟨a, 0, none⟩) (Nat.le_refl _) _, hK2.setCell ⟨a, 0, none⟩ rfl _⟩
set_option maxRecDepth 100000 in
set_option maxHeartbeats 1000000 in
/-- **Put** into one that may not be fed. -/
theorem put_refused (p : Value) (k r : Int) (w : World) (hk : k ≠ 0) (h : Calls Tryd.prog 28 #[p] w fun e W' => e = .returned (.int .i64 k) ∧ W' = w) :
    Calls Tryd.prog 14 #[p, .int .i32 r] w fun e W' => e = .returned (.tuple #[.bool false, .int .i64 k]) ∧ W' = w := by
  have HR : Hid (Calls Tryd.prog 28 #[p] w fun e W' => e = .returned (.int .i64 k) ∧ W' = w) := h
  have t : (k == 0) = false := by simpa using hk
  clear h
  go_enter Tryd.func14, Tryd.ntmps14
  go_wp2_with (
    go_at_call 28
    refine HR.out.mono ?_
    rintro e w1 ⟨rfl, rfl⟩)
  go_ret2
  exact ⟨rfl, rfl⟩
set_option maxRecDepth 100000 in
set_option maxHeartbeats 1000000 in
/-- **End** of one that is made and not over. -/
theorem end_calls (a q : Nat) (bs : List UInt8) (w : World) (hq : isQ q) (h9 : q ≠ 9) (hS : ScAt w a (q : Nat) bs) :
    Calls Tryd.prog 17 #[.pointer (some ⟨a, 0, none⟩)] w fun e W' => e = .returned (.int .i64 0) ∧ ScAt W' a 9 bs ∧ Below a w W' ∧ Kept a w W' := by
  have HR : Hid (Calls Tryd.prog 28 #[.pointer (some ⟨a, 0, none⟩)] w fun e W' => e = .returned (.int .i64 0) ∧ W' = w) := ready_calls a q bs w hq h9 hS
  have c0 := hS.cell0
  have f0 := hS.frozen0
  have HS : Hid (ScAt w a (q : Nat) bs) := hS
  clear hS
  go_enter Tryd.func17, Tryd.ntmps17
  go_wp2_with (
    go_at_call 28
    refine HR.out.mono ?_
    rintro e w1 ⟨rfl, hw⟩
    obtain rfl : w = w1 := hw.symm)
  go_ret
  exact ⟨rfl, HS.out.state 9, (Below.refl a w).setCell (p := ⟨a, 0, none⟩) (Nat.le_refl _) _, (Lib.OthersKept.refl _ _ w).setCell ⟨a, 0, none⟩ rfl _⟩
set_option maxRecDepth 100000 in
set_option maxHeartbeats 1000000 in
/-- **End** of one that may not be ended. -/
theorem end_refused (p : Value) (k : Int) (w : World) (hk : k ≠ 0) (h : Calls Tryd.prog 28 #[p] w fun e W' => e = .returned (.int .i64 k) ∧ W' = w) :
    Calls Tryd.prog 17 #[p] w fun e W' => e = .returned (.int .i64 k) ∧ W' = w := by
  have HR : Hid (Calls Tryd.prog 28 #[p] w fun e W' => e = .returned (.int .i64 k) ∧ W' = w) := h
  have t : (k == 0) = false := by simpa using hk
  clear h
  go_enter Tryd.func17, Tryd.ntmps17
  go_wp2_with (
    go_at_call 28
    refine HR.out.mono ?_
    rintro e w1 ⟨rfl, rfl⟩)
  go_ret
  exact ⟨rfl, rfl⟩
set_option maxRecDepth 100000 in
set_option maxHeartbeats 1000000 in
/-- **Text.** -/
theorem text_of (a : Nat) (q : Int) (bs : List UInt8) (w : World) (hS : ScAt w a q bs) :
    Calls Tryd.prog 16 #[.pointer (some ⟨a, 0, none⟩)] w fun e W' => e = .returned (.string ⟨bs.toArray⟩) ∧ W' = w := by
  obtain ⟨v, hb, hown⟩ := hS
  have c1 : w.cell? ⟨a, 1, none⟩ = some v := by rw [cell_blk hb]; rfl
  have hcv := conv_bytes (hasB_owns hown).1
  obtain ⟨al, cl, rfl⟩ := owns_slice hown
  clear hb hown
  go_enter Tryd.func16, Tryd.ntmps16
  go_wp2
  go_ret
  exact ⟨rfl, rfl⟩
set_option maxRecDepth 100000 in
set_option maxHeartbeats 1000000 in
theorem text_nil (w : World) :
    Calls Tryd.prog 16 #[.pointer none] w fun e W' => e = .returned (.string ⟨#[]⟩) ∧ W' = w := by
  go_enter Tryd.func16, Tryd.ntmps16
  go_wp2
  go_ret
  exact ⟨rfl, rfl⟩
end Go.Proofs.YtckhnkkmcgbabaaDoor.K
