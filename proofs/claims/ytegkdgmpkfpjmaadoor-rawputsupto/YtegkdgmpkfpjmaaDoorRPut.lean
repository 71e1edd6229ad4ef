/- What is proved here: the calls of a scanner of package raw: ready, Put, Take, Held, Ended, Rune, End; of one that is made, one that is over, one that no call made. -/
import Derived.Test.YtegkdgmpkfpjmaaDoorRStep
import Derived.Test.YtegkdgmpkfpjmaaDoorRWMath
namespace Go.Proofs.YtegkdgmpkfpjmaaDoor.R
open Go.RowKit Go.Shelf Go.Proofs.YtegkdgmpkfpjmaaDoor.U Go.Proofs.YtegkdgmpkfpjmaaDoor.N

theorem ret_is {u v : Value} (h : v = u) : Ending.returned u = .returned v := by rw [h]

set_option maxRecDepth 100000 in
set_option maxHeartbeats 1000000 in
theorem ready_calls (g cap : Nat) (nm : List Int) (s : St) (w : World) (hS : ScAt w g cap nm s) (h1 : 1 ≤ s.p) (h5 : s.p ≤ 5) :
    Calls Tryd.prog 37 #[.pointer (some ⟨g + 1, 0, none⟩)] w fun e W' => e = .returned (.int .i64 0) ∧ W' = w := by
  have c0 := hS.c0
  have t0 : ((s.p : Int) == 0) = false := by simp; omega
  have t6 : ((s.p : Int) == 6) = false := by simp; omega
  have t7 : ((s.p : Int) == 7) = false := by simp; omega
  clear hS
  go_enter Tryd.func37, Tryd.ntmps37
  go_wp2
  go_ret
  exact ⟨rfl, rfl⟩
set_option maxRecDepth 100000 in
set_option maxHeartbeats 1000000 in
theorem ready_over (g cap : Nat) (nm : List Int) (s : St) (w : World) (hS : ScAt w g cap nm s) (h : s.p = 6 ∨ s.p = 7) :
    Calls Tryd.prog 37 #[.pointer (some ⟨g + 1, 0, none⟩)] w fun e W' => e = .returned (.int .i64 3) ∧ W' = w := by
  have c0 := hS.c0
  clear hS
  rcases h with h | h
  all_goals
    rw [h] at c0
    go_enter Tryd.func37, Tryd.ntmps37
    go_wp2
    go_ret
    exact ⟨rfl, rfl⟩
set_option maxRecDepth 100000 in
set_option maxHeartbeats 1000000 in
theorem ready_zero (a : Nat) (w : World) (c0 : w.cell? ⟨a, 0, none⟩ = some (.int .i64 0)) :
    Calls Tryd.prog 37 #[.pointer (some ⟨a, 0, none⟩)] w fun e W' => e = .returned (.int .i64 2) ∧ W' = w := by
  go_enter Tryd.func37, Tryd.ntmps37
  go_wp2
  go_ret
  exact ⟨rfl, rfl⟩
set_option maxRecDepth 100000 in
set_option maxHeartbeats 1000000 in
theorem ready_nil (w : World) :
    Calls Tryd.prog 37 #[.pointer none] w fun e W' => e = .returned (.int .i64 2) ∧ W' = w := by
  go_enter Tryd.func37, Tryd.ntmps37
  go_wp2
  go_ret
  exact ⟨rfl, rfl⟩


set_option maxRecDepth 100000 in
set_option maxHeartbeats 1000000 in
/-- **Put** of a rune into a scanner that is made and not over. -/
theorem put_calls (g cap : Nat) (nm : List Int) (s : St) (r : Int) (w : World) (hS : ScAt w g cap nm s) (hl : Fits s) (hr : InR r) (hk : Ok nm s) (hm : nm.length ≤ 1000) :
    Calls Tryd.prog 20 #[.pointer (some ⟨g + 1, 0, none⟩), .int .i32 r] w fun e W' => e = .returned (.tuple #[.bool (decide ((s.step nm r).p = 6)), .int .i64 0]) ∧ ScAt W' g cap nm (s.step nm r) ∧ Leaves g w W' := by
  obtain ⟨k1, k2, k3, k4⟩ := hk
  have HR : Hid (Calls Tryd.prog 37 #[.pointer (some ⟨g + 1, 0, none⟩)] w fun e W' => e = .returned (.int .i64 0) ∧ W' = w) := ready_calls g cap nm s w hS k1 k2
  have HC : Hid (Calls Tryd.prog 38 #[.pointer (some ⟨g + 1, 0, none⟩), .int .i32 r] w (StepEnd w g cap nm (s.step nm r))) := step_calls g cap nm s r w hS hl hr k3 k4 hm k1 k2
  obtain ⟨s2, hs2⟩ : ∃ s2, s.step nm r = s2 := ⟨_, rfl⟩
  rw [hs2] at HC ⊢
  have hb6 : ((s2.p : Int) == 6) = decide (s2.p = 6) := by
    by_cases h : s2.p = 6
    · rw [h]; rfl
    · simp [h]; omega
  clear hS hs2
  go_enter Tryd.func20, Tryd.ntmps20
  go_wp2_with fail
  (go_at_call 37; refine HR.out.mono ?_; rintro e w1 ⟨rfl, hw1⟩; have hx1 := hw1.symm; subst hx1)
  go_wp2_with fail
  (go_at_call 38; refine HC.out.mono ?_; rintro e w2 ⟨rfl, ⟨b, hS2⟩, hB2⟩)
  have f1 := hS2.f1
  have c1 := hS2.c1
  have H3 := hid_of (hS2.begun s2.b)
  have c0 : (w2.setCell ⟨g + 1, 1, none⟩ (.int .i64 s2.b)).cell? ⟨g + 1, 0, none⟩ = some (.int .i64 s2.p) := H3.out.c0
  clear hS2
  go_wp2_with fail
  go_ret2
  exact ⟨rfl, H3.out, leaves_set hB2 1 _⟩
set_option maxRecDepth 100000 in
set_option maxHeartbeats 1000000 in
/-- **Put** into one that may not be fed. -/
theorem put_refused (p : Value) (k r : Int) (w : World) (hk : k ≠ 0) (h : Calls Tryd.prog 37 #[p] w fun e W' => e = .returned (.int .i64 k) ∧ W' = w) :
    Calls Tryd.prog 20 #[p, .int .i32 r] w fun e W' => e = .returned (.tuple #[.bool false, .int .i64 k]) ∧ W' = w := by
  have HR : Hid (Calls Tryd.prog 37 #[p] w fun e W' => e = .returned (.int .i64 k) ∧ W' = w) := h
  have t : (k == 0) = false := by simpa using hk
  clear h
  go_enter Tryd.func20, Tryd.ntmps20
  go_wp2_with (go_at_call 37; refine HR.out.mono ?_; rintro e w1 ⟨rfl, rfl⟩)
  go_ret2
  exact ⟨rfl, rfl⟩
set_option maxRecDepth 100000 in
set_option maxHeartbeats 1000000 in
/-- **End** of one that is made and not over. -/
theorem end_calls (g cap : Nat) (nm : List Int) (s : St) (w : World) (hS : ScAt w g cap nm s) (hl : Fits s) (k1 : 1 ≤ s.p) (k2 : s.p ≤ 5) :
    Calls Tryd.prog 26 #[.pointer (some ⟨g + 1, 0, none⟩)] w fun e W' => e = .returned (.int .i64 0) ∧ ScAt W' g cap nm { s with o := s.o ++ s.h, h := [], p := 7 } ∧ Leaves g w W' := by
  have HR : Hid (Calls Tryd.prog 37 #[.pointer (some ⟨g + 1, 0, none⟩)] w fun e W' => e = .returned (.int .i64 0) ∧ W' = w) := ready_calls g cap nm s w hS k1 k2
  have HC : Hid (Calls Tryd.prog 40 #[.pointer (some ⟨g + 1, 0, none⟩)] w fun e W' => e = .returned (.tuple #[]) ∧ ScAt W' g cap nm { s with o := s.o ++ s.h, h := [] } ∧ Leaves g w W') := release_calls g cap nm s w hS (by unfold Fits at hl; omega)
  clear hS
  go_enter Tryd.func26, Tryd.ntmps26
  go_wp2_with fail
  (go_at_call 37; refine HR.out.mono ?_; rintro e w1 ⟨rfl, hw1⟩; have hx1 := hw1.symm; subst hx1)
  go_wp2_with fail
  (go_at_call 40; refine HC.out.mono ?_; rintro e w2 ⟨rfl, hS2, hB2⟩)
  have f0 := hS2.f0
  have c0 := hS2.c0
  have H3 := hid_of (hS2.part 7)
  clear hS2
  go_wp2_with fail
  go_ret
  exact ⟨rfl, H3.out, leaves_set hB2 0 _⟩
set_option maxRecDepth 100000 in
set_option maxHeartbeats 1000000 in
/-- **End** of one that may not be ended. -/
theorem end_refused (p : Value) (k : Int) (w : World) (hk : k ≠ 0) (h : Calls Tryd.prog 37 #[p] w fun e W' => e = .returned (.int .i64 k) ∧ W' = w) :
    Calls Tryd.prog 26 #[p] w fun e W' => e = .returned (.int .i64 k) ∧ W' = w := by
  have HR : Hid (Calls Tryd.prog 37 #[p] w fun e W' => e = .returned (.int .i64 k) ∧ W' = w) := h
  have t : (k == 0) = false := by simpa using hk
  clear h
  go_enter Tryd.func26, Tryd.ntmps26
  go_wp2_with (go_at_call 37; refine HR.out.mono ?_; rintro e w1 ⟨rfl, rfl⟩)
  go_ret
  exact ⟨rfl, rfl⟩
set_option maxRecDepth 100000 in
set_option maxHeartbeats 1000000 in
/-- **Take.** -/
theorem take_calls (g cap : Nat) (nm : List Int) (s : St) (w : World) (hS : ScAt w g cap nm s) :
    Calls Tryd.prog 25 #[.pointer (some ⟨g + 1, 0, none⟩)] w fun e W' => e = .returned (.string ⟨(encs s.o).toArray⟩) ∧ ScAt W' g cap nm { s with o := [] } ∧ Leaves g w W' := by
  obtain ⟨vs, vh, hV⟩ := hS
  have c4 : w.cell? ⟨g + 1, 4, none⟩ = some vs := hV.cell 4
  have f4 := hV.frozen 4
  have hcv := conv_bytes (hasB_owns hV.2.2.1).1
  have H3 := hid_of (hV.store 4 (.slice none 0 0) { s with o := [] } (.slice none 0 0) vh rfl (World.ownsRow_nil _ _ _ _) hV.2.2.2.1 hV.2.2.2.2)
  obtain ⟨al, cl, rfl⟩ := owns_slice hV.2.2.1
  clear hV
  go_enter Tryd.func25, Tryd.ntmps25
  go_wp2
  go_ret
  exact ⟨rfl, ⟨_, _, H3.out⟩, leaves_set (leaves_refl g w) 4 _⟩
set_option maxRecDepth 100000 in
set_option maxHeartbeats 1000000 in
/-- **Held.** -/
theorem held_calls (g cap : Nat) (nm : List Int) (s : St) (w : World) (hS : ScAt w g cap nm s) :
    Calls Tryd.prog 22 #[.pointer (some ⟨g + 1, 0, none⟩)] w fun e W' => e = .returned (.int .i64 s.h.length) ∧ W' = w := by
  obtain ⟨vs, vh, hV⟩ := hS
  have c5 : w.cell? ⟨g + 1, 5, none⟩ = some vh := hV.cell 5
  obtain ⟨al, cl, rfl⟩ := owns_slice hV.2.2.2.1
  clear hV
  go_enter Tryd.func22, Tryd.ntmps22
  go_wp2
  go_ret
  exact ⟨rfl, rfl⟩
set_option maxRecDepth 100000 in
set_option maxHeartbeats 1000000 in
/-- **Ended.** -/
theorem ended_calls (g cap : Nat) (nm : List Int) (s : St) (w : World) (hS : ScAt w g cap nm s) :
    Calls Tryd.prog 23 #[.pointer (some ⟨g + 1, 0, none⟩)] w fun e W' => e = .returned (.bool (decide (s.p = 6))) ∧ W' = w := by
  have c0 := hS.c0
  have hb6 : ((s.p : Int) == 6) = decide (s.p = 6) := by
    by_cases h : s.p = 6
    · rw [h]; rfl
    · simp [h]; omega
  clear hS
  go_enter Tryd.func23, Tryd.ntmps23
  go_wp2
  go_ret
  exact ⟨rfl, rfl⟩
set_option maxRecDepth 100000 in
set_option maxHeartbeats 1000000 in
/-- **Rune.** -/
theorem rune_calls (g cap : Nat) (nm : List Int) (s : St) (w : World) (hS : ScAt w g cap nm s) :
    Calls Tryd.prog 24 #[.pointer (some ⟨g + 1, 0, none⟩)] w fun e W' => e = .returned (.int .i32 s.e) ∧ W' = w := by
  obtain ⟨vs, vh, hV⟩ := hS
  have c6 : w.cell? ⟨g + 1, 6, none⟩ = some (.int .i32 s.e) := hV.cell 6
  clear hV
  go_enter Tryd.func24, Tryd.ntmps24
  go_wp2
  go_ret
  exact ⟨rfl, rfl⟩
end Go.Proofs.YtegkdgmpkfpjmaaDoor.R
