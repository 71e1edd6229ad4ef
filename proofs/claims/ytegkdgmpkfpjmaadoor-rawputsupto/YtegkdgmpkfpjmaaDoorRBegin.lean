/- What is proved here: begin of a scanner of package raw. -/
import Derived.Test.YtegkdgmpkfpjmaaDoorBun5
namespace Go.Proofs.YtegkdgmpkfpjmaaDoor.R
open Go.RowKit Go.Shelf Go.Proofs.YtegkdgmpkfpjmaaDoor.U Go.Proofs.YtegkdgmpkfpjmaaDoor.N

/-- What begin leaves: all but what is begun. -/
def BegEnd (w : World) (g cap : Nat) (nm : List Int) (s s' : St) (e : Ending) (W' : World) : Prop := e = .returned (.int .i64 (s'.b : Int)) ∧ ScAt W' g cap nm { s' with b := s.b } ∧ Leaves g w W'

set_option maxRecDepth 100000 in
set_option maxHeartbeats 1000000 in
theorem begin_a (g cap : Nat) (nm : List Int) (s : St) (r : Int) (w : World) (hS : ScAt w g cap nm s) (hl : s.o.length + s.h.length ≤ 1000000000000) (hr : InR r) (hp : s.p = 5) (h1 : r = 60) :
    Calls Tryd.prog 55 #[.pointer (some ⟨g + 1, 0, none⟩), .int .i32 r] w (BegEnd w g cap nm s { s.tell r 1 with n := 0 }) := by
  obtain ⟨vs, vh, hV⟩ := hS
  have c3 : w.cell? ⟨g + 1, 3, none⟩ = some (.int .i64 s.n) := hV.cell 3
  have f3 := hV.frozen 3
  have h1' := hV.letters 0
  have c0 : (w.setCell ⟨g + 1, 3, none⟩ (.int .i64 0)).cell? ⟨g + 1, 0, none⟩ = some (.int .i64 s.p) := h1'.cell 0
  have H1 : Hid (ScAt (w.setCell ⟨g + 1, 3, none⟩ (.int .i64 0)) g cap nm { s with n := 0 }) := ⟨vs, vh, h1'⟩
  have p5 : ((s.p : Int) == 5) = true := by simp; omega
  have r60 : (r == 60) = true := by simp; omega
  clear hV h1' hp h1
  go_enter Tryd.func55, Tryd.ntmps55
  go_wp2_with (go_at_call 60; refine (tell_calls g cap nm { s with n := 0 } r 1 _ H1.out hl hr).mono ?_; rintro e w1 ⟨rfl, hS1, hB1⟩)
  go_ret
  exact ⟨rfl, hS1, leaves_trans (leaves_set (leaves_refl g w) 3 _) hB1⟩
set_option maxRecDepth 100000 in
set_option maxHeartbeats 1000000 in
theorem begin_b5 (g cap : Nat) (nm : List Int) (s : St) (r : Int) (w : World) (hS : ScAt w g cap nm s) (hl : s.o.length + s.h.length ≤ 1000000000000) (hr : InR r) (hp : s.p = 5) (h1 : r = 45) :
    Calls Tryd.prog 55 #[.pointer (some ⟨g + 1, 0, none⟩), .int .i32 r] w (BegEnd w g cap nm s { s.tell r 6 with n := 0 }) := by
  obtain ⟨vs, vh, hV⟩ := hS
  have c3 : w.cell? ⟨g + 1, 3, none⟩ = some (.int .i64 s.n) := hV.cell 3
  have f3 := hV.frozen 3
  have h1' := hV.letters 0
  have c0 : (w.setCell ⟨g + 1, 3, none⟩ (.int .i64 0)).cell? ⟨g + 1, 0, none⟩ = some (.int .i64 s.p) := h1'.cell 0
  have H1 : Hid (ScAt (w.setCell ⟨g + 1, 3, none⟩ (.int .i64 0)) g cap nm { s with n := 0 }) := ⟨vs, vh, h1'⟩
  have p5 : ((s.p : Int) == 5) = true := by simp; omega
  have r60 : (r == 60) = false := by simp; omega
  have r45 : (r == 45) = true := by simp; omega
  clear hV h1' hp h1
  go_enter Tryd.func55, Tryd.ntmps55
  go_wp2_with (go_at_call 60; refine (tell_calls g cap nm { s with n := 0 } r 6 _ H1.out hl hr).mono ?_; rintro e w1 ⟨rfl, hS1, hB1⟩)
  go_ret
  exact ⟨rfl, hS1, leaves_trans (leaves_set (leaves_refl g w) 3 _) hB1⟩
set_option maxRecDepth 100000 in
set_option maxHeartbeats 1000000 in
theorem begin_b4 (g cap : Nat) (nm : List Int) (s : St) (r : Int) (w : World) (hS : ScAt w g cap nm s) (hl : s.o.length + s.h.length ≤ 1000000000000) (hr : InR r) (hp : s.p = 4) (h1 : r = 45) :
    Calls Tryd.prog 55 #[.pointer (some ⟨g + 1, 0, none⟩), .int .i32 r] w (BegEnd w g cap nm s { s.tell r 6 with n := 0 }) := by
  obtain ⟨vs, vh, hV⟩ := hS
  have c3 : w.cell? ⟨g + 1, 3, none⟩ = some (.int .i64 s.n) := hV.cell 3
  have f3 := hV.frozen 3
  have h1' := hV.letters 0
  have c0 : (w.setCell ⟨g + 1, 3, none⟩ (.int .i64 0)).cell? ⟨g + 1, 0, none⟩ = some (.int .i64 s.p) := h1'.cell 0
  have H1 : Hid (ScAt (w.setCell ⟨g + 1, 3, none⟩ (.int .i64 0)) g cap nm { s with n := 0 }) := ⟨vs, vh, h1'⟩
  have p5 : ((s.p : Int) == 5) = false := by simp; omega
  have p4 : ((s.p : Int) == 4) = true := by simp; omega
  have r45 : (r == 45) = true := by simp; omega
  clear hV h1' hp h1
  go_enter Tryd.func55, Tryd.ntmps55
  go_wp2_with (go_at_call 60; refine (tell_calls g cap nm { s with n := 0 } r 6 _ H1.out hl hr).mono ?_; rintro e w1 ⟨rfl, hS1, hB1⟩)
  go_ret
  exact ⟨rfl, hS1, leaves_trans (leaves_set (leaves_refl g w) 3 _) hB1⟩
set_option maxRecDepth 100000 in
set_option maxHeartbeats 1000000 in
theorem begin_c4 (g cap : Nat) (nm : List Int) (s : St) (r : Int) (w : World) (hS : ScAt w g cap nm s) (hl : s.o.length + s.h.length ≤ 1000000000000) (hr : InR r) (hp : s.p = 4) (h1 : r = 60) :
    Calls Tryd.prog 55 #[.pointer (some ⟨g + 1, 0, none⟩), .int .i32 r] w (BegEnd w g cap nm s { s.hold r 1 with n := 0 }) := by
  obtain ⟨vs, vh, hV⟩ := hS
  have c3 : w.cell? ⟨g + 1, 3, none⟩ = some (.int .i64 s.n) := hV.cell 3
  have f3 := hV.frozen 3
  have h1' := hV.letters 0
  have c0 : (w.setCell ⟨g + 1, 3, none⟩ (.int .i64 0)).cell? ⟨g + 1, 0, none⟩ = some (.int .i64 s.p) := h1'.cell 0
  have H1 : Hid (ScAt (w.setCell ⟨g + 1, 3, none⟩ (.int .i64 0)) g cap nm { s with n := 0 }) := ⟨vs, vh, h1'⟩
  have p5 : ((s.p : Int) == 5) = false := by simp; omega
  have p4 : ((s.p : Int) == 4) = true := by simp; omega
  have r45 : (r == 45) = false := by simp; omega
  have r60 : (r == 60) = true := by simp; omega
  clear hV h1' hp h1
  go_enter Tryd.func55, Tryd.ntmps55
  go_wp2_with (go_at_call 57; refine (hold_calls g cap nm { s with n := 0 } r 1 _ H1.out (by simp only; omega) hr).mono ?_; rintro e w1 ⟨rfl, hS1, hB1⟩)
  go_ret
  exact ⟨rfl, hS1, leaves_trans (leaves_set (leaves_refl g w) 3 _) hB1⟩
set_option maxRecDepth 100000 in
set_option maxHeartbeats 1000000 in
theorem begin_c3 (g cap : Nat) (nm : List Int) (s : St) (r : Int) (w : World) (hS : ScAt w g cap nm s) (hl : s.o.length + s.h.length ≤ 1000000000000) (hr : InR r) (hp : s.p = 3) (h1 : r = 60) :
    Calls Tryd.prog 55 #[.pointer (some ⟨g + 1, 0, none⟩), .int .i32 r] w (BegEnd w g cap nm s { s.hold r 1 with n := 0 }) := by
  obtain ⟨vs, vh, hV⟩ := hS
  have c3 : w.cell? ⟨g + 1, 3, none⟩ = some (.int .i64 s.n) := hV.cell 3
  have f3 := hV.frozen 3
  have h1' := hV.letters 0
  have c0 : (w.setCell ⟨g + 1, 3, none⟩ (.int .i64 0)).cell? ⟨g + 1, 0, none⟩ = some (.int .i64 s.p) := h1'.cell 0
  have H1 : Hid (ScAt (w.setCell ⟨g + 1, 3, none⟩ (.int .i64 0)) g cap nm { s with n := 0 }) := ⟨vs, vh, h1'⟩
  have p5 : ((s.p : Int) == 5) = false := by simp; omega
  have p4 : ((s.p : Int) == 4) = false := by simp; omega
  have p3 : ((s.p : Int) == 3) = true := by simp; omega
  have r60 : (r == 60) = true := by simp; omega
  clear hV h1' hp h1
  go_enter Tryd.func55, Tryd.ntmps55
  go_wp2_with (go_at_call 57; refine (hold_calls g cap nm { s with n := 0 } r 1 _ H1.out (by simp only; omega) hr).mono ?_; rintro e w1 ⟨rfl, hS1, hB1⟩)
  go_ret
  exact ⟨rfl, hS1, leaves_trans (leaves_set (leaves_refl g w) 3 _) hB1⟩
set_option maxRecDepth 100000 in
set_option maxHeartbeats 1000000 in
theorem begin_c2 (g cap : Nat) (nm : List Int) (s : St) (r : Int) (w : World) (hS : ScAt w g cap nm s) (hl : s.o.length + s.h.length ≤ 1000000000000) (hr : InR r) (hp : s.p = 2) (h1 : r = 60) :
    Calls Tryd.prog 55 #[.pointer (some ⟨g + 1, 0, none⟩), .int .i32 r] w (BegEnd w g cap nm s { s.hold r 1 with n := 0 }) := by
  obtain ⟨vs, vh, hV⟩ := hS
  have c3 : w.cell? ⟨g + 1, 3, none⟩ = some (.int .i64 s.n) := hV.cell 3
  have f3 := hV.frozen 3
  have h1' := hV.letters 0
  have c0 : (w.setCell ⟨g + 1, 3, none⟩ (.int .i64 0)).cell? ⟨g + 1, 0, none⟩ = some (.int .i64 s.p) := h1'.cell 0
  have H1 : Hid (ScAt (w.setCell ⟨g + 1, 3, none⟩ (.int .i64 0)) g cap nm { s with n := 0 }) := ⟨vs, vh, h1'⟩
  have p5 : ((s.p : Int) == 5) = false := by simp; omega
  have p4 : ((s.p : Int) == 4) = false := by simp; omega
  have p3 : ((s.p : Int) == 3) = false := by simp; omega
  have p2 : ((s.p : Int) == 2) = true := by simp; omega
  have r60 : (r == 60) = true := by simp; omega
  clear hV h1' hp h1
  go_enter Tryd.func55, Tryd.ntmps55
  go_wp2_with (go_at_call 57; refine (hold_calls g cap nm { s with n := 0 } r 1 _ H1.out (by simp only; omega) hr).mono ?_; rintro e w1 ⟨rfl, hS1, hB1⟩)
  go_ret
  exact ⟨rfl, hS1, leaves_trans (leaves_set (leaves_refl g w) 3 _) hB1⟩
set_option maxRecDepth 100000 in
set_option maxHeartbeats 1000000 in
theorem begin_d5 (g cap : Nat) (nm : List Int) (s : St) (r : Int) (w : World) (hS : ScAt w g cap nm s) (hl : s.o.length + s.h.length ≤ 1000000000000) (hr : InR r) (hp : s.p = 5) (h1 : r ≠ 60) (h2 : r ≠ 45) :
    Calls Tryd.prog 55 #[.pointer (some ⟨g + 1, 0, none⟩), .int .i32 r] w (BegEnd w g cap nm s { s.tell r 0 with n := 0 }) := by
  obtain ⟨vs, vh, hV⟩ := hS
  have c3 : w.cell? ⟨g + 1, 3, none⟩ = some (.int .i64 s.n) := hV.cell 3
  have f3 := hV.frozen 3
  have h1' := hV.letters 0
  have c0 : (w.setCell ⟨g + 1, 3, none⟩ (.int .i64 0)).cell? ⟨g + 1, 0, none⟩ = some (.int .i64 s.p) := h1'.cell 0
  have H1 : Hid (ScAt (w.setCell ⟨g + 1, 3, none⟩ (.int .i64 0)) g cap nm { s with n := 0 }) := ⟨vs, vh, h1'⟩
  have p5 : ((s.p : Int) == 5) = true := by simp; omega
  have r60 : (r == 60) = false := by simp; omega
  have r45 : (r == 45) = false := by simp; omega
  clear hV h1' hp h1 h2
  go_enter Tryd.func55, Tryd.ntmps55
  go_wp2_with (go_at_call 60; refine (tell_calls g cap nm { s with n := 0 } r 0 _ H1.out hl hr).mono ?_; rintro e w1 ⟨rfl, hS1, hB1⟩)
  go_ret
  exact ⟨rfl, hS1, leaves_trans (leaves_set (leaves_refl g w) 3 _) hB1⟩
set_option maxRecDepth 100000 in
set_option maxHeartbeats 1000000 in
theorem begin_d4 (g cap : Nat) (nm : List Int) (s : St) (r : Int) (w : World) (hS : ScAt w g cap nm s) (hl : s.o.length + s.h.length ≤ 1000000000000) (hr : InR r) (hp : s.p = 4) (h1 : r ≠ 60) (h2 : r ≠ 45) :
    Calls Tryd.prog 55 #[.pointer (some ⟨g + 1, 0, none⟩), .int .i32 r] w (BegEnd w g cap nm s { s.tell r 0 with n := 0 }) := by
  obtain ⟨vs, vh, hV⟩ := hS
  have c3 : w.cell? ⟨g + 1, 3, none⟩ = some (.int .i64 s.n) := hV.cell 3
  have f3 := hV.frozen 3
  have h1' := hV.letters 0
  have c0 : (w.setCell ⟨g + 1, 3, none⟩ (.int .i64 0)).cell? ⟨g + 1, 0, none⟩ = some (.int .i64 s.p) := h1'.cell 0
  have H1 : Hid (ScAt (w.setCell ⟨g + 1, 3, none⟩ (.int .i64 0)) g cap nm { s with n := 0 }) := ⟨vs, vh, h1'⟩
  have p5 : ((s.p : Int) == 5) = false := by simp; omega
  have p4 : ((s.p : Int) == 4) = true := by simp; omega
  have r60 : (r == 60) = false := by simp; omega
  have r45 : (r == 45) = false := by simp; omega
  clear hV h1' hp h1 h2
  go_enter Tryd.func55, Tryd.ntmps55
  go_wp2_with (go_at_call 60; refine (tell_calls g cap nm { s with n := 0 } r 0 _ H1.out hl hr).mono ?_; rintro e w1 ⟨rfl, hS1, hB1⟩)
  go_ret
  exact ⟨rfl, hS1, leaves_trans (leaves_set (leaves_refl g w) 3 _) hB1⟩
set_option maxRecDepth 100000 in
set_option maxHeartbeats 1000000 in
theorem begin_d3 (g cap : Nat) (nm : List Int) (s : St) (r : Int) (w : World) (hS : ScAt w g cap nm s) (hl : s.o.length + s.h.length ≤ 1000000000000) (hr : InR r) (hp : s.p = 3) (h1 : r ≠ 60) :
    Calls Tryd.prog 55 #[.pointer (some ⟨g + 1, 0, none⟩), .int .i32 r] w (BegEnd w g cap nm s { s.tell r 0 with n := 0 }) := by
  obtain ⟨vs, vh, hV⟩ := hS
  have c3 : w.cell? ⟨g + 1, 3, none⟩ = some (.int .i64 s.n) := hV.cell 3
  have f3 := hV.frozen 3
  have h1' := hV.letters 0
  have c0 : (w.setCell ⟨g + 1, 3, none⟩ (.int .i64 0)).cell? ⟨g + 1, 0, none⟩ = some (.int .i64 s.p) := h1'.cell 0
  have H1 : Hid (ScAt (w.setCell ⟨g + 1, 3, none⟩ (.int .i64 0)) g cap nm { s with n := 0 }) := ⟨vs, vh, h1'⟩
  have p5 : ((s.p : Int) == 5) = false := by simp; omega
  have p4 : ((s.p : Int) == 4) = false := by simp; omega
  have p3 : ((s.p : Int) == 3) = true := by simp; omega
  have r60 : (r == 60) = false := by simp; omega
  clear hV h1' hp h1
  go_enter Tryd.func55, Tryd.ntmps55
  go_wp2_with (go_at_call 60; refine (tell_calls g cap nm { s with n := 0 } r 0 _ H1.out hl hr).mono ?_; rintro e w1 ⟨rfl, hS1, hB1⟩)
  go_ret
  exact ⟨rfl, hS1, leaves_trans (leaves_set (leaves_refl g w) 3 _) hB1⟩
set_option maxRecDepth 100000 in
set_option maxHeartbeats 1000000 in
theorem begin_d2 (g cap : Nat) (nm : List Int) (s : St) (r : Int) (w : World) (hS : ScAt w g cap nm s) (hl : s.o.length + s.h.length ≤ 1000000000000) (hr : InR r) (hp : s.p = 2) (h1 : r ≠ 60) :
    Calls Tryd.prog 55 #[.pointer (some ⟨g + 1, 0, none⟩), .int .i32 r] w (BegEnd w g cap nm s { s.tell r 0 with n := 0 }) := by
  obtain ⟨vs, vh, hV⟩ := hS
  have c3 : w.cell? ⟨g + 1, 3, none⟩ = some (.int .i64 s.n) := hV.cell 3
  have f3 := hV.frozen 3
  have h1' := hV.letters 0
  have c0 : (w.setCell ⟨g + 1, 3, none⟩ (.int .i64 0)).cell? ⟨g + 1, 0, none⟩ = some (.int .i64 s.p) := h1'.cell 0
  have H1 : Hid (ScAt (w.setCell ⟨g + 1, 3, none⟩ (.int .i64 0)) g cap nm { s with n := 0 }) := ⟨vs, vh, h1'⟩
  have p5 : ((s.p : Int) == 5) = false := by simp; omega
  have p4 : ((s.p : Int) == 4) = false := by simp; omega
  have p3 : ((s.p : Int) == 3) = false := by simp; omega
  have p2 : ((s.p : Int) == 2) = true := by simp; omega
  have r60 : (r == 60) = false := by simp; omega
  clear hV h1' hp h1
  go_enter Tryd.func55, Tryd.ntmps55
  go_wp2_with (go_at_call 60; refine (tell_calls g cap nm { s with n := 0 } r 0 _ H1.out hl hr).mono ?_; rintro e w1 ⟨rfl, hS1, hB1⟩)
  go_ret
  exact ⟨rfl, hS1, leaves_trans (leaves_set (leaves_refl g w) 3 _) hB1⟩
set_option maxRecDepth 100000 in
set_option maxHeartbeats 1000000 in
theorem begin_d1 (g cap : Nat) (nm : List Int) (s : St) (r : Int) (w : World) (hS : ScAt w g cap nm s) (hl : s.o.length + s.h.length ≤ 1000000000000) (hr : InR r) (hp : s.p = 1) :
    Calls Tryd.prog 55 #[.pointer (some ⟨g + 1, 0, none⟩), .int .i32 r] w (BegEnd w g cap nm s { s.tell r 0 with n := 0 }) := by
  obtain ⟨vs, vh, hV⟩ := hS
  have c3 : w.cell? ⟨g + 1, 3, none⟩ = some (.int .i64 s.n) := hV.cell 3
  have f3 := hV.frozen 3
  have h1' := hV.letters 0
  have c0 : (w.setCell ⟨g + 1, 3, none⟩ (.int .i64 0)).cell? ⟨g + 1, 0, none⟩ = some (.int .i64 s.p) := h1'.cell 0
  have H1 : Hid (ScAt (w.setCell ⟨g + 1, 3, none⟩ (.int .i64 0)) g cap nm { s with n := 0 }) := ⟨vs, vh, h1'⟩
  have p5 : ((s.p : Int) == 5) = false := by simp; omega
  have p4 : ((s.p : Int) == 4) = false := by simp; omega
  have p3 : ((s.p : Int) == 3) = false := by simp; omega
  have p2 : ((s.p : Int) == 2) = false := by simp; omega
  clear hV h1' hp
  go_enter Tryd.func55, Tryd.ntmps55
  go_wp2_with (go_at_call 60; refine (tell_calls g cap nm { s with n := 0 } r 0 _ H1.out hl hr).mono ?_; rintro e w1 ⟨rfl, hS1, hB1⟩)
  go_ret
  exact ⟨rfl, hS1, leaves_trans (leaves_set (leaves_refl g w) 3 _) hB1⟩
/-- **begin.** -/
theorem begin_calls (g cap : Nat) (nm : List Int) (s : St) (r : Int) (w : World) (hS : ScAt w g cap nm s) (hl : s.o.length + s.h.length ≤ 1000000000000) (hr : InR r) (h1 : 1 ≤ s.p) (h5 : s.p ≤ 5) :
    Calls Tryd.prog 55 #[.pointer (some ⟨g + 1, 0, none⟩), .int .i32 r] w (BegEnd w g cap nm s (s.begin r)) := by
  unfold St.begin
  by_cases c1 : s.p = 5 ∧ r = 60
  · rw [if_pos c1]; exact begin_a g cap nm s r w hS hl hr c1.1 c1.2
  · rw [if_neg c1]
    by_cases c2 : (s.p = 5 ∨ s.p = 4) ∧ r = 45
    · rw [if_pos c2]
      rcases c2.1 with hp | hp
      · exact begin_b5 g cap nm s r w hS hl hr hp c2.2
      · exact begin_b4 g cap nm s r w hS hl hr hp c2.2
    · rw [if_neg c2]
      by_cases c3 : (s.p = 4 ∨ s.p = 3 ∨ s.p = 2) ∧ r = 60
      · rw [if_pos c3]
        rcases c3.1 with hp | hp | hp
        · exact begin_c4 g cap nm s r w hS hl hr hp c3.2
        · exact begin_c3 g cap nm s r w hS hl hr hp c3.2
        · exact begin_c2 g cap nm s r w hS hl hr hp c3.2
      · rw [if_neg c3]
        have hp : s.p = 1 ∨ s.p = 2 ∨ s.p = 3 ∨ s.p = 4 ∨ s.p = 5 := by omega
        rcases hp with hp | hp | hp | hp | hp
        · exact begin_d1 g cap nm s r w hS hl hr hp
        · exact begin_d2 g cap nm s r w hS hl hr hp (by omega)
        · exact begin_d3 g cap nm s r w hS hl hr hp (by omega)
        · exact begin_d4 g cap nm s r w hS hl hr hp (by omega) (by omega)
        · exact begin_d5 g cap nm s r w hS hl hr hp (by omega) (by omega)
end Go.Proofs.YtegkdgmpkfpjmaaDoor.R
