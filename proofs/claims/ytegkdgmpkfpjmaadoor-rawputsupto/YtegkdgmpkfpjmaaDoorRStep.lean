/- What is proved here: a step of a scanner of package raw: each way through it, and all of them together. (Written by wip/gen_rstep.py.) -/
import Derived.Test.YtegkdgmpkfpjmaaDoorBun5
import Derived.Test.YtegkdgmpkfpjmaaDoorRBegin
namespace Go.Proofs.YtegkdgmpkfpjmaaDoor.R
open Go.RowKit Go.Shelf Go.Proofs.YtegkdgmpkfpjmaaDoor.U Go.Proofs.YtegkdgmpkfpjmaaDoor.N

/-- What a step leaves. -/
def StepEnd (w : World) (g cap : Nat) (nm : List Int) (s' : St) (e : Ending) (W' : World) : Prop := e = .returned (.int .i64 (s'.b : Int)) ∧ (∃ b, ScAt W' g cap nm { s' with b := b }) ∧ Leaves g w W'
theorem hid_of {p : Prop} (h : p) : Hid p := h
/-- A scope whose label is gone to once, from one frame. -/
theorem wp_scope_once {P : Program} {a : Act} {w : World} {Q : Exit → Act → World → Prop} {c rest : Code} (l : Nat) (R : World → Prop) (hf : findLabel c l = some rest) (h : ∃ fr : Act, c.wp P (Exit.jump l (fun a' w' => a' = fr ∧ R w') Q) a w ∧ ∀ w8, R w8 → rest.wp P (Exit.jump l (fun a' w' => (a' = fr ∧ R w') ∧ 0 < 0) Q) fr w8) : (Code.scope c).wp P Q a w := by
  obtain ⟨fr, h1, h2⟩ := h
  exact wp_scope_jumps l (fun a' w' => a' = fr ∧ R w') (fun _ _ => 0) hf h1 (fun a w hh => by obtain ⟨rfl, hR⟩ := hh; exact h2 w hR)
/-- What is small enough. -/
abbrev Fits (s : St) : Prop := s.o.length + s.h.length ≤ 100000000000
theorem ScAt.c0 {W : World} {g cap : Nat} {nm : List Int} {s : St} (h : ScAt W g cap nm s) : W.cell? ⟨g + 1, 0, none⟩ = some (.int .i64 s.p) := by obtain ⟨_, _, h⟩ := h; exact h.cell 0
theorem ScAt.c1 {W : World} {g cap : Nat} {nm : List Int} {s : St} (h : ScAt W g cap nm s) : W.cell? ⟨g + 1, 1, none⟩ = some (.int .i64 s.b) := by obtain ⟨_, _, h⟩ := h; exact h.cell 1
theorem ScAt.f0 {W : World} {g cap : Nat} {nm : List Int} {s : St} (h : ScAt W g cap nm s) : W.frozen? ⟨g + 1, 0, none⟩ = false := by obtain ⟨_, _, h⟩ := h; exact h.frozen 0
theorem ScAt.f1 {W : World} {g cap : Nat} {nm : List Int} {s : St} (h : ScAt W g cap nm s) : W.frozen? ⟨g + 1, 1, none⟩ = false := by obtain ⟨_, _, h⟩ := h; exact h.frozen 1
theorem ScAt.part {W : World} {g cap : Nat} {nm : List Int} {s : St} (h : ScAt W g cap nm s) (p : Nat) : ScAt (W.setCell ⟨g + 1, 0, none⟩ (.int .i64 p)) g cap nm { s with p := p } := by obtain ⟨vs, vh, h⟩ := h; exact ⟨vs, vh, h.part p⟩
theorem ScAt.begun {W : World} {g cap : Nat} {nm : List Int} {s : St} (h : ScAt W g cap nm s) (b : Nat) : ScAt (W.setCell ⟨g + 1, 1, none⟩ (.int .i64 b)) g cap nm { s with b := b } := by obtain ⟨vs, vh, h⟩ := h; exact ⟨vs, vh, h.begun b⟩

set_option maxRecDepth 100000 in
set_option maxHeartbeats 2000000 in
theorem way_0 (g cap : Nat) (nm : List Int) (s : St) (r : Int) (w : World) (hS : ScAt w g cap nm s) (hl : Fits s) (hr : InR r) (hb : s.b = 0) (_hn : s.n ≤ nm.length) (_hm : nm.length ≤ 1000) (hp1 : 1 ≤ s.p) (hp5 : s.p ≤ 5) :
    Calls Tryd.prog 38 #[.pointer (some ⟨g + 1, 0, none⟩), .int .i32 r] w (StepEnd w g cap nm (s.begin r)) := by
  have c1 : w.cell? ⟨g + 1, 1, none⟩ = some (.int .i64 0) := by rw [hS.c1, hb]; rfl
  have c0 := hS.c0
  have f0 := hS.f0
  have f1 := hS.f1
  have HS : Hid (ScAt w g cap nm s) := hS
  have hgl := hS.lt
  unfold Fits at hl
  clear hS hb 
  go_enter Tryd.func38, Tryd.ntmps38
  go_wp2_with fail
  go_step3
  go_wp2_with fail
  go_step3
  go_wp2_with fail
  go_at_call 55
  refine (begin_calls g cap nm s r _ HS.out (by first | omega | (simp only; omega)) hr hp1 hp5).mono ?_
  rintro e w1 ⟨rfl, hS1, hB1⟩
  go_wp2_with fail
  rw [Exit.noGoto_ret]
  go_ret
  exact ⟨rfl, ⟨_, hS1⟩, (leaves_trans (leaves_refl g w) hB1)⟩
set_option maxRecDepth 100000 in
set_option maxHeartbeats 2000000 in
theorem way_2s (g cap : Nat) (nm : List Int) (s : St) (r : Int) (w : World) (hS : ScAt w g cap nm s) (hl : Fits s) (hr : InR r) (hb : s.b = 2) (hn : s.n ≤ nm.length) (hm : nm.length ≤ 1000) (_hp1 : 1 ≤ s.p) (_hp5 : s.p ≤ 5) (h1 : spellZ nm s.n r = true) :
    Calls Tryd.prog 38 #[.pointer (some ⟨g + 1, 0, none⟩), .int .i32 r] w (StepEnd w g cap nm ({ s.hold r 2 with n := s.n + 1 })) := by
  have c1 : w.cell? ⟨g + 1, 1, none⟩ = some (.int .i64 2) := by rw [hS.c1, hb]; rfl
  have c0 := hS.c0
  have f0 := hS.f0
  have f1 := hS.f1
  have HS : Hid (ScAt w g cap nm s) := hS
  have hgl := hS.lt
  unfold Fits at hl
  clear hS hb 
  have HSP : Hid (spellZ nm s.n r = true) := h1
  clear h1
  go_enter Tryd.func38, Tryd.ntmps38
  go_wp2_with fail
  go_step3
  go_wp2_with fail
  go_step3
  go_wp2_with fail
  go_at_call 56
  refine (spells_calls g cap nm s r _ HS.out hn (by omega) hr).mono ?_
  rintro e w1 ⟨rfl, hS1, hB1⟩
  rw [HSP.out] at hS1 ⊢
  simp only [if_true] at hS1
  have c01 := hS1.c0
  have c11 := hS1.c1
  have f01 := hS1.f0
  have f11 := hS1.f1
  have HS1 := hid_of hS1
  clear hS1
  go_wp2_with fail
  go_at_call 57
  refine (hold_calls g cap nm { s with n := s.n + 1 } r 2 _ HS1.out (by first | omega | (simp only; omega)) hr).mono ?_
  rintro e w2 ⟨rfl, hS2, hB2⟩
  go_wp2_with fail
  rw [Exit.noGoto_ret]
  go_ret
  exact ⟨rfl, ⟨_, hS2⟩, (leaves_trans (leaves_trans (leaves_refl g w) hB1) hB2)⟩
set_option maxRecDepth 100000 in
set_option maxHeartbeats 2000000 in
theorem way_2c (g cap : Nat) (nm : List Int) (s : St) (r : Int) (w : World) (hS : ScAt w g cap nm s) (_hl : Fits s) (hr : InR r) (hb : s.b = 2) (hn : s.n ≤ nm.length) (hm : nm.length ≤ 1000) (_hp1 : 1 ≤ s.p) (_hp5 : s.p ≤ 5) (h1 : spellZ nm s.n r = false) (h2 : closeZ nm s.n r = true) :
    Calls Tryd.prog 38 #[.pointer (some ⟨g + 1, 0, none⟩), .int .i32 r] w (StepEnd w g cap nm ({ s with h := [], e := r, p := 6, b := 0 })) := by
  have c1 : w.cell? ⟨g + 1, 1, none⟩ = some (.int .i64 2) := by rw [hS.c1, hb]; rfl
  have c0 := hS.c0
  have f0 := hS.f0
  have f1 := hS.f1
  have HS : Hid (ScAt w g cap nm s) := hS
  have hgl := hS.lt
  clear hS hb 
  have HSP : Hid (spellZ nm s.n r = false) := h1
  clear h1
  have HCL : Hid (closeZ nm s.n r = true) := h2
  clear h2
  go_enter Tryd.func38, Tryd.ntmps38
  go_wp2_with fail
  go_step3
  go_wp2_with fail
  go_step3
  go_wp2_with fail
  go_at_call 56
  refine (spells_calls g cap nm s r _ HS.out hn (by omega) hr).mono ?_
  rintro e w1 ⟨rfl, hS1, hB1⟩
  rw [HSP.out] at hS1 ⊢
  simp only [Bool.false_eq_true, if_false] at hS1
  have c01 := hS1.c0
  have c11 := hS1.c1
  have f01 := hS1.f0
  have f11 := hS1.f1
  have HS1 := hid_of hS1
  clear hS1
  go_wp2_with fail
  go_at_call 58
  refine (closes_calls g cap nm s r _ HS1.out).mono ?_
  rintro e w2 ⟨rfl, hS2, hB2⟩
  rw [HCL.out]
  have c02 := hS2.c0
  have c12 := hS2.c1
  have f02 := hS2.f0
  have f12 := hS2.f1
  have HS2 := hid_of hS2
  clear hS2
  go_wp2_with fail
  go_at_call 59
  refine (finish_calls g cap nm s r _ HS2.out).mono ?_
  rintro e w3 ⟨rfl, hS3, hB3⟩
  go_wp2_with fail
  rw [Exit.noGoto_ret]
  go_ret
  exact ⟨rfl, ⟨_, hS3⟩, (leaves_trans (leaves_trans (leaves_trans (leaves_refl g w) hB1) hB2) hB3)⟩
set_option maxRecDepth 100000 in
set_option maxHeartbeats 2000000 in
theorem way_2a (g cap : Nat) (nm : List Int) (s : St) (r : Int) (w : World) (hS : ScAt w g cap nm s) (hl : Fits s) (hr : InR r) (hb : s.b = 2) (hn : s.n ≤ nm.length) (hm : nm.length ≤ 1000) (hp1 : 1 ≤ s.p) (hp5 : s.p ≤ 5) (h1 : spellZ nm s.n r = false) (h2 : closeZ nm s.n r = false) :
    Calls Tryd.prog 38 #[.pointer (some ⟨g + 1, 0, none⟩), .int .i32 r] w (StepEnd w g cap nm (s.again r)) := by
  have c1 : w.cell? ⟨g + 1, 1, none⟩ = some (.int .i64 2) := by rw [hS.c1, hb]; rfl
  have c0 := hS.c0
  have f0 := hS.f0
  have f1 := hS.f1
  have HS : Hid (ScAt w g cap nm s) := hS
  have hgl := hS.lt
  unfold Fits at hl
  clear hS hb 
  have HSP : Hid (spellZ nm s.n r = false) := h1
  clear h1
  have HCL : Hid (closeZ nm s.n r = false) := h2
  clear h2
  go_enter Tryd.func38, Tryd.ntmps38
  go_wp2_with fail
  refine wp_scope_once 0 (fun w' => ScAt w' g cap nm s.freed ∧ Leaves g w w') rfl ?_
  apply Exists.intro
  apply And.intro
  · go_wp2_with fail
    go_step3
    go_wp2_with fail
    go_at_call 56
    refine (spells_calls g cap nm s r _ HS.out hn (by omega) hr).mono ?_
    rintro e w1 ⟨rfl, hS1, hB1⟩
    rw [HSP.out] at hS1 ⊢
    simp only [Bool.false_eq_true, if_false] at hS1
    have c01 := hS1.c0
    have c11 := hS1.c1
    have f01 := hS1.f0
    have f11 := hS1.f1
    have HS1 := hid_of hS1
    clear hS1
    go_wp2_with fail
    go_at_call 58
    refine (closes_calls g cap nm s r _ HS1.out).mono ?_
    rintro e w2 ⟨rfl, hS2, hB2⟩
    rw [HCL.out]
    have c02 := hS2.c0
    have c12 := hS2.c1
    have f02 := hS2.f0
    have f12 := hS2.f1
    have HS2 := hid_of hS2
    clear hS2
    go_wp2_with fail
    go_at_call 40
    refine (release_calls g cap nm s _ HS2.out (by first | omega | (simp only; omega))).mono ?_
    rintro e w3 ⟨rfl, hS3, hB3⟩
    have c03 := hS3.c0
    have c13 := hS3.c1
    have f03 := hS3.f0
    have f13 := hS3.f1
    have HS3 := hid_of hS3
    clear hS3
    go_wp2_with fail
    go_step3
    exact ⟨rfl, rfl, HS3.out.begun 0, leaves_set (leaves_trans (leaves_trans (leaves_trans (leaves_refl g w) hB1) hB2) hB3) 1 _⟩
  · rintro w8 ⟨hS8, hB8⟩
    clear c0 c1
    have c8 : w8.cell? ⟨g + 1, 1, none⟩ = some (.int .i64 0) := hS8.c1
    have HS8 : Hid (ScAt w8 g cap nm s.freed) := hS8
    clear hS8
    go_wp2_with fail
    go_at_call 55
    refine (begin_calls g cap nm s.freed r _ HS8.out (by simp only [St.freed, List.length_append, List.length_nil]; omega) hr hp1 hp5).mono ?_
    rintro e w9 ⟨rfl, hS9, hB9⟩
    go_wp2_with fail
    simp only [Exit.jump]
    go_ret
    exact ⟨rfl, ⟨_, hS9⟩, leaves_trans hB8 hB9⟩
set_option maxRecDepth 100000 in
set_option maxHeartbeats 2000000 in
theorem way_1a (g cap : Nat) (nm : List Int) (s : St) (r : Int) (w : World) (hS : ScAt w g cap nm s) (hl : Fits s) (hr : InR r) (hb : s.b = 1) (_hn : s.n ≤ nm.length) (_hm : nm.length ≤ 1000) (_hp1 : 1 ≤ s.p) (_hp5 : s.p ≤ 5) (h1 : r = 47) (h2 : s.p = 5) :
    Calls Tryd.prog 38 #[.pointer (some ⟨g + 1, 0, none⟩), .int .i32 r] w (StepEnd w g cap nm (s.tell r 3)) := by
  have c1 : w.cell? ⟨g + 1, 1, none⟩ = some (.int .i64 1) := by rw [hS.c1, hb]; rfl
  have c0 := hS.c0
  have f0 := hS.f0
  have f1 := hS.f1
  have HS : Hid (ScAt w g cap nm s) := hS
  have hgl := hS.lt
  unfold Fits at hl
  have r47 : (r == 47) = true := by simp; omega
  have p5 : ((s.p : Int) == 5) = true := by simp; omega
  clear hS hb h1 h2
  go_enter Tryd.func38, Tryd.ntmps38
  go_wp2_with fail
  go_step3
  go_wp2_with fail
  go_step3
  go_wp2_with fail
  go_at_call 60
  refine (tell_calls g cap nm s r 3 _ HS.out (by first | omega | (simp only; omega)) hr).mono ?_
  rintro e w1 ⟨rfl, hS1, hB1⟩
  go_wp2_with fail
  rw [Exit.noGoto_ret]
  go_ret
  exact ⟨rfl, ⟨_, hS1⟩, (leaves_trans (leaves_refl g w) hB1)⟩
set_option maxRecDepth 100000 in
set_option maxHeartbeats 2000000 in
theorem way_1b (g cap : Nat) (nm : List Int) (s : St) (r : Int) (w : World) (hS : ScAt w g cap nm s) (hl : Fits s) (hr : InR r) (hb : s.b = 1) (_hn : s.n ≤ nm.length) (_hm : nm.length ≤ 1000) (_hp1 : 1 ≤ s.p) (_hp5 : s.p ≤ 5) (h1 : r = 47) (h2 : s.p ≠ 5) :
    Calls Tryd.prog 38 #[.pointer (some ⟨g + 1, 0, none⟩), .int .i32 r] w (StepEnd w g cap nm (s.hold r 2)) := by
  have c1 : w.cell? ⟨g + 1, 1, none⟩ = some (.int .i64 1) := by rw [hS.c1, hb]; rfl
  have c0 := hS.c0
  have f0 := hS.f0
  have f1 := hS.f1
  have HS : Hid (ScAt w g cap nm s) := hS
  have hgl := hS.lt
  unfold Fits at hl
  have r47 : (r == 47) = true := by simp; omega
  have p5 : ((s.p : Int) == 5) = false := by simp; omega
  clear hS hb h1 h2
  go_enter Tryd.func38, Tryd.ntmps38
  go_wp2_with fail
  go_step3
  go_wp2_with fail
  go_step3
  go_wp2_with fail
  go_at_call 57
  refine (hold_calls g cap nm s r 2 _ HS.out (by first | omega | (simp only; omega)) hr).mono ?_
  rintro e w1 ⟨rfl, hS1, hB1⟩
  go_wp2_with fail
  rw [Exit.noGoto_ret]
  go_ret
  exact ⟨rfl, ⟨_, hS1⟩, (leaves_trans (leaves_refl g w) hB1)⟩
set_option maxRecDepth 100000 in
set_option maxHeartbeats 2000000 in
theorem way_1c (g cap : Nat) (nm : List Int) (s : St) (r : Int) (w : World) (hS : ScAt w g cap nm s) (hl : Fits s) (hr : InR r) (hb : s.b = 1) (_hn : s.n ≤ nm.length) (_hm : nm.length ≤ 1000) (_hp1 : 1 ≤ s.p) (_hp5 : s.p ≤ 5) (h1 : r = 33) (h2 : s.p = 3) :
    Calls Tryd.prog 38 #[.pointer (some ⟨g + 1, 0, none⟩), .int .i32 r] w (StepEnd w g cap nm (s.tell r 4)) := by
  have c1 : w.cell? ⟨g + 1, 1, none⟩ = some (.int .i64 1) := by rw [hS.c1, hb]; rfl
  have c0 := hS.c0
  have f0 := hS.f0
  have f1 := hS.f1
  have HS : Hid (ScAt w g cap nm s) := hS
  have hgl := hS.lt
  unfold Fits at hl
  have r47 : (r == 47) = false := by simp; omega
  have r33 : (r == 33) = true := by simp; omega
  have p3 : ((s.p : Int) == 3) = true := by simp; omega
  clear hS hb h1 h2
  go_enter Tryd.func38, Tryd.ntmps38
  go_wp2_with fail
  go_step3
  go_wp2_with fail
  go_step3
  go_wp2_with fail
  go_at_call 60
  refine (tell_calls g cap nm s r 4 _ HS.out (by first | omega | (simp only; omega)) hr).mono ?_
  rintro e w1 ⟨rfl, hS1, hB1⟩
  go_wp2_with fail
  rw [Exit.noGoto_ret]
  go_ret
  exact ⟨rfl, ⟨_, hS1⟩, (leaves_trans (leaves_refl g w) hB1)⟩
set_option maxRecDepth 100000 in
set_option maxHeartbeats 2000000 in
theorem way_1d0 (g cap : Nat) (nm : List Int) (s : St) (r : Int) (w : World) (hS : ScAt w g cap nm s) (hl : Fits s) (hr : InR r) (hb : s.b = 1) (_hn : s.n ≤ nm.length) (_hm : nm.length ≤ 1000) (hp1 : 1 ≤ s.p) (hp5 : s.p ≤ 5) (h1 : r ≠ 47) (h2 : r ≠ 33) (h4 : s.p ≠ 4) :
    Calls Tryd.prog 38 #[.pointer (some ⟨g + 1, 0, none⟩), .int .i32 r] w (StepEnd w g cap nm (s.again r)) := by
  have c1 : w.cell? ⟨g + 1, 1, none⟩ = some (.int .i64 1) := by rw [hS.c1, hb]; rfl
  have c0 := hS.c0
  have f0 := hS.f0
  have f1 := hS.f1
  have HS : Hid (ScAt w g cap nm s) := hS
  have hgl := hS.lt
  unfold Fits at hl
  have r47 : (r == 47) = false := by simp; omega
  have r33 : (r == 33) = false := by simp; omega
  have p4 : ((s.p : Int) == 4) = false := by simp; omega
  clear hS hb h1 h2 h4
  go_enter Tryd.func38, Tryd.ntmps38
  go_wp2_with fail
  refine wp_scope_once 0 (fun w' => ScAt w' g cap nm s.freed ∧ Leaves g w w') rfl ?_
  apply Exists.intro
  apply And.intro
  · go_wp2_with fail
    go_step3
    go_wp2_with fail
    go_at_call 40
    refine (release_calls g cap nm s _ HS.out (by first | omega | (simp only; omega))).mono ?_
    rintro e w1 ⟨rfl, hS1, hB1⟩
    have c01 := hS1.c0
    have c11 := hS1.c1
    have f01 := hS1.f0
    have f11 := hS1.f1
    have HS1 := hid_of hS1
    clear hS1
    go_wp2_with fail
    go_step3
    exact ⟨rfl, rfl, HS1.out.begun 0, leaves_set (leaves_trans (leaves_refl g w) hB1) 1 _⟩
  · rintro w8 ⟨hS8, hB8⟩
    clear c0 c1
    have c8 : w8.cell? ⟨g + 1, 1, none⟩ = some (.int .i64 0) := hS8.c1
    have HS8 : Hid (ScAt w8 g cap nm s.freed) := hS8
    clear hS8
    go_wp2_with fail
    go_at_call 55
    refine (begin_calls g cap nm s.freed r _ HS8.out (by simp only [St.freed, List.length_append, List.length_nil]; omega) hr hp1 hp5).mono ?_
    rintro e w9 ⟨rfl, hS9, hB9⟩
    go_wp2_with fail
    simp only [Exit.jump]
    go_ret
    exact ⟨rfl, ⟨_, hS9⟩, leaves_trans hB8 hB9⟩
set_option maxRecDepth 100000 in
set_option maxHeartbeats 2000000 in
theorem way_1s0 (g cap : Nat) (nm : List Int) (s : St) (r : Int) (w : World) (hS : ScAt w g cap nm s) (hl : Fits s) (hr : InR r) (hb : s.b = 1) (hn : s.n ≤ nm.length) (hm : nm.length ≤ 1000) (_hp1 : 1 ≤ s.p) (_hp5 : s.p ≤ 5) (h1 : r ≠ 47) (h2 : r ≠ 33) (h4 : s.p = 4) (h5 : spellZ nm s.n r = true) :
    Calls Tryd.prog 38 #[.pointer (some ⟨g + 1, 0, none⟩), .int .i32 r] w (StepEnd w g cap nm ({ s.tell r 3 with n := s.n + 1 })) := by
  have c1 : w.cell? ⟨g + 1, 1, none⟩ = some (.int .i64 1) := by rw [hS.c1, hb]; rfl
  have c0 := hS.c0
  have f0 := hS.f0
  have f1 := hS.f1
  have HS : Hid (ScAt w g cap nm s) := hS
  have hgl := hS.lt
  unfold Fits at hl
  have r47 : (r == 47) = false := by simp; omega
  have r33 : (r == 33) = false := by simp; omega
  have p4 : ((s.p : Int) == 4) = true := by simp; omega
  clear hS hb h1 h2 h4
  have HSP : Hid (spellZ nm s.n r = true) := h5
  clear h5
  go_enter Tryd.func38, Tryd.ntmps38
  go_wp2_with fail
  go_step3
  go_wp2_with fail
  go_step3
  go_wp2_with fail
  go_at_call 56
  refine (spells_calls g cap nm s r _ HS.out hn (by omega) hr).mono ?_
  rintro e w1 ⟨rfl, hS1, hB1⟩
  rw [HSP.out] at hS1 ⊢
  simp only [if_true] at hS1
  have c01 := hS1.c0
  have c11 := hS1.c1
  have f01 := hS1.f0
  have f11 := hS1.f1
  have HS1 := hid_of hS1
  clear hS1
  go_wp2_with fail
  go_at_call 60
  refine (tell_calls g cap nm { s with n := s.n + 1 } r 3 _ HS1.out (by first | omega | (simp only; omega)) hr).mono ?_
  rintro e w2 ⟨rfl, hS2, hB2⟩
  go_wp2_with fail
  rw [Exit.noGoto_ret]
  go_ret
  exact ⟨rfl, ⟨_, hS2⟩, (leaves_trans (leaves_trans (leaves_refl g w) hB1) hB2)⟩
set_option maxRecDepth 100000 in
set_option maxHeartbeats 2000000 in
theorem way_1k0 (g cap : Nat) (nm : List Int) (s : St) (r : Int) (w : World) (hS : ScAt w g cap nm s) (hl : Fits s) (hr : InR r) (hb : s.b = 1) (hn : s.n ≤ nm.length) (hm : nm.length ≤ 1000) (_hp1 : 1 ≤ s.p) (_hp5 : s.p ≤ 5) (h1 : r ≠ 47) (h2 : r ≠ 33) (h4 : s.p = 4) (h5 : spellZ nm s.n r = false) (h6 : closeZ nm s.n r = true) :
    Calls Tryd.prog 38 #[.pointer (some ⟨g + 1, 0, none⟩), .int .i32 r] w (StepEnd w g cap nm ({ s.tell r 0 with p := if s.p = 4 then 5 else 4 })) := by
  have c1 : w.cell? ⟨g + 1, 1, none⟩ = some (.int .i64 1) := by rw [hS.c1, hb]; rfl
  have c0 := hS.c0
  have f0 := hS.f0
  have f1 := hS.f1
  have HS : Hid (ScAt w g cap nm s) := hS
  have hgl := hS.lt
  unfold Fits at hl
  have r47 : (r == 47) = false := by simp; omega
  have r33 : (r == 33) = false := by simp; omega
  have p4 : ((s.p : Int) == 4) = true := by simp; omega
  clear hS hb h1 h2 h4
  have HSP : Hid (spellZ nm s.n r = false) := h5
  clear h5
  have HCL : Hid (closeZ nm s.n r = true) := h6
  clear h6
  obtain ⟨q, hq⟩ : ∃ q : Nat, (if s.p = 4 then 5 else 4) = q := ⟨_, rfl⟩
  rw [hq]
  have HO : Hid (∀ W, ScAt W g cap nm s → Calls Tryd.prog 61 #[.pointer (some ⟨g + 1, 0, none⟩)] W fun e W' => e = .returned (.int .i64 (q : Int)) ∧ W' = W) := fun W h => by
    have := other_calls g cap nm s W h
    rw [hq] at this
    exact this
  clear hq
  go_enter Tryd.func38, Tryd.ntmps38
  go_wp2_with fail
  go_step3
  go_wp2_with fail
  go_step3
  go_wp2_with fail
  go_at_call 56
  refine (spells_calls g cap nm s r _ HS.out hn (by omega) hr).mono ?_
  rintro e w1 ⟨rfl, hS1, hB1⟩
  rw [HSP.out] at hS1 ⊢
  simp only [Bool.false_eq_true, if_false] at hS1
  have c01 := hS1.c0
  have c11 := hS1.c1
  have f01 := hS1.f0
  have f11 := hS1.f1
  have HS1 := hid_of hS1
  clear hS1
  go_wp2_with fail
  go_at_call 58
  refine (closes_calls g cap nm s r _ HS1.out).mono ?_
  rintro e w2 ⟨rfl, hS2, hB2⟩
  rw [HCL.out]
  have c02 := hS2.c0
  have c12 := hS2.c1
  have f02 := hS2.f0
  have f12 := hS2.f1
  have HS2 := hid_of hS2
  clear hS2
  go_wp2_with fail
  go_at_call 61
  refine (HO.out _ HS2.out).mono ?_
  rintro e w3 ⟨rfl, hw3⟩
  have hx3 := hw3.symm
  subst hx3
  go_wp2_with fail
  go_at_call 60
  refine (tell_calls g cap nm { s with p := q } r 0 _ (HS2.out.part q) (by first | omega | (simp only; omega)) hr).mono ?_
  rintro e w3 ⟨rfl, hS3, hB3⟩
  go_wp2_with fail
  rw [Exit.noGoto_ret]
  go_ret
  exact ⟨rfl, ⟨_, hS3⟩, (leaves_trans (leaves_set (leaves_trans (leaves_trans (leaves_refl g w) hB1) hB2) 0 _) hB3)⟩
set_option maxRecDepth 100000 in
set_option maxHeartbeats 2000000 in
theorem way_1x0 (g cap : Nat) (nm : List Int) (s : St) (r : Int) (w : World) (hS : ScAt w g cap nm s) (hl : Fits s) (hr : InR r) (hb : s.b = 1) (hn : s.n ≤ nm.length) (hm : nm.length ≤ 1000) (hp1 : 1 ≤ s.p) (hp5 : s.p ≤ 5) (h1 : r ≠ 47) (h2 : r ≠ 33) (h4 : s.p = 4) (h5 : spellZ nm s.n r = false) (h6 : closeZ nm s.n r = false) :
    Calls Tryd.prog 38 #[.pointer (some ⟨g + 1, 0, none⟩), .int .i32 r] w (StepEnd w g cap nm (s.again r)) := by
  have c1 : w.cell? ⟨g + 1, 1, none⟩ = some (.int .i64 1) := by rw [hS.c1, hb]; rfl
  have c0 := hS.c0
  have f0 := hS.f0
  have f1 := hS.f1
  have HS : Hid (ScAt w g cap nm s) := hS
  have hgl := hS.lt
  unfold Fits at hl
  have r47 : (r == 47) = false := by simp; omega
  have r33 : (r == 33) = false := by simp; omega
  have p4 : ((s.p : Int) == 4) = true := by simp; omega
  clear hS hb h1 h2 h4
  have HSP : Hid (spellZ nm s.n r = false) := h5
  clear h5
  have HCL : Hid (closeZ nm s.n r = false) := h6
  clear h6
  go_enter Tryd.func38, Tryd.ntmps38
  go_wp2_with fail
  refine wp_scope_once 0 (fun w' => ScAt w' g cap nm s.freed ∧ Leaves g w w') rfl ?_
  apply Exists.intro
  apply And.intro
  · go_wp2_with fail
    go_step3
    go_wp2_with fail
    go_at_call 56
    refine (spells_calls g cap nm s r _ HS.out hn (by omega) hr).mono ?_
    rintro e w1 ⟨rfl, hS1, hB1⟩
    rw [HSP.out] at hS1 ⊢
    simp only [Bool.false_eq_true, if_false] at hS1
    have c01 := hS1.c0
    have c11 := hS1.c1
    have f01 := hS1.f0
    have f11 := hS1.f1
    have HS1 := hid_of hS1
    clear hS1
    go_wp2_with fail
    go_at_call 58
    refine (closes_calls g cap nm s r _ HS1.out).mono ?_
    rintro e w2 ⟨rfl, hS2, hB2⟩
    rw [HCL.out]
    have c02 := hS2.c0
    have c12 := hS2.c1
    have f02 := hS2.f0
    have f12 := hS2.f1
    have HS2 := hid_of hS2
    clear hS2
    go_wp2_with fail
    go_at_call 40
    refine (release_calls g cap nm s _ HS2.out (by first | omega | (simp only; omega))).mono ?_
    rintro e w3 ⟨rfl, hS3, hB3⟩
    have c03 := hS3.c0
    have c13 := hS3.c1
    have f03 := hS3.f0
    have f13 := hS3.f1
    have HS3 := hid_of hS3
    clear hS3
    go_wp2_with fail
    go_step3
    exact ⟨rfl, rfl, HS3.out.begun 0, leaves_set (leaves_trans (leaves_trans (leaves_trans (leaves_refl g w) hB1) hB2) hB3) 1 _⟩
  · rintro w8 ⟨hS8, hB8⟩
    clear c0 c1
    have c8 : w8.cell? ⟨g + 1, 1, none⟩ = some (.int .i64 0) := hS8.c1
    have HS8 : Hid (ScAt w8 g cap nm s.freed) := hS8
    clear hS8
    go_wp2_with fail
    go_at_call 55
    refine (begin_calls g cap nm s.freed r _ HS8.out (by simp only [St.freed, List.length_append, List.length_nil]; omega) hr hp1 hp5).mono ?_
    rintro e w9 ⟨rfl, hS9, hB9⟩
    go_wp2_with fail
    simp only [Exit.jump]
    go_ret
    exact ⟨rfl, ⟨_, hS9⟩, leaves_trans hB8 hB9⟩
set_option maxRecDepth 100000 in
set_option maxHeartbeats 2000000 in
theorem way_1d1 (g cap : Nat) (nm : List Int) (s : St) (r : Int) (w : World) (hS : ScAt w g cap nm s) (hl : Fits s) (hr : InR r) (hb : s.b = 1) (_hn : s.n ≤ nm.length) (_hm : nm.length ≤ 1000) (hp1 : 1 ≤ s.p) (hp5 : s.p ≤ 5) (h1 : r ≠ 47) (h2 : r = 33) (h3 : s.p ≠ 3) (h4 : s.p ≠ 4) :
    Calls Tryd.prog 38 #[.pointer (some ⟨g + 1, 0, none⟩), .int .i32 r] w (StepEnd w g cap nm (s.again r)) := by
  have c1 : w.cell? ⟨g + 1, 1, none⟩ = some (.int .i64 1) := by rw [hS.c1, hb]; rfl
  have c0 := hS.c0
  have f0 := hS.f0
  have f1 := hS.f1
  have HS : Hid (ScAt w g cap nm s) := hS
  have hgl := hS.lt
  unfold Fits at hl
  have r47 : (r == 47) = false := by simp; omega
  have r33 : (r == 33) = true := by simp; omega
  have p3 : ((s.p : Int) == 3) = false := by simp; omega
  have p4 : ((s.p : Int) == 4) = false := by simp; omega
  clear hS hb h1 h2 h3 h4
  go_enter Tryd.func38, Tryd.ntmps38
  go_wp2_with fail
  refine wp_scope_once 0 (fun w' => ScAt w' g cap nm s.freed ∧ Leaves g w w') rfl ?_
  apply Exists.intro
  apply And.intro
  · go_wp2_with fail
    go_step3
    go_wp2_with fail
    go_at_call 40
    refine (release_calls g cap nm s _ HS.out (by first | omega | (simp only; omega))).mono ?_
    rintro e w1 ⟨rfl, hS1, hB1⟩
    have c01 := hS1.c0
    have c11 := hS1.c1
    have f01 := hS1.f0
    have f11 := hS1.f1
    have HS1 := hid_of hS1
    clear hS1
    go_wp2_with fail
    go_step3
    exact ⟨rfl, rfl, HS1.out.begun 0, leaves_set (leaves_trans (leaves_refl g w) hB1) 1 _⟩
  · rintro w8 ⟨hS8, hB8⟩
    clear c0 c1
    have c8 : w8.cell? ⟨g + 1, 1, none⟩ = some (.int .i64 0) := hS8.c1
    have HS8 : Hid (ScAt w8 g cap nm s.freed) := hS8
    clear hS8
    go_wp2_with fail
    go_at_call 55
    refine (begin_calls g cap nm s.freed r _ HS8.out (by simp only [St.freed, List.length_append, List.length_nil]; omega) hr hp1 hp5).mono ?_
    rintro e w9 ⟨rfl, hS9, hB9⟩
    go_wp2_with fail
    simp only [Exit.jump]
    go_ret
    exact ⟨rfl, ⟨_, hS9⟩, leaves_trans hB8 hB9⟩
set_option maxRecDepth 100000 in
set_option maxHeartbeats 2000000 in
theorem way_1s1 (g cap : Nat) (nm : List Int) (s : St) (r : Int) (w : World) (hS : ScAt w g cap nm s) (hl : Fits s) (hr : InR r) (hb : s.b = 1) (hn : s.n ≤ nm.length) (hm : nm.length ≤ 1000) (_hp1 : 1 ≤ s.p) (_hp5 : s.p ≤ 5) (h1 : r ≠ 47) (h2 : r = 33) (_h3 : s.p ≠ 3) (h4 : s.p = 4) (h5 : spellZ nm s.n r = true) :
    Calls Tryd.prog 38 #[.pointer (some ⟨g + 1, 0, none⟩), .int .i32 r] w (StepEnd w g cap nm ({ s.tell r 3 with n := s.n + 1 })) := by
  have c1 : w.cell? ⟨g + 1, 1, none⟩ = some (.int .i64 1) := by rw [hS.c1, hb]; rfl
  have c0 := hS.c0
  have f0 := hS.f0
  have f1 := hS.f1
  have HS : Hid (ScAt w g cap nm s) := hS
  have hgl := hS.lt
  unfold Fits at hl
  have r47 : (r == 47) = false := by simp; omega
  have r33 : (r == 33) = true := by simp; omega
  have p3 : ((s.p : Int) == 3) = false := by simp; omega
  have p4 : ((s.p : Int) == 4) = true := by simp; omega
  clear hS hb h1 h2 _h3 h4
  have HSP : Hid (spellZ nm s.n r = true) := h5
  clear h5
  go_enter Tryd.func38, Tryd.ntmps38
  go_wp2_with fail
  go_step3
  go_wp2_with fail
  go_step3
  go_wp2_with fail
  go_at_call 56
  refine (spells_calls g cap nm s r _ HS.out hn (by omega) hr).mono ?_
  rintro e w1 ⟨rfl, hS1, hB1⟩
  rw [HSP.out] at hS1 ⊢
  simp only [if_true] at hS1
  have c01 := hS1.c0
  have c11 := hS1.c1
  have f01 := hS1.f0
  have f11 := hS1.f1
  have HS1 := hid_of hS1
  clear hS1
  go_wp2_with fail
  go_at_call 60
  refine (tell_calls g cap nm { s with n := s.n + 1 } r 3 _ HS1.out (by first | omega | (simp only; omega)) hr).mono ?_
  rintro e w2 ⟨rfl, hS2, hB2⟩
  go_wp2_with fail
  rw [Exit.noGoto_ret]
  go_ret
  exact ⟨rfl, ⟨_, hS2⟩, (leaves_trans (leaves_trans (leaves_refl g w) hB1) hB2)⟩
set_option maxRecDepth 100000 in
set_option maxHeartbeats 2000000 in
theorem way_1k1 (g cap : Nat) (nm : List Int) (s : St) (r : Int) (w : World) (hS : ScAt w g cap nm s) (hl : Fits s) (hr : InR r) (hb : s.b = 1) (hn : s.n ≤ nm.length) (hm : nm.length ≤ 1000) (_hp1 : 1 ≤ s.p) (_hp5 : s.p ≤ 5) (h1 : r ≠ 47) (h2 : r = 33) (_h3 : s.p ≠ 3) (h4 : s.p = 4) (h5 : spellZ nm s.n r = false) (h6 : closeZ nm s.n r = true) :
    Calls Tryd.prog 38 #[.pointer (some ⟨g + 1, 0, none⟩), .int .i32 r] w (StepEnd w g cap nm ({ s.tell r 0 with p := if s.p = 4 then 5 else 4 })) := by
  have c1 : w.cell? ⟨g + 1, 1, none⟩ = some (.int .i64 1) := by rw [hS.c1, hb]; rfl
  have c0 := hS.c0
  have f0 := hS.f0
  have f1 := hS.f1
  have HS : Hid (ScAt w g cap nm s) := hS
  have hgl := hS.lt
  unfold Fits at hl
  have r47 : (r == 47) = false := by simp; omega
  have r33 : (r == 33) = true := by simp; omega
  have p3 : ((s.p : Int) == 3) = false := by simp; omega
  have p4 : ((s.p : Int) == 4) = true := by simp; omega
  clear hS hb h1 h2 _h3 h4
  have HSP : Hid (spellZ nm s.n r = false) := h5
  clear h5
  have HCL : Hid (closeZ nm s.n r = true) := h6
  clear h6
  obtain ⟨q, hq⟩ : ∃ q : Nat, (if s.p = 4 then 5 else 4) = q := ⟨_, rfl⟩
  rw [hq]
  have HO : Hid (∀ W, ScAt W g cap nm s → Calls Tryd.prog 61 #[.pointer (some ⟨g + 1, 0, none⟩)] W fun e W' => e = .returned (.int .i64 (q : Int)) ∧ W' = W) := fun W h => by
    have := other_calls g cap nm s W h
    rw [hq] at this
    exact this
  clear hq
  go_enter Tryd.func38, Tryd.ntmps38
  go_wp2_with fail
  go_step3
  go_wp2_with fail
  go_step3
  go_wp2_with fail
  go_at_call 56
  refine (spells_calls g cap nm s r _ HS.out hn (by omega) hr).mono ?_
  rintro e w1 ⟨rfl, hS1, hB1⟩
  rw [HSP.out] at hS1 ⊢
  simp only [Bool.false_eq_true, if_false] at hS1
  have c01 := hS1.c0
  have c11 := hS1.c1
  have f01 := hS1.f0
  have f11 := hS1.f1
  have HS1 := hid_of hS1
  clear hS1
  go_wp2_with fail
  go_at_call 58
  refine (closes_calls g cap nm s r _ HS1.out).mono ?_
  rintro e w2 ⟨rfl, hS2, hB2⟩
  rw [HCL.out]
  have c02 := hS2.c0
  have c12 := hS2.c1
  have f02 := hS2.f0
  have f12 := hS2.f1
  have HS2 := hid_of hS2
  clear hS2
  go_wp2_with fail
  go_at_call 61
  refine (HO.out _ HS2.out).mono ?_
  rintro e w3 ⟨rfl, hw3⟩
  have hx3 := hw3.symm
  subst hx3
  go_wp2_with fail
  go_at_call 60
  refine (tell_calls g cap nm { s with p := q } r 0 _ (HS2.out.part q) (by first | omega | (simp only; omega)) hr).mono ?_
  rintro e w3 ⟨rfl, hS3, hB3⟩
  go_wp2_with fail
  rw [Exit.noGoto_ret]
  go_ret
  exact ⟨rfl, ⟨_, hS3⟩, (leaves_trans (leaves_set (leaves_trans (leaves_trans (leaves_refl g w) hB1) hB2) 0 _) hB3)⟩
set_option maxRecDepth 100000 in
set_option maxHeartbeats 2000000 in
theorem way_1x1 (g cap : Nat) (nm : List Int) (s : St) (r : Int) (w : World) (hS : ScAt w g cap nm s) (hl : Fits s) (hr : InR r) (hb : s.b = 1) (hn : s.n ≤ nm.length) (hm : nm.length ≤ 1000) (hp1 : 1 ≤ s.p) (hp5 : s.p ≤ 5) (h1 : r ≠ 47) (h2 : r = 33) (_h3 : s.p ≠ 3) (h4 : s.p = 4) (h5 : spellZ nm s.n r = false) (h6 : closeZ nm s.n r = false) :
    Calls Tryd.prog 38 #[.pointer (some ⟨g + 1, 0, none⟩), .int .i32 r] w (StepEnd w g cap nm (s.again r)) := by
  have c1 : w.cell? ⟨g + 1, 1, none⟩ = some (.int .i64 1) := by rw [hS.c1, hb]; rfl
  have c0 := hS.c0
  have f0 := hS.f0
  have f1 := hS.f1
  have HS : Hid (ScAt w g cap nm s) := hS
  have hgl := hS.lt
  unfold Fits at hl
  have r47 : (r == 47) = false := by simp; omega
  have r33 : (r == 33) = true := by simp; omega
  have p3 : ((s.p : Int) == 3) = false := by simp; omega
  have p4 : ((s.p : Int) == 4) = true := by simp; omega
  clear hS hb h1 h2 _h3 h4
  have HSP : Hid (spellZ nm s.n r = false) := h5
  clear h5
  have HCL : Hid (closeZ nm s.n r = false) := h6
  clear h6
  go_enter Tryd.func38, Tryd.ntmps38
  go_wp2_with fail
  refine wp_scope_once 0 (fun w' => ScAt w' g cap nm s.freed ∧ Leaves g w w') rfl ?_
  apply Exists.intro
  apply And.intro
  · go_wp2_with fail
    go_step3
    go_wp2_with fail
    go_at_call 56
    refine (spells_calls g cap nm s r _ HS.out hn (by omega) hr).mono ?_
    rintro e w1 ⟨rfl, hS1, hB1⟩
    rw [HSP.out] at hS1 ⊢
    simp only [Bool.false_eq_true, if_false] at hS1
    have c01 := hS1.c0
    have c11 := hS1.c1
    have f01 := hS1.f0
    have f11 := hS1.f1
    have HS1 := hid_of hS1
    clear hS1
    go_wp2_with fail
    go_at_call 58
    refine (closes_calls g cap nm s r _ HS1.out).mono ?_
    rintro e w2 ⟨rfl, hS2, hB2⟩
    rw [HCL.out]
    have c02 := hS2.c0
    have c12 := hS2.c1
    have f02 := hS2.f0
    have f12 := hS2.f1
    have HS2 := hid_of hS2
    clear hS2
    go_wp2_with fail
    go_at_call 40
    refine (release_calls g cap nm s _ HS2.out (by first | omega | (simp only; omega))).mono ?_
    rintro e w3 ⟨rfl, hS3, hB3⟩
    have c03 := hS3.c0
    have c13 := hS3.c1
    have f03 := hS3.f0
    have f13 := hS3.f1
    have HS3 := hid_of hS3
    clear hS3
    go_wp2_with fail
    go_step3
    exact ⟨rfl, rfl, HS3.out.begun 0, leaves_set (leaves_trans (leaves_trans (leaves_trans (leaves_refl g w) hB1) hB2) hB3) 1 _⟩
  · rintro w8 ⟨hS8, hB8⟩
    clear c0 c1
    have c8 : w8.cell? ⟨g + 1, 1, none⟩ = some (.int .i64 0) := hS8.c1
    have HS8 : Hid (ScAt w8 g cap nm s.freed) := hS8
    clear hS8
    go_wp2_with fail
    go_at_call 55
    refine (begin_calls g cap nm s.freed r _ HS8.out (by simp only [St.freed, List.length_append, List.length_nil]; omega) hr hp1 hp5).mono ?_
    rintro e w9 ⟨rfl, hS9, hB9⟩
    go_wp2_with fail
    simp only [Exit.jump]
    go_ret
    exact ⟨rfl, ⟨_, hS9⟩, leaves_trans hB8 hB9⟩
set_option maxRecDepth 100000 in
set_option maxHeartbeats 2000000 in
theorem way_3s (g cap : Nat) (nm : List Int) (s : St) (r : Int) (w : World) (hS : ScAt w g cap nm s) (hl : Fits s) (hr : InR r) (hb : s.b = 3) (hn : s.n ≤ nm.length) (hm : nm.length ≤ 1000) (_hp1 : 1 ≤ s.p) (_hp5 : s.p ≤ 5) (h5 : spellZ nm s.n r = true) :
    Calls Tryd.prog 38 #[.pointer (some ⟨g + 1, 0, none⟩), .int .i32 r] w (StepEnd w g cap nm ({ s.tell r 3 with n := s.n + 1 })) := by
  have c1 : w.cell? ⟨g + 1, 1, none⟩ = some (.int .i64 3) := by rw [hS.c1, hb]; rfl
  have c0 := hS.c0
  have f0 := hS.f0
  have f1 := hS.f1
  have HS : Hid (ScAt w g cap nm s) := hS
  have hgl := hS.lt
  unfold Fits at hl
  clear hS hb 
  have HSP : Hid (spellZ nm s.n r = true) := h5
  clear h5
  go_enter Tryd.func38, Tryd.ntmps38
  go_wp2_with fail
  go_step3
  go_wp2_with fail
  go_step3
  go_wp2_with fail
  go_at_call 56
  refine (spells_calls g cap nm s r _ HS.out hn (by omega) hr).mono ?_
  rintro e w1 ⟨rfl, hS1, hB1⟩
  rw [HSP.out] at hS1 ⊢
  simp only [if_true] at hS1
  have c01 := hS1.c0
  have c11 := hS1.c1
  have f01 := hS1.f0
  have f11 := hS1.f1
  have HS1 := hid_of hS1
  clear hS1
  go_wp2_with fail
  go_at_call 60
  refine (tell_calls g cap nm { s with n := s.n + 1 } r 3 _ HS1.out (by first | omega | (simp only; omega)) hr).mono ?_
  rintro e w2 ⟨rfl, hS2, hB2⟩
  go_wp2_with fail
  rw [Exit.noGoto_ret]
  go_ret
  exact ⟨rfl, ⟨_, hS2⟩, (leaves_trans (leaves_trans (leaves_refl g w) hB1) hB2)⟩
set_option maxRecDepth 100000 in
set_option maxHeartbeats 2000000 in
theorem way_3k (g cap : Nat) (nm : List Int) (s : St) (r : Int) (w : World) (hS : ScAt w g cap nm s) (hl : Fits s) (hr : InR r) (hb : s.b = 3) (hn : s.n ≤ nm.length) (hm : nm.length ≤ 1000) (_hp1 : 1 ≤ s.p) (_hp5 : s.p ≤ 5) (h5 : spellZ nm s.n r = false) (h6 : closeZ nm s.n r = true) :
    Calls Tryd.prog 38 #[.pointer (some ⟨g + 1, 0, none⟩), .int .i32 r] w (StepEnd w g cap nm ({ s.tell r 0 with p := if s.p = 4 then 5 else 4 })) := by
  have c1 : w.cell? ⟨g + 1, 1, none⟩ = some (.int .i64 3) := by rw [hS.c1, hb]; rfl
  have c0 := hS.c0
  have f0 := hS.f0
  have f1 := hS.f1
  have HS : Hid (ScAt w g cap nm s) := hS
  have hgl := hS.lt
  unfold Fits at hl
  clear hS hb 
  have HSP : Hid (spellZ nm s.n r = false) := h5
  clear h5
  have HCL : Hid (closeZ nm s.n r = true) := h6
  clear h6
  obtain ⟨q, hq⟩ : ∃ q : Nat, (if s.p = 4 then 5 else 4) = q := ⟨_, rfl⟩
  rw [hq]
  have HO : Hid (∀ W, ScAt W g cap nm s → Calls Tryd.prog 61 #[.pointer (some ⟨g + 1, 0, none⟩)] W fun e W' => e = .returned (.int .i64 (q : Int)) ∧ W' = W) := fun W h => by
    have := other_calls g cap nm s W h
    rw [hq] at this
    exact this
  clear hq
  go_enter Tryd.func38, Tryd.ntmps38
  go_wp2_with fail
  go_step3
  go_wp2_with fail
  go_step3
  go_wp2_with fail
  go_at_call 56
  refine (spells_calls g cap nm s r _ HS.out hn (by omega) hr).mono ?_
  rintro e w1 ⟨rfl, hS1, hB1⟩
  rw [HSP.out] at hS1 ⊢
  simp only [Bool.false_eq_true, if_false] at hS1
  have c01 := hS1.c0
  have c11 := hS1.c1
  have f01 := hS1.f0
  have f11 := hS1.f1
  have HS1 := hid_of hS1
  clear hS1
  go_wp2_with fail
  go_at_call 58
  refine (closes_calls g cap nm s r _ HS1.out).mono ?_
  rintro e w2 ⟨rfl, hS2, hB2⟩
  rw [HCL.out]
  have c02 := hS2.c0
  have c12 := hS2.c1
  have f02 := hS2.f0
  have f12 := hS2.f1
  have HS2 := hid_of hS2
  clear hS2
  go_wp2_with fail
  go_at_call 61
  refine (HO.out _ HS2.out).mono ?_
  rintro e w3 ⟨rfl, hw3⟩
  have hx3 := hw3.symm
  subst hx3
  go_wp2_with fail
  go_at_call 60
  refine (tell_calls g cap nm { s with p := q } r 0 _ (HS2.out.part q) (by first | omega | (simp only; omega)) hr).mono ?_
  rintro e w3 ⟨rfl, hS3, hB3⟩
  go_wp2_with fail
  rw [Exit.noGoto_ret]
  go_ret
  exact ⟨rfl, ⟨_, hS3⟩, (leaves_trans (leaves_set (leaves_trans (leaves_trans (leaves_refl g w) hB1) hB2) 0 _) hB3)⟩
set_option maxRecDepth 100000 in
set_option maxHeartbeats 2000000 in
theorem way_3x (g cap : Nat) (nm : List Int) (s : St) (r : Int) (w : World) (hS : ScAt w g cap nm s) (hl : Fits s) (hr : InR r) (hb : s.b = 3) (hn : s.n ≤ nm.length) (hm : nm.length ≤ 1000) (hp1 : 1 ≤ s.p) (hp5 : s.p ≤ 5) (h5 : spellZ nm s.n r = false) (h6 : closeZ nm s.n r = false) :
    Calls Tryd.prog 38 #[.pointer (some ⟨g + 1, 0, none⟩), .int .i32 r] w (StepEnd w g cap nm (s.again r)) := by
  have c1 : w.cell? ⟨g + 1, 1, none⟩ = some (.int .i64 3) := by rw [hS.c1, hb]; rfl
  have c0 := hS.c0
  have f0 := hS.f0
  have f1 := hS.f1
  have HS : Hid (ScAt w g cap nm s) := hS
  have hgl := hS.lt
  unfold Fits at hl
  clear hS hb 
  have HSP : Hid (spellZ nm s.n r = false) := h5
  clear h5
  have HCL : Hid (closeZ nm s.n r = false) := h6
  clear h6
  go_enter Tryd.func38, Tryd.ntmps38
  go_wp2_with fail
  refine wp_scope_once 0 (fun w' => ScAt w' g cap nm s.freed ∧ Leaves g w w') rfl ?_
  apply Exists.intro
  apply And.intro
  · go_wp2_with fail
    go_step3
    go_wp2_with fail
    go_at_call 56
    refine (spells_calls g cap nm s r _ HS.out hn (by omega) hr).mono ?_
    rintro e w1 ⟨rfl, hS1, hB1⟩
    rw [HSP.out] at hS1 ⊢
    simp only [Bool.false_eq_true, if_false] at hS1
    have c01 := hS1.c0
    have c11 := hS1.c1
    have f01 := hS1.f0
    have f11 := hS1.f1
    have HS1 := hid_of hS1
    clear hS1
    go_wp2_with fail
    go_at_call 58
    refine (closes_calls g cap nm s r _ HS1.out).mono ?_
    rintro e w2 ⟨rfl, hS2, hB2⟩
    rw [HCL.out]
    have c02 := hS2.c0
    have c12 := hS2.c1
    have f02 := hS2.f0
    have f12 := hS2.f1
    have HS2 := hid_of hS2
    clear hS2
    go_wp2_with fail
    go_at_call 40
    refine (release_calls g cap nm s _ HS2.out (by first | omega | (simp only; omega))).mono ?_
    rintro e w3 ⟨rfl, hS3, hB3⟩
    have c03 := hS3.c0
    have c13 := hS3.c1
    have f03 := hS3.f0
    have f13 := hS3.f1
    have HS3 := hid_of hS3
    clear hS3
    go_wp2_with fail
    go_step3
    exact ⟨rfl, rfl, HS3.out.begun 0, leaves_set (leaves_trans (leaves_trans (leaves_trans (leaves_refl g w) hB1) hB2) hB3) 1 _⟩
  · rintro w8 ⟨hS8, hB8⟩
    clear c0 c1
    have c8 : w8.cell? ⟨g + 1, 1, none⟩ = some (.int .i64 0) := hS8.c1
    have HS8 : Hid (ScAt w8 g cap nm s.freed) := hS8
    clear hS8
    go_wp2_with fail
    go_at_call 55
    refine (begin_calls g cap nm s.freed r _ HS8.out (by simp only [St.freed, List.length_append, List.length_nil]; omega) hr hp1 hp5).mono ?_
    rintro e w9 ⟨rfl, hS9, hB9⟩
    go_wp2_with fail
    simp only [Exit.jump]
    go_ret
    exact ⟨rfl, ⟨_, hS9⟩, leaves_trans hB8 hB9⟩
set_option maxRecDepth 100000 in
set_option maxHeartbeats 2000000 in
theorem way_4t (g cap : Nat) (nm : List Int) (s : St) (r : Int) (w : World) (hS : ScAt w g cap nm s) (hl : Fits s) (hr : InR r) (hb : s.b = 4) (_hn : s.n ≤ nm.length) (_hm : nm.length ≤ 1000) (_hp1 : 1 ≤ s.p) (_hp5 : s.p ≤ 5) (h1 : r = 45) :
    Calls Tryd.prog 38 #[.pointer (some ⟨g + 1, 0, none⟩), .int .i32 r] w (StepEnd w g cap nm (s.tell r 5)) := by
  have c1 : w.cell? ⟨g + 1, 1, none⟩ = some (.int .i64 4) := by rw [hS.c1, hb]; rfl
  have c0 := hS.c0
  have f0 := hS.f0
  have f1 := hS.f1
  have HS : Hid (ScAt w g cap nm s) := hS
  have hgl := hS.lt
  unfold Fits at hl
  have r45 : (r == 45) = true := by simp; omega
  clear hS hb h1
  go_enter Tryd.func38, Tryd.ntmps38
  go_wp2_with fail
  go_step3
  go_wp2_with fail
  go_step3
  go_wp2_with fail
  go_at_call 60
  refine (tell_calls g cap nm s r 5 _ HS.out (by first | omega | (simp only; omega)) hr).mono ?_
  rintro e w1 ⟨rfl, hS1, hB1⟩
  go_wp2_with fail
  rw [Exit.noGoto_ret]
  go_ret
  exact ⟨rfl, ⟨_, hS1⟩, (leaves_trans (leaves_refl g w) hB1)⟩
set_option maxRecDepth 100000 in
set_option maxHeartbeats 2000000 in
theorem way_4x (g cap : Nat) (nm : List Int) (s : St) (r : Int) (w : World) (hS : ScAt w g cap nm s) (hl : Fits s) (hr : InR r) (hb : s.b = 4) (_hn : s.n ≤ nm.length) (_hm : nm.length ≤ 1000) (hp1 : 1 ≤ s.p) (hp5 : s.p ≤ 5) (h1 : r ≠ 45) :
    Calls Tryd.prog 38 #[.pointer (some ⟨g + 1, 0, none⟩), .int .i32 r] w (StepEnd w g cap nm (s.again r)) := by
  have c1 : w.cell? ⟨g + 1, 1, none⟩ = some (.int .i64 4) := by rw [hS.c1, hb]; rfl
  have c0 := hS.c0
  have f0 := hS.f0
  have f1 := hS.f1
  have HS : Hid (ScAt w g cap nm s) := hS
  have hgl := hS.lt
  unfold Fits at hl
  have r45 : (r == 45) = false := by simp; omega
  clear hS hb h1
  go_enter Tryd.func38, Tryd.ntmps38
  go_wp2_with fail
  refine wp_scope_once 0 (fun w' => ScAt w' g cap nm s.freed ∧ Leaves g w w') rfl ?_
  apply Exists.intro
  apply And.intro
  · go_wp2_with fail
    go_step3
    go_wp2_with fail
    go_at_call 40
    refine (release_calls g cap nm s _ HS.out (by first | omega | (simp only; omega))).mono ?_
    rintro e w1 ⟨rfl, hS1, hB1⟩
    have c01 := hS1.c0
    have c11 := hS1.c1
    have f01 := hS1.f0
    have f11 := hS1.f1
    have HS1 := hid_of hS1
    clear hS1
    go_wp2_with fail
    go_step3
    exact ⟨rfl, rfl, HS1.out.begun 0, leaves_set (leaves_trans (leaves_refl g w) hB1) 1 _⟩
  · rintro w8 ⟨hS8, hB8⟩
    clear c0 c1
    have c8 : w8.cell? ⟨g + 1, 1, none⟩ = some (.int .i64 0) := hS8.c1
    have HS8 : Hid (ScAt w8 g cap nm s.freed) := hS8
    clear hS8
    go_wp2_with fail
    go_at_call 55
    refine (begin_calls g cap nm s.freed r _ HS8.out (by simp only [St.freed, List.length_append, List.length_nil]; omega) hr hp1 hp5).mono ?_
    rintro e w9 ⟨rfl, hS9, hB9⟩
    go_wp2_with fail
    simp only [Exit.jump]
    go_ret
    exact ⟨rfl, ⟨_, hS9⟩, leaves_trans hB8 hB9⟩
set_option maxRecDepth 100000 in
set_option maxHeartbeats 2000000 in
theorem way_5t (g cap : Nat) (nm : List Int) (s : St) (r : Int) (w : World) (hS : ScAt w g cap nm s) (hl : Fits s) (hr : InR r) (hb : s.b = 5) (_hn : s.n ≤ nm.length) (_hm : nm.length ≤ 1000) (_hp1 : 1 ≤ s.p) (_hp5 : s.p ≤ 5) (h1 : r = 45) :
    Calls Tryd.prog 38 #[.pointer (some ⟨g + 1, 0, none⟩), .int .i32 r] w (StepEnd w g cap nm ({ s.tell r 7 with p := 4 })) := by
  have c1 : w.cell? ⟨g + 1, 1, none⟩ = some (.int .i64 5) := by rw [hS.c1, hb]; rfl
  have c0 := hS.c0
  have f0 := hS.f0
  have f1 := hS.f1
  have HS : Hid (ScAt w g cap nm s) := hS
  have hgl := hS.lt
  unfold Fits at hl
  have r45 : (r == 45) = true := by simp; omega
  clear hS hb h1
  go_enter Tryd.func38, Tryd.ntmps38
  go_wp2_with fail
  go_step3
  go_wp2_with fail
  go_step3
  go_wp2_with fail
  go_at_call 60
  refine (tell_calls g cap nm { s with p := 4 } r 7 _ (HS.out.part 4) (by first | omega | (simp only; omega)) hr).mono ?_
  rintro e w1 ⟨rfl, hS1, hB1⟩
  go_wp2_with fail
  rw [Exit.noGoto_ret]
  go_ret
  exact ⟨rfl, ⟨_, hS1⟩, (leaves_trans (leaves_set (leaves_refl g w) 0 _) hB1)⟩
set_option maxRecDepth 100000 in
set_option maxHeartbeats 2000000 in
theorem way_5x (g cap : Nat) (nm : List Int) (s : St) (r : Int) (w : World) (hS : ScAt w g cap nm s) (hl : Fits s) (hr : InR r) (hb : s.b = 5) (_hn : s.n ≤ nm.length) (_hm : nm.length ≤ 1000) (hp1 : 1 ≤ s.p) (hp5 : s.p ≤ 5) (h1 : r ≠ 45) :
    Calls Tryd.prog 38 #[.pointer (some ⟨g + 1, 0, none⟩), .int .i32 r] w (StepEnd w g cap nm (s.again r)) := by
  have c1 : w.cell? ⟨g + 1, 1, none⟩ = some (.int .i64 5) := by rw [hS.c1, hb]; rfl
  have c0 := hS.c0
  have f0 := hS.f0
  have f1 := hS.f1
  have HS : Hid (ScAt w g cap nm s) := hS
  have hgl := hS.lt
  unfold Fits at hl
  have r45 : (r == 45) = false := by simp; omega
  clear hS hb h1
  go_enter Tryd.func38, Tryd.ntmps38
  go_wp2_with fail
  refine wp_scope_once 0 (fun w' => ScAt w' g cap nm s.freed ∧ Leaves g w w') rfl ?_
  apply Exists.intro
  apply And.intro
  · go_wp2_with fail
    go_step3
    go_wp2_with fail
    go_at_call 40
    refine (release_calls g cap nm s _ HS.out (by first | omega | (simp only; omega))).mono ?_
    rintro e w1 ⟨rfl, hS1, hB1⟩
    have c01 := hS1.c0
    have c11 := hS1.c1
    have f01 := hS1.f0
    have f11 := hS1.f1
    have HS1 := hid_of hS1
    clear hS1
    go_wp2_with fail
    go_step3
    exact ⟨rfl, rfl, HS1.out.begun 0, leaves_set (leaves_trans (leaves_refl g w) hB1) 1 _⟩
  · rintro w8 ⟨hS8, hB8⟩
    clear c0 c1
    have c8 : w8.cell? ⟨g + 1, 1, none⟩ = some (.int .i64 0) := hS8.c1
    have HS8 : Hid (ScAt w8 g cap nm s.freed) := hS8
    clear hS8
    go_wp2_with fail
    go_at_call 55
    refine (begin_calls g cap nm s.freed r _ HS8.out (by simp only [St.freed, List.length_append, List.length_nil]; omega) hr hp1 hp5).mono ?_
    rintro e w9 ⟨rfl, hS9, hB9⟩
    go_wp2_with fail
    simp only [Exit.jump]
    go_ret
    exact ⟨rfl, ⟨_, hS9⟩, leaves_trans hB8 hB9⟩
set_option maxRecDepth 100000 in
set_option maxHeartbeats 2000000 in
theorem way_7g (g cap : Nat) (nm : List Int) (s : St) (r : Int) (w : World) (hS : ScAt w g cap nm s) (hl : Fits s) (hr : InR r) (hb : s.b = 7) (_hn : s.n ≤ nm.length) (_hm : nm.length ≤ 1000) (_hp1 : 1 ≤ s.p) (_hp5 : s.p ≤ 5) (h1 : r = 62) :
    Calls Tryd.prog 38 #[.pointer (some ⟨g + 1, 0, none⟩), .int .i32 r] w (StepEnd w g cap nm ({ s.tell r 0 with p := 3 })) := by
  have c1 : w.cell? ⟨g + 1, 1, none⟩ = some (.int .i64 7) := by rw [hS.c1, hb]; rfl
  have c0 := hS.c0
  have f0 := hS.f0
  have f1 := hS.f1
  have HS : Hid (ScAt w g cap nm s) := hS
  have hgl := hS.lt
  unfold Fits at hl
  have r62 : (r == 62) = true := by simp; omega
  clear hS hb h1
  go_enter Tryd.func38, Tryd.ntmps38
  go_wp2_with fail
  go_step3
  go_wp2_with fail
  go_step3
  go_wp2_with fail
  go_at_call 60
  refine (tell_calls g cap nm { s with p := 3 } r 0 _ (HS.out.part 3) (by first | omega | (simp only; omega)) hr).mono ?_
  rintro e w1 ⟨rfl, hS1, hB1⟩
  go_wp2_with fail
  rw [Exit.noGoto_ret]
  go_ret
  exact ⟨rfl, ⟨_, hS1⟩, (leaves_trans (leaves_set (leaves_refl g w) 0 _) hB1)⟩
set_option maxRecDepth 100000 in
set_option maxHeartbeats 2000000 in
theorem way_7t (g cap : Nat) (nm : List Int) (s : St) (r : Int) (w : World) (hS : ScAt w g cap nm s) (hl : Fits s) (hr : InR r) (hb : s.b = 7) (_hn : s.n ≤ nm.length) (_hm : nm.length ≤ 1000) (_hp1 : 1 ≤ s.p) (_hp5 : s.p ≤ 5) (h1 : r = 45) :
    Calls Tryd.prog 38 #[.pointer (some ⟨g + 1, 0, none⟩), .int .i32 r] w (StepEnd w g cap nm (s.tell r 7)) := by
  have c1 : w.cell? ⟨g + 1, 1, none⟩ = some (.int .i64 7) := by rw [hS.c1, hb]; rfl
  have c0 := hS.c0
  have f0 := hS.f0
  have f1 := hS.f1
  have HS : Hid (ScAt w g cap nm s) := hS
  have hgl := hS.lt
  unfold Fits at hl
  have r62 : (r == 62) = false := by simp; omega
  have r45 : (r == 45) = true := by simp; omega
  clear hS hb h1
  go_enter Tryd.func38, Tryd.ntmps38
  go_wp2_with fail
  go_step3
  go_wp2_with fail
  go_step3
  go_wp2_with fail
  go_at_call 60
  refine (tell_calls g cap nm s r 7 _ HS.out (by first | omega | (simp only; omega)) hr).mono ?_
  rintro e w1 ⟨rfl, hS1, hB1⟩
  go_wp2_with fail
  rw [Exit.noGoto_ret]
  go_ret
  exact ⟨rfl, ⟨_, hS1⟩, (leaves_trans (leaves_refl g w) hB1)⟩
set_option maxRecDepth 100000 in
set_option maxHeartbeats 2000000 in
theorem way_7x (g cap : Nat) (nm : List Int) (s : St) (r : Int) (w : World) (hS : ScAt w g cap nm s) (hl : Fits s) (hr : InR r) (hb : s.b = 7) (_hn : s.n ≤ nm.length) (_hm : nm.length ≤ 1000) (hp1 : 1 ≤ s.p) (hp5 : s.p ≤ 5) (h1 : r ≠ 62) (h2 : r ≠ 45) :
    Calls Tryd.prog 38 #[.pointer (some ⟨g + 1, 0, none⟩), .int .i32 r] w (StepEnd w g cap nm (s.again r)) := by
  have c1 : w.cell? ⟨g + 1, 1, none⟩ = some (.int .i64 7) := by rw [hS.c1, hb]; rfl
  have c0 := hS.c0
  have f0 := hS.f0
  have f1 := hS.f1
  have HS : Hid (ScAt w g cap nm s) := hS
  have hgl := hS.lt
  unfold Fits at hl
  have r62 : (r == 62) = false := by simp; omega
  have r45 : (r == 45) = false := by simp; omega
  clear hS hb h1 h2
  go_enter Tryd.func38, Tryd.ntmps38
  go_wp2_with fail
  refine wp_scope_once 0 (fun w' => ScAt w' g cap nm s.freed ∧ Leaves g w w') rfl ?_
  apply Exists.intro
  apply And.intro
  · go_wp2_with fail
    go_step3
    go_wp2_with fail
    go_at_call 40
    refine (release_calls g cap nm s _ HS.out (by first | omega | (simp only; omega))).mono ?_
    rintro e w1 ⟨rfl, hS1, hB1⟩
    have c01 := hS1.c0
    have c11 := hS1.c1
    have f01 := hS1.f0
    have f11 := hS1.f1
    have HS1 := hid_of hS1
    clear hS1
    go_wp2_with fail
    go_step3
    exact ⟨rfl, rfl, HS1.out.begun 0, leaves_set (leaves_trans (leaves_refl g w) hB1) 1 _⟩
  · rintro w8 ⟨hS8, hB8⟩
    clear c0 c1
    have c8 : w8.cell? ⟨g + 1, 1, none⟩ = some (.int .i64 0) := hS8.c1
    have HS8 : Hid (ScAt w8 g cap nm s.freed) := hS8
    clear hS8
    go_wp2_with fail
    go_at_call 55
    refine (begin_calls g cap nm s.freed r _ HS8.out (by simp only [St.freed, List.length_append, List.length_nil]; omega) hr hp1 hp5).mono ?_
    rintro e w9 ⟨rfl, hS9, hB9⟩
    go_wp2_with fail
    simp only [Exit.jump]
    go_ret
    exact ⟨rfl, ⟨_, hS9⟩, leaves_trans hB8 hB9⟩
set_option maxRecDepth 100000 in
set_option maxHeartbeats 2000000 in
theorem way_6t (g cap : Nat) (nm : List Int) (s : St) (r : Int) (w : World) (hS : ScAt w g cap nm s) (hl : Fits s) (hr : InR r) (hb : s.b = 6) (_hn : s.n ≤ nm.length) (_hm : nm.length ≤ 1000) (_hp1 : 1 ≤ s.p) (_hp5 : s.p ≤ 5) (h1 : r = 45) :
    Calls Tryd.prog 38 #[.pointer (some ⟨g + 1, 0, none⟩), .int .i32 r] w (StepEnd w g cap nm (s.tell r 7)) := by
  have c1 : w.cell? ⟨g + 1, 1, none⟩ = some (.int .i64 6) := by rw [hS.c1, hb]; rfl
  have c0 := hS.c0
  have f0 := hS.f0
  have f1 := hS.f1
  have HS : Hid (ScAt w g cap nm s) := hS
  have hgl := hS.lt
  unfold Fits at hl
  have r45 : (r == 45) = true := by simp; omega
  clear hS hb h1
  go_enter Tryd.func38, Tryd.ntmps38
  go_wp2_with fail
  go_step3
  go_wp2_with fail
  go_step3
  go_wp2_with fail
  go_at_call 60
  refine (tell_calls g cap nm s r 7 _ HS.out (by first | omega | (simp only; omega)) hr).mono ?_
  rintro e w1 ⟨rfl, hS1, hB1⟩
  go_wp2_with fail
  rw [Exit.noGoto_ret]
  go_ret
  exact ⟨rfl, ⟨_, hS1⟩, (leaves_trans (leaves_refl g w) hB1)⟩
set_option maxRecDepth 100000 in
set_option maxHeartbeats 2000000 in
theorem way_6x (g cap : Nat) (nm : List Int) (s : St) (r : Int) (w : World) (hS : ScAt w g cap nm s) (hl : Fits s) (hr : InR r) (hb : s.b = 6) (_hn : s.n ≤ nm.length) (_hm : nm.length ≤ 1000) (hp1 : 1 ≤ s.p) (hp5 : s.p ≤ 5) (h1 : r ≠ 45) :
    Calls Tryd.prog 38 #[.pointer (some ⟨g + 1, 0, none⟩), .int .i32 r] w (StepEnd w g cap nm (s.again r)) := by
  have c1 : w.cell? ⟨g + 1, 1, none⟩ = some (.int .i64 6) := by rw [hS.c1, hb]; rfl
  have c0 := hS.c0
  have f0 := hS.f0
  have f1 := hS.f1
  have HS : Hid (ScAt w g cap nm s) := hS
  have hgl := hS.lt
  unfold Fits at hl
  have r45 : (r == 45) = false := by simp; omega
  clear hS hb h1
  go_enter Tryd.func38, Tryd.ntmps38
  go_wp2_with fail
  refine wp_scope_once 0 (fun w' => ScAt w' g cap nm s.freed ∧ Leaves g w w') rfl ?_
  apply Exists.intro
  apply And.intro
  · go_wp2_with fail
    go_step3
    go_wp2_with fail
    go_at_call 40
    refine (release_calls g cap nm s _ HS.out (by first | omega | (simp only; omega))).mono ?_
    rintro e w1 ⟨rfl, hS1, hB1⟩
    have c01 := hS1.c0
    have c11 := hS1.c1
    have f01 := hS1.f0
    have f11 := hS1.f1
    have HS1 := hid_of hS1
    clear hS1
    go_wp2_with fail
    go_step3
    exact ⟨rfl, rfl, HS1.out.begun 0, leaves_set (leaves_trans (leaves_refl g w) hB1) 1 _⟩
  · rintro w8 ⟨hS8, hB8⟩
    clear c0 c1
    have c8 : w8.cell? ⟨g + 1, 1, none⟩ = some (.int .i64 0) := hS8.c1
    have HS8 : Hid (ScAt w8 g cap nm s.freed) := hS8
    clear hS8
    go_wp2_with fail
    go_at_call 55
    refine (begin_calls g cap nm s.freed r _ HS8.out (by simp only [St.freed, List.length_append, List.length_nil]; omega) hr hp1 hp5).mono ?_
    rintro e w9 ⟨rfl, hS9, hB9⟩
    go_wp2_with fail
    simp only [Exit.jump]
    go_ret
    exact ⟨rfl, ⟨_, hS9⟩, leaves_trans hB8 hB9⟩
/-- **step, whatever is begun.** -/
theorem step_calls (g cap : Nat) (nm : List Int) (s : St) (r : Int) (w : World) (hS : ScAt w g cap nm s) (hl : Fits s) (hr : InR r) (hb : s.b ≤ 7) (hn : s.n ≤ nm.length) (hm : nm.length ≤ 1000) (hp1 : 1 ≤ s.p) (hp5 : s.p ≤ 5) :
    Calls Tryd.prog 38 #[.pointer (some ⟨g + 1, 0, none⟩), .int .i32 r] w (StepEnd w g cap nm (s.step nm r)) := by
  have hword : ∀ (f1 : spellZ nm s.n r = true → Calls Tryd.prog 38 #[.pointer (some ⟨g + 1, 0, none⟩), .int .i32 r] w (StepEnd w g cap nm { s.tell r 3 with n := s.n + 1 })) (f2 : spellZ nm s.n r = false → closeZ nm s.n r = true → Calls Tryd.prog 38 #[.pointer (some ⟨g + 1, 0, none⟩), .int .i32 r] w (StepEnd w g cap nm { s.tell r 0 with p := if s.p = 4 then 5 else 4 })) (f3 : spellZ nm s.n r = false → closeZ nm s.n r = false → Calls Tryd.prog 38 #[.pointer (some ⟨g + 1, 0, none⟩), .int .i32 r] w (StepEnd w g cap nm (s.again r))), Calls Tryd.prog 38 #[.pointer (some ⟨g + 1, 0, none⟩), .int .i32 r] w (StepEnd w g cap nm (s.word nm r)) := fun f1 f2 f3 => by
    unfold St.word
    cases h1 : spellZ nm s.n r with
    | true => exact f1 h1
    | false =>
      cases h2 : closeZ nm s.n r with
      | true => exact f2 h1 h2
      | false => exact f3 h1 h2
  unfold St.step St.dash
  have hb' : s.b = 0 ∨ s.b = 1 ∨ s.b = 2 ∨ s.b = 3 ∨ s.b = 4 ∨ s.b = 5 ∨ s.b = 6 ∨ s.b = 7 := by omega
  rcases hb' with e | e | e | e | e | e | e | e <;> simp only [e, if_true, show ¬ ((1 : Nat) = 0) by omega, show ¬ ((1 : Nat) = 2) by omega, show ¬ ((2 : Nat) = 0) by omega, show ¬ ((3 : Nat) = 0) by omega, show ¬ ((3 : Nat) = 2) by omega, show ¬ ((3 : Nat) = 1) by omega, show ¬ ((4 : Nat) = 0) by omega, show ¬ ((4 : Nat) = 2) by omega, show ¬ ((4 : Nat) = 1) by omega, show ¬ ((4 : Nat) = 3) by omega, show ¬ ((5 : Nat) = 0) by omega, show ¬ ((5 : Nat) = 2) by omega, show ¬ ((5 : Nat) = 1) by omega, show ¬ ((5 : Nat) = 3) by omega, show ¬ ((5 : Nat) = 4) by omega, show ¬ ((6 : Nat) = 0) by omega, show ¬ ((6 : Nat) = 2) by omega, show ¬ ((6 : Nat) = 1) by omega, show ¬ ((6 : Nat) = 3) by omega, show ¬ ((6 : Nat) = 4) by omega, show ¬ ((6 : Nat) = 5) by omega, show ¬ ((6 : Nat) = 7) by omega, show ¬ ((7 : Nat) = 0) by omega, show ¬ ((7 : Nat) = 2) by omega, show ¬ ((7 : Nat) = 1) by omega, show ¬ ((7 : Nat) = 3) by omega, show ¬ ((7 : Nat) = 4) by omega, show ¬ ((7 : Nat) = 5) by omega, if_false]
  · exact way_0 g cap nm s r w hS hl hr e hn hm hp1 hp5
  · by_cases c1 : r = 47 ∧ s.p = 5
    · rw [if_pos c1]; exact way_1a g cap nm s r w hS hl hr e hn hm hp1 hp5 c1.1 c1.2
    · rw [if_neg c1]
      by_cases c2 : r = 47
      · rw [if_pos c2]; exact way_1b g cap nm s r w hS hl hr e hn hm hp1 hp5 c2 (fun h => c1 ⟨c2, h⟩)
      · rw [if_neg c2]
        by_cases c3 : r = 33 ∧ s.p = 3
        · rw [if_pos c3]; exact way_1c g cap nm s r w hS hl hr e hn hm hp1 hp5 c3.1 c3.2
        · rw [if_neg c3]
          by_cases c4 : s.p = 4
          · rw [if_pos c4]
            by_cases c5 : r = 33
            · exact hword (way_1s1 g cap nm s r w hS hl hr e hn hm hp1 hp5 c2 c5 (by omega) c4) (way_1k1 g cap nm s r w hS hl hr e hn hm hp1 hp5 c2 c5 (by omega) c4) (way_1x1 g cap nm s r w hS hl hr e hn hm hp1 hp5 c2 c5 (by omega) c4)
            · exact hword (way_1s0 g cap nm s r w hS hl hr e hn hm hp1 hp5 c2 c5 c4) (way_1k0 g cap nm s r w hS hl hr e hn hm hp1 hp5 c2 c5 c4) (way_1x0 g cap nm s r w hS hl hr e hn hm hp1 hp5 c2 c5 c4)
          · rw [if_neg c4]
            by_cases c5 : r = 33
            · exact way_1d1 g cap nm s r w hS hl hr e hn hm hp1 hp5 c2 c5 (fun h => c3 ⟨c5, h⟩) c4
            · exact way_1d0 g cap nm s r w hS hl hr e hn hm hp1 hp5 c2 c5 c4
  · cases h1 : spellZ nm s.n r with
    | true => exact way_2s g cap nm s r w hS hl hr e hn hm hp1 hp5 h1
    | false =>
      cases h2 : closeZ nm s.n r with
      | true => exact way_2c g cap nm s r w hS hl hr e hn hm hp1 hp5 h1 h2
      | false => exact way_2a g cap nm s r w hS hl hr e hn hm hp1 hp5 h1 h2
  · exact hword (way_3s g cap nm s r w hS hl hr e hn hm hp1 hp5) (way_3k g cap nm s r w hS hl hr e hn hm hp1 hp5) (way_3x g cap nm s r w hS hl hr e hn hm hp1 hp5)
  · by_cases c1 : r = 45
    · rw [if_pos c1]; exact way_4t g cap nm s r w hS hl hr e hn hm hp1 hp5 c1
    · rw [if_neg c1]; exact way_4x g cap nm s r w hS hl hr e hn hm hp1 hp5 c1
  · by_cases c1 : r = 45
    · rw [if_pos c1]; exact way_5t g cap nm s r w hS hl hr e hn hm hp1 hp5 c1
    · rw [if_neg c1]; exact way_5x g cap nm s r w hS hl hr e hn hm hp1 hp5 c1
  · by_cases c1 : r = 45
    · rw [if_pos c1]; exact way_6t g cap nm s r w hS hl hr e hn hm hp1 hp5 c1
    · rw [if_neg c1]; exact way_6x g cap nm s r w hS hl hr e hn hm hp1 hp5 c1
  · by_cases c0 : r = 62
    · rw [if_pos c0]; exact way_7g g cap nm s r w hS hl hr e hn hm hp1 hp5 c0
    · rw [if_neg c0]
      by_cases c1 : r = 45
      · rw [if_pos c1]; exact way_7t g cap nm s r w hS hl hr e hn hm hp1 hp5 c1
      · rw [if_neg c1]; exact way_7x g cap nm s r w hS hl hr e hn hm hp1 hp5 c0 c1
end Go.Proofs.YtegkdgmpkfpjmaaDoor.R
