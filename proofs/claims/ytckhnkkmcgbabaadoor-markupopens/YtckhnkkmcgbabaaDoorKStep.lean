/- What is proved here: a scanner's step: where each rune leads from each state, and what it makes said. (Written by wip/gen_step.py.) -/
import Derived.Test.YtckhnkkmcgbabaaDoorKScan
namespace Go.Proofs.YtckhnkkmcgbabaaDoor.K
open Go.RowKit Go.Shelf Go.Proofs.YtckhnkkmcgbabaaDoor.U

/-- What a step leaves. -/
def StepEnd (w : World) (a : Nat) (bs : List UInt8) (q' : Nat) (zs : List Int) (e : Ending) (W' : World) : Prop :=
  e = .returned (.int .i64 (q' : Int)) ∧ (∃ p : Int, ScAt W' a p (bs ++ encs zs)) ∧ Below a w W' ∧ Kept a w W'
theorem encs_app (x y : List Int) : encs (x ++ y) = encs x ++ encs y := by simp [encs]
theorem enc_le (r : Int) : (enc r).length ≤ 4 := enc_length r
/-- The frame where the step begins again. -/
def JAt (a : Nat) (r : Int) (a' : Act) : Prop :=
  ∃ u2 u3 u4 u5 u6 u7 u8 u9 u10 u11 u12 u13 u14 u15 u16 u17 u18 u19 u20 u21 u22 u23 u24 u25 u26 u27 u28 u29 u30 u31 u32 u33 u34 u35 u36 u37 u38 u39 u40 u41 u42 u43 u44 u45 u46 u47 u48 u49 u50 u51 u52 u53 u54 u55 u56 u57 u58 u59 u60 u61 u62 u63 u64 u65 u66 u67 u68 u69 u70 u71 u72 u73 u74 u75 : Value, a' = { tmps := #[.pointer (some ⟨a, 0, none⟩), .int .i32 r, u2, u3, u4, u5, u6, u7, u8, u9, u10, u11, u12, u13, u14, u15, u16, u17, u18, u19, u20, u21, u22, u23, u24, u25, u26, u27, u28, u29, u30, u31, u32, u33, u34, u35, u36, u37, u38, u39, u40, u41, u42, u43, u44, u45, u46, u47, u48, u49, u50, u51, u52, u53, u54, u55, u56, u57, u58, u59, u60, u61, u62, u63, u64, u65, u66, u67, u68, u69, u70, u71, u72, u73, u74, u75], defers := [] }

set_option maxRecDepth 100000 in
set_option maxHeartbeats 2000000 in
theorem step_1_0 (a : Nat) (bs : List UInt8) (w : World) (hS : ScAt w a 1 bs) (_hl : bs.length ≤ 70368744177600) (r : Int) (_hr : -2147483648 ≤ r ∧ r ≤ 2147483647) (e1 : (r == 62) = false) (_e2 : (r == 45) = false) (_e3 : (r == 33) = false) :
    Calls Tryd.prog 29 #[.pointer (some ⟨a, 0, none⟩), .int .i32 r] w (StepEnd w a bs 1 []) := by
  have c0 : w.cell? ⟨a, 0, none⟩ = some (.int .i64 1) := by obtain ⟨v, hb, _⟩ := hS; rw [cell_blk hb]; rfl
  have HS : Hid (ScAt w a 1 bs) := hS
  have ha := hS.lt
  clear hS
  go_enter Tryd.func29, Tryd.ntmps29
  go_wp2
  go_step3
  go_wp2
  go_step3
  go_wp2
  rw [Exit.noGoto_ret]
  go_ret
  exact ⟨rfl, ⟨_, by simpa [encs] using HS.out⟩, Below.refl _ _, Lib.OthersKept.refl _ _ _⟩
set_option maxRecDepth 100000 in
set_option maxHeartbeats 2000000 in
theorem step_1_1 (a : Nat) (bs : List UInt8) (w : World) (hS : ScAt w a 1 bs) (_hl : bs.length ≤ 70368744177600) :
    Calls Tryd.prog 29 #[.pointer (some ⟨a, 0, none⟩), .int .i32 45] w (StepEnd w a bs 1 []) := by
  have c0 : w.cell? ⟨a, 0, none⟩ = some (.int .i64 1) := by obtain ⟨v, hb, _⟩ := hS; rw [cell_blk hb]; rfl
  have HS : Hid (ScAt w a 1 bs) := hS
  have ha := hS.lt
  clear hS
  go_enter Tryd.func29, Tryd.ntmps29
  go_wp2
  go_step3
  go_wp2
  go_step3
  go_wp2
  rw [Exit.noGoto_ret]
  go_ret
  exact ⟨rfl, ⟨_, by simpa [encs] using HS.out⟩, Below.refl _ _, Lib.OthersKept.refl _ _ _⟩
set_option maxRecDepth 100000 in
set_option maxHeartbeats 2000000 in
theorem step_1_2 (a : Nat) (bs : List UInt8) (w : World) (hS : ScAt w a 1 bs) (_hl : bs.length ≤ 70368744177600) :
    Calls Tryd.prog 29 #[.pointer (some ⟨a, 0, none⟩), .int .i32 33] w (StepEnd w a bs 1 []) := by
  have c0 : w.cell? ⟨a, 0, none⟩ = some (.int .i64 1) := by obtain ⟨v, hb, _⟩ := hS; rw [cell_blk hb]; rfl
  have HS : Hid (ScAt w a 1 bs) := hS
  have ha := hS.lt
  clear hS
  go_enter Tryd.func29, Tryd.ntmps29
  go_wp2
  go_step3
  go_wp2
  go_step3
  go_wp2
  rw [Exit.noGoto_ret]
  go_ret
  exact ⟨rfl, ⟨_, by simpa [encs] using HS.out⟩, Below.refl _ _, Lib.OthersKept.refl _ _ _⟩
set_option maxRecDepth 100000 in
set_option maxHeartbeats 2000000 in
theorem step_1_3 (a : Nat) (bs : List UInt8) (w : World) (hS : ScAt w a 1 bs) (_hl : bs.length ≤ 70368744177600) :
    Calls Tryd.prog 29 #[.pointer (some ⟨a, 0, none⟩), .int .i32 62] w (StepEnd w a bs 9 []) := by
  have c0 : w.cell? ⟨a, 0, none⟩ = some (.int .i64 1) := by obtain ⟨v, hb, _⟩ := hS; rw [cell_blk hb]; rfl
  have HS : Hid (ScAt w a 1 bs) := hS
  have ha := hS.lt
  clear hS
  go_enter Tryd.func29, Tryd.ntmps29
  go_wp2
  go_step3
  go_wp2
  go_step3
  go_wp2
  rw [Exit.noGoto_ret]
  go_ret
  exact ⟨rfl, ⟨_, by simpa [encs] using HS.out⟩, Below.refl _ _, Lib.OthersKept.refl _ _ _⟩
set_option maxRecDepth 100000 in
set_option maxHeartbeats 2000000 in
theorem step_2_0 (a : Nat) (bs : List UInt8) (w : World) (hS : ScAt w a 2 bs) (hl : bs.length ≤ 70368744177600) (r : Int) (hr : -2147483648 ≤ r ∧ r ≤ 2147483647) (e1 : (r == 62) = false) (e2 : (r == 45) = false) (e3 : (r == 33) = false) :
    Calls Tryd.prog 29 #[.pointer (some ⟨a, 0, none⟩), .int .i32 r] w (StepEnd w a bs 2 [r]) := by
  have c0 : w.cell? ⟨a, 0, none⟩ = some (.int .i64 2) := by obtain ⟨v, hb, _⟩ := hS; rw [cell_blk hb]; rfl
  have HS : Hid (ScAt w a 2 bs) := hS
  have ha := hS.lt
  clear hS
  go_enter Tryd.func29, Tryd.ntmps29
  go_wp2
  go_step3
  go_wp2
  go_step3
  go_wp2_with (
    go_at_call 40
    refine (say_calls a _ 2 bs [r] _ (HS.out.below ((Below.refl _ _).alloc (Nat.le_refl _) _)) (by simp; omega) (World.alloc_heap_new w _) (by simp) (by omega)).mono ?_
    rintro e w1 ⟨rfl, hS1, hB1, hK1⟩
    have f1 : w1.frozen? ⟨a, 0, none⟩ = false := by obtain ⟨v, hb, _⟩ := hS1; exact frozen_blk hb 0
    have c1 : w1.cell? ⟨a, 0, none⟩ = some (.int .i64 2) := by obtain ⟨v, hb, _⟩ := hS1; rw [cell_blk hb]; rfl)
  rw [Exit.noGoto_ret]
  go_ret
  exact ⟨rfl, ⟨_, hS1⟩, ((Below.refl a w).alloc (by omega) _).trans hB1, ((Lib.OthersKept.refl _ _ w).alloc _).trans hK1⟩
set_option maxRecDepth 100000 in
set_option maxHeartbeats 2000000 in
theorem step_2_1 (a : Nat) (bs : List UInt8) (w : World) (hS : ScAt w a 2 bs) (hl : bs.length ≤ 70368744177600) :
    Calls Tryd.prog 29 #[.pointer (some ⟨a, 0, none⟩), .int .i32 45] w (StepEnd w a bs 2 [45]) := by
  have c0 : w.cell? ⟨a, 0, none⟩ = some (.int .i64 2) := by obtain ⟨v, hb, _⟩ := hS; rw [cell_blk hb]; rfl
  have HS : Hid (ScAt w a 2 bs) := hS
  have ha := hS.lt
  clear hS
  go_enter Tryd.func29, Tryd.ntmps29
  go_wp2
  go_step3
  go_wp2
  go_step3
  go_wp2_with (
    go_at_call 40
    refine (say_calls a _ 2 bs [45] _ (HS.out.below ((Below.refl _ _).alloc (Nat.le_refl _) _)) (by simp) (World.alloc_heap_new w _) (by simp) (by omega)).mono ?_
    rintro e w1 ⟨rfl, hS1, hB1, hK1⟩
    have f1 : w1.frozen? ⟨a, 0, none⟩ = false := by obtain ⟨v, hb, _⟩ := hS1; exact frozen_blk hb 0
    have c1 : w1.cell? ⟨a, 0, none⟩ = some (.int .i64 2) := by obtain ⟨v, hb, _⟩ := hS1; rw [cell_blk hb]; rfl)
  rw [Exit.noGoto_ret]
  go_ret
  exact ⟨rfl, ⟨_, hS1⟩, ((Below.refl a w).alloc (by omega) _).trans hB1, ((Lib.OthersKept.refl _ _ w).alloc _).trans hK1⟩
set_option maxRecDepth 100000 in
set_option maxHeartbeats 2000000 in
theorem step_2_2 (a : Nat) (bs : List UInt8) (w : World) (hS : ScAt w a 2 bs) (hl : bs.length ≤ 70368744177600) :
    Calls Tryd.prog 29 #[.pointer (some ⟨a, 0, none⟩), .int .i32 33] w (StepEnd w a bs 2 [33]) := by
  have c0 : w.cell? ⟨a, 0, none⟩ = some (.int .i64 2) := by obtain ⟨v, hb, _⟩ := hS; rw [cell_blk hb]; rfl
  have HS : Hid (ScAt w a 2 bs) := hS
  have ha := hS.lt
  clear hS
  go_enter Tryd.func29, Tryd.ntmps29
  go_wp2
  go_step3
  go_wp2
  go_step3
  go_wp2_with (
    go_at_call 40
    refine (say_calls a _ 2 bs [33] _ (HS.out.below ((Below.refl _ _).alloc (Nat.le_refl _) _)) (by simp) (World.alloc_heap_new w _) (by simp) (by omega)).mono ?_
    rintro e w1 ⟨rfl, hS1, hB1, hK1⟩
    have f1 : w1.frozen? ⟨a, 0, none⟩ = false := by obtain ⟨v, hb, _⟩ := hS1; exact frozen_blk hb 0
    have c1 : w1.cell? ⟨a, 0, none⟩ = some (.int .i64 2) := by obtain ⟨v, hb, _⟩ := hS1; rw [cell_blk hb]; rfl)
  rw [Exit.noGoto_ret]
  go_ret
  exact ⟨rfl, ⟨_, hS1⟩, ((Below.refl a w).alloc (by omega) _).trans hB1, ((Lib.OthersKept.refl _ _ w).alloc _).trans hK1⟩
set_option maxRecDepth 100000 in
set_option maxHeartbeats 2000000 in
theorem step_2_3 (a : Nat) (bs : List UInt8) (w : World) (hS : ScAt w a 2 bs) (_hl : bs.length ≤ 70368744177600) :
    Calls Tryd.prog 29 #[.pointer (some ⟨a, 0, none⟩), .int .i32 62] w (StepEnd w a bs 9 []) := by
  have c0 : w.cell? ⟨a, 0, none⟩ = some (.int .i64 2) := by obtain ⟨v, hb, _⟩ := hS; rw [cell_blk hb]; rfl
  have HS : Hid (ScAt w a 2 bs) := hS
  have ha := hS.lt
  clear hS
  go_enter Tryd.func29, Tryd.ntmps29
  go_wp2
  go_step3
  go_wp2
  go_step3
  go_wp2
  rw [Exit.noGoto_ret]
  go_ret
  exact ⟨rfl, ⟨_, by simpa [encs] using HS.out⟩, Below.refl _ _, Lib.OthersKept.refl _ _ _⟩
set_option maxRecDepth 100000 in
set_option maxHeartbeats 2000000 in
theorem step_3_0 (a : Nat) (bs : List UInt8) (w : World) (hS : ScAt w a 3 bs) (hl : bs.length ≤ 70368744177600) (r : Int) (hr : -2147483648 ≤ r ∧ r ≤ 2147483647) (e1 : (r == 62) = false) (e2 : (r == 45) = false) (_e3 : (r == 33) = false) :
    Calls Tryd.prog 29 #[.pointer (some ⟨a, 0, none⟩), .int .i32 r] w (StepEnd w a bs 5 [r]) := by
  have c0 : w.cell? ⟨a, 0, none⟩ = some (.int .i64 3) := by obtain ⟨v, hb, _⟩ := hS; rw [cell_blk hb]; rfl
  have HS : Hid (ScAt w a 3 bs) := hS
  have ha := hS.lt
  clear hS
  go_enter Tryd.func29, Tryd.ntmps29
  go_wp2
  go_step3
  go_wp2
  go_step3
  go_wp2_with (
    go_at_call 40
    refine (say_calls a _ 3 bs [r] _ (HS.out.below ((Below.refl _ _).alloc (Nat.le_refl _) _)) (by simp; omega) (World.alloc_heap_new w _) (by simp) (by omega)).mono ?_
    rintro e w1 ⟨rfl, hS1, hB1, hK1⟩
    have f1 : w1.frozen? ⟨a, 0, none⟩ = false := by obtain ⟨v, hb, _⟩ := hS1; exact frozen_blk hb 0
    have c1 : w1.cell? ⟨a, 0, none⟩ = some (.int .i64 3) := by obtain ⟨v, hb, _⟩ := hS1; rw [cell_blk hb]; rfl)
  rw [Exit.noGoto_ret]
  go_ret
  exact ⟨rfl, ⟨_, hS1⟩, ((Below.refl a w).alloc (by omega) _).trans hB1, ((Lib.OthersKept.refl _ _ w).alloc _).trans hK1⟩
set_option maxRecDepth 100000 in
set_option maxHeartbeats 2000000 in
theorem step_3_1 (a : Nat) (bs : List UInt8) (w : World) (hS : ScAt w a 3 bs) (_hl : bs.length ≤ 70368744177600) :
    Calls Tryd.prog 29 #[.pointer (some ⟨a, 0, none⟩), .int .i32 45] w (StepEnd w a bs 4 []) := by
  have c0 : w.cell? ⟨a, 0, none⟩ = some (.int .i64 3) := by obtain ⟨v, hb, _⟩ := hS; rw [cell_blk hb]; rfl
  have HS : Hid (ScAt w a 3 bs) := hS
  have ha := hS.lt
  clear hS
  go_enter Tryd.func29, Tryd.ntmps29
  go_wp2
  go_step3
  go_wp2
  go_step3
  go_wp2
  rw [Exit.noGoto_ret]
  go_ret
  exact ⟨rfl, ⟨_, by simpa [encs] using HS.out⟩, Below.refl _ _, Lib.OthersKept.refl _ _ _⟩
set_option maxRecDepth 100000 in
set_option maxHeartbeats 2000000 in
theorem step_3_2 (a : Nat) (bs : List UInt8) (w : World) (hS : ScAt w a 3 bs) (hl : bs.length ≤ 70368744177600) :
    Calls Tryd.prog 29 #[.pointer (some ⟨a, 0, none⟩), .int .i32 33] w (StepEnd w a bs 5 [33]) := by
  have c0 : w.cell? ⟨a, 0, none⟩ = some (.int .i64 3) := by obtain ⟨v, hb, _⟩ := hS; rw [cell_blk hb]; rfl
  have HS : Hid (ScAt w a 3 bs) := hS
  have ha := hS.lt
  clear hS
  go_enter Tryd.func29, Tryd.ntmps29
  go_wp2
  go_step3
  go_wp2
  go_step3
  go_wp2_with (
    go_at_call 40
    refine (say_calls a _ 3 bs [33] _ (HS.out.below ((Below.refl _ _).alloc (Nat.le_refl _) _)) (by simp) (World.alloc_heap_new w _) (by simp) (by omega)).mono ?_
    rintro e w1 ⟨rfl, hS1, hB1, hK1⟩
    have f1 : w1.frozen? ⟨a, 0, none⟩ = false := by obtain ⟨v, hb, _⟩ := hS1; exact frozen_blk hb 0
    have c1 : w1.cell? ⟨a, 0, none⟩ = some (.int .i64 3) := by obtain ⟨v, hb, _⟩ := hS1; rw [cell_blk hb]; rfl)
  rw [Exit.noGoto_ret]
  go_ret
  exact ⟨rfl, ⟨_, hS1⟩, ((Below.refl a w).alloc (by omega) _).trans hB1, ((Lib.OthersKept.refl _ _ w).alloc _).trans hK1⟩
set_option maxRecDepth 100000 in
set_option maxHeartbeats 2000000 in
theorem step_3_3 (a : Nat) (bs : List UInt8) (w : World) (hS : ScAt w a 3 bs) (_hl : bs.length ≤ 70368744177600) :
    Calls Tryd.prog 29 #[.pointer (some ⟨a, 0, none⟩), .int .i32 62] w (StepEnd w a bs 9 []) := by
  have c0 : w.cell? ⟨a, 0, none⟩ = some (.int .i64 3) := by obtain ⟨v, hb, _⟩ := hS; rw [cell_blk hb]; rfl
  have HS : Hid (ScAt w a 3 bs) := hS
  have ha := hS.lt
  clear hS
  go_enter Tryd.func29, Tryd.ntmps29
  go_wp2
  go_step3
  go_wp2
  go_step3
  go_wp2
  rw [Exit.noGoto_ret]
  go_ret
  exact ⟨rfl, ⟨_, by simpa [encs] using HS.out⟩, Below.refl _ _, Lib.OthersKept.refl _ _ _⟩
set_option maxRecDepth 100000 in
set_option maxHeartbeats 2000000 in
theorem step_4_0 (a : Nat) (bs : List UInt8) (w : World) (hS : ScAt w a 4 bs) (hl : bs.length ≤ 70368744177600) (r : Int) (hr : -2147483648 ≤ r ∧ r ≤ 2147483647) (e1 : (r == 62) = false) (e2 : (r == 45) = false) (_e3 : (r == 33) = false) :
    Calls Tryd.prog 29 #[.pointer (some ⟨a, 0, none⟩), .int .i32 r] w (StepEnd w a bs 5 [45, r]) := by
  have c0 : w.cell? ⟨a, 0, none⟩ = some (.int .i64 4) := by obtain ⟨v, hb, _⟩ := hS; rw [cell_blk hb]; rfl
  have HS : Hid (ScAt w a 4 bs) := hS
  have ha := hS.lt
  clear hS
  go_enter Tryd.func29, Tryd.ntmps29
  go_wp2
  refine wp_scope_jumps 0 (fun a' w' => JAt a r a' ∧ ScAt w' a 5 (bs ++ encs [45]) ∧ Below a w w' ∧ Kept a w w') (fun _ _ => 0) rfl ?first ?pass
  case first =>
    go_wp2
    go_step3
    go_wp2_with (
      go_at_call 40
      refine (say_calls a _ 4 bs [45] _ (HS.out.below ((Below.refl _ _).alloc (Nat.le_refl _) _)) (by simp) (World.alloc_heap_new w _) (by simp) (by omega)).mono ?_
      rintro e w1 ⟨rfl, hS1, hB1, hK1⟩
      have f1 : w1.frozen? ⟨a, 0, none⟩ = false := by obtain ⟨v, hb, _⟩ := hS1; exact frozen_blk hb 0
      have c1 : w1.cell? ⟨a, 0, none⟩ = some (.int .i64 4) := by obtain ⟨v, hb, _⟩ := hS1; rw [cell_blk hb]; rfl)
    go_step3
    exact ⟨rfl, ⟨_, _, _, _, _, _, _, _, _, _, _, _, _, _, _, _, _, _, _, _, _, _, _, _, _, _, _, _, _, _, _, _, _, _, _, _, _, _, _, _, _, _, _, _, _, _, _, _, _, _, _, _, _, _, _, _, _, _, _, _, _, _, _, _, _, _, _, _, _, _, _, _, _, _, rfl⟩, hS1.state 5, (((Below.refl a w).alloc (by omega) _).trans hB1).setCell (p := ⟨a, 0, none⟩) (Nat.le_refl _) _, (((Lib.OthersKept.refl _ _ w).alloc _).trans hK1).setCell ⟨a, 0, none⟩ rfl _⟩
  case pass =>
    rintro a' w2 ⟨⟨u2, u3, u4, u5, u6, u7, u8, u9, u10, u11, u12, u13, u14, u15, u16, u17, u18, u19, u20, u21, u22, u23, u24, u25, u26, u27, u28, u29, u30, u31, u32, u33, u34, u35, u36, u37, u38, u39, u40, u41, u42, u43, u44, u45, u46, u47, u48, u49, u50, u51, u52, u53, u54, u55, u56, u57, u58, u59, u60, u61, u62, u63, u64, u65, u66, u67, u68, u69, u70, u71, u72, u73, u74, u75, rfl⟩, hS2, hB2, hK2⟩
    clear c0
    have c2 : w2.cell? ⟨a, 0, none⟩ = some (.int .i64 5) := by obtain ⟨v, hb, _⟩ := hS2; rw [cell_blk hb]; rfl
    have HS2 : Hid (ScAt w2 a 5 (bs ++ encs [45])) := hS2
    have ha2 := hS2.lt
    clear hS2
    go_wp2_with (
      go_at_call 40
      refine (say_calls a _ 5 (bs ++ encs [45]) [r] _ (HS2.out.below ((Below.refl _ _).alloc (Nat.le_refl _) _)) (by simp; omega) (World.alloc_heap_new w2 _) (by simp) (by have := encs_length [45]; simp at this ⊢; omega)).mono ?_
      rintro e w3 ⟨rfl, hS3, hB3, hK3⟩
      have f3 : w3.frozen? ⟨a, 0, none⟩ = false := by obtain ⟨v, hb, _⟩ := hS3; exact frozen_blk hb 0
      have c3 : w3.cell? ⟨a, 0, none⟩ = some (.int .i64 5) := by obtain ⟨v, hb, _⟩ := hS3; rw [cell_blk hb]; rfl)
    simp only [Exit.jump]
    go_ret
    exact ⟨rfl, ⟨_, by rw [show ([45, r] : List Int) = [45] ++ [r] from rfl, encs_app, ← List.append_assoc]; exact hS3⟩, (hB2.alloc (by omega) _).trans hB3, (hK2.alloc _).trans hK3⟩
set_option maxRecDepth 100000 in
set_option maxHeartbeats 2000000 in
theorem step_4_1 (a : Nat) (bs : List UInt8) (w : World) (hS : ScAt w a 4 bs) (_hl : bs.length ≤ 70368744177600) :
    Calls Tryd.prog 29 #[.pointer (some ⟨a, 0, none⟩), .int .i32 45] w (StepEnd w a bs 7 []) := by
  have c0 : w.cell? ⟨a, 0, none⟩ = some (.int .i64 4) := by obtain ⟨v, hb, _⟩ := hS; rw [cell_blk hb]; rfl
  have HS : Hid (ScAt w a 4 bs) := hS
  have ha := hS.lt
  clear hS
  go_enter Tryd.func29, Tryd.ntmps29
  go_wp2
  go_step3
  go_wp2
  go_step3
  go_wp2
  rw [Exit.noGoto_ret]
  go_ret
  exact ⟨rfl, ⟨_, by simpa [encs] using HS.out⟩, Below.refl _ _, Lib.OthersKept.refl _ _ _⟩
set_option maxRecDepth 100000 in
set_option maxHeartbeats 2000000 in
theorem step_4_2 (a : Nat) (bs : List UInt8) (w : World) (hS : ScAt w a 4 bs) (hl : bs.length ≤ 70368744177600) :
    Calls Tryd.prog 29 #[.pointer (some ⟨a, 0, none⟩), .int .i32 33] w (StepEnd w a bs 5 [45, 33]) := by
  have c0 : w.cell? ⟨a, 0, none⟩ = some (.int .i64 4) := by obtain ⟨v, hb, _⟩ := hS; rw [cell_blk hb]; rfl
  have HS : Hid (ScAt w a 4 bs) := hS
  have ha := hS.lt
  clear hS
  go_enter Tryd.func29, Tryd.ntmps29
  go_wp2
  refine wp_scope_jumps 0 (fun a' w' => JAt a 33 a' ∧ ScAt w' a 5 (bs ++ encs [45]) ∧ Below a w w' ∧ Kept a w w') (fun _ _ => 0) rfl ?first ?pass
  case first =>
    go_wp2
    go_step3
    go_wp2_with (
      go_at_call 40
      refine (say_calls a _ 4 bs [45] _ (HS.out.below ((Below.refl _ _).alloc (Nat.le_refl _) _)) (by simp) (World.alloc_heap_new w _) (by simp) (by omega)).mono ?_
      rintro e w1 ⟨rfl, hS1, hB1, hK1⟩
      have f1 : w1.frozen? ⟨a, 0, none⟩ = false := by obtain ⟨v, hb, _⟩ := hS1; exact frozen_blk hb 0
      have c1 : w1.cell? ⟨a, 0, none⟩ = some (.int .i64 4) := by obtain ⟨v, hb, _⟩ := hS1; rw [cell_blk hb]; rfl)
    go_step3
    exact ⟨rfl, ⟨_, _, _, _, _, _, _, _, _, _, _, _, _, _, _, _, _, _, _, _, _, _, _, _, _, _, _, _, _, _, _, _, _, _, _, _, _, _, _, _, _, _, _, _, _, _, _, _, _, _, _, _, _, _, _, _, _, _, _, _, _, _, _, _, _, _, _, _, _, _, _, _, _, _, rfl⟩, hS1.state 5, (((Below.refl a w).alloc (by omega) _).trans hB1).setCell (p := ⟨a, 0, none⟩) (Nat.le_refl _) _, (((Lib.OthersKept.refl _ _ w).alloc _).trans hK1).setCell ⟨a, 0, none⟩ rfl _⟩
  case pass =>
    rintro a' w2 ⟨⟨u2, u3, u4, u5, u6, u7, u8, u9, u10, u11, u12, u13, u14, u15, u16, u17, u18, u19, u20, u21, u22, u23, u24, u25, u26, u27, u28, u29, u30, u31, u32, u33, u34, u35, u36, u37, u38, u39, u40, u41, u42, u43, u44, u45, u46, u47, u48, u49, u50, u51, u52, u53, u54, u55, u56, u57, u58, u59, u60, u61, u62, u63, u64, u65, u66, u67, u68, u69, u70, u71, u72, u73, u74, u75, rfl⟩, hS2, hB2, hK2⟩
    clear c0
    have c2 : w2.cell? ⟨a, 0, none⟩ = some (.int .i64 5) := by obtain ⟨v, hb, _⟩ := hS2; rw [cell_blk hb]; rfl
    have HS2 : Hid (ScAt w2 a 5 (bs ++ encs [45])) := hS2
    have ha2 := hS2.lt
    clear hS2
    go_wp2_with (
      go_at_call 40
      refine (say_calls a _ 5 (bs ++ encs [45]) [33] _ (HS2.out.below ((Below.refl _ _).alloc (Nat.le_refl _) _)) (by simp) (World.alloc_heap_new w2 _) (by simp) (by have := encs_length [45]; simp at this ⊢; omega)).mono ?_
      rintro e w3 ⟨rfl, hS3, hB3, hK3⟩
      have f3 : w3.frozen? ⟨a, 0, none⟩ = false := by obtain ⟨v, hb, _⟩ := hS3; exact frozen_blk hb 0
      have c3 : w3.cell? ⟨a, 0, none⟩ = some (.int .i64 5) := by obtain ⟨v, hb, _⟩ := hS3; rw [cell_blk hb]; rfl)
    simp only [Exit.jump]
    go_ret
    exact ⟨rfl, ⟨_, by rw [show ([45, 33] : List Int) = [45] ++ [33] from rfl, encs_app, ← List.append_assoc]; exact hS3⟩, (hB2.alloc (by omega) _).trans hB3, (hK2.alloc _).trans hK3⟩
set_option maxRecDepth 100000 in
set_option maxHeartbeats 2000000 in
theorem step_4_3 (a : Nat) (bs : List UInt8) (w : World) (hS : ScAt w a 4 bs) (_hl : bs.length ≤ 70368744177600) :
    Calls Tryd.prog 29 #[.pointer (some ⟨a, 0, none⟩), .int .i32 62] w (StepEnd w a bs 9 []) := by
  have c0 : w.cell? ⟨a, 0, none⟩ = some (.int .i64 4) := by obtain ⟨v, hb, _⟩ := hS; rw [cell_blk hb]; rfl
  have HS : Hid (ScAt w a 4 bs) := hS
  have ha := hS.lt
  clear hS
  go_enter Tryd.func29, Tryd.ntmps29
  go_wp2
  go_step3
  go_wp2
  go_step3
  go_wp2
  rw [Exit.noGoto_ret]
  go_ret
  exact ⟨rfl, ⟨_, by simpa [encs] using HS.out⟩, Below.refl _ _, Lib.OthersKept.refl _ _ _⟩
set_option maxRecDepth 100000 in
set_option maxHeartbeats 2000000 in
theorem step_5_0 (a : Nat) (bs : List UInt8) (w : World) (hS : ScAt w a 5 bs) (hl : bs.length ≤ 70368744177600) (r : Int) (hr : -2147483648 ≤ r ∧ r ≤ 2147483647) (_e1 : (r == 62) = false) (e2 : (r == 45) = false) (_e3 : (r == 33) = false) :
    Calls Tryd.prog 29 #[.pointer (some ⟨a, 0, none⟩), .int .i32 r] w (StepEnd w a bs 5 [r]) := by
  have c0 : w.cell? ⟨a, 0, none⟩ = some (.int .i64 5) := by obtain ⟨v, hb, _⟩ := hS; rw [cell_blk hb]; rfl
  have HS : Hid (ScAt w a 5 bs) := hS
  have ha := hS.lt
  clear hS
  go_enter Tryd.func29, Tryd.ntmps29
  go_wp2
  go_step3
  go_wp2
  go_step3
  go_wp2_with (
    go_at_call 40
    refine (say_calls a _ 5 bs [r] _ (HS.out.below ((Below.refl _ _).alloc (Nat.le_refl _) _)) (by simp; omega) (World.alloc_heap_new w _) (by simp) (by omega)).mono ?_
    rintro e w1 ⟨rfl, hS1, hB1, hK1⟩
    have f1 : w1.frozen? ⟨a, 0, none⟩ = false := by obtain ⟨v, hb, _⟩ := hS1; exact frozen_blk hb 0
    have c1 : w1.cell? ⟨a, 0, none⟩ = some (.int .i64 5) := by obtain ⟨v, hb, _⟩ := hS1; rw [cell_blk hb]; rfl)
  rw [Exit.noGoto_ret]
  go_ret
  exact ⟨rfl, ⟨_, hS1⟩, ((Below.refl a w).alloc (by omega) _).trans hB1, ((Lib.OthersKept.refl _ _ w).alloc _).trans hK1⟩
set_option maxRecDepth 100000 in
set_option maxHeartbeats 2000000 in
theorem step_5_1 (a : Nat) (bs : List UInt8) (w : World) (hS : ScAt w a 5 bs) (_hl : bs.length ≤ 70368744177600) :
    Calls Tryd.prog 29 #[.pointer (some ⟨a, 0, none⟩), .int .i32 45] w (StepEnd w a bs 6 []) := by
  have c0 : w.cell? ⟨a, 0, none⟩ = some (.int .i64 5) := by obtain ⟨v, hb, _⟩ := hS; rw [cell_blk hb]; rfl
  have HS : Hid (ScAt w a 5 bs) := hS
  have ha := hS.lt
  clear hS
  go_enter Tryd.func29, Tryd.ntmps29
  go_wp2
  go_step3
  go_wp2
  go_step3
  go_wp2
  rw [Exit.noGoto_ret]
  go_ret
  exact ⟨rfl, ⟨_, by simpa [encs] using HS.out⟩, Below.refl _ _, Lib.OthersKept.refl _ _ _⟩
set_option maxRecDepth 100000 in
set_option maxHeartbeats 2000000 in
theorem step_5_2 (a : Nat) (bs : List UInt8) (w : World) (hS : ScAt w a 5 bs) (hl : bs.length ≤ 70368744177600) :
    Calls Tryd.prog 29 #[.pointer (some ⟨a, 0, none⟩), .int .i32 33] w (StepEnd w a bs 5 [33]) := by
  have c0 : w.cell? ⟨a, 0, none⟩ = some (.int .i64 5) := by obtain ⟨v, hb, _⟩ := hS; rw [cell_blk hb]; rfl
  have HS : Hid (ScAt w a 5 bs) := hS
  have ha := hS.lt
  clear hS
  go_enter Tryd.func29, Tryd.ntmps29
  go_wp2
  go_step3
  go_wp2
  go_step3
  go_wp2_with (
    go_at_call 40
    refine (say_calls a _ 5 bs [33] _ (HS.out.below ((Below.refl _ _).alloc (Nat.le_refl _) _)) (by simp) (World.alloc_heap_new w _) (by simp) (by omega)).mono ?_
    rintro e w1 ⟨rfl, hS1, hB1, hK1⟩
    have f1 : w1.frozen? ⟨a, 0, none⟩ = false := by obtain ⟨v, hb, _⟩ := hS1; exact frozen_blk hb 0
    have c1 : w1.cell? ⟨a, 0, none⟩ = some (.int .i64 5) := by obtain ⟨v, hb, _⟩ := hS1; rw [cell_blk hb]; rfl)
  rw [Exit.noGoto_ret]
  go_ret
  exact ⟨rfl, ⟨_, hS1⟩, ((Below.refl a w).alloc (by omega) _).trans hB1, ((Lib.OthersKept.refl _ _ w).alloc _).trans hK1⟩
set_option maxRecDepth 100000 in
set_option maxHeartbeats 2000000 in
theorem step_5_3 (a : Nat) (bs : List UInt8) (w : World) (hS : ScAt w a 5 bs) (hl : bs.length ≤ 70368744177600) :
    Calls Tryd.prog 29 #[.pointer (some ⟨a, 0, none⟩), .int .i32 62] w (StepEnd w a bs 5 [62]) := by
  have c0 : w.cell? ⟨a, 0, none⟩ = some (.int .i64 5) := by obtain ⟨v, hb, _⟩ := hS; rw [cell_blk hb]; rfl
  have HS : Hid (ScAt w a 5 bs) := hS
  have ha := hS.lt
  clear hS
  go_enter Tryd.func29, Tryd.ntmps29
  go_wp2
  go_step3
  go_wp2
  go_step3
  go_wp2_with (
    go_at_call 40
    refine (say_calls a _ 5 bs [62] _ (HS.out.below ((Below.refl _ _).alloc (Nat.le_refl _) _)) (by simp) (World.alloc_heap_new w _) (by simp) (by omega)).mono ?_
    rintro e w1 ⟨rfl, hS1, hB1, hK1⟩
    have f1 : w1.frozen? ⟨a, 0, none⟩ = false := by obtain ⟨v, hb, _⟩ := hS1; exact frozen_blk hb 0
    have c1 : w1.cell? ⟨a, 0, none⟩ = some (.int .i64 5) := by obtain ⟨v, hb, _⟩ := hS1; rw [cell_blk hb]; rfl)
  rw [Exit.noGoto_ret]
  go_ret
  exact ⟨rfl, ⟨_, hS1⟩, ((Below.refl a w).alloc (by omega) _).trans hB1, ((Lib.OthersKept.refl _ _ w).alloc _).trans hK1⟩
set_option maxRecDepth 100000 in
set_option maxHeartbeats 2000000 in
theorem step_6_0 (a : Nat) (bs : List UInt8) (w : World) (hS : ScAt w a 6 bs) (hl : bs.length ≤ 70368744177600) (r : Int) (hr : -2147483648 ≤ r ∧ r ≤ 2147483647) (_e1 : (r == 62) = false) (e2 : (r == 45) = false) (_e3 : (r == 33) = false) :
    Calls Tryd.prog 29 #[.pointer (some ⟨a, 0, none⟩), .int .i32 r] w (StepEnd w a bs 5 [45, r]) := by
  have c0 : w.cell? ⟨a, 0, none⟩ = some (.int .i64 6) := by obtain ⟨v, hb, _⟩ := hS; rw [cell_blk hb]; rfl
  have HS : Hid (ScAt w a 6 bs) := hS
  have ha := hS.lt
  clear hS
  go_enter Tryd.func29, Tryd.ntmps29
  go_wp2
  refine wp_scope_jumps 0 (fun a' w' => JAt a r a' ∧ ScAt w' a 5 (bs ++ encs [45]) ∧ Below a w w' ∧ Kept a w w') (fun _ _ => 0) rfl ?first ?pass
  case first =>
    go_wp2
    go_step3
    go_wp2_with (
      go_at_call 40
      refine (say_calls a _ 6 bs [45] _ (HS.out.below ((Below.refl _ _).alloc (Nat.le_refl _) _)) (by simp) (World.alloc_heap_new w _) (by simp) (by omega)).mono ?_
      rintro e w1 ⟨rfl, hS1, hB1, hK1⟩
      have f1 : w1.frozen? ⟨a, 0, none⟩ = false := by obtain ⟨v, hb, _⟩ := hS1; exact frozen_blk hb 0
      have c1 : w1.cell? ⟨a, 0, none⟩ = some (.int .i64 6) := by obtain ⟨v, hb, _⟩ := hS1; rw [cell_blk hb]; rfl)
    go_step3
    exact ⟨rfl, ⟨_, _, _, _, _, _, _, _, _, _, _, _, _, _, _, _, _, _, _, _, _, _, _, _, _, _, _, _, _, _, _, _, _, _, _, _, _, _, _, _, _, _, _, _, _, _, _, _, _, _, _, _, _, _, _, _, _, _, _, _, _, _, _, _, _, _, _, _, _, _, _, _, _, _, rfl⟩, hS1.state 5, (((Below.refl a w).alloc (by omega) _).trans hB1).setCell (p := ⟨a, 0, none⟩) (Nat.le_refl _) _, (((Lib.OthersKept.refl _ _ w).alloc _).trans hK1).setCell ⟨a, 0, none⟩ rfl _⟩
  case pass =>
    rintro a' w2 ⟨⟨u2, u3, u4, u5, u6, u7, u8, u9, u10, u11, u12, u13, u14, u15, u16, u17, u18, u19, u20, u21, u22, u23, u24, u25, u26, u27, u28, u29, u30, u31, u32, u33, u34, u35, u36, u37, u38, u39, u40, u41, u42, u43, u44, u45, u46, u47, u48, u49, u50, u51, u52, u53, u54, u55, u56, u57, u58, u59, u60, u61, u62, u63, u64, u65, u66, u67, u68, u69, u70, u71, u72, u73, u74, u75, rfl⟩, hS2, hB2, hK2⟩
    clear c0
    have c2 : w2.cell? ⟨a, 0, none⟩ = some (.int .i64 5) := by obtain ⟨v, hb, _⟩ := hS2; rw [cell_blk hb]; rfl
    have HS2 : Hid (ScAt w2 a 5 (bs ++ encs [45])) := hS2
    have ha2 := hS2.lt
    clear hS2
    go_wp2_with (
      go_at_call 40
      refine (say_calls a _ 5 (bs ++ encs [45]) [r] _ (HS2.out.below ((Below.refl _ _).alloc (Nat.le_refl _) _)) (by simp; omega) (World.alloc_heap_new w2 _) (by simp) (by have := encs_length [45]; simp at this ⊢; omega)).mono ?_
      rintro e w3 ⟨rfl, hS3, hB3, hK3⟩
      have f3 : w3.frozen? ⟨a, 0, none⟩ = false := by obtain ⟨v, hb, _⟩ := hS3; exact frozen_blk hb 0
      have c3 : w3.cell? ⟨a, 0, none⟩ = some (.int .i64 5) := by obtain ⟨v, hb, _⟩ := hS3; rw [cell_blk hb]; rfl)
    simp only [Exit.jump]
    go_ret
    exact ⟨rfl, ⟨_, by rw [show ([45, r] : List Int) = [45] ++ [r] from rfl, encs_app, ← List.append_assoc]; exact hS3⟩, (hB2.alloc (by omega) _).trans hB3, (hK2.alloc _).trans hK3⟩
set_option maxRecDepth 100000 in
set_option maxHeartbeats 2000000 in
theorem step_6_1 (a : Nat) (bs : List UInt8) (w : World) (hS : ScAt w a 6 bs) (_hl : bs.length ≤ 70368744177600) :
    Calls Tryd.prog 29 #[.pointer (some ⟨a, 0, none⟩), .int .i32 45] w (StepEnd w a bs 7 []) := by
  have c0 : w.cell? ⟨a, 0, none⟩ = some (.int .i64 6) := by obtain ⟨v, hb, _⟩ := hS; rw [cell_blk hb]; rfl
  have HS : Hid (ScAt w a 6 bs) := hS
  have ha := hS.lt
  clear hS
  go_enter Tryd.func29, Tryd.ntmps29
  go_wp2
  go_step3
  go_wp2
  go_step3
  go_wp2
  rw [Exit.noGoto_ret]
  go_ret
  exact ⟨rfl, ⟨_, by simpa [encs] using HS.out⟩, Below.refl _ _, Lib.OthersKept.refl _ _ _⟩
set_option maxRecDepth 100000 in
set_option maxHeartbeats 2000000 in
theorem step_6_2 (a : Nat) (bs : List UInt8) (w : World) (hS : ScAt w a 6 bs) (hl : bs.length ≤ 70368744177600) :
    Calls Tryd.prog 29 #[.pointer (some ⟨a, 0, none⟩), .int .i32 33] w (StepEnd w a bs 5 [45, 33]) := by
  have c0 : w.cell? ⟨a, 0, none⟩ = some (.int .i64 6) := by obtain ⟨v, hb, _⟩ := hS; rw [cell_blk hb]; rfl
  have HS : Hid (ScAt w a 6 bs) := hS
  have ha := hS.lt
  clear hS
  go_enter Tryd.func29, Tryd.ntmps29
  go_wp2
  refine wp_scope_jumps 0 (fun a' w' => JAt a 33 a' ∧ ScAt w' a 5 (bs ++ encs [45]) ∧ Below a w w' ∧ Kept a w w') (fun _ _ => 0) rfl ?first ?pass
  case first =>
    go_wp2
    go_step3
    go_wp2_with (
      go_at_call 40
      refine (say_calls a _ 6 bs [45] _ (HS.out.below ((Below.refl _ _).alloc (Nat.le_refl _) _)) (by simp) (World.alloc_heap_new w _) (by simp) (by omega)).mono ?_
      rintro e w1 ⟨rfl, hS1, hB1, hK1⟩
      have f1 : w1.frozen? ⟨a, 0, none⟩ = false := by obtain ⟨v, hb, _⟩ := hS1; exact frozen_blk hb 0
      have c1 : w1.cell? ⟨a, 0, none⟩ = some (.int .i64 6) := by obtain ⟨v, hb, _⟩ := hS1; rw [cell_blk hb]; rfl)
    go_step3
    exact ⟨rfl, ⟨_, _, _, _, _, _, _, _, _, _, _, _, _, _, _, _, _, _, _, _, _, _, _, _, _, _, _, _, _, _, _, _, _, _, _, _, _, _, _, _, _, _, _, _, _, _, _, _, _, _, _, _, _, _, _, _, _, _, _, _, _, _, _, _, _, _, _, _, _, _, _, _, _, _, rfl⟩, hS1.state 5, (((Below.refl a w).alloc (by omega) _).trans hB1).setCell (p := ⟨a, 0, none⟩) (Nat.le_refl _) _, (((Lib.OthersKept.refl _ _ w).alloc _).trans hK1).setCell ⟨a, 0, none⟩ rfl _⟩
  case pass =>
    rintro a' w2 ⟨⟨u2, u3, u4, u5, u6, u7, u8, u9, u10, u11, u12, u13, u14, u15, u16, u17, u18, u19, u20, u21, u22, u23, u24, u25, u26, u27, u28, u29, u30, u31, u32, u33, u34, u35, u36, u37, u38, u39, u40, u41, u42, u43, u44, u45, u46, u47, u48, u49, u50, u51, u52, u53, u54, u55, u56, u57, u58, u59, u60, u61, u62, u63, u64, u65, u66, u67, u68, u69, u70, u71, u72, u73, u74, u75, rfl⟩, hS2, hB2, hK2⟩
    clear c0
    have c2 : w2.cell? ⟨a, 0, none⟩ = some (.int .i64 5) := by obtain ⟨v, hb, _⟩ := hS2; rw [cell_blk hb]; rfl
    have HS2 : Hid (ScAt w2 a 5 (bs ++ encs [45])) := hS2
    have ha2 := hS2.lt
    clear hS2
    go_wp2_with (
      go_at_call 40
      refine (say_calls a _ 5 (bs ++ encs [45]) [33] _ (HS2.out.below ((Below.refl _ _).alloc (Nat.le_refl _) _)) (by simp) (World.alloc_heap_new w2 _) (by simp) (by have := encs_length [45]; simp at this ⊢; omega)).mono ?_
      rintro e w3 ⟨rfl, hS3, hB3, hK3⟩
      have f3 : w3.frozen? ⟨a, 0, none⟩ = false := by obtain ⟨v, hb, _⟩ := hS3; exact frozen_blk hb 0
      have c3 : w3.cell? ⟨a, 0, none⟩ = some (.int .i64 5) := by obtain ⟨v, hb, _⟩ := hS3; rw [cell_blk hb]; rfl)
    simp only [Exit.jump]
    go_ret
    exact ⟨rfl, ⟨_, by rw [show ([45, 33] : List Int) = [45] ++ [33] from rfl, encs_app, ← List.append_assoc]; exact hS3⟩, (hB2.alloc (by omega) _).trans hB3, (hK2.alloc _).trans hK3⟩
set_option maxRecDepth 100000 in
set_option maxHeartbeats 2000000 in
theorem step_6_3 (a : Nat) (bs : List UInt8) (w : World) (hS : ScAt w a 6 bs) (hl : bs.length ≤ 70368744177600) :
    Calls Tryd.prog 29 #[.pointer (some ⟨a, 0, none⟩), .int .i32 62] w (StepEnd w a bs 5 [45, 62]) := by
  have c0 : w.cell? ⟨a, 0, none⟩ = some (.int .i64 6) := by obtain ⟨v, hb, _⟩ := hS; rw [cell_blk hb]; rfl
  have HS : Hid (ScAt w a 6 bs) := hS
  have ha := hS.lt
  clear hS
  go_enter Tryd.func29, Tryd.ntmps29
  go_wp2
  refine wp_scope_jumps 0 (fun a' w' => JAt a 62 a' ∧ ScAt w' a 5 (bs ++ encs [45]) ∧ Below a w w' ∧ Kept a w w') (fun _ _ => 0) rfl ?first ?pass
  case first =>
    go_wp2
    go_step3
    go_wp2_with (
      go_at_call 40
      refine (say_calls a _ 6 bs [45] _ (HS.out.below ((Below.refl _ _).alloc (Nat.le_refl _) _)) (by simp) (World.alloc_heap_new w _) (by simp) (by omega)).mono ?_
      rintro e w1 ⟨rfl, hS1, hB1, hK1⟩
      have f1 : w1.frozen? ⟨a, 0, none⟩ = false := by obtain ⟨v, hb, _⟩ := hS1; exact frozen_blk hb 0
      have c1 : w1.cell? ⟨a, 0, none⟩ = some (.int .i64 6) := by obtain ⟨v, hb, _⟩ := hS1; rw [cell_blk hb]; rfl)
    go_step3
    exact ⟨rfl, ⟨_, _, _, _, _, _, _, _, _, _, _, _, _, _, _, _, _, _, _, _, _, _, _, _, _, _, _, _, _, _, _, _, _, _, _, _, _, _, _, _, _, _, _, _, _, _, _, _, _, _, _, _, _, _, _, _, _, _, _, _, _, _, _, _, _, _, _, _, _, _, _, _, _, _, rfl⟩, hS1.state 5, (((Below.refl a w).alloc (by omega) _).trans hB1).setCell (p := ⟨a, 0, none⟩) (Nat.le_refl _) _, (((Lib.OthersKept.refl _ _ w).alloc _).trans hK1).setCell ⟨a, 0, none⟩ rfl _⟩
  case pass =>
    rintro a' w2 ⟨⟨u2, u3, u4, u5, u6, u7, u8, u9, u10, u11, u12, u13, u14, u15, u16, u17, u18, u19, u20, u21, u22, u23, u24, u25, u26, u27, u28, u29, u30, u31, u32, u33, u34, u35, u36, u37, u38, u39, u40, u41, u42, u43, u44, u45, u46, u47, u48, u49, u50, u51, u52, u53, u54, u55, u56, u57, u58, u59, u60, u61, u62, u63, u64, u65, u66, u67, u68, u69, u70, u71, u72, u73, u74, u75, rfl⟩, hS2, hB2, hK2⟩
    clear c0
    have c2 : w2.cell? ⟨a, 0, none⟩ = some (.int .i64 5) := by obtain ⟨v, hb, _⟩ := hS2; rw [cell_blk hb]; rfl
    have HS2 : Hid (ScAt w2 a 5 (bs ++ encs [45])) := hS2
    have ha2 := hS2.lt
    clear hS2
    go_wp2_with (
      go_at_call 40
      refine (say_calls a _ 5 (bs ++ encs [45]) [62] _ (HS2.out.below ((Below.refl _ _).alloc (Nat.le_refl _) _)) (by simp) (World.alloc_heap_new w2 _) (by simp) (by have := encs_length [45]; simp at this ⊢; omega)).mono ?_
      rintro e w3 ⟨rfl, hS3, hB3, hK3⟩
      have f3 : w3.frozen? ⟨a, 0, none⟩ = false := by obtain ⟨v, hb, _⟩ := hS3; exact frozen_blk hb 0
      have c3 : w3.cell? ⟨a, 0, none⟩ = some (.int .i64 5) := by obtain ⟨v, hb, _⟩ := hS3; rw [cell_blk hb]; rfl)
    simp only [Exit.jump]
    go_ret
    exact ⟨rfl, ⟨_, by rw [show ([45, 62] : List Int) = [45] ++ [62] from rfl, encs_app, ← List.append_assoc]; exact hS3⟩, (hB2.alloc (by omega) _).trans hB3, (hK2.alloc _).trans hK3⟩
set_option maxRecDepth 100000 in
set_option maxHeartbeats 2000000 in
theorem step_7_0 (a : Nat) (bs : List UInt8) (w : World) (hS : ScAt w a 7 bs) (hl : bs.length ≤ 70368744177600) (r : Int) (hr : -2147483648 ≤ r ∧ r ≤ 2147483647) (e1 : (r == 62) = false) (e2 : (r == 45) = false) (e3 : (r == 33) = false) :
    Calls Tryd.prog 29 #[.pointer (some ⟨a, 0, none⟩), .int .i32 r] w (StepEnd w a bs 5 [45, 45, r]) := by
  have c0 : w.cell? ⟨a, 0, none⟩ = some (.int .i64 7) := by obtain ⟨v, hb, _⟩ := hS; rw [cell_blk hb]; rfl
  have HS : Hid (ScAt w a 7 bs) := hS
  have ha := hS.lt
  clear hS
  go_enter Tryd.func29, Tryd.ntmps29
  go_wp2
  refine wp_scope_jumps 0 (fun a' w' => JAt a r a' ∧ ScAt w' a 5 (bs ++ encs [45, 45]) ∧ Below a w w' ∧ Kept a w w') (fun _ _ => 0) rfl ?first ?pass
  case first =>
    go_wp2
    go_step3
    go_wp2_with (
      go_at_call 40
      refine (say_calls a _ 7 bs [45, 45] _ (HS.out.below ((Below.refl _ _).alloc (Nat.le_refl _) _)) (by simp) (World.alloc_heap_new w _) (by simp) (by omega)).mono ?_
      rintro e w1 ⟨rfl, hS1, hB1, hK1⟩
      have f1 : w1.frozen? ⟨a, 0, none⟩ = false := by obtain ⟨v, hb, _⟩ := hS1; exact frozen_blk hb 0
      have c1 : w1.cell? ⟨a, 0, none⟩ = some (.int .i64 7) := by obtain ⟨v, hb, _⟩ := hS1; rw [cell_blk hb]; rfl)
    go_step3
    exact ⟨rfl, ⟨_, _, _, _, _, _, _, _, _, _, _, _, _, _, _, _, _, _, _, _, _, _, _, _, _, _, _, _, _, _, _, _, _, _, _, _, _, _, _, _, _, _, _, _, _, _, _, _, _, _, _, _, _, _, _, _, _, _, _, _, _, _, _, _, _, _, _, _, _, _, _, _, _, _, rfl⟩, hS1.state 5, (((Below.refl a w).alloc (by omega) _).trans hB1).setCell (p := ⟨a, 0, none⟩) (Nat.le_refl _) _, (((Lib.OthersKept.refl _ _ w).alloc _).trans hK1).setCell ⟨a, 0, none⟩ rfl _⟩
  case pass =>
    rintro a' w2 ⟨⟨u2, u3, u4, u5, u6, u7, u8, u9, u10, u11, u12, u13, u14, u15, u16, u17, u18, u19, u20, u21, u22, u23, u24, u25, u26, u27, u28, u29, u30, u31, u32, u33, u34, u35, u36, u37, u38, u39, u40, u41, u42, u43, u44, u45, u46, u47, u48, u49, u50, u51, u52, u53, u54, u55, u56, u57, u58, u59, u60, u61, u62, u63, u64, u65, u66, u67, u68, u69, u70, u71, u72, u73, u74, u75, rfl⟩, hS2, hB2, hK2⟩
    clear c0
    have c2 : w2.cell? ⟨a, 0, none⟩ = some (.int .i64 5) := by obtain ⟨v, hb, _⟩ := hS2; rw [cell_blk hb]; rfl
    have HS2 : Hid (ScAt w2 a 5 (bs ++ encs [45, 45])) := hS2
    have ha2 := hS2.lt
    clear hS2
    go_wp2_with (
      go_at_call 40
      refine (say_calls a _ 5 (bs ++ encs [45, 45]) [r] _ (HS2.out.below ((Below.refl _ _).alloc (Nat.le_refl _) _)) (by simp; omega) (World.alloc_heap_new w2 _) (by simp) (by have := encs_length [45, 45]; simp at this ⊢; omega)).mono ?_
      rintro e w3 ⟨rfl, hS3, hB3, hK3⟩
      have f3 : w3.frozen? ⟨a, 0, none⟩ = false := by obtain ⟨v, hb, _⟩ := hS3; exact frozen_blk hb 0
      have c3 : w3.cell? ⟨a, 0, none⟩ = some (.int .i64 5) := by obtain ⟨v, hb, _⟩ := hS3; rw [cell_blk hb]; rfl)
    simp only [Exit.jump]
    go_ret
    exact ⟨rfl, ⟨_, by rw [show ([45, 45, r] : List Int) = [45, 45] ++ [r] from rfl, encs_app, ← List.append_assoc]; exact hS3⟩, (hB2.alloc (by omega) _).trans hB3, (hK2.alloc _).trans hK3⟩
set_option maxRecDepth 100000 in
set_option maxHeartbeats 2000000 in
theorem step_7_1 (a : Nat) (bs : List UInt8) (w : World) (hS : ScAt w a 7 bs) (hl : bs.length ≤ 70368744177600) :
    Calls Tryd.prog 29 #[.pointer (some ⟨a, 0, none⟩), .int .i32 45] w (StepEnd w a bs 7 [45]) := by
  have c0 : w.cell? ⟨a, 0, none⟩ = some (.int .i64 7) := by obtain ⟨v, hb, _⟩ := hS; rw [cell_blk hb]; rfl
  have HS : Hid (ScAt w a 7 bs) := hS
  have ha := hS.lt
  clear hS
  go_enter Tryd.func29, Tryd.ntmps29
  go_wp2
  go_step3
  go_wp2
  go_step3
  go_wp2_with (
    go_at_call 40
    refine (say_calls a _ 7 bs [45] _ (HS.out.below ((Below.refl _ _).alloc (Nat.le_refl _) _)) (by simp) (World.alloc_heap_new w _) (by simp) (by omega)).mono ?_
    rintro e w1 ⟨rfl, hS1, hB1, hK1⟩
    have f1 : w1.frozen? ⟨a, 0, none⟩ = false := by obtain ⟨v, hb, _⟩ := hS1; exact frozen_blk hb 0
    have c1 : w1.cell? ⟨a, 0, none⟩ = some (.int .i64 7) := by obtain ⟨v, hb, _⟩ := hS1; rw [cell_blk hb]; rfl)
  rw [Exit.noGoto_ret]
  go_ret
  exact ⟨rfl, ⟨_, hS1⟩, ((Below.refl a w).alloc (by omega) _).trans hB1, ((Lib.OthersKept.refl _ _ w).alloc _).trans hK1⟩
set_option maxRecDepth 100000 in
set_option maxHeartbeats 2000000 in
theorem step_7_2 (a : Nat) (bs : List UInt8) (w : World) (hS : ScAt w a 7 bs) (_hl : bs.length ≤ 70368744177600) :
    Calls Tryd.prog 29 #[.pointer (some ⟨a, 0, none⟩), .int .i32 33] w (StepEnd w a bs 8 []) := by
  have c0 : w.cell? ⟨a, 0, none⟩ = some (.int .i64 7) := by obtain ⟨v, hb, _⟩ := hS; rw [cell_blk hb]; rfl
  have HS : Hid (ScAt w a 7 bs) := hS
  have ha := hS.lt
  clear hS
  go_enter Tryd.func29, Tryd.ntmps29
  go_wp2
  go_step3
  go_wp2
  go_step3
  go_wp2
  rw [Exit.noGoto_ret]
  go_ret
  exact ⟨rfl, ⟨_, by simpa [encs] using HS.out⟩, Below.refl _ _, Lib.OthersKept.refl _ _ _⟩
set_option maxRecDepth 100000 in
set_option maxHeartbeats 2000000 in
theorem step_7_3 (a : Nat) (bs : List UInt8) (w : World) (hS : ScAt w a 7 bs) (_hl : bs.length ≤ 70368744177600) :
    Calls Tryd.prog 29 #[.pointer (some ⟨a, 0, none⟩), .int .i32 62] w (StepEnd w a bs 9 []) := by
  have c0 : w.cell? ⟨a, 0, none⟩ = some (.int .i64 7) := by obtain ⟨v, hb, _⟩ := hS; rw [cell_blk hb]; rfl
  have HS : Hid (ScAt w a 7 bs) := hS
  have ha := hS.lt
  clear hS
  go_enter Tryd.func29, Tryd.ntmps29
  go_wp2
  go_step3
  go_wp2
  go_step3
  go_wp2
  rw [Exit.noGoto_ret]
  go_ret
  exact ⟨rfl, ⟨_, by simpa [encs] using HS.out⟩, Below.refl _ _, Lib.OthersKept.refl _ _ _⟩
set_option maxRecDepth 100000 in
set_option maxHeartbeats 2000000 in
theorem step_8_0 (a : Nat) (bs : List UInt8) (w : World) (hS : ScAt w a 8 bs) (hl : bs.length ≤ 70368744177600) (r : Int) (hr : -2147483648 ≤ r ∧ r ≤ 2147483647) (e1 : (r == 62) = false) (e2 : (r == 45) = false) (_e3 : (r == 33) = false) :
    Calls Tryd.prog 29 #[.pointer (some ⟨a, 0, none⟩), .int .i32 r] w (StepEnd w a bs 5 [45, 45, 33, r]) := by
  have c0 : w.cell? ⟨a, 0, none⟩ = some (.int .i64 8) := by obtain ⟨v, hb, _⟩ := hS; rw [cell_blk hb]; rfl
  have HS : Hid (ScAt w a 8 bs) := hS
  have ha := hS.lt
  clear hS
  go_enter Tryd.func29, Tryd.ntmps29
  go_wp2
  refine wp_scope_jumps 0 (fun a' w' => JAt a r a' ∧ ScAt w' a 5 (bs ++ encs [45, 45, 33]) ∧ Below a w w' ∧ Kept a w w') (fun _ _ => 0) rfl ?first ?pass
  case first =>
    go_wp2
    go_step3
    go_wp2_with (
      go_at_call 40
      refine (say_calls a _ 8 bs [45, 45, 33] _ (HS.out.below ((Below.refl _ _).alloc (Nat.le_refl _) _)) (by simp) (World.alloc_heap_new w _) (by simp) (by omega)).mono ?_
      rintro e w1 ⟨rfl, hS1, hB1, hK1⟩
      have f1 : w1.frozen? ⟨a, 0, none⟩ = false := by obtain ⟨v, hb, _⟩ := hS1; exact frozen_blk hb 0
      have c1 : w1.cell? ⟨a, 0, none⟩ = some (.int .i64 8) := by obtain ⟨v, hb, _⟩ := hS1; rw [cell_blk hb]; rfl)
    go_step3
    exact ⟨rfl, ⟨_, _, _, _, _, _, _, _, _, _, _, _, _, _, _, _, _, _, _, _, _, _, _, _, _, _, _, _, _, _, _, _, _, _, _, _, _, _, _, _, _, _, _, _, _, _, _, _, _, _, _, _, _, _, _, _, _, _, _, _, _, _, _, _, _, _, _, _, _, _, _, _, _, _, rfl⟩, hS1.state 5, (((Below.refl a w).alloc (by omega) _).trans hB1).setCell (p := ⟨a, 0, none⟩) (Nat.le_refl _) _, (((Lib.OthersKept.refl _ _ w).alloc _).trans hK1).setCell ⟨a, 0, none⟩ rfl _⟩
  case pass =>
    rintro a' w2 ⟨⟨u2, u3, u4, u5, u6, u7, u8, u9, u10, u11, u12, u13, u14, u15, u16, u17, u18, u19, u20, u21, u22, u23, u24, u25, u26, u27, u28, u29, u30, u31, u32, u33, u34, u35, u36, u37, u38, u39, u40, u41, u42, u43, u44, u45, u46, u47, u48, u49, u50, u51, u52, u53, u54, u55, u56, u57, u58, u59, u60, u61, u62, u63, u64, u65, u66, u67, u68, u69, u70, u71, u72, u73, u74, u75, rfl⟩, hS2, hB2, hK2⟩
    clear c0
    have c2 : w2.cell? ⟨a, 0, none⟩ = some (.int .i64 5) := by obtain ⟨v, hb, _⟩ := hS2; rw [cell_blk hb]; rfl
    have HS2 : Hid (ScAt w2 a 5 (bs ++ encs [45, 45, 33])) := hS2
    have ha2 := hS2.lt
    clear hS2
    go_wp2_with (
      go_at_call 40
      refine (say_calls a _ 5 (bs ++ encs [45, 45, 33]) [r] _ (HS2.out.below ((Below.refl _ _).alloc (Nat.le_refl _) _)) (by simp; omega) (World.alloc_heap_new w2 _) (by simp) (by have := encs_length [45, 45, 33]; simp at this ⊢; omega)).mono ?_
      rintro e w3 ⟨rfl, hS3, hB3, hK3⟩
      have f3 : w3.frozen? ⟨a, 0, none⟩ = false := by obtain ⟨v, hb, _⟩ := hS3; exact frozen_blk hb 0
      have c3 : w3.cell? ⟨a, 0, none⟩ = some (.int .i64 5) := by obtain ⟨v, hb, _⟩ := hS3; rw [cell_blk hb]; rfl)
    simp only [Exit.jump]
    go_ret
    exact ⟨rfl, ⟨_, by rw [show ([45, 45, 33, r] : List Int) = [45, 45, 33] ++ [r] from rfl, encs_app, ← List.append_assoc]; exact hS3⟩, (hB2.alloc (by omega) _).trans hB3, (hK2.alloc _).trans hK3⟩
set_option maxRecDepth 100000 in
set_option maxHeartbeats 2000000 in
theorem step_8_1 (a : Nat) (bs : List UInt8) (w : World) (hS : ScAt w a 8 bs) (hl : bs.length ≤ 70368744177600) :
    Calls Tryd.prog 29 #[.pointer (some ⟨a, 0, none⟩), .int .i32 45] w (StepEnd w a bs 6 [45, 45, 33]) := by
  have c0 : w.cell? ⟨a, 0, none⟩ = some (.int .i64 8) := by obtain ⟨v, hb, _⟩ := hS; rw [cell_blk hb]; rfl
  have HS : Hid (ScAt w a 8 bs) := hS
  have ha := hS.lt
  clear hS
  go_enter Tryd.func29, Tryd.ntmps29
  go_wp2
  refine wp_scope_jumps 0 (fun a' w' => JAt a 45 a' ∧ ScAt w' a 5 (bs ++ encs [45, 45, 33]) ∧ Below a w w' ∧ Kept a w w') (fun _ _ => 0) rfl ?first ?pass
  case first =>
    go_wp2
    go_step3
    go_wp2_with (
      go_at_call 40
      refine (say_calls a _ 8 bs [45, 45, 33] _ (HS.out.below ((Below.refl _ _).alloc (Nat.le_refl _) _)) (by simp) (World.alloc_heap_new w _) (by simp) (by omega)).mono ?_
      rintro e w1 ⟨rfl, hS1, hB1, hK1⟩
      have f1 : w1.frozen? ⟨a, 0, none⟩ = false := by obtain ⟨v, hb, _⟩ := hS1; exact frozen_blk hb 0
      have c1 : w1.cell? ⟨a, 0, none⟩ = some (.int .i64 8) := by obtain ⟨v, hb, _⟩ := hS1; rw [cell_blk hb]; rfl)
    go_step3
    exact ⟨rfl, ⟨_, _, _, _, _, _, _, _, _, _, _, _, _, _, _, _, _, _, _, _, _, _, _, _, _, _, _, _, _, _, _, _, _, _, _, _, _, _, _, _, _, _, _, _, _, _, _, _, _, _, _, _, _, _, _, _, _, _, _, _, _, _, _, _, _, _, _, _, _, _, _, _, _, _, rfl⟩, hS1.state 5, (((Below.refl a w).alloc (by omega) _).trans hB1).setCell (p := ⟨a, 0, none⟩) (Nat.le_refl _) _, (((Lib.OthersKept.refl _ _ w).alloc _).trans hK1).setCell ⟨a, 0, none⟩ rfl _⟩
  case pass =>
    rintro a' w2 ⟨⟨u2, u3, u4, u5, u6, u7, u8, u9, u10, u11, u12, u13, u14, u15, u16, u17, u18, u19, u20, u21, u22, u23, u24, u25, u26, u27, u28, u29, u30, u31, u32, u33, u34, u35, u36, u37, u38, u39, u40, u41, u42, u43, u44, u45, u46, u47, u48, u49, u50, u51, u52, u53, u54, u55, u56, u57, u58, u59, u60, u61, u62, u63, u64, u65, u66, u67, u68, u69, u70, u71, u72, u73, u74, u75, rfl⟩, hS2, hB2, hK2⟩
    clear c0
    have c2 : w2.cell? ⟨a, 0, none⟩ = some (.int .i64 5) := by obtain ⟨v, hb, _⟩ := hS2; rw [cell_blk hb]; rfl
    have HS2 : Hid (ScAt w2 a 5 (bs ++ encs [45, 45, 33])) := hS2
    have ha2 := hS2.lt
    clear hS2
    go_wp2
    simp only [Exit.jump]
    go_ret
    exact ⟨rfl, ⟨_, HS2.out⟩, hB2, hK2⟩
set_option maxRecDepth 100000 in
set_option maxHeartbeats 2000000 in
theorem step_8_2 (a : Nat) (bs : List UInt8) (w : World) (hS : ScAt w a 8 bs) (hl : bs.length ≤ 70368744177600) :
    Calls Tryd.prog 29 #[.pointer (some ⟨a, 0, none⟩), .int .i32 33] w (StepEnd w a bs 5 [45, 45, 33, 33]) := by
  have c0 : w.cell? ⟨a, 0, none⟩ = some (.int .i64 8) := by obtain ⟨v, hb, _⟩ := hS; rw [cell_blk hb]; rfl
  have HS : Hid (ScAt w a 8 bs) := hS
  have ha := hS.lt
  clear hS
  go_enter Tryd.func29, Tryd.ntmps29
  go_wp2
  refine wp_scope_jumps 0 (fun a' w' => JAt a 33 a' ∧ ScAt w' a 5 (bs ++ encs [45, 45, 33]) ∧ Below a w w' ∧ Kept a w w') (fun _ _ => 0) rfl ?first ?pass
  case first =>
    go_wp2
    go_step3
    go_wp2_with (
      go_at_call 40
      refine (say_calls a _ 8 bs [45, 45, 33] _ (HS.out.below ((Below.refl _ _).alloc (Nat.le_refl _) _)) (by simp) (World.alloc_heap_new w _) (by simp) (by omega)).mono ?_
      rintro e w1 ⟨rfl, hS1, hB1, hK1⟩
      have f1 : w1.frozen? ⟨a, 0, none⟩ = false := by obtain ⟨v, hb, _⟩ := hS1; exact frozen_blk hb 0
      have c1 : w1.cell? ⟨a, 0, none⟩ = some (.int .i64 8) := by obtain ⟨v, hb, _⟩ := hS1; rw [cell_blk hb]; rfl)
    go_step3
    exact ⟨rfl, ⟨_, _, _, _, _, _, _, _, _, _, _, _, _, _, _, _, _, _, _, _, _, _, _, _, _, _, _, _, _, _, _, _, _, _, _, _, _, _, _, _, _, _, _, _, _, _, _, _, _, _, _, _, _, _, _, _, _, _, _, _, _, _, _, _, _, _, _, _, _, _, _, _, _, _, rfl⟩, hS1.state 5, (((Below.refl a w).alloc (by omega) _).trans hB1).setCell (p := ⟨a, 0, none⟩) (Nat.le_refl _) _, (((Lib.OthersKept.refl _ _ w).alloc _).trans hK1).setCell ⟨a, 0, none⟩ rfl _⟩
  case pass =>
    rintro a' w2 ⟨⟨u2, u3, u4, u5, u6, u7, u8, u9, u10, u11, u12, u13, u14, u15, u16, u17, u18, u19, u20, u21, u22, u23, u24, u25, u26, u27, u28, u29, u30, u31, u32, u33, u34, u35, u36, u37, u38, u39, u40, u41, u42, u43, u44, u45, u46, u47, u48, u49, u50, u51, u52, u53, u54, u55, u56, u57, u58, u59, u60, u61, u62, u63, u64, u65, u66, u67, u68, u69, u70, u71, u72, u73, u74, u75, rfl⟩, hS2, hB2, hK2⟩
    clear c0
    have c2 : w2.cell? ⟨a, 0, none⟩ = some (.int .i64 5) := by obtain ⟨v, hb, _⟩ := hS2; rw [cell_blk hb]; rfl
    have HS2 : Hid (ScAt w2 a 5 (bs ++ encs [45, 45, 33])) := hS2
    have ha2 := hS2.lt
    clear hS2
    go_wp2_with (
      go_at_call 40
      refine (say_calls a _ 5 (bs ++ encs [45, 45, 33]) [33] _ (HS2.out.below ((Below.refl _ _).alloc (Nat.le_refl _) _)) (by simp) (World.alloc_heap_new w2 _) (by simp) (by have := encs_length [45, 45, 33]; simp at this ⊢; omega)).mono ?_
      rintro e w3 ⟨rfl, hS3, hB3, hK3⟩
      have f3 : w3.frozen? ⟨a, 0, none⟩ = false := by obtain ⟨v, hb, _⟩ := hS3; exact frozen_blk hb 0
      have c3 : w3.cell? ⟨a, 0, none⟩ = some (.int .i64 5) := by obtain ⟨v, hb, _⟩ := hS3; rw [cell_blk hb]; rfl)
    simp only [Exit.jump]
    go_ret
    exact ⟨rfl, ⟨_, by rw [show ([45, 45, 33, 33] : List Int) = [45, 45, 33] ++ [33] from rfl, encs_app, ← List.append_assoc]; exact hS3⟩, (hB2.alloc (by omega) _).trans hB3, (hK2.alloc _).trans hK3⟩
set_option maxRecDepth 100000 in
set_option maxHeartbeats 2000000 in
theorem step_8_3 (a : Nat) (bs : List UInt8) (w : World) (hS : ScAt w a 8 bs) (_hl : bs.length ≤ 70368744177600) :
    Calls Tryd.prog 29 #[.pointer (some ⟨a, 0, none⟩), .int .i32 62] w (StepEnd w a bs 9 []) := by
  have c0 : w.cell? ⟨a, 0, none⟩ = some (.int .i64 8) := by obtain ⟨v, hb, _⟩ := hS; rw [cell_blk hb]; rfl
  have HS : Hid (ScAt w a 8 bs) := hS
  have ha := hS.lt
  clear hS
  go_enter Tryd.func29, Tryd.ntmps29
  go_wp2
  go_step3
  go_wp2
  go_step3
  go_wp2
  rw [Exit.noGoto_ret]
  go_ret
  exact ⟨rfl, ⟨_, by simpa [encs] using HS.out⟩, Below.refl _ _, Lib.OthersKept.refl _ _ _⟩
theorem cl_beq {r : Int} (h1 : r ≠ 45) (h2 : r ≠ 33) (h3 : r ≠ 62) : (r == 62) = false ∧ (r == 45) = false ∧ (r == 33) = false := by simp [h1, h2, h3]
/-- **step**: from any state that is not over, by any rune. -/
theorem step_calls (a q : Nat) (bs : List UInt8) (r : Int) (w : World) (hq : isQ q) (h9 : q ≠ 9) (hS : ScAt w a q bs) (hl : bs.length ≤ 70368744177600) (hr : -2147483648 ≤ r ∧ r ≤ 2147483647) :
    Calls Tryd.prog 29 #[.pointer (some ⟨a, 0, none⟩), .int .i32 r] w (StepEnd w a bs (dl q (cl r)) (says q r)) := by
  rcases isQ_cases hq with rfl | rfl | rfl | rfl | rfl | rfl | rfl | rfl | rfl
  · rcases cl_cases r with ⟨rfl, k⟩ | ⟨rfl, k⟩ | ⟨rfl, k⟩ | ⟨k1, k2, k3, k⟩
    · exact step_1_1 a bs w hS hl
    · exact step_1_2 a bs w hS hl
    · exact step_1_3 a bs w hS hl
    · obtain ⟨e1, e2, e3⟩ := cl_beq k1 k2 k3
      have h := step_1_0 a bs w hS hl r hr e1 e2 e3
      unfold says
      rw [k]
      exact h
  · rcases cl_cases r with ⟨rfl, k⟩ | ⟨rfl, k⟩ | ⟨rfl, k⟩ | ⟨k1, k2, k3, k⟩
    · exact step_2_1 a bs w hS hl
    · exact step_2_2 a bs w hS hl
    · exact step_2_3 a bs w hS hl
    · obtain ⟨e1, e2, e3⟩ := cl_beq k1 k2 k3
      have h := step_2_0 a bs w hS hl r hr e1 e2 e3
      unfold says
      rw [k]
      exact h
  · rcases cl_cases r with ⟨rfl, k⟩ | ⟨rfl, k⟩ | ⟨rfl, k⟩ | ⟨k1, k2, k3, k⟩
    · exact step_3_1 a bs w hS hl
    · exact step_3_2 a bs w hS hl
    · exact step_3_3 a bs w hS hl
    · obtain ⟨e1, e2, e3⟩ := cl_beq k1 k2 k3
      have h := step_3_0 a bs w hS hl r hr e1 e2 e3
      unfold says
      rw [k]
      exact h
  · rcases cl_cases r with ⟨rfl, k⟩ | ⟨rfl, k⟩ | ⟨rfl, k⟩ | ⟨k1, k2, k3, k⟩
    · exact step_4_1 a bs w hS hl
    · exact step_4_2 a bs w hS hl
    · exact step_4_3 a bs w hS hl
    · obtain ⟨e1, e2, e3⟩ := cl_beq k1 k2 k3
      have h := step_4_0 a bs w hS hl r hr e1 e2 e3
      unfold says
      rw [k]
      exact h
  · rcases cl_cases r with ⟨rfl, k⟩ | ⟨rfl, k⟩ | ⟨rfl, k⟩ | ⟨k1, k2, k3, k⟩
    · exact step_5_1 a bs w hS hl
    · exact step_5_2 a bs w hS hl
    · exact step_5_3 a bs w hS hl
    · obtain ⟨e1, e2, e3⟩ := cl_beq k1 k2 k3
      have h := step_5_0 a bs w hS hl r hr e1 e2 e3
      unfold says
      rw [k]
      exact h
  · rcases cl_cases r with ⟨rfl, k⟩ | ⟨rfl, k⟩ | ⟨rfl, k⟩ | ⟨k1, k2, k3, k⟩
    · exact step_6_1 a bs w hS hl
    · exact step_6_2 a bs w hS hl
    · exact step_6_3 a bs w hS hl
    · obtain ⟨e1, e2, e3⟩ := cl_beq k1 k2 k3
      have h := step_6_0 a bs w hS hl r hr e1 e2 e3
      unfold says
      rw [k]
      exact h
  · rcases cl_cases r with ⟨rfl, k⟩ | ⟨rfl, k⟩ | ⟨rfl, k⟩ | ⟨k1, k2, k3, k⟩
    · exact step_7_1 a bs w hS hl
    · exact step_7_2 a bs w hS hl
    · exact step_7_3 a bs w hS hl
    · obtain ⟨e1, e2, e3⟩ := cl_beq k1 k2 k3
      have h := step_7_0 a bs w hS hl r hr e1 e2 e3
      unfold says
      rw [k]
      exact h
  · rcases cl_cases r with ⟨rfl, k⟩ | ⟨rfl, k⟩ | ⟨rfl, k⟩ | ⟨k1, k2, k3, k⟩
    · exact step_8_1 a bs w hS hl
    · exact step_8_2 a bs w hS hl
    · exact step_8_3 a bs w hS hl
    · obtain ⟨e1, e2, e3⟩ := cl_beq k1 k2 k3
      have h := step_8_0 a bs w hS hl r hr e1 e2 e3
      unfold says
      rw [k]
      exact h
  · exact absurd rfl h9
end Go.Proofs.YtckhnkkmcgbabaaDoor.K
