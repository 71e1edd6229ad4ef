/- What is proved here: laws and contracts of BaTake2, BaOut, one behind the other (each says its own). -/
import Derived.Test.YtdkcibafbdmajabGreatDoorBaTexts
/- What is proved here: take of a token whose step is known, by its kind; finish. -/
namespace Go.Proofs.YtdkcibafbdmajabGreatDoor.B
open Go.RowKit Go.Shelf Go.WideMaps Go.Maps Go.Proofs.YtdkcibafbdmajabGreatDoor.N Go.Proofs.YtdkcibafbdmajabGreatDoor.C Go.Proofs.YtdkcibafbdmajabGreatDoor.E

/-- A token of a start, a text, an end with no attributes, as a value. -/
def tokv (k : Int) (x tx : Txt) (av : Value) (sf : Bool) (p0 p1 p2 : Int) : Value := .agg #[.int .i64 k, .string ⟨x.toArray⟩, .string ⟨tx.toArray⟩, av, .bool sf, .int .i64 p0, .int .i64 p1, .int .i64 p2]
set_option maxRecDepth 100000 in
set_option maxHeartbeats 40000000 in
/-- **take** of a token of kind 1. -/
theorem take_start (n B : Nat) (s R : BSt) (x tx : Txt) (av : Value) (sf : Bool) (p0 p1 p2 : Int) (w : World) (h : BalAt n B s w)
    (H : ∀ W, Below w.heap.size w W → BalAt n B s W → Calls Tryz.prog 45 #[.pointer (some ⟨B, 0, none⟩), tokv 1 x tx av sf p0 p1 p2] W fun r w' => (∃ v, r = .returned v) ∧ BalAt n B R w' ∧ Fr B W w') :
    Calls Tryz.prog 28 #[.pointer (some ⟨B, 0, none⟩), tokv 1 x tx av sf p0 p1 p2] w fun r w' => (∃ v, r = .returned v) ∧ BalAt n B R w' ∧ Fr B w w' := by
  unfold tokv at H ⊢
  obtain ⟨W1, hW1⟩ : ∃ W, w.alloc (.cells #[.int .i64 1, .string ⟨x.toArray⟩, .string ⟨tx.toArray⟩, av, .bool sf, .int .i64 p0, .int .i64 p1, .int .i64 p2] 37) = W := ⟨_, rfl⟩
  have b1 : Below w.heap.size w W1 := by rw [← hW1]; exact (Below.refl _ w).alloc (Nat.le_refl _) _
  have q1 : Blk W1 w.heap.size #[.int .i64 1, .string ⟨x.toArray⟩, .string ⟨tx.toArray⟩, av, .bool sf, .int .i64 p0, .int .i64 p1, .int .i64 p2] 37 := by rw [← hW1]; exact Blk.new _ _ _
  have HF1 : Hid (Fr B w W1) := Fr.of_below h.lt b1
  have HC := hid_of (H W1 b1 (h.below b1))
  have HW : Hid (w.alloc (.cells #[.int .i64 1, .string ⟨x.toArray⟩, .string ⟨tx.toArray⟩, av, .bool sf, .int .i64 p0, .int .i64 p1, .int .i64 p2] 37) = W1) := hW1
  have e0 : W1.cell? ⟨w.heap.size, 0, none⟩ = some (.int .i64 1) := q1.cell 0
  have e1 : W1.cell? ⟨w.heap.size, 1, none⟩ = some (.string ⟨x.toArray⟩) := q1.cell 1
  have e2 : W1.cell? ⟨w.heap.size, 2, none⟩ = some (.string ⟨tx.toArray⟩) := q1.cell 2
  have e3 : W1.cell? ⟨w.heap.size, 3, none⟩ = some av := q1.cell 3
  have e4 : W1.cell? ⟨w.heap.size, 4, none⟩ = some (.bool sf) := q1.cell 4
  have e5 : W1.cell? ⟨w.heap.size, 5, none⟩ = some (.int .i64 p0) := q1.cell 5
  have e6 : W1.cell? ⟨w.heap.size, 6, none⟩ = some (.int .i64 p1) := q1.cell 6
  have e7 : W1.cell? ⟨w.heap.size, 7, none⟩ = some (.int .i64 p2) := q1.cell 7
  clear h H hW1 b1 q1
  go_enter Tryz.func28, Tryz.ntmps28
  go_upto_region 1 with fail
  rw [HW.out]
  clear HW
  go_wp2_with fail
  (go_at_call 45; refine HC.out.mono ?_; rintro e w5 ⟨⟨v5, rfl⟩, hb5, hk5⟩)
  go_wp2_with fail
  go_end0
  exact ⟨⟨_, rfl⟩, hb5, HF1.out.trans hk5⟩
set_option maxRecDepth 100000 in
set_option maxHeartbeats 40000000 in
/-- **take** of a token of kind 0. -/
theorem take_text (n B : Nat) (s R : BSt) (x tx : Txt) (av : Value) (sf : Bool) (p0 p1 p2 : Int) (w : World) (h : BalAt n B s w)
    (H : ∀ W, Below w.heap.size w W → BalAt n B s W → Calls Tryz.prog 46 #[.pointer (some ⟨B, 0, none⟩), tokv 0 x tx av sf p0 p1 p2] W fun r w' => (∃ v, r = .returned v) ∧ BalAt n B R w' ∧ Fr B W w') :
    Calls Tryz.prog 28 #[.pointer (some ⟨B, 0, none⟩), tokv 0 x tx av sf p0 p1 p2] w fun r w' => (∃ v, r = .returned v) ∧ BalAt n B R w' ∧ Fr B w w' := by
  unfold tokv at H ⊢
  obtain ⟨W1, hW1⟩ : ∃ W, w.alloc (.cells #[.int .i64 0, .string ⟨x.toArray⟩, .string ⟨tx.toArray⟩, av, .bool sf, .int .i64 p0, .int .i64 p1, .int .i64 p2] 37) = W := ⟨_, rfl⟩
  have b1 : Below w.heap.size w W1 := by rw [← hW1]; exact (Below.refl _ w).alloc (Nat.le_refl _) _
  have q1 : Blk W1 w.heap.size #[.int .i64 0, .string ⟨x.toArray⟩, .string ⟨tx.toArray⟩, av, .bool sf, .int .i64 p0, .int .i64 p1, .int .i64 p2] 37 := by rw [← hW1]; exact Blk.new _ _ _
  have HF1 : Hid (Fr B w W1) := Fr.of_below h.lt b1
  have HC := hid_of (H W1 b1 (h.below b1))
  have HW : Hid (w.alloc (.cells #[.int .i64 0, .string ⟨x.toArray⟩, .string ⟨tx.toArray⟩, av, .bool sf, .int .i64 p0, .int .i64 p1, .int .i64 p2] 37) = W1) := hW1
  have e0 : W1.cell? ⟨w.heap.size, 0, none⟩ = some (.int .i64 0) := q1.cell 0
  have e1 : W1.cell? ⟨w.heap.size, 1, none⟩ = some (.string ⟨x.toArray⟩) := q1.cell 1
  have e2 : W1.cell? ⟨w.heap.size, 2, none⟩ = some (.string ⟨tx.toArray⟩) := q1.cell 2
  have e3 : W1.cell? ⟨w.heap.size, 3, none⟩ = some av := q1.cell 3
  have e4 : W1.cell? ⟨w.heap.size, 4, none⟩ = some (.bool sf) := q1.cell 4
  have e5 : W1.cell? ⟨w.heap.size, 5, none⟩ = some (.int .i64 p0) := q1.cell 5
  have e6 : W1.cell? ⟨w.heap.size, 6, none⟩ = some (.int .i64 p1) := q1.cell 6
  have e7 : W1.cell? ⟨w.heap.size, 7, none⟩ = some (.int .i64 p2) := q1.cell 7
  clear h H hW1 b1 q1
  go_enter Tryz.func28, Tryz.ntmps28
  go_upto_region 1 with fail
  rw [HW.out]
  clear HW
  go_wp2_with fail
  (go_at_call 46; refine HC.out.mono ?_; rintro e w5 ⟨⟨v5, rfl⟩, hb5, hk5⟩)
  go_wp2_with fail
  go_end0
  exact ⟨⟨_, rfl⟩, hb5, HF1.out.trans hk5⟩
set_option maxRecDepth 100000 in
set_option maxHeartbeats 40000000 in
/-- **take** of a token of kind 2. -/
theorem take_end (n B : Nat) (s R : BSt) (x tx : Txt) (av : Value) (sf : Bool) (p0 p1 p2 : Int) (w : World) (h : BalAt n B s w)
    (H : ∀ W, Below w.heap.size w W → BalAt n B s W → Calls Tryz.prog 47 #[.pointer (some ⟨B, 0, none⟩), tokv 2 x tx av sf p0 p1 p2] W fun r w' => (∃ v, r = .returned v) ∧ BalAt n B R w' ∧ Fr B W w') :
    Calls Tryz.prog 28 #[.pointer (some ⟨B, 0, none⟩), tokv 2 x tx av sf p0 p1 p2] w fun r w' => (∃ v, r = .returned v) ∧ BalAt n B R w' ∧ Fr B w w' := by
  unfold tokv at H ⊢
  obtain ⟨W1, hW1⟩ : ∃ W, w.alloc (.cells #[.int .i64 2, .string ⟨x.toArray⟩, .string ⟨tx.toArray⟩, av, .bool sf, .int .i64 p0, .int .i64 p1, .int .i64 p2] 37) = W := ⟨_, rfl⟩
  have b1 : Below w.heap.size w W1 := by rw [← hW1]; exact (Below.refl _ w).alloc (Nat.le_refl _) _
  have q1 : Blk W1 w.heap.size #[.int .i64 2, .string ⟨x.toArray⟩, .string ⟨tx.toArray⟩, av, .bool sf, .int .i64 p0, .int .i64 p1, .int .i64 p2] 37 := by rw [← hW1]; exact Blk.new _ _ _
  have HF1 : Hid (Fr B w W1) := Fr.of_below h.lt b1
  have HC := hid_of (H W1 b1 (h.below b1))
  have HW : Hid (w.alloc (.cells #[.int .i64 2, .string ⟨x.toArray⟩, .string ⟨tx.toArray⟩, av, .bool sf, .int .i64 p0, .int .i64 p1, .int .i64 p2] 37) = W1) := hW1
  have e0 : W1.cell? ⟨w.heap.size, 0, none⟩ = some (.int .i64 2) := q1.cell 0
  have e1 : W1.cell? ⟨w.heap.size, 1, none⟩ = some (.string ⟨x.toArray⟩) := q1.cell 1
  have e2 : W1.cell? ⟨w.heap.size, 2, none⟩ = some (.string ⟨tx.toArray⟩) := q1.cell 2
  have e3 : W1.cell? ⟨w.heap.size, 3, none⟩ = some av := q1.cell 3
  have e4 : W1.cell? ⟨w.heap.size, 4, none⟩ = some (.bool sf) := q1.cell 4
  have e5 : W1.cell? ⟨w.heap.size, 5, none⟩ = some (.int .i64 p0) := q1.cell 5
  have e6 : W1.cell? ⟨w.heap.size, 6, none⟩ = some (.int .i64 p1) := q1.cell 6
  have e7 : W1.cell? ⟨w.heap.size, 7, none⟩ = some (.int .i64 p2) := q1.cell 7
  clear h H hW1 b1 q1
  go_enter Tryz.func28, Tryz.ntmps28
  go_upto_region 1 with fail
  rw [HW.out]
  clear HW
  go_wp2_with fail
  (go_at_call 47; refine HC.out.mono ?_; rintro e w5 ⟨⟨v5, rfl⟩, hb5, hk5⟩)
  go_wp2_with fail
  go_end0
  exact ⟨⟨_, rfl⟩, hb5, HF1.out.trans hk5⟩
/-- What the end does. -/
def finS (s : BSt) : BSt := { closedS s s.S.length with ov := true }
set_option maxRecDepth 100000 in
set_option maxHeartbeats 40000000 in
/-- **finish.** -/
theorem finish_calls (n B : Nat) (s : BSt) (hE : s.E.length ≤ 800000000) (hS : s.S.length ≤ 600) (w : World) (h : BalAt n B s w) (hn : n ≤ w.heap.size) :
    Calls Tryz.prog 38 #[.pointer (some ⟨B, 0, none⟩)] w fun r w' => (∃ v, r = .returned v) ∧ BalAt n B (finS s) w' ∧ Fr B w w' := by
  obtain ⟨v0, v1, v2, hb, o0, o1, o2⟩ := h.blk
  obtain ⟨va, vc, rfl⟩ := owns_slice o2
  have c2 : w.cell? ⟨B, 2, none⟩ = some (.slice va s.S.length vc) := hb.cell 2
  have HCL := hid_of (fun W (hW : BalAt n B s W) (hnW : n ≤ W.heap.size) => close_calls n B s s.S.length (by omega) (by omega) (by omega) W hW hnW)
  have HH := hid_of h
  have HN := hid_of hn
  have HR : Hid (finS s = { closedS s s.S.length with ov := true }) := rfl
  clear h hn hb o0 o1 o2
  go_enter Tryz.func38, Tryz.ntmps38
  go_upto_region 0 with fail
  go_region_with (go_at_call 58; refine (HCL.out _ (HH.out.below (by first | exact Below.refl _ _ | exact (Below.refl _ _).drew)) (by first | exact HN.out | (simp; exact HN.out))).mono ?_; rintro e w5 ⟨⟨v5, rfl⟩, hb5, hk5⟩; have hk7 : Fr B w w5 := (by first | exact hk5 | exact (Fr.of_below HH.out.lt (Below.refl _ w).drew).trans hk5); obtain ⟨x0, x1, x2, hbl, r0, r1, r2⟩ := hb5.blk; have f7 : w5.frozen? ⟨B, 7, none⟩ = false := hbl.frozen 7; have c7 : w5.cell? ⟨B, 7, none⟩ = some (.bool (closedS s s.S.length).ov) := hbl.cell 7)
  all_goals go_wp2_with fail
  all_goals go_end0
  all_goals exact ⟨⟨_, rfl⟩, by rw [HR.out]; exact ⟨⟨x0, x1, x2, hbl.set 7 (.bool true), row_set r0 hbl (by decide), row_set r1 hbl (by decide), row_set r2 hbl (by decide)⟩, hb5.hB⟩, hk7.trans (fr_put hbl (i := 7) rfl (.inl (by decide)))⟩
end Go.Proofs.YtdkcibafbdmajabGreatDoor.B

/- What is proved here: handOut. -/
namespace Go.Proofs.YtdkcibafbdmajabGreatDoor.B
open Go.RowKit Go.Shelf Go.WideMaps Go.Maps Go.Proofs.YtdkcibafbdmajabGreatDoor.N Go.Proofs.YtdkcibafbdmajabGreatDoor.C Go.Proofs.YtdkcibafbdmajabGreatDoor.E
set_option maxRecDepth 100000 in
set_option maxHeartbeats 40000000 in
/-- **handOut** of events and findings that there are. -/
theorem out_calls (B : Nat) (g0 c0 g1 c1 ne nf : Nat) (v2 v3 v4 v5 v6 v7 : Value) (h0 : ne ≤ c0) (h1 : nf ≤ c1) (w : World) (hb : Blk w B #[.slice (some ⟨g0, 0, none⟩) ne c0, .slice (some ⟨g1, 0, none⟩) nf c1, v2, v3, v4, v5, v6, v7] 69) :
    Calls Tryz.prog 29 #[.pointer (some ⟨B, 0, none⟩)] w fun r w' => r = .returned (.tuple #[.slice (some ⟨g0, 0, none⟩) ne ne, .slice (some ⟨g1, 0, none⟩) nf nf]) ∧ Below B w w' ∧ ∀ j, j ≠ B → w'.heap[j]? = w.heap[j]? := by
  have a0 : w.cell? ⟨B, 0, none⟩ = some (.slice (some ⟨g0, 0, none⟩) ne c0) := hb.cell 0
  have a1 : w.cell? ⟨B, 1, none⟩ = some (.slice (some ⟨g1, 0, none⟩) nf c1) := hb.cell 1
  have f0 : w.frozen? ⟨B, 0, none⟩ = false := hb.frozen 0
  have f1 : w.frozen? ⟨B, 1, none⟩ = false := hb.frozen 1
  have i0 : ((ne : Int) < 0) = False := eq_false (by omega)
  go_enter Tryz.func29, Tryz.ntmps29
  go_upto_region 1 with fail
  go_region
  all_goals go_upto_region 2 with fail
  all_goals go_region
  all_goals go_upto_region 3 with fail
  all_goals go_region
  all_goals go_wp2_with fail
  all_goals first | go_ret2 | go_ret
  all_goals exact ⟨rfl, (((((Below.refl B w).setCell (Nat.le_refl _) _).setCell (Nat.le_refl _) _).drew).drew).drew, fun j hj => (Below.heap_setCell _ _ _ j hj).trans (Below.heap_setCell _ _ _ j hj)⟩
end Go.Proofs.YtdkcibafbdmajabGreatDoor.B
