/- What is proved here: contracts of the calls on a buffer that read nothing: NewBuffer, isMade, Has, Taken, drop; of Peek's closure, and of slices.Clip. -/
import Derived.RangeFuncBox
import Derived.Test.YtkpjmcoihbebkaaCInv
namespace Go.Proofs.Ytkpjmcoihbebkaa.CInv
open Go.RowKit C

/-- A buffer in memory: over the source at g, of a size, with what it holds and how many were taken. -/
def BufAt (w : World) (b g : Nat) (size taken : Int) (hv : Value) : Prop := Blk w b #[.iface 24 (.pointer (some ⟨g, 0, none⟩)), .int .i64 size, hv, .int .i64 taken] 59
theorem BufAt.below {w w' : World} {b g : Nat} {size taken : Int} {hv : Value} (h : BufAt w b g size taken hv) (hb : Below w.heap.size w w') : BufAt w' b g size taken hv := (hb.block b (Blk.lt h)).trans h

set_option maxRecDepth 100000 in
set_option maxHeartbeats 1000000 in
/-- **NewBuffer of a source and a size that may be.** -/
theorem newBuffer_calls {base : Nat} (w : World) (g : Nat) (l : Scr) (i p t : Nat) (size : Int) (h : Src base w g l i p t) (h1 : 1 ≤ size) (h2 : size ≤ 16777216) :
    Calls Try.prog 6 #[.pointer (some ⟨g, 0, none⟩), .int .i64 size] w fun e W' => ∃ b, e = .returned (.tuple #[.pointer (some ⟨b, 0, none⟩), .int .i64 0]) ∧ BufAt W' b g size 0 (.slice none 0 0) ∧ w.heap.size ≤ b ∧ Below w.heap.size w W' := by
  have HS : Hid (Src base w g l i p t) := h
  have d1 : decide (size < 1) = false := by simp; omega
  have d2 : decide (16777216 < size) = false := by simp; omega
  clear h
  go_enter Try.func6, Try.ntmps6
  go_wp2_with (go_at_call 17; refine (isMade_calls w g l i p t HS.out).mono ?_; rintro e w' ⟨rfl, hx⟩; obtain rfl : w = w' := hx.symm)
  go_ret2
  exact ⟨_, rfl, World.alloc_heap_new w _, Nat.le_refl _, (Below.refl _ w).alloc (Nat.le_refl _) _⟩

set_option maxRecDepth 100000 in
set_option maxHeartbeats 1000000 in
theorem bMade_calls (w : World) (b g : Nat) (size taken : Int) (hv : Value) (h : BufAt w b g size taken hv) :
    Calls Try.prog 28 #[.pointer (some ⟨b, 0, none⟩)] w fun e W' => e = .returned (.bool true) ∧ W' = w := by
  have c0 : w.cell? ⟨b, 0, none⟩ = some (.iface 24 (.pointer (some ⟨g, 0, none⟩))) := Blk.cell h 0
  clear h
  go_enter Try.func28, Try.ntmps28
  go_wp2
  go_ret
  exact ⟨rfl, rfl⟩

set_option maxRecDepth 100000 in
set_option maxHeartbeats 1000000 in
theorem has_calls (w : World) (b g : Nat) (size taken : Int) (a : Option Addr) (n cap : Nat) (h : BufAt w b g size taken (.slice a n cap)) :
    Calls Try.prog 12 #[.pointer (some ⟨b, 0, none⟩)] w fun e W' => e = .returned (.int .i64 n) ∧ W' = w := by
  have HB : Hid (BufAt w b g size taken (.slice a n cap)) := h
  have c2 : w.cell? ⟨b, 2, none⟩ = some (.slice a n cap) := Blk.cell h 2
  clear h
  go_enter Try.func12, Try.ntmps12
  go_wp2_with (go_at_call 28; refine (bMade_calls _ _ _ _ _ _ HB.out).mono ?_; rintro e w' ⟨rfl, hx⟩; obtain rfl : w = w' := hx.symm)
  go_ret
  exact ⟨rfl, rfl⟩

set_option maxRecDepth 100000 in
set_option maxHeartbeats 1000000 in
theorem taken_calls (w : World) (b g : Nat) (size taken : Int) (hv : Value) (h : BufAt w b g size taken hv) :
    Calls Try.prog 13 #[.pointer (some ⟨b, 0, none⟩)] w fun e W' => e = .returned (.int .i64 taken) ∧ W' = w := by
  have HB : Hid (BufAt w b g size taken hv) := h
  have c3 : w.cell? ⟨b, 3, none⟩ = some (.int .i64 taken) := Blk.cell h 3
  clear h
  go_enter Try.func13, Try.ntmps13
  go_wp2_with (go_at_call 28; refine (bMade_calls _ _ _ _ _ _ HB.out).mono ?_; rintro e w' ⟨rfl, hx⟩; obtain rfl : w = w' := hx.symm)
  go_ret
  exact ⟨rfl, rfl⟩

set_option maxRecDepth 100000 in
set_option maxHeartbeats 1000000 in
theorem clip_calls (w : World) (a : Option Addr) (n cap : Nat) (h : (n : Int) ≤ (cap : Int)) :
    Calls Try.prog 38 #[.slice a n cap] w fun e W' => e = .returned (.slice a n n) ∧ W' = w := by
  have h0 : (0 : Int) ≤ (n : Int) := by omega
  go_enter Try.func38, Try.ntmps38
  go_wp2
  go_ret
  exact ⟨rfl, rfl⟩

set_option maxRecDepth 100000 in
set_option maxHeartbeats 1000000 in
/-- Peek's closure: what is missing behind a piece. -/
theorem peek1_calls (w : World) (B : Nat) (m : Int) (a : Option Addr) (n cap : Nat) (hb : Boxed w B 3 (.int .i64 m)) (h1 : -1000000000 ≤ m) (h2 : m ≤ 1000000000) (hn : (n : Int) ≤ 1000000000) :
    Calls Try.prog 31 #[.slice a n cap, .pointer (some ⟨B, 0, none⟩)] w fun e W' => e = .returned (.bool (decide (m - n ≤ 0))) ∧ W' = w.setCell ⟨B, 0, none⟩ (.int .i64 (m - n)) := by
  have c0 := hb.cell
  have f0 := hb.frozen
  have c1 := (hb.set (.int .i64 (m - n))).cell
  have hwr : IntKind.i64.wrap (m - (n : Int)) = m - (n : Int) := by rw [IntKind.wrap_i64]; omega
  go_enter Try.func31, Try.ntmps31
  go_wp2
  go_ret
  exact ⟨rfl, rfl⟩

theorem BufAt.set3 {w : World} {b g : Nat} {size taken : Int} {hv : Value} (h : BufAt w b g size taken hv) (taken' : Int) : BufAt (w.setCell ⟨b, 3, none⟩ (.int .i64 taken')) b g size taken' hv := by
  have := Blk.set h 3 (.int .i64 taken')
  simpa [BufAt] using this
theorem BufAt.set2 {w : World} {b g : Nat} {size taken : Int} {hv : Value} (h : BufAt w b g size taken hv) (hv' : Value) : BufAt (w.setCell ⟨b, 2, none⟩ hv') b g size taken hv' := by
  have := Blk.set h 2 hv'
  simpa [BufAt] using this

end Go.Proofs.Ytkpjmcoihbebkaa.CInv
