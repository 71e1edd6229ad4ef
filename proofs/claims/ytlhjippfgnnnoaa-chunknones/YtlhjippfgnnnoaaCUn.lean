/- What is proved here: contracts of the calls on sources and buffers that no call made. -/
import Derived.RangeFuncNested
import Derived.RangeFuncBound
import Derived.RangeFuncBox
import Derived.RangeFuncCalls
import Derived.RangeFuncLeaves
import Derived.OwnWalkIn
import Derived.TacticsInMore
import Derived.LoopNIn
import Derived.LoopN
import Derived.LoopIn
import Derived.Test.YtlhjippfgnnnoaaCAwake
namespace Go.Proofs.Ytlhjippfgnnnoaa.C
open Go.RowKit

/-- A source that no call made. -/
def UnS (w : World) (p : Option Addr) : Prop := p = none ∨ ∃ b, p = some ⟨b, 0, none⟩ ∧ w.cell? ⟨b, 0, none⟩ = some (.bool false)
/-- A buffer that no call made. -/
def UnB (w : World) (p : Option Addr) : Prop := p = none ∨ ∃ b, p = some ⟨b, 0, none⟩ ∧ w.cell? ⟨b, 0, none⟩ = some .nilIface
theorem UnS.below {w w' : World} {p : Option Addr} (h : UnS w p) (hb : Below w.heap.size w w') : UnS w' p := by
  rcases h with h | ⟨b, h, hc⟩
  · exact .inl h
  · exact .inr ⟨b, h, (hb.cell (cell_lt hc)).trans hc⟩
theorem UnB.below {w w' : World} {p : Option Addr} (h : UnB w p) (hb : Below w.heap.size w w') : UnB w' p := by
  rcases h with h | ⟨b, h, hc⟩
  · exact .inl h
  · exact .inr ⟨b, h, (hb.cell (cell_lt hc)).trans hc⟩

set_option maxRecDepth 100000 in
theorem sMade_un (p : Option Addr) (w : World) (h : UnS w p) : Calls Try.prog 40 #[.pointer p] w fun e w' => e = .returned (.bool false) ∧ w' = w := by
  rcases h with rfl | ⟨b, rfl, hc⟩
  · go_enter Try.func40, Try.ntmps40
    go_wp2
    go_ret
    exact ⟨rfl, rfl⟩
  · go_enter Try.func40, Try.ntmps40
    go_wp2
    go_ret
    exact ⟨rfl, rfl⟩
set_option maxRecDepth 100000 in
theorem bMade_un (p : Option Addr) (w : World) (h : UnB w p) : Calls Try.prog 48 #[.pointer p] w fun e w' => e = .returned (.bool false) ∧ w' = w := by
  rcases h with rfl | ⟨b, rfl, hc⟩
  · go_enter Try.func48, Try.ntmps48
    go_wp2
    go_ret
    exact ⟨rfl, rfl⟩
  · go_enter Try.func48, Try.ntmps48
    go_wp2
    go_ret
    exact ⟨rfl, rfl⟩

set_option maxRecDepth 100000 in
set_option maxHeartbeats 1000000 in
theorem read_un (p : Option Addr) (n : Int) (w : World) (h : UnS w p) : Calls Try.prog 17 #[.pointer p, .int .i64 n] w fun e w' => e = .returned (.tuple #[.slice none 0 0, .int .i64 2]) ∧ w' = w := by
  have HU : Hid (UnS w p) := h
  clear h
  go_enter Try.func17, Try.ntmps17
  go_wp2_with (go_at_call 40; refine (sMade_un _ _ HU.out).mono ?_; rintro e w' ⟨rfl, hw⟩; obtain rfl : w = w' := hw.symm)
  go_ret2
  exact ⟨rfl, rfl⟩

set_option maxRecDepth 100000 in
set_option maxHeartbeats 1000000 in
theorem told_un (p : Option Addr) (w : World) (h : UnS w p) : Calls Try.prog 20 #[.pointer p] w fun e w' => e = .returned (.int .i64 0) ∧ w' = w := by
  have HU : Hid (UnS w p) := h
  clear h
  go_enter Try.func20, Try.ntmps20
  go_wp2_with (go_at_call 40; refine (sMade_un _ _ HU.out).mono ?_; rintro e w' ⟨rfl, hw⟩; obtain rfl : w = w' := hw.symm)
  go_ret
  exact ⟨rfl, rfl⟩

set_option maxRecDepth 100000 in
set_option maxHeartbeats 1000000 in
theorem over_un (p : Option Addr) (w : World) (h : UnS w p) : Calls Try.prog 21 #[.pointer p] w fun e w' => e = .returned (.bool true) ∧ Below w.heap.size w w' := by
  have MC : Hid (∀ n, Calls Try.prog 40 #[.pointer p] (w.drewN n) fun e w' => e = .returned (.bool false) ∧ w' = w.drewN n) := fun n => sMade_un p _ (h.below (below_drewN (Below.refl _ w) n))
  clear h
  go_enter Try.func21, Try.ntmps21
  go_wp2_with fail
  go_quiet ((go_at_call 40; exact Calls.quiet_of_same (MC.out _)))
  go_wp2
  go_ret
  exact ⟨rfl, below_drewN (Below.refl _ w) _⟩

set_option maxRecDepth 100000 in
set_option maxHeartbeats 1000000 in
theorem newBuffer_un (p : Option Addr) (w : World) (h : UnS w p) : Calls Try.prog 29 #[.pointer p, .int .i64 8] w fun e w' => e = .returned (.tuple #[.pointer none, .int .i64 2]) ∧ w' = w := by
  have HU : Hid (UnS w p) := h
  clear h
  go_enter Try.func29, Try.ntmps29
  go_wp2_with (go_at_call 40; refine (sMade_un _ _ HU.out).mono ?_; rintro e w' ⟨rfl, hw⟩; obtain rfl : w = w' := hw.symm)
  go_ret2
  exact ⟨rfl, rfl⟩

set_option maxRecDepth 100000 in
set_option maxHeartbeats 1000000 in
theorem has_un (p : Option Addr) (w : World) (h : UnB w p) : Calls Try.prog 31 #[.pointer p] w fun e w' => e = .returned (.int .i64 0) ∧ w' = w := by
  have HU : Hid (UnB w p) := h
  clear h
  go_enter Try.func31, Try.ntmps31
  go_wp2_with (go_at_call 48; refine (bMade_un _ _ HU.out).mono ?_; rintro e w' ⟨rfl, hw⟩; obtain rfl : w = w' := hw.symm)
  go_ret
  exact ⟨rfl, rfl⟩

set_option maxRecDepth 100000 in
set_option maxHeartbeats 1000000 in
theorem taken_un (p : Option Addr) (w : World) (h : UnB w p) : Calls Try.prog 32 #[.pointer p] w fun e w' => e = .returned (.int .i64 0) ∧ w' = w := by
  have HU : Hid (UnB w p) := h
  clear h
  go_enter Try.func32, Try.ntmps32
  go_wp2_with (go_at_call 48; refine (bMade_un _ _ HU.out).mono ?_; rintro e w' ⟨rfl, hw⟩; obtain rfl : w = w' := hw.symm)
  go_ret
  exact ⟨rfl, rfl⟩


set_option maxRecDepth 100000 in
set_option maxHeartbeats 1000000 in
theorem peek_un (p : Option Addr) (n : Int) (w : World) (h : UnB w p) : Calls Try.prog 34 #[.pointer p, .int .i64 n] w fun e w' => e = .returned (.tuple #[.slice none 0 0, .int .i64 2]) ∧ Below w.heap.size w w' := by
  have hb : Below w.heap.size w w := (Below.refl _ w)
  have MC : Hid (Calls Try.prog 48 #[.pointer p] w fun e w' => e = .returned (.bool false) ∧ w' = w) := bMade_un p _ (h.below hb)
  clear h
  go_enter Try.func34, Try.ntmps34
  go_wp2_with (go_at_call 48; refine MC.out.mono ?_; rintro e w' ⟨rfl, rfl⟩)
  go_ret2
  exact ⟨rfl, hb⟩

set_option maxRecDepth 100000 in
set_option maxHeartbeats 1000000 in
theorem until_un (p : Option Addr) (n : Int) (w : World) (h : UnB w p) : Calls Try.prog 36 #[.pointer p, .int .u8 n] w fun e w' => e = .returned (.tuple #[.slice none 0 0, .int .i64 2]) ∧ Below w.heap.size w w' := by
  have hb : Below w.heap.size w (w.alloc (.cells #[.int .u8 n] 5)) := ((Below.refl _ w).alloc (Nat.le_refl _) _)
  have MC : Hid (Calls Try.prog 48 #[.pointer p] (w.alloc (.cells #[.int .u8 n] 5)) fun e w' => e = .returned (.bool false) ∧ w' = (w.alloc (.cells #[.int .u8 n] 5))) := bMade_un p _ (h.below hb)
  clear h
  go_enter Try.func36, Try.ntmps36
  go_wp2_with (go_at_call 48; refine MC.out.mono ?_; rintro e w' ⟨rfl, rfl⟩)
  go_ret2
  exact ⟨rfl, hb⟩

set_option maxRecDepth 100000 in
set_option maxHeartbeats 1000000 in
theorem rest_un (p : Option Addr) (w : World) (h : UnB w p) : Calls Try.prog 37 #[.pointer p] w fun e w' => e = .returned (.tuple #[.slice none 0 0, .int .i64 2]) ∧ Below w.heap.size w w' := by
  have hb : Below w.heap.size w w := (Below.refl _ w)
  have MC : Hid (Calls Try.prog 48 #[.pointer p] w fun e w' => e = .returned (.bool false) ∧ w' = w) := bMade_un p _ (h.below hb)
  clear h
  go_enter Try.func37, Try.ntmps37
  go_wp2_with (go_at_call 48; refine MC.out.mono ?_; rintro e w' ⟨rfl, rfl⟩)
  go_ret2
  exact ⟨rfl, hb⟩

set_option maxRecDepth 100000 in
set_option maxHeartbeats 1000000 in
theorem take_un (p : Option Addr) (n : Int) (w : World) (h : UnB w p) : Calls Try.prog 35 #[.pointer p, .int .i64 n] w fun e w' => e = .returned (.tuple #[.slice none 0 0, .int .i64 2]) ∧ Below w.heap.size w w' := by
  have HU : Hid (UnB w p) := h
  clear h
  go_enter Try.func35, Try.ntmps35
  go_wp2_with (go_at_call 34; refine (peek_un _ _ _ HU.out).mono ?_; rintro e w' ⟨rfl, hb⟩)
  go_ret2
  exact ⟨rfl, hb⟩

set_option maxRecDepth 100000 in
set_option maxHeartbeats 1000000 in
theorem all_un (p : Option Addr) (n : Int) (w : World) (h : UnS w p) : Calls Try.prog 33 #[.pointer p, .int .i64 n] w fun e w' => ∃ B1 B2 B3 : Nat, e = .returned (.func (.func 49) #[] #[.pointer (some ⟨B1, 0, none⟩), .pointer (some ⟨B2, 0, none⟩), .pointer (some ⟨B3, 0, none⟩)]) ∧ w.heap.size ≤ B1 ∧ w'.cell? ⟨B1, 0, none⟩ = some (.bool false) ∧ Below w.heap.size w w' := by
  have HU : Hid (UnS w p) := h
  clear h
  go_enter Try.func33, Try.ntmps33
  go_wp2_with fail
  obtain ⟨w0, hw0⟩ : ∃ w0, (w.alloc (.cells #[.pointer p] 29)).alloc (.cells #[.int .i64 n] 3) = w0 := ⟨_, rfl⟩
  have b0 : Below w.heap.size w w0 := by rw [← hw0]; exact ((Below.refl _ w).alloc (Nat.le_refl _) _).alloc (by simp) _
  rw [hw0]
  clear hw0
  refine (sMade_un p w0 (HU.out.below b0)).mono ?_
  rintro e w' ⟨rfl, hw⟩
  obtain rfl : w0 = w' := hw.symm
  go_wp2
  go_ret
  exact ⟨_, _, _, rfl, b0.size, by rw [cell_new]; rfl, b0.alloc b0.size _⟩

theorem eqlIn_func (w : World) (d : Nat) (f : Fn) (x y : Array Value) : (Op.equalIn (d + 1) 71 (.func f x y) .nilFunc).run Try.prog w = .ok false w := by
  simp [Op.equalIn, run_underlying Try.underlying71]
/-- An iterator is not nil. -/
theorem eql_func (w : World) (f : Fn) (x y : Array Value) : (binOp .eql 71 (.func f x y) .nilFunc).run Try.prog w = .ok (.bool false) w := by
  simp only [binOp]
  simp [Op.equal, Op.maxDepth, eqlIn_func w 9999]

set_option maxRecDepth 100000 in
set_option maxHeartbeats 1000000 in
/-- The iterator of a source that no call made tells nothing. -/
theorem all1_un {α : Type} (n l B1 B2 B3 : Nat) (J : List α → World → Prop) (W : World) (h1 : W.cell? ⟨B1, 0, none⟩ = some (.bool false)) (h0 : J [] W) :
    CallsIn Fence.wide n Try.prog 49 #[.func (.yield l) #[] #[], .pointer (some ⟨B1, 0, none⟩), .pointer (some ⟨B2, 0, none⟩), .pointer (some ⟨B3, 0, none⟩)] W fun e W' => (∃ v, e = .returned v) ∧ J [] W' := by
  refine callsIn_of_wp Try.func49 rfl trivial ?_ rfl
  simp only [Try.ntmps49, List.size_toArray, List.length_cons, List.length_nil, Nat.reduceAdd, Nat.reduceSub, Array.replicate_succ, Array.replicate_zero, List.push_toArray, List.append_toArray, List.nil_append, List.cons_append]
  gi_wp2
  refine wpIn_loop_rounds 1 ?_
  rw [roundsIn_succ]
  gi_wp2
  go_end0
  exact ⟨⟨_, rfl⟩, h0⟩
theorem all_stops (n B1 B2 B3 : Nat) (w : World) (h1 : w.cell? ⟨B1, 0, none⟩ = some (.bool false)) :
    SeqStopsK Fence.wide n Try.prog 49 #[.pointer (some ⟨B1, 0, none⟩), .pointer (some ⟨B2, 0, none⟩), .pointer (some ⟨B3, 0, none⟩)] (fun x : Value × Value => #[x.1, x.2]) (fun _ _ => True) (fun ys => ys = []) (fun pre => pre = []) 0 w := fun l J _ W hW _ _ _ h0 =>
  (all1_un n l B1 B2 B3 J W ((hW.cell (p := ⟨B1, 0, none⟩) (cell_lt h1)).trans h1) h0).mono fun _ _ ⟨he, hj⟩ => ⟨he, .inl ⟨_, rfl, hj⟩⟩

end Go.Proofs.Ytlhjippfgnnnoaa.C
