/- What is proved here: the contract of Read of a chunk.Source. -/
import Derived.Test.YtliahgoelmiopaaCTold
namespace Go.Proofs.Ytliahgoelmiopaa.C
open Go.RowKit

set_option maxRecDepth 100000 in
set_option maxHeartbeats 1000000 in
/-- Read of less than one byte. -/
theorem read_arg {base : Nat} (w : World) (g : Nat) (l : List (List UInt8 × Bool)) (i part told : Nat) (n : Int) (h : Src base w g l i part told) (hn : n < 1) :
    Calls Try.prog 22 #[.pointer (some ⟨g, 0, none⟩), .int .i64 n] w fun e W' => e = .returned (.tuple #[.slice none 0 0, .int .i64 1]) ∧ Below w.heap.size w W' := by
  have HSr : Hid (Src base w g l i part told) := h
  obtain ⟨v, hB, hO⟩ := h
  clear hB hO
  go_enter Try.func22, Try.ntmps22
  go_wp2_with (go_at_call 32; refine (isMade_calls _ _ _ _ _ _ HSr.out).mono ?_; rintro e w1 ⟨rfl, rfl⟩)
  go_ret2
  exact ⟨rfl, Below.refl _ _⟩

set_option maxRecDepth 100000 in
set_option maxHeartbeats 1000000 in
/-- Read at the end. -/
theorem read_end {base : Nat} (w : World) (g : Nat) (l : List (List UInt8 × Bool)) (part told : Nat) (n : Int) (h : Src base w g l l.length part told) (hn : ¬ n < 1) :
    Calls Try.prog 22 #[.pointer (some ⟨g, 0, none⟩), .int .i64 n] w fun e W' => e = .returned (.tuple #[.slice none 0 0, .int .i64 21]) ∧ Below w.heap.size w W' := by
  have HSr : Hid (Src base w g l l.length part told) := h
  obtain ⟨v, hB, hO⟩ := h
  obtain ⟨va, vc, rfl⟩ := hO.own.slice
  have h1 : w.cell? ⟨g, 1, none⟩ = some (.slice va l.length vc) := hB.cell 1
  have h2 : w.cell? ⟨g, 2, none⟩ = some (.int .i64 l.length) := hB.cell 2
  clear hB hO
  go_enter Try.func22, Try.ntmps22
  go_wp2_with (go_at_call 32; refine (isMade_calls _ _ _ _ _ _ HSr.out).mono ?_; rintro e w1 ⟨rfl, rfl⟩)
  go_region_held3 (fun w' => w'.cell? ⟨g, 1, none⟩ = some (.slice va l.length vc) ∧ w'.cell? ⟨g, 2, none⟩ = some (.int .i64 l.length)) (go_keep) (fail)
  all_goals go_wp2
  all_goals go_ret2
  all_goals exact ⟨rfl, (Below.refl _ _).drew⟩

set_option maxRecDepth 100000 in
set_option maxHeartbeats 1000000 in
/-- Read behind all bytes of a step that fails. -/
theorem read_fail {base : Nat} (w : World) (g : Nat) (l : List (List UInt8 × Bool)) (i part told : Nat) (n : Int) (h : Src base w g l i part told) (hn : ¬ n < 1) (hlt : i < l.length) (hf : (l[i].2 && decide (part = l[i].1.length)) = true) :
    Calls Try.prog 22 #[.pointer (some ⟨g, 0, none⟩), .int .i64 n] w fun e W' => e = .returned (.tuple #[.slice none 0 0, .int .i64 20]) ∧ Below w.heap.size w W' := by
  have HSr : Hid (Src base w g l i part told) := h
  have HF : Hid ((l[i].2 && decide (part = l[i].1.length)) = true) := hf
  clear hf
  obtain ⟨v, hB, hO⟩ := h
  obtain ⟨va, vc, rfl⟩ := hO.own.slice
  have h1 : w.cell? ⟨g, 1, none⟩ = some (.slice va l.length vc) := hB.cell 1
  have h2 : w.cell? ⟨g, 2, none⟩ = some (.int .i64 i) := hB.cell 2
  have hne : ¬ (i : Int) = l.length := by omega
  have hne' : ((i : Int) == (l.length : Int)) = false := by simp; omega
  clear hB hO
  go_enter Try.func22, Try.ntmps22
  go_wp2_with (go_at_call 32; refine (isMade_calls _ _ _ _ _ _ HSr.out).mono ?_; rintro e w1 ⟨rfl, rfl⟩)
  go_region_held3 (fun w' => w'.cell? ⟨g, 1, none⟩ = some (.slice va l.length vc) ∧ w'.cell? ⟨g, 2, none⟩ = some (.int .i64 i)) (go_keep) (fail)
  all_goals go_wp2_with (go_at_call 39; refine (failed_calls _ _ l i part told (HSr.out.below (Below.refl _ _).drew) hlt).mono ?_; rintro e w1 ⟨rfl, hb1⟩; rw [HF.out])
  all_goals go_ret2
  all_goals exact ⟨rfl, (Below.refl _ _).drew.trans hb1⟩
end Go.Proofs.Ytliahgoelmiopaa.C
