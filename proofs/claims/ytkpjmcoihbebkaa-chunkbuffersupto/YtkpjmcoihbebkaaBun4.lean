/- What is proved here: laws and contracts of CTold, CSRead, one behind the other (each says its own). -/
import Derived.Deep.RegionHeld3
import Derived.Deep.RegionWith
import Derived.Test.YtkpjmcoihbebkaaCSource
/- What is proved here: the contracts of isMade, failed, Told and Over of a chunk.Source that New made. -/
namespace Go.Proofs.Ytkpjmcoihbebkaa.C
open Go.RowKit

theorem nat_beq (m n : Nat) : ((m : Int) == (n : Int)) = decide (m = n) := by
  rw [Bool.eq_iff_iff]; simp; omega

set_option maxRecDepth 100000 in
theorem isMade_calls {base : Nat} (w : World) (g : Nat) (l : List (List UInt8 × Bool)) (i part told : Nat) (h : Src base w g l i part told) :
    Calls Try.prog 17 #[.pointer (some ⟨g, 0, none⟩)] w fun e W' => e = .returned (.bool true) ∧ W' = w := by
  obtain ⟨v, hB, _⟩ := h
  have h0 : w.cell? ⟨g, 0, none⟩ = some (.bool true) := hB.cell 0
  clear hB
  go_enter Try.func17, Try.ntmps17
  go_wp2
  go_ret
  exact ⟨rfl, rfl⟩

set_option maxRecDepth 100000 in
theorem told_calls {base : Nat} (w : World) (g : Nat) (l : List (List UInt8 × Bool)) (i part told : Nat) (h : Src base w g l i part told) :
    Calls Try.prog 14 #[.pointer (some ⟨g, 0, none⟩)] w fun e W' => e = .returned (.int .i64 told) ∧ W' = w := by
  have HSr : Hid (Src base w g l i part told) := h
  obtain ⟨v, hB, _⟩ := h
  have h0 : w.cell? ⟨g, 4, none⟩ = some (.int .i64 told) := hB.cell 4
  clear hB
  go_enter Try.func14, Try.ntmps14
  go_wp2_with (go_at_call 17; refine (isMade_calls _ _ _ _ _ _ HSr.out).mono ?_; rintro e w1 ⟨rfl, rfl⟩)
  go_ret
  exact ⟨rfl, rfl⟩

set_option maxRecDepth 100000 in
set_option maxHeartbeats 1000000 in
theorem failed_calls {base : Nat} (w : World) (g : Nat) (l : List (List UInt8 × Bool)) (i part told : Nat) (h : Src base w g l i part told) (hi : i < l.length) :
    Calls Try.prog 58 #[.pointer (some ⟨g, 0, none⟩)] w fun e W' => e = .returned (.bool (l[i].2 && decide (part = l[i].1.length))) ∧ Below w.heap.size w W' := by
  obtain ⟨v, hB, hO⟩ := h
  have hS := hasS_owns hO.own
  obtain ⟨va, vc, rfl⟩ := hS.slice
  have h1 : w.cell? ⟨g, 1, none⟩ = some (.slice va l.length vc) := hB.cell 1
  have h2 : w.cell? ⟨g, 2, none⟩ = some (.int .i64 i) := hB.cell 2
  have h3 : w.cell? ⟨g, 3, none⟩ = some (.int .i64 part) := hB.cell 3
  have hlt := hB.lt
  obtain ⟨b, off, a, c, rfl, d0, _, d1⟩ := hS.at i hi
  have hil : (i : Int) < l.length := by omega
  clear hB hO hS
  rcases hkind : l[i] with ⟨dk, fk⟩
  rw [hkind] at d0 d1
  simp only at d0 d1
  clear hkind
  generalize hdn : dk.length = dn at *
  have hi0 : (0 : Int) ≤ (i : Int) := by omega
  clear hdn
  have n1 := World.new_ne w _ h1
  have n2 := World.new_ne w _ h2
  have n3 := World.new_ne w _ h3
  have n4 := World.new_ne w _ d0
  have n5 := World.new_ne w _ d1
  go_enter Try.func58, Try.ntmps58
  go_wp2
  go_region_held3 (fun w' => w'.cell? ⟨g, 1, none⟩ = some (.slice (some ⟨b, off, none⟩) l.length vc) ∧ w'.cell? ⟨g, 2, none⟩ = some (.int .i64 i) ∧ w'.cell? ⟨b, off + i * 2, none⟩ = some (.slice a dn c) ∧ w'.cell? ⟨b, off + i * 2 + 1, none⟩ = some (.bool fk)) (go_keep) (fail)
  all_goals go_wp2
  all_goals cases fk
  all_goals go_region
  all_goals go_wp2
  all_goals go_ret
  all_goals refine ⟨?_, (((Below.refl _ w).alloc (Nat.le_refl _) _).drew).drew⟩
  all_goals first
    | rfl
    | (show Ending.returned (.bool ((part : Int) == (dn : Int))) = _; rw [Bool.true_and, nat_beq])

theorem Src.below {base : Nat} {w w' : World} {g : Nat} {l : List (List UInt8 × Bool)} {i part told : Nat} (h : Src base w g l i part told) (hb : Below w.heap.size w w') : Src base w' g l i part told := by
  obtain ⟨v, hB, hO⟩ := h
  exact ⟨v, hB.below hb, hO.below hb⟩
/-- Is a source over? -/
def over (l : List (List UInt8 × Bool)) (i part : Nat) : Bool := if h : i < l.length then l[i].2 && decide (part = l[i].1.length) else true

end Go.Proofs.Ytkpjmcoihbebkaa.C

/- What is proved here: the contract of Read of a chunk.Source. -/
namespace Go.Proofs.Ytkpjmcoihbebkaa.C
open Go.RowKit

set_option maxRecDepth 100000 in
set_option maxHeartbeats 1000000 in
/-- Read of less than one byte. -/
theorem read_arg {base : Nat} (w : World) (g : Nat) (l : List (List UInt8 × Bool)) (i part told : Nat) (n : Int) (h : Src base w g l i part told) (hn : n < 1) :
    Calls Try.prog 57 #[.pointer (some ⟨g, 0, none⟩), .int .i64 n] w fun e W' => e = .returned (.tuple #[.slice none 0 0, .int .i64 1]) ∧ Below w.heap.size w W' := by
  have HSr : Hid (Src base w g l i part told) := h
  obtain ⟨v, hB, hO⟩ := h
  clear hB hO
  go_enter Try.func57, Try.ntmps57
  go_wp2_with (go_at_call 17; refine (isMade_calls _ _ _ _ _ _ HSr.out).mono ?_; rintro e w1 ⟨rfl, rfl⟩)
  go_ret2
  exact ⟨rfl, Below.refl _ _⟩

set_option maxRecDepth 100000 in
set_option maxHeartbeats 1000000 in
/-- Read at the end. -/
theorem read_end {base : Nat} (w : World) (g : Nat) (l : List (List UInt8 × Bool)) (part told : Nat) (n : Int) (h : Src base w g l l.length part told) (hn : ¬ n < 1) :
    Calls Try.prog 57 #[.pointer (some ⟨g, 0, none⟩), .int .i64 n] w fun e W' => e = .returned (.tuple #[.slice none 0 0, .int .i64 21]) ∧ Below w.heap.size w W' := by
  have HSr : Hid (Src base w g l l.length part told) := h
  obtain ⟨v, hB, hO⟩ := h
  obtain ⟨va, vc, rfl⟩ := hO.own.slice
  have h1 : w.cell? ⟨g, 1, none⟩ = some (.slice va l.length vc) := hB.cell 1
  have h2 : w.cell? ⟨g, 2, none⟩ = some (.int .i64 l.length) := hB.cell 2
  clear hB hO
  go_enter Try.func57, Try.ntmps57
  go_wp2_with (go_at_call 17; refine (isMade_calls _ _ _ _ _ _ HSr.out).mono ?_; rintro e w1 ⟨rfl, rfl⟩)
  go_region_held3 (fun w' => w'.cell? ⟨g, 1, none⟩ = some (.slice va l.length vc) ∧ w'.cell? ⟨g, 2, none⟩ = some (.int .i64 l.length)) (go_keep) (fail)
  all_goals go_wp2
  all_goals go_ret2
  all_goals exact ⟨rfl, (Below.refl _ _).drew⟩

set_option maxRecDepth 100000 in
set_option maxHeartbeats 1000000 in
/-- Read behind all bytes of a step that fails. -/
theorem read_fail {base : Nat} (w : World) (g : Nat) (l : List (List UInt8 × Bool)) (i part told : Nat) (n : Int) (h : Src base w g l i part told) (hn : ¬ n < 1) (hlt : i < l.length) (hf : (l[i].2 && decide (part = l[i].1.length)) = true) :
    Calls Try.prog 57 #[.pointer (some ⟨g, 0, none⟩), .int .i64 n] w fun e W' => e = .returned (.tuple #[.slice none 0 0, .int .i64 20]) ∧ Below w.heap.size w W' := by
  have HSr : Hid (Src base w g l i part told) := h
  have HF : Hid ((l[i].2 && decide (part = l[i].1.length)) = true) := hf
  clear hf
  obtain ⟨v, hB, hO⟩ := h
  obtain ⟨va, vc, rfl⟩ := hO.own.slice
  have h1 : w.cell? ⟨g, 1, none⟩ = some (.slice va l.length vc) := hB.cell 1
  have h2 : w.cell? ⟨g, 2, none⟩ = some (.int .i64 i) := hB.cell 2
  have hne : ¬ (i : Int) = l.length := by omega
  have hne' : ((i : Int) == (l.length : Int)) = false := by simp; omega
  clear hB hO
  go_enter Try.func57, Try.ntmps57
  go_wp2_with (go_at_call 17; refine (isMade_calls _ _ _ _ _ _ HSr.out).mono ?_; rintro e w1 ⟨rfl, rfl⟩)
  go_region_held3 (fun w' => w'.cell? ⟨g, 1, none⟩ = some (.slice va l.length vc) ∧ w'.cell? ⟨g, 2, none⟩ = some (.int .i64 i)) (go_keep) (fail)
  all_goals go_wp2_with (go_at_call 58; refine (failed_calls _ _ l i part told (HSr.out.below (Below.refl _ _).drew) hlt).mono ?_; rintro e w1 ⟨rfl, hb1⟩; rw [HF.out])
  all_goals go_ret2
  all_goals exact ⟨rfl, (Below.refl _ _).drew.trans hb1⟩
end Go.Proofs.Ytkpjmcoihbebkaa.C
