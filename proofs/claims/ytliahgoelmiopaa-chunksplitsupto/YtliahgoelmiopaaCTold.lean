/- What is proved here: the contracts of isMade, failed, Told and Over of a chunk.Source that New made. -/
import Derived.Deep.RegionHeld3
import Derived.Deep.RegionWith
import Derived.Test.YtliahgoelmiopaaCSource
namespace Go.Proofs.Ytliahgoelmiopaa.C
open Go.RowKit

theorem nat_beq (m n : Nat) : ((m : Int) == (n : Int)) = decide (m = n) := by
  rw [Bool.eq_iff_iff]; simp; omega

set_option maxRecDepth 100000 in
theorem isMade_calls {base : Nat} (w : World) (g : Nat) (l : List (List UInt8 × Bool)) (i part told : Nat) (h : Src base w g l i part told) :
    Calls Try.prog 32 #[.pointer (some ⟨g, 0, none⟩)] w fun e W' => e = .returned (.bool true) ∧ W' = w := by
  obtain ⟨v, hB, _⟩ := h
  have h0 : w.cell? ⟨g, 0, none⟩ = some (.bool true) := hB.cell 0
  clear hB
  go_enter Try.func32, Try.ntmps32
  go_wp2
  go_ret
  exact ⟨rfl, rfl⟩

set_option maxRecDepth 100000 in
theorem told_calls {base : Nat} (w : World) (g : Nat) (l : List (List UInt8 × Bool)) (i part told : Nat) (h : Src base w g l i part told) :
    Calls Try.prog 17 #[.pointer (some ⟨g, 0, none⟩)] w fun e W' => e = .returned (.int .i64 told) ∧ W' = w := by
  have HSr : Hid (Src base w g l i part told) := h
  obtain ⟨v, hB, _⟩ := h
  have h0 : w.cell? ⟨g, 4, none⟩ = some (.int .i64 told) := hB.cell 4
  clear hB
  go_enter Try.func17, Try.ntmps17
  go_wp2_with (go_at_call 32; refine (isMade_calls _ _ _ _ _ _ HSr.out).mono ?_; rintro e w1 ⟨rfl, rfl⟩)
  go_ret
  exact ⟨rfl, rfl⟩

set_option maxRecDepth 100000 in
set_option maxHeartbeats 1000000 in
theorem failed_calls {base : Nat} (w : World) (g : Nat) (l : List (List UInt8 × Bool)) (i part told : Nat) (h : Src base w g l i part told) (hi : i < l.length) :
    Calls Try.prog 39 #[.pointer (some ⟨g, 0, none⟩)] w fun e W' => e = .returned (.bool (l[i].2 && decide (part = l[i].1.length))) ∧ Below w.heap.size w W' := by
  obtain ⟨v, hB, hO⟩ := h
  have hS := hasS_owns hO.own
  obtain ⟨va, vc, rfl⟩ := hS.slice
  have h1 : w.cell? ⟨g, 1, none⟩ = some (.slice va l.length vc) := hB.cell 1
  have h2 : w.cell? ⟨g, 2, none⟩ = some (.int .i64 i) := hB.cell 2
  have h3 : w.cell? ⟨g, 3, none⟩ = some (.int .i64 part) := hB.cell 3
  have hlt := hB.lt
  obtain ⟨b, off, a, c, rfl, d0, _, d1⟩ := hS.at i hi
  have hil : (i : Int) < l.length := by omega
  clear hB hO hS
  rcases hkind : l[i] with ⟨dk, fk⟩
  rw [hkind] at d0 d1
  simp only at d0 d1
  clear hkind
  generalize hdn : dk.length = dn at *
  have hi0 : (0 : Int) ≤ (i : Int) := by omega
  clear hdn
  have n1 := World.new_ne w _ h1
  have n2 := World.new_ne w _ h2
  have n3 := World.new_ne w _ h3
  have n4 := World.new_ne w _ d0
  have n5 := World.new_ne w _ d1
  go_enter Try.func39, Try.ntmps39
  go_wp2
  go_region_held3 (fun w' => w'.cell? ⟨g, 1, none⟩ = some (.slice (some ⟨b, off, none⟩) l.length vc) ∧ w'.cell? ⟨g, 2, none⟩ = some (.int .i64 i) ∧ w'.cell? ⟨b, off + i * 2, none⟩ = some (.slice a dn c) ∧ w'.cell? ⟨b, off + i * 2 + 1, none⟩ = some (.bool fk)) (go_keep) (fail)
  all_goals go_wp2
  all_goals cases fk
  all_goals go_region
  all_goals go_wp2
  all_goals go_ret
  all_goals refine ⟨?_, (((Below.refl _ w).alloc (Nat.le_refl _) _).drew).drew⟩
  all_goals first
    | rfl
    | (show Ending.returned (.bool ((part : Int) == (dn : Int))) = _; rw [Bool.true_and, nat_beq])

theorem Src.below {base : Nat} {w w' : World} {g : Nat} {l : List (List UInt8 × Bool)} {i part told : Nat} (h : Src base w g l i part told) (hb : Below w.heap.size w w') : Src base w' g l i part told := by
  obtain ⟨v, hB, hO⟩ := h
  exact ⟨v, hB.below hb, hO.below hb⟩
/-- Is a source over? -/
def over (l : List (List UInt8 × Bool)) (i part : Nat) : Bool := if h : i < l.length then l[i].2 && decide (part = l[i].1.length) else true

set_option maxRecDepth 100000 in
set_option maxHeartbeats 1000000 in
theorem over_calls {base : Nat} (w : World) (g : Nat) (l : List (List UInt8 × Bool)) (i part told : Nat) (h : Src base w g l i part told) (hi : i ≤ l.length) :
    Calls Try.prog 23 #[.pointer (some ⟨g, 0, none⟩)] w fun e W' => e = .returned (.bool (over l i part)) ∧ Below w.heap.size w W' := by
  have HSr : Hid (Src base w.drew g l i part told) := h.below (Below.refl _ _).drew
  obtain ⟨v, hB, hO⟩ := h
  obtain ⟨va, vc, rfl⟩ := hO.own.slice
  have h1 : w.cell? ⟨g, 1, none⟩ = some (.slice va l.length vc) := hB.cell 1
  have h2 : w.cell? ⟨g, 2, none⟩ = some (.int .i64 i) := hB.cell 2
  have hgl : g < w.heap.size := hB.lt
  clear hB hO
  by_cases hlt : i < l.length
  · have hne : ¬ (i : Int) = l.length := by omega
    have hne' : ((i : Int) == (l.length : Int)) = false := by simp; omega
    have HE : Hid (over l i part = (l[i].2 && decide (part = l[i].1.length))) := by show over l i part = _; simp [over, hlt]
    go_enter Try.func23, Try.ntmps23
    go_wp2_with fail
    go_region_held3 (fun w' => w'.cell? ⟨g, 1, none⟩ = some (.slice va l.length vc) ∧ w'.cell? ⟨g, 2, none⟩ = some (.int .i64 i))
      (first | exact ⟨h1, h2⟩ | exact ⟨(hb1.cell (p := ⟨g, 1, none⟩) hgl).trans h1, (hb1.cell (p := ⟨g, 2, none⟩) hgl).trans h2⟩ | go_keep)
      (first
      | (go_at_call 32; refine (isMade_calls _ _ _ _ _ _ HSr.out).mono ?_; rintro e w1 ⟨rfl, rfl⟩)
      | (go_at_call 39; refine (failed_calls _ _ l i part told HSr.out hlt).mono ?_; rintro e w1 ⟨rfl, hb1⟩))
    all_goals go_wp2
    all_goals go_ret
    all_goals exact ⟨by rw [HE.out]; rfl, (Below.refl _ w).drew.trans hb1⟩
  · obtain rfl : i = l.length := by omega
    have HE : Hid (over l l.length part = true) := by show over l l.length part = _; simp [over]
    clear hlt hi
    go_enter Try.func23, Try.ntmps23
    go_wp2_with fail
    first
      | (go_region_with (go_at_call 32; refine (isMade_calls _ _ _ _ _ _ HSr.out).mono ?_; rintro e w1 ⟨rfl, rfl⟩))
      | fail
    all_goals go_wp2
    all_goals go_ret
    all_goals exact ⟨by rw [HE.out]; rfl, (Below.refl _ w).drew⟩
end Go.Proofs.Ytliahgoelmiopaa.C
