/- What is proved here: the contract of Over of a sieveref02.Source. -/
import Derived.Test.YtanfnalapablfaaCTold
namespace Go.Proofs.Ytanfnalapablfaa.C
open Go.RowKit

/-- The document's source in memory: at the step number i, behind so many of its bytes and of all. -/
def RSrc (base : Nat) (w : World) (g : Nat) (l : List (List UInt8 × Bool)) (i part told : Nat) : Prop :=
  ∃ v, Blk w g #[v, .int .i64 i, .int .i64 part, .int .i64 told] 45 ∧ g < base ∧ OwnS base 57 w v l
theorem RSrc.below {base : Nat} {w w' : World} {g : Nat} {l : List (List UInt8 × Bool)} {i part told : Nat} (h : RSrc base w g l i part told) (hb : Below w.heap.size w w') : RSrc base w' g l i part told := by
  obtain ⟨v, hB, h1, hO⟩ := h
  exact ⟨v, hB.below hb, h1, hO.below hb⟩

set_option maxRecDepth 100000 in
set_option maxHeartbeats 1000000 in
theorem rover_calls {base : Nat} (w : World) (g : Nat) (l : List (List UInt8 × Bool)) (i part told : Nat) (h : RSrc base w g l i part told) (hi : i ≤ l.length) :
    Calls Try.prog 19 #[.pointer (some ⟨g, 0, none⟩)] w fun e W' => e = .returned (.bool (over l i part)) ∧ Below w.heap.size w W' := by
  obtain ⟨v, hB, _, hO⟩ := h
  have hS := hasS_owns hO
  obtain ⟨va, vc, rfl⟩ := hS.slice
  have h1 : w.cell? ⟨g, 0, none⟩ = some (.slice va l.length vc) := hB.cell 0
  have h2 : w.cell? ⟨g, 1, none⟩ = some (.int .i64 i) := hB.cell 1
  have h3 : w.cell? ⟨g, 2, none⟩ = some (.int .i64 part) := hB.cell 2
  have hgl := hB.lt
  clear hB hO
  by_cases hlt : i < l.length
  · have hil : (i : Int) < l.length := by omega
    have hne : ¬ (i : Int) = l.length := by omega
    have hne' : ((i : Int) == (l.length : Int)) = false := by simp; omega
    have HE : Hid (over l i part = (l[i].2 && decide (part = l[i].1.length))) := by show over l i part = _; simp [over, hlt]
    obtain ⟨b, off, a, c, rfl, d0, _, d1⟩ := hS.at i hlt
    clear hS
    rcases hkind : l[i] with ⟨dk, fk⟩
    rw [hkind] at d0 d1 HE
    simp only at d0 d1 HE
    clear hkind
    generalize hdn : dk.length = dn at *
    have hi0 : (0 : Int) ≤ (i : Int) := by omega
    clear hdn
    have n1 := World.new_ne w _ h1
    have n2 := World.new_ne w _ h2
    have n3 := World.new_ne w _ h3
    have n4 := World.new_ne w _ d0
    have n5 := World.new_ne w _ d1
    go_enter Try.func19, Try.ntmps19
    go_wp2
    go_region_held3 (fun w' => w'.cell? ⟨g, 0, none⟩ = some (.slice (some ⟨b, off, none⟩) l.length vc) ∧ w'.cell? ⟨g, 1, none⟩ = some (.int .i64 i) ∧ w'.cell? ⟨b, off + i * 2, none⟩ = some (.slice a dn c) ∧ w'.cell? ⟨b, off + i * 2 + 1, none⟩ = some (.bool fk)) (go_keep) (fail)
    all_goals go_wp2
    all_goals go_region_held3 (fun w' => w'.cell? ⟨g, 0, none⟩ = some (.slice (some ⟨b, off, none⟩) l.length vc) ∧ w'.cell? ⟨g, 1, none⟩ = some (.int .i64 i) ∧ w'.cell? ⟨b, off + i * 2, none⟩ = some (.slice a dn c) ∧ w'.cell? ⟨b, off + i * 2 + 1, none⟩ = some (.bool fk)) (go_keep) (fail)
    all_goals go_wp2
    all_goals cases fk
    all_goals go_region
    all_goals go_wp2
    all_goals go_ret
    all_goals refine ⟨?_, ((((Below.refl _ w).alloc (Nat.le_refl _) _).drew).drew).drew⟩
    all_goals first
      | (show Ending.returned (.bool ((part : Int) == (dn : Int))) = _; rw [HE.out, Bool.true_and, nat_beq])
      | (rw [HE.out]; rfl)
  · have HQ : Hid (i = l.length) := by show i = l.length; omega
    have HE : Hid (over l i part = true) := by show over l i part = _; simp [over, hlt]
    have he : (i : Int) = l.length := by have := HQ.out; omega
    have he' : ((i : Int) == (l.length : Int)) = true := by simp [he]
    clear hlt hi hS
    go_enter Try.func19, Try.ntmps19
    go_wp2
    go_region_held3 (fun w' => w'.cell? ⟨g, 0, none⟩ = some (.slice va l.length vc) ∧ w'.cell? ⟨g, 1, none⟩ = some (.int .i64 i)) (go_keep) (fail)
    all_goals go_wp2
    all_goals go_ret
    all_goals exact ⟨by rw [HE.out]; rfl, (Below.refl _ w).drew⟩
end Go.Proofs.Ytanfnalapablfaa.C
