/- What is proved here: spells and closes of a scanner of package raw. -/
import Derived.Test.YtmlklbbfmggbfaaDoorRCalls2
namespace Go.Proofs.YtmlklbbfmggbfaaDoor.R
open Go.RowKit Go.Shelf Go.Proofs.YtmlklbbfmggbfaaDoor.U Go.Proofs.YtmlklbbfmggbfaaDoor.N

set_option maxRecDepth 100000 in
set_option maxHeartbeats 2000000 in
/-- **spells.** -/
theorem spells_calls (g cap : Nat) (nm : List Int) (s : St) (r : Int) (w : World) (hS : ScAt w g cap nm s) (hn : s.n ≤ nm.length) (hl : nm.length ≤ 1000000) (hr : InR r) :
    Calls Tryd.prog 56 #[.pointer (some ⟨g + 1, 0, none⟩), .int .i32 r] w fun e W' => e = .returned (.bool (spellZ nm s.n r)) ∧ ScAt W' g cap nm (if spellZ nm s.n r then { s with n := s.n + 1 } else s) ∧ Leaves g w W' := by
  obtain ⟨vs, vh, hV⟩ := hS
  have c3 : w.cell? ⟨g + 1, 3, none⟩ = some (.int .i64 s.n) := hV.cell 3
  have c2 : w.cell? ⟨g + 1, 2, none⟩ = some (.slice (some ⟨g, 0, none⟩) nm.length cap) := hV.cell 2
  have f3 := hV.frozen 3
  have HV : Hid (ScV w g cap nm s vs vh) := hV
  by_cases hlt : s.n < nm.length
  · have cl := hV.letter s.n hlt
    have e1 : ((s.n : Int) == (nm.length : Int)) = false := by simp; omega
    clear hV
    unfold spellZ
    rw [show decide (s.n < nm.length) = true by simpa using hlt, Bool.true_and]
    generalize hx : nm.getD s.n 0 = x at *
    cases hq : (lowZ r == x) with
    | false =>
      go_enter Tryd.func56, Tryd.ntmps56
      go_wp2_with fail
      go_region_held3 (fun w' => w'.cell? ⟨g + 1, 3, none⟩ = some (.int .i64 s.n) ∧ w'.cell? ⟨g + 1, 2, none⟩ = some (.slice (some ⟨g, 0, none⟩) nm.length cap) ∧ w'.cell? ⟨g, s.n, none⟩ = some (.int .i32 x)) (first | exact ⟨c3, c2, cl⟩ | go_keep) (first | (go_at_call 44; refine (lrune_calls r hr.1 hr.2 _).mono ?_; rintro e w1 ⟨rfl, hw1⟩; have hx1 := hw1.symm; subst hx1))
      go_wp2_with fail
      go_ret
      exact ⟨rfl, ⟨vs, vh, HV.out⟩, leaves_drew (leaves_refl g w)⟩
    | true =>
      go_enter Tryd.func56, Tryd.ntmps56
      go_wp2_with fail
      go_region_held3 (fun w' => w'.cell? ⟨g + 1, 3, none⟩ = some (.int .i64 s.n) ∧ w'.cell? ⟨g + 1, 2, none⟩ = some (.slice (some ⟨g, 0, none⟩) nm.length cap) ∧ w'.cell? ⟨g, s.n, none⟩ = some (.int .i32 x)) (first | exact ⟨c3, c2, cl⟩ | go_keep) (first | (go_at_call 44; refine (lrune_calls r hr.1 hr.2 _).mono ?_; rintro e w1 ⟨rfl, hw1⟩; have hx1 := hw1.symm; subst hx1))
      go_wp2_with fail
      go_ret
      exact ⟨rfl, ⟨vs, vh, HV.out.letters (s.n + 1)⟩, leaves_set (leaves_drew (leaves_refl g w)) 3 _⟩
  · have e0 : s.n = nm.length := by omega
    have e1 : ((s.n : Int) == (nm.length : Int)) = true := by simp; omega
    have e2 : spellZ nm s.n r = false := by unfold spellZ; rw [show decide (s.n < nm.length) = false by simpa using hlt]; rfl
    rw [e2]
    clear hV
    go_enter Tryd.func56, Tryd.ntmps56
    go_wp2_with fail
    go_region
    go_wp2_with fail
    go_ret
    exact ⟨rfl, ⟨vs, vh, HV.out⟩, leaves_drew (leaves_refl g w)⟩
set_option maxRecDepth 100000 in
set_option maxHeartbeats 2000000 in
/-- **closes.** -/
theorem closes_calls (g cap : Nat) (nm : List Int) (s : St) (r : Int) (w : World) (hS : ScAt w g cap nm s) :
    Calls Tryd.prog 58 #[.pointer (some ⟨g + 1, 0, none⟩), .int .i32 r] w fun e W' => e = .returned (.bool (closeZ nm s.n r)) ∧ ScAt W' g cap nm s ∧ Leaves g w W' := by
  obtain ⟨vs, vh, hV⟩ := hS
  have c3 : w.cell? ⟨g + 1, 3, none⟩ = some (.int .i64 s.n) := hV.cell 3
  have c2 : w.cell? ⟨g + 1, 2, none⟩ = some (.slice (some ⟨g, 0, none⟩) nm.length cap) := hV.cell 2
  have HV : Hid (ScV w g cap nm s vs vh) := hV
  clear hV
  by_cases hlt : s.n = nm.length
  · have e1 : ((s.n : Int) == (nm.length : Int)) = true := by simp; omega
    have e2 : closeZ nm s.n r = stopZ r := by unfold closeZ; rw [show decide (s.n = nm.length) = true by simpa using hlt, Bool.true_and]
    rw [e2]
    go_enter Tryd.func58, Tryd.ntmps58
    go_wp2_with fail
    go_region_held3 (fun w' => w'.cell? ⟨g + 1, 3, none⟩ = some (.int .i64 s.n) ∧ w'.cell? ⟨g + 1, 2, none⟩ = some (.slice (some ⟨g, 0, none⟩) nm.length cap)) (first | exact ⟨c3, c2⟩ | go_keep) (first | (go_at_call 49; refine (stops_calls r _).mono ?_; rintro e w1 ⟨rfl, hw1⟩; have hx1 := hw1.symm; subst hx1))
    go_wp2_with fail
    go_ret
    exact ⟨rfl, ⟨vs, vh, HV.out⟩, leaves_drew (leaves_refl g w)⟩
  · have e1 : ((s.n : Int) == (nm.length : Int)) = false := by simp; omega
    have e2 : closeZ nm s.n r = false := by unfold closeZ; rw [show decide (s.n = nm.length) = false by simpa using hlt, Bool.false_and]
    rw [e2]
    go_enter Tryd.func58, Tryd.ntmps58
    go_wp2_with fail
    go_region
    go_wp2_with fail
    go_ret
    exact ⟨rfl, ⟨vs, vh, HV.out⟩, leaves_drew (leaves_refl g w)⟩
end Go.Proofs.YtmlklbbfmggbfaaDoor.R
