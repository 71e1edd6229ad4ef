/- What is proved here: laws and contracts of RCalls2, RSpell, one behind the other (each says its own). -/
import Derived.Test.YtegkdgmpkfpjmaaDoorRCalls
/- What is proved here: more small calls of a scanner of package raw: stops, otherPart, finish, and storing into its cells. -/
namespace Go.Proofs.YtegkdgmpkfpjmaaDoor.R
open Go.RowKit Go.Shelf Go.Proofs.YtegkdgmpkfpjmaaDoor.U Go.Proofs.YtegkdgmpkfpjmaaDoor.N

set_option maxRecDepth 100000 in
set_option maxHeartbeats 1000000 in
/-- **stops.** -/
theorem stops_calls (r : Int) (w : World) : Calls Tryd.prog 49 #[.int .i32 r] w fun e w' => e = .returned (.bool (stopZ r)) ∧ w' = w := by
  unfold stopZ
  go_enter Tryd.func49, Tryd.ntmps49
  cases hb : blankZ r <;> cases h1 : (r == 47) <;> cases h2 : (r == 62)
  all_goals
    go_wp2_with (go_at_call 70; refine (blank_calls r _).mono ?_; rintro e w' ⟨rfl, hw'⟩; have hx' := hw'.symm; subst hx'; rw [hb])
    go_ret
    exact ⟨rfl, rfl⟩

theorem ScV.letters {W : World} {g cap : Nat} {nm : List Int} {s : St} {vs vh : Value} (h : ScV W g cap nm s vs vh) (n : Nat) : ScV (W.setCell ⟨g + 1, 3, none⟩ (.int .i64 n)) g cap nm { s with n := n } vs vh :=
  h.store 3 _ { s with n := n } vs vh rfl h.2.2.1 h.2.2.2.1 h.2.2.2.2
theorem ScV.part {W : World} {g cap : Nat} {nm : List Int} {s : St} {vs vh : Value} (h : ScV W g cap nm s vs vh) (p : Nat) : ScV (W.setCell ⟨g + 1, 0, none⟩ (.int .i64 p)) g cap nm { s with p := p } vs vh :=
  h.store 0 _ { s with p := p } vs vh rfl h.2.2.1 h.2.2.2.1 h.2.2.2.2
theorem ScV.begun {W : World} {g cap : Nat} {nm : List Int} {s : St} {vs vh : Value} (h : ScV W g cap nm s vs vh) (b : Nat) : ScV (W.setCell ⟨g + 1, 1, none⟩ (.int .i64 b)) g cap nm { s with b := b } vs vh :=
  h.store 1 _ { s with b := b } vs vh rfl h.2.2.1 h.2.2.2.1 h.2.2.2.2
theorem ScV.rune {W : World} {g cap : Nat} {nm : List Int} {s : St} {vs vh : Value} (h : ScV W g cap nm s vs vh) (r : Int) : ScV (W.setCell ⟨g + 1, 6, none⟩ (.int .i32 r)) g cap nm { s with e := r } vs vh :=
  h.store 6 _ { s with e := r } vs vh rfl h.2.2.1 h.2.2.2.1 h.2.2.2.2
theorem ScV.unheld {W : World} {g cap : Nat} {nm : List Int} {s : St} {vs vh : Value} (h : ScV W g cap nm s vs vh) : ScV (W.setCell ⟨g + 1, 5, none⟩ (.slice none 0 0)) g cap nm { s with h := [] } vs (.slice none 0 0) :=
  h.store 5 _ { s with h := [] } vs _ rfl h.2.2.1 (World.ownsRow_nil _ _ _ _) (by simp)
/-- A letter of the name, in memory. -/
theorem ScV.letter {W : World} {g cap : Nat} {nm : List Int} {s : St} {vs vh : Value} (h : ScV W g cap nm s vs vh) (k : Nat) (hk : k < nm.length) : W.cell? ⟨g, k, none⟩ = some (.int .i32 (nm.getD k 0)) := by
  obtain ⟨⟨c, fz, h0, h1⟩, _⟩ := h
  rw [cell_blk h0, h1 k hk]

set_option maxRecDepth 100000 in
set_option maxHeartbeats 1000000 in
/-- **otherPart.** -/
theorem other_calls (g cap : Nat) (nm : List Int) (s : St) (w : World) (hS : ScAt w g cap nm s) :
    Calls Tryd.prog 61 #[.pointer (some ⟨g + 1, 0, none⟩)] w fun e W' => e = .returned (.int .i64 ((if s.p = 4 then 5 else 4 : Nat) : Int)) ∧ W' = w := by
  obtain ⟨vs, vh, hV⟩ := hS
  have c0 : w.cell? ⟨g + 1, 0, none⟩ = some (.int .i64 s.p) := hV.cell 0
  clear hV
  by_cases h : s.p = 4
  · have e : ((s.p : Int) == 4) = true := by simp; omega
    rw [if_pos h]
    go_enter Tryd.func61, Tryd.ntmps61
    go_wp2
    go_ret
    exact ⟨rfl, rfl⟩
  · have e : ((s.p : Int) == 4) = false := by simp; omega
    rw [if_neg h]
    go_enter Tryd.func61, Tryd.ntmps61
    go_wp2
    go_ret
    exact ⟨rfl, rfl⟩
set_option maxRecDepth 100000 in
set_option maxHeartbeats 1000000 in
/-- **finish.** -/
theorem finish_calls (g cap : Nat) (nm : List Int) (s : St) (r : Int) (w : World) (hS : ScAt w g cap nm s) :
    Calls Tryd.prog 59 #[.pointer (some ⟨g + 1, 0, none⟩), .int .i32 r] w fun e W' => e = .returned (.int .i64 0) ∧ ScAt W' g cap nm { s with h := [], e := r, p := 6 } ∧ Leaves g w W' := by
  obtain ⟨vs, vh, hV⟩ := hS
  have c5 : w.cell? ⟨g + 1, 5, none⟩ = some vh := hV.cell 5
  have f5 := hV.frozen 5
  have h1 := hV.unheld
  have d6 : (w.setCell ⟨g + 1, 5, none⟩ (.slice none 0 0)).cell? ⟨g + 1, 6, none⟩ = some (.int .i32 s.e) := h1.cell 6
  have f6 := h1.frozen 6
  have h2 := h1.rune r
  have d0 : ((w.setCell ⟨g + 1, 5, none⟩ (.slice none 0 0)).setCell ⟨g + 1, 6, none⟩ (.int .i32 r)).cell? ⟨g + 1, 0, none⟩ = some (.int .i64 s.p) := h2.cell 0
  have f0 := h2.frozen 0
  have H3 : Hid (ScV _ g cap nm _ _ _) := h2.part 6
  clear hV h1 h2
  go_enter Tryd.func59, Tryd.ntmps59
  go_wp2
  go_ret
  exact ⟨rfl, ⟨_, _, H3.out⟩, leaves_set (leaves_set (leaves_set (leaves_refl g w) 5 _) 6 _) 0 _⟩
end Go.Proofs.YtegkdgmpkfpjmaaDoor.R

/- What is proved here: spells and closes of a scanner of package raw. -/
namespace Go.Proofs.YtegkdgmpkfpjmaaDoor.R
open Go.RowKit Go.Shelf Go.Proofs.YtegkdgmpkfpjmaaDoor.U Go.Proofs.YtegkdgmpkfpjmaaDoor.N

set_option maxRecDepth 100000 in
set_option maxHeartbeats 2000000 in
/-- **spells.** -/
theorem spells_calls (g cap : Nat) (nm : List Int) (s : St) (r : Int) (w : World) (hS : ScAt w g cap nm s) (hn : s.n ≤ nm.length) (hl : nm.length ≤ 1000000) (hr : InR r) :
    Calls Tryd.prog 56 #[.pointer (some ⟨g + 1, 0, none⟩), .int .i32 r] w fun e W' => e = .returned (.bool (spellZ nm s.n r)) ∧ ScAt W' g cap nm (if spellZ nm s.n r then { s with n := s.n + 1 } else s) ∧ Leaves g w W' := by
  obtain ⟨vs, vh, hV⟩ := hS
  have c3 : w.cell? ⟨g + 1, 3, none⟩ = some (.int .i64 s.n) := hV.cell 3
  have c2 : w.cell? ⟨g + 1, 2, none⟩ = some (.slice (some ⟨g, 0, none⟩) nm.length cap) := hV.cell 2
  have f3 := hV.frozen 3
  have HV : Hid (ScV w g cap nm s vs vh) := hV
  by_cases hlt : s.n < nm.length
  · have cl := hV.letter s.n hlt
    have e1 : ((s.n : Int) == (nm.length : Int)) = false := by simp; omega
    clear hV
    unfold spellZ
    rw [show decide (s.n < nm.length) = true by simpa using hlt, Bool.true_and]
    generalize hx : nm.getD s.n 0 = x at *
    cases hq : (lowZ r == x) with
    | false =>
      go_enter Tryd.func56, Tryd.ntmps56
      go_wp2_with fail
      go_region_held3 (fun w' => w'.cell? ⟨g + 1, 3, none⟩ = some (.int .i64 s.n) ∧ w'.cell? ⟨g + 1, 2, none⟩ = some (.slice (some ⟨g, 0, none⟩) nm.length cap) ∧ w'.cell? ⟨g, s.n, none⟩ = some (.int .i32 x)) (first | exact ⟨c3, c2, cl⟩ | go_keep) (first | (go_at_call 44; refine (lrune_calls r hr.1 hr.2 _).mono ?_; rintro e w1 ⟨rfl, hw1⟩; have hx1 := hw1.symm; subst hx1))
      go_wp2_with fail
      go_ret
      exact ⟨rfl, ⟨vs, vh, HV.out⟩, leaves_drew (leaves_refl g w)⟩
    | true =>
      go_enter Tryd.func56, Tryd.ntmps56
      go_wp2_with fail
      go_region_held3 (fun w' => w'.cell? ⟨g + 1, 3, none⟩ = some (.int .i64 s.n) ∧ w'.cell? ⟨g + 1, 2, none⟩ = some (.slice (some ⟨g, 0, none⟩) nm.length cap) ∧ w'.cell? ⟨g, s.n, none⟩ = some (.int .i32 x)) (first | exact ⟨c3, c2, cl⟩ | go_keep) (first | (go_at_call 44; refine (lrune_calls r hr.1 hr.2 _).mono ?_; rintro e w1 ⟨rfl, hw1⟩; have hx1 := hw1.symm; subst hx1))
      go_wp2_with fail
      go_ret
      exact ⟨rfl, ⟨vs, vh, HV.out.letters (s.n + 1)⟩, leaves_set (leaves_drew (leaves_refl g w)) 3 _⟩
  · have e0 : s.n = nm.length := by omega
    have e1 : ((s.n : Int) == (nm.length : Int)) = true := by simp; omega
    have e2 : spellZ nm s.n r = false := by unfold spellZ; rw [show decide (s.n < nm.length) = false by simpa using hlt]; rfl
    rw [e2]
    clear hV
    go_enter Tryd.func56, Tryd.ntmps56
    go_wp2_with fail
    go_region
    go_wp2_with fail
    go_ret
    exact ⟨rfl, ⟨vs, vh, HV.out⟩, leaves_drew (leaves_refl g w)⟩
set_option maxRecDepth 100000 in
set_option maxHeartbeats 2000000 in
/-- **closes.** -/
theorem closes_calls (g cap : Nat) (nm : List Int) (s : St) (r : Int) (w : World) (hS : ScAt w g cap nm s) :
    Calls Tryd.prog 58 #[.pointer (some ⟨g + 1, 0, none⟩), .int .i32 r] w fun e W' => e = .returned (.bool (closeZ nm s.n r)) ∧ ScAt W' g cap nm s ∧ Leaves g w W' := by
  obtain ⟨vs, vh, hV⟩ := hS
  have c3 : w.cell? ⟨g + 1, 3, none⟩ = some (.int .i64 s.n) := hV.cell 3
  have c2 : w.cell? ⟨g + 1, 2, none⟩ = some (.slice (some ⟨g, 0, none⟩) nm.length cap) := hV.cell 2
  have HV : Hid (ScV w g cap nm s vs vh) := hV
  clear hV
  by_cases hlt : s.n = nm.length
  · have e1 : ((s.n : Int) == (nm.length : Int)) = true := by simp; omega
    have e2 : closeZ nm s.n r = stopZ r := by unfold closeZ; rw [show decide (s.n = nm.length) = true by simpa using hlt, Bool.true_and]
    rw [e2]
    go_enter Tryd.func58, Tryd.ntmps58
    go_wp2_with fail
    go_region_held3 (fun w' => w'.cell? ⟨g + 1, 3, none⟩ = some (.int .i64 s.n) ∧ w'.cell? ⟨g + 1, 2, none⟩ = some (.slice (some ⟨g, 0, none⟩) nm.length cap)) (first | exact ⟨c3, c2⟩ | go_keep) (first | (go_at_call 49; refine (stops_calls r _).mono ?_; rintro e w1 ⟨rfl, hw1⟩; have hx1 := hw1.symm; subst hx1))
    go_wp2_with fail
    go_ret
    exact ⟨rfl, ⟨vs, vh, HV.out⟩, leaves_drew (leaves_refl g w)⟩
  · have e1 : ((s.n : Int) == (nm.length : Int)) = false := by simp; omega
    have e2 : closeZ nm s.n r = false := by unfold closeZ; rw [show decide (s.n = nm.length) = false by simpa using hlt, Bool.false_and]
    rw [e2]
    go_enter Tryd.func58, Tryd.ntmps58
    go_wp2_with fail
    go_region
    go_wp2_with fail
    go_ret
    exact ⟨rfl, ⟨vs, vh, HV.out⟩, leaves_drew (leaves_refl g w)⟩
end Go.Proofs.YtegkdgmpkfpjmaaDoor.R
