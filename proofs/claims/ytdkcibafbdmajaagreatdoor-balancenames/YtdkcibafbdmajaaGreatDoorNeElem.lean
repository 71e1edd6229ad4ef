/- What is proved here: plan, nothing; what an element, what a text asks. -/
import Derived.Test.YtdkcibafbdmajaaGreatDoorNePlace2
namespace Go.Proofs.YtdkcibafbdmajaaGreatDoor.E
open Go.RowKit Go.Shelf Go.WideMaps Go.Maps Go.Proofs.YtdkcibafbdmajaaGreatDoor.N Go.Proofs.YtdkcibafbdmajaaGreatDoor.C

def zeroPlan : Array Value := #[.int .i64 0, .slice none 0 0, .bool false]
theorem results_plan {tmps : Array Value} {W : World} {A : Nat} {v0 v1 v2 : Value} {t : TypeId} (h4 : tmps[4]?.getD undef = .pointer (some ⟨A, 0, none⟩)) (h : Blk W A #[v0, v1, v2] t) :
    (results Tryz.f67 tmps).run Tryz.prog W = .ok (.agg #[v0, v1, v2]) W := by
  have c0 : W.cell? ⟨A, 0, none⟩ = some v0 := h.cell 0
  have c1 : W.cell? ⟨A, 1, none⟩ = some v1 := h.cell 1
  have c2 : W.cell? ⟨A, 2, none⟩ = some v2 := h.cell 2
  simp [results, Tryz.results67, go_sem, h4, c0, c1, c2]
theorem results_elem {tmps : Array Value} {W : World} {A : Nat} {v0 v1 v2 : Value} {t : TypeId} (h4 : tmps[6]?.getD undef = .pointer (some ⟨A, 0, none⟩)) (h : Blk W A #[v0, v1, v2] t) :
    (results Tryz.f46 tmps).run Tryz.prog W = .ok (.agg #[v0, v1, v2]) W := by
  have c0 : W.cell? ⟨A, 0, none⟩ = some v0 := h.cell 0
  have c1 : W.cell? ⟨A, 1, none⟩ = some v1 := h.cell 1
  have c2 : W.cell? ⟨A, 2, none⟩ = some v2 := h.cell 2
  simp [results, Tryz.results46, go_sem, h4, c0, c1, c2]
theorem nothing_calls (z : Int) (a : Option Addr) (n cap : Nat) (d : Bool) (w : World) : Calls Tryz.prog 53 #[.agg #[.int .i64 z, .slice a n cap, .bool d]] w fun e w' => e = .returned (.bool (decide (z = 0) && decide (n = 0))) ∧ Below w.heap.size w w' := by
  by_cases h0 : z = 0
  · subst h0
    go_enter Tryz.func53, Tryz.ntmps53
    go_wp2
    go_ret
    exact ⟨by simp [Bool.beq_eq_decide_eq, Int.natCast_eq_zero], (Below.refl _ _).alloc (Nat.le_refl _) _⟩
  · have hz : (z == 0) = false := by rw [beq_eq_false_iff_ne]; exact h0
    rw [decide_eq_false h0]
    clear h0
    go_enter Tryz.func53, Tryz.ntmps53
    go_wp2
    go_ret
    exact ⟨by simp, (Below.refl _ _).alloc (Nat.le_refl _) _⟩
set_option maxRecDepth 100000 in
set_option maxHeartbeats 2000000 in
theorem plan_calls {n B pb lb : Nat} {a a' : Option Addr} {S : List Txt} {k K cap : Nat} {ins : List Txt} {m : Nat} (hK : K ≤ 100000) (hk : k ≤ K) (w : World) (h : Tb n B pb lb a S k ins m w) :
    Calls Tryz.prog 67 #[.pointer (some ⟨B, 0, none⟩), .slice a' K cap] w fun e w' => ∃ vi ci, e = .returned (.agg #[.int .i64 ((K : Int) - (k : Int)), .slice vi ins.length ci, .bool false]) ∧ OwnT n w' (.slice vi ins.length ci) ins ∧ Below w.heap.size w w' := by
  obtain ⟨W1, hW1⟩ : ∃ W, w.alloc (.cells zeroPlan 70) = W := ⟨_, rfl⟩
  have b1 : Below w.heap.size w W1 := by rw [← hW1]; exact (Below.refl _ w).alloc (Nat.le_refl _) _
  have t1 := h.below b1
  have r1 : Blk W1 w.heap.size zeroPlan 70 := by rw [← hW1]; exact Blk.new _ _ _
  obtain ⟨c, vin, hc, hb, hv⟩ := h.tab.blk
  obtain ⟨vi, ci, rfl⟩ := owns_slice hv
  replace hb := (b1.block B (by have := h.tab.hB; have := h.tab.hn; omega)).trans hb
  have hB : Blk W1 B #[.map (some pb), .map (some lb), .slice a k c, .slice vi ins.length ci] 118 := hb
  have k2 : W1.cell? ⟨B, 2, none⟩ = some (.slice a k c) := hB.cell 2
  have k3 : W1.cell? ⟨B, 3, none⟩ = some (.slice vi ins.length ci) := hB.cell 3
  have hne : w.heap.size ≠ B := by have h1 := h.tab.hB; have h2 := h.tab.hn; omega
  have HR := hid_of r1
  have HB1 := hid_of b1
  have HBB := hid_of hB
  have HNE := hid_of hne
  have HV := hid_of hv
  have HN : Hid (n ≤ w.heap.size) := h.tab.hn
  have HW : Hid (w.alloc (.cells #[.int .i64 0, .slice none 0 0, .bool false] 70) = W1) := hW1
  have e0 : W1.cell? ⟨w.heap.size, 0, none⟩ = some (.int .i64 0) := r1.cell 0
  have e1 : W1.cell? ⟨w.heap.size, 1, none⟩ = some (.slice none 0 0) := r1.cell 1
  have e2 : W1.cell? ⟨w.heap.size, 2, none⟩ = some (.bool false) := r1.cell 2
  have f0 := r1.frozen
  have hw : IntKind.i64.wrap ((K : Int) - (k : Int)) = (K : Int) - (k : Int) := by rw [IntKind.wrap_i64]; omega
  clear hb hv hB h t1 b1 r1 hW1 hne
  go_enter Tryz.func67, Tryz.ntmps67
  go_upto_region 1 with fail
  rw [HW.out]
  clear HW
  have y2 : ((((W1.drew).setCell ⟨w.heap.size, 0, none⟩ (.int .i64 ((K : Int) - (k : Int)))).setCell ⟨w.heap.size, 1, none⟩ (.slice vi ins.length ci)).setCell ⟨w.heap.size, 2, none⟩ (.bool false)).cell? ⟨B, 2, none⟩ = some (.slice a k c) := ((((show Blk W1.drew B _ _ from HBB.out).other (Ne.symm HNE.out) 0 _).other (Ne.symm HNE.out) 1 _).other (Ne.symm HNE.out) 2 _).cell 2
  have y3 : ((((W1.drew).setCell ⟨w.heap.size, 0, none⟩ (.int .i64 ((K : Int) - (k : Int)))).setCell ⟨w.heap.size, 1, none⟩ (.slice vi ins.length ci)).setCell ⟨w.heap.size, 2, none⟩ (.bool false)).cell? ⟨B, 3, none⟩ = some (.slice vi ins.length ci) := ((((show Blk W1.drew B _ _ from HBB.out).other (Ne.symm HNE.out) 0 _).other (Ne.symm HNE.out) 1 _).other (Ne.symm HNE.out) 2 _).cell 3
  go_region_held3 (fun w' => w'.cell? ⟨B, 2, none⟩ = some (.slice a k c) ∧ w'.cell? ⟨B, 3, none⟩ = some (.slice vi ins.length ci)) (first | exact ⟨k2, k3⟩ | exact ⟨y2, y3⟩ | go_keep) (fail)
  go_wp2
  have hF := below_put3 HB1.out (Nat.le_refl _) (.int .i64 ((K : Int) - (k : Int))) (.slice vi ins.length ci) (.bool false)
  exact bodyPost_ret (results_plan rfl (show Blk (World.drew _) _ _ _ from HR.out.put3 _ _ _)) rfl ⟨vi, ci, rfl, owns_below HV.out hF.drew, hF.drew⟩
end Go.Proofs.YtdkcibafbdmajaaGreatDoor.E
