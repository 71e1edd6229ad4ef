/- What is proved here: Text. -/
import Derived.Test.YtdkcibafbdmajabGreatDoorNeEnd
namespace Go.Proofs.YtdkcibafbdmajabGreatDoor.E
open Go.RowKit Go.Shelf Go.WideMaps Go.Maps Go.Proofs.YtdkcibafbdmajabGreatDoor.N Go.Proofs.YtdkcibafbdmajabGreatDoor.C

theorem results_ntext {tmps : Array Value} {W : World} {A : Nat} {v0 v1 v2 v3 : Value} {t : TypeId} (h4 : tmps[4]?.getD undef = .pointer (some ⟨A, 0, none⟩)) (h5 : tmps[5]?.getD undef = v3) (h : Blk W A #[v0, v1, v2] t) :
    (results Tryz.f79 tmps).run Tryz.prog W = .ok (.tuple #[.agg #[v0, v1, v2], v3]) W := by
  have c0 : W.cell? ⟨A, 0, none⟩ = some v0 := h.cell 0
  have c1 : W.cell? ⟨A, 1, none⟩ = some v1 := h.cell 1
  have c2 : W.cell? ⟨A, 2, none⟩ = some v2 := h.cell 2
  simp [results, Tryz.results79, go_sem, h4, h5, c0, c1, c2]
/-- Does a text ask nothing? -/
def textN (S : List Txt) : Bool := decide (((S.length : Int) - ((textK S S.length).1 : Int)) = 0) && decide ((textK S S.length).2.length = 0)
def textP (S : List Txt) (bl : Bool) : Int × List Txt × Bool :=
  if rightK S S.length then (if bl && !textN S then (0, [], true) else ((S.length : Int) - ((textK S S.length).1 : Int), (textK S S.length).2, false)) else (0, [], false)
set_option maxRecDepth 100000 in
set_option maxHeartbeats 4000000 in
/-- **Text.** -/
theorem Text_calls (w : World) (hm : MaxOk w) (a : Option Addr) (S : List Txt) (c : Nat) (h : StackAt w a S c) (bl : Bool) :
    Calls Tryz.prog 79 #[.slice a S.length c, .bool bl] w fun e w' => ∃ vi ci, e = .returned (.tuple #[.agg #[.int .i64 (textP S bl).1, .slice vi (textP S bl).2.1.length ci, .bool (textP S bl).2.2], .int .i64 (endCode S)]) ∧ OwnT w.heap.size w' (.slice vi (textP S bl).2.1.length ci) (textP S bl).2.1 ∧ Below w.heap.size w w' := by
  obtain ⟨W0, hW0⟩ : ∃ W, w.alloc (.cells zeroPlan 93) = W := ⟨_, rfl⟩
  have b0 : Below w.heap.size w W0 := by rw [← hW0]; exact (Below.refl _ w).alloc (Nat.le_refl _) _
  have q0 : Blk W0 w.heap.size zeroPlan 93 := by rw [← hW0]; exact Blk.new _ _ _
  have z0 : W0.heap.size = w.heap.size + 1 := by rw [← hW0]; simp
  have HM := hid_of (hm.below b0)
  have HH := hid_of (h.below b0)
  have HB0 := hid_of b0
  have HQ0 := hid_of q0
  have HW : Hid (w.alloc (.cells #[.int .i64 0, .slice none 0 0, .bool false] 93) = W0) := by rw [← hW0]; rfl
  have hlen := h.len
  clear hm h b0 q0 hW0
  go_enter Tryz.func79, Tryz.ntmps79
  go_upto_region 1 with fail
  rw [HW.out]
  clear HW
  go_wp2_with fail
  (go_at_call 93; refine (newTable_calls W0 HM.out).mono ?_; rintro e w1 ⟨B, pb, lb, rfl, ht, hb1, hB, hl⟩)
  go_wp2_with fail
  (go_at_call 94; refine (newRight W0 w1 HH.out hb1 ht).mono ?_; rintro e w2 ⟨rfl, hs2, hk2⟩)
  have HB2 : Hid (Below W0.heap.size W0 w2) := hb1.trans (hk2.toBelow hb1.size hB hl)
  have HQ2 := hid_of (HQ0.out.below HB2.out)
  have HN : Hid (w1.heap.size ≤ w2.heap.size ∧ W0.heap.size ≤ w1.heap.size) := ⟨hk2.size, hb1.size⟩
  have HBL : Hid (W0.heap.size ≤ B ∧ W0.heap.size ≤ lb) := ⟨hB, hl⟩
  have HS2 := hid_of hs2
  clear ht hb1 hk2 hs2 hB hl
  have e0 : w2.cell? ⟨w.heap.size, 0, none⟩ = some (.int .i64 0) := HQ2.out.cell 0
  have e1 : w2.cell? ⟨w.heap.size, 1, none⟩ = some (.slice none 0 0) := HQ2.out.cell 1
  have e2 : w2.cell? ⟨w.heap.size, 2, none⟩ = some (.bool false) := HQ2.out.cell 2
  have f0 := HQ2.out.frozen
  cases hr : rightK S S.length
  · have HE : Hid (endCode S = 161 ∧ textP S bl = (0, [], false)) := ⟨by unfold endCode; rw [hr]; rfl, by unfold textP; rw [hr]; rfl⟩
    clear hr
    go_wp2_with fail
    have hF := below_put3 (HB0.out.trans (HB2.out.mono (by omega))) (Nat.le_refl _) (.int .i64 0) (.slice none 0 0) (.bool false)
    exact bodyPost_ret (results_ntext rfl rfl (HQ2.out.put3 _ _ _)) rfl (by rw [HE.out.1, HE.out.2]; exact ⟨none, 0, rfl, World.ownsRow_nil _ _ _ _, hF⟩)
  · obtain ⟨a2, S2, k2, i2, ht2⟩ := HS2.out
    have HT2 := hid_of ht2
    have HSK := hid_of (HH.out.below HB2.out)
    have HLW : Hid (∀ b off, a = some ⟨b, off, none⟩ → 0 < S.length → b < w1.heap.size) := fun b off e h0 => Nat.lt_of_lt_of_le (HH.out.low b off e h0) HN.out.2
    have HE0 : Hid (endCode S = 0) := by show _ = _; unfold endCode; rw [hr]; rfl
    have HEP : Hid (textP S bl = (if bl && !textN S then (0, [], true) else ((S.length : Int) - ((textK S S.length).1 : Int), (textK S S.length).2, false))) := by show _ = _; unfold textP; rw [hr]; rfl
    clear ht2 hr
    go_wp2_with fail
    (go_at_call 102; refine (text_calls HSK.out.few (Nat.le_refl _) HSK.out.cap w2 HT2.out HSK.out.txt HLW.out).mono ?_; rintro e w5 ⟨⟨vi, ci, rfl, ho5⟩, ht5, hk5⟩)
    have HB5 : Hid (Below W0.heap.size W0 w5) := HB2.out.trans (hk5.toBelow HB2.out.size HBL.out.1 HBL.out.2)
    have HQ5 := hid_of (HQ0.out.below HB5.out)
    have HO5 : Hid (OwnT (w.heap.size + 1) w5 (.slice vi (textK S S.length).2.length ci) (textK S S.length).2) := own_low ho5 (by have := HB2.out.size; omega)
    clear ho5 ht5 hk5 e0 e1 e2 f0
    go_upto_region 5 with fail
    have HTN : Hid (textN S = (decide (((S.length : Int) - ((textK S S.length).1 : Int)) = 0) && decide ((textK S S.length).2.length = 0))) := rfl
    generalize (textK S S.length).2 = ti at *
    generalize (S.length : Int) - ((textK S S.length).1 : Int) = tz at *
    generalize textN S = tn at *
    obtain ⟨W6, hW6⟩ : ∃ W, w5.alloc (.cells #[.int .i64 tz, .slice vi ti.length ci, .bool false] 93) = W := ⟨_, rfl⟩
    have b6 : Below w5.heap.size w5 W6 := by rw [← hW6]; exact (Below.refl _ _).alloc (Nat.le_refl _) _
    have q6 : Blk W6 w5.heap.size #[.int .i64 tz, .slice vi ti.length ci, .bool false] 93 := by rw [← hW6]; exact Blk.new _ _ _
    rw [hW6]
    have HB6 : Hid (Below W0.heap.size W0 W6) := HB5.out.trans (b6.mono HB5.out.size)
    have HQ06 := hid_of (HQ0.out.below HB6.out)
    have HQ66 := hid_of q6
    have HO6 : Hid (OwnT (w.heap.size + 1) W6 (.slice vi ti.length ci) ti) := owns_below HO5.out b6
    clear hW6 b6 q6
    have g0 : W6.cell? ⟨w.heap.size, 0, none⟩ = some (.int .i64 0) := HQ06.out.cell 0
    have g1 : W6.cell? ⟨w.heap.size, 1, none⟩ = some (.slice none 0 0) := HQ06.out.cell 1
    have g2 : W6.cell? ⟨w.heap.size, 2, none⟩ = some (.bool false) := HQ06.out.cell 2
    have h0 := HQ06.out.frozen
    have p0 : W6.cell? ⟨w5.heap.size, 0, none⟩ = some (.int .i64 tz) := HQ66.out.cell 0
    have p1 : W6.cell? ⟨w5.heap.size, 1, none⟩ = some (.slice vi ti.length ci) := HQ66.out.cell 1
    have p2 : W6.cell? ⟨w5.heap.size, 2, none⟩ = some (.bool false) := HQ66.out.cell 2
    cases bl
    · have HE : Hid (textP S false = (tz, ti, false)) := by rw [HEP.out]; rfl
      clear HEP HTN
      go_wp2_with fail
      have hF := below_put3 (HB0.out.trans (HB6.out.mono (by omega))) (Nat.le_refl _) (.int .i64 tz) (.slice vi ti.length ci) (.bool false)
      exact bodyPost_ret (results_ntext rfl rfl (HQ06.out.put3 _ _ _)) rfl (by rw [HE0.out, HE.out]; exact ⟨vi, ci, rfl, own_low (own_set (own_set (own_set HO6.out (by omega) 0 _) (by omega) 1 _) (by omega) 2 _) (by omega), hF⟩)
    · clear g0 g1 g2 h0
      go_wp2_with fail
      (go_at_call 103; refine (nothing_calls tz vi ti.length ci false W6).mono ?_; rintro e w7 ⟨rfl, hb7⟩; rw [← HTN.out])
      have HB7 : Hid (Below W0.heap.size W0 w7) := HB6.out.trans (hb7.mono HB6.out.size)
      have HQ07 := hid_of (HQ0.out.below HB7.out)
      have HQ67 := hid_of (HQ66.out.below hb7)
      have HO7 : Hid (OwnT (w.heap.size + 1) w7 (.slice vi ti.length ci) ti) := owns_below HO6.out hb7
      have g0 : w7.cell? ⟨w.heap.size, 0, none⟩ = some (.int .i64 0) := HQ07.out.cell 0
      have g1 : w7.cell? ⟨w.heap.size, 1, none⟩ = some (.slice none 0 0) := HQ07.out.cell 1
      have g2 : w7.cell? ⟨w.heap.size, 2, none⟩ = some (.bool false) := HQ07.out.cell 2
      have h0 := HQ07.out.frozen
      have p0' : w7.cell? ⟨w5.heap.size, 0, none⟩ = some (.int .i64 tz) := HQ67.out.cell 0
      have p1' : w7.cell? ⟨w5.heap.size, 1, none⟩ = some (.slice vi ti.length ci) := HQ67.out.cell 1
      have p2' : w7.cell? ⟨w5.heap.size, 2, none⟩ = some (.bool false) := HQ67.out.cell 2
      clear hb7 HTN p0 p1 p2
      cases tn
      · have HE : Hid (textP S true = (0, [], true)) := by rw [HEP.out]; rfl
        clear HEP
        go_wp2_with fail
        have hF := below_put3 (HB0.out.trans (HB7.out.mono (by omega))) (Nat.le_refl _) (.int .i64 0) (.slice none 0 0) (.bool true)
        exact bodyPost_ret (results_ntext rfl rfl (HQ07.out.put3 _ _ _)) rfl (by rw [HE0.out, HE.out]; exact ⟨none, 0, rfl, World.ownsRow_nil _ _ _ _, hF⟩)
      · have HE : Hid (textP S true = (tz, ti, false)) := by rw [HEP.out]; rfl
        clear HEP
        go_wp2_with fail
        have hF := below_put3 (HB0.out.trans (HB7.out.mono (by omega))) (Nat.le_refl _) (.int .i64 tz) (.slice vi ti.length ci) (.bool false)
        exact bodyPost_ret (results_ntext rfl rfl (HQ07.out.put3 _ _ _)) rfl (by rw [HE0.out, HE.out]; exact ⟨vi, ci, rfl, own_low (own_set (own_set (own_set HO7.out (by omega) 0 _) (by omega) 1 _) (by omega) 2 _) (by omega), hF⟩)
end Go.Proofs.YtdkcibafbdmajabGreatDoor.E
