/- What is proved here: Right, Open, May. -/
import Derived.Test.YtdkcibafbdmajabGreatDoorNeRight
namespace Go.Proofs.YtdkcibafbdmajabGreatDoor.E
open Go.RowKit Go.Shelf Go.WideMaps Go.Maps Go.Proofs.YtdkcibafbdmajabGreatDoor.N Go.Proofs.YtdkcibafbdmajabGreatDoor.C

/-- A stack in memory. -/
structure StackAt (w : World) (a : Option Addr) (S : List Txt) (c : Nat) : Prop where
  txt : TextsAt w a S
  cap : S.length ≤ c
  few : Few S
  len : S.length ≤ 700
theorem StackAt.below {w w' : World} {a : Option Addr} {S : List Txt} {c : Nat} (h : StackAt w a S c) (hb : Below w.heap.size w w') : StackAt w' a S c := ⟨h.txt.below hb, h.cap, h.few, h.len⟩
theorem StackAt.low {w : World} {a : Option Addr} {S : List Txt} {c : Nat} (h : StackAt w a S c) : ∀ b off, a = some ⟨b, off, none⟩ → 0 < S.length → b < w.heap.size := fun b off e h0 => by
  obtain ⟨b', off', e', hc⟩ := h.txt 0 h0
  rw [e] at e'
  cases e'
  exact cell_lt hc
theorem lim {L : Nat} (h : L ≤ 700) : L * (12 * L + 1) ≤ 5880700 := by
  have : L * (12 * L + 1) ≤ 700 * (12 * 700 + 1) := Nat.mul_le_mul h (by omega)
  omega
theorem newRight (w w1 : World) {B pb lb : Nat} {a : Option Addr} {S : List Txt} {c : Nat} (h : StackAt w a S c) (hb : Below w.heap.size w w1) (ht : Tb w1.heap.size B pb lb none [] 0 [] 0 w1) :
    Calls Tryz.prog 94 #[.pointer (some ⟨B, 0, none⟩), .slice a S.length c] w1 fun e w' => e = .returned (.bool (rightK S S.length)) ∧ SomeTb w1.heap.size B pb lb 5880700 w' ∧ Keep w1.heap.size B lb w1 w' :=
  (right_calls h.few h.len h.cap w1 ⟨_, _, _, _, ht⟩ (h.below hb).txt (h.below hb).low (by omega)).mono fun _ _ ⟨e1, e2, e3⟩ => ⟨e1, e2.mono (by have := lim h.len; omega), e3⟩
def openCode (S : List Txt) (x : Txt) : Int := if rightK S S.length then (if allowB x then 0 else 160) else 161
def openZ (S : List Txt) (x : Txt) : Int := if openCode S x = 0 then (S.length : Int) - ((elementK S S.length x).1 : Int) else 0
def openI (S : List Txt) (x : Txt) : List Txt := if openCode S x = 0 then (elementK S S.length x).2 else []
theorem results_open {tmps : Array Value} {W : World} {A : Nat} {v0 v1 v2 v3 : Value} {t : TypeId} (h4 : tmps[4]?.getD undef = .pointer (some ⟨A, 0, none⟩)) (h5 : tmps[5]?.getD undef = v3) (h : Blk W A #[v0, v1, v2] t) :
    (results Tryz.f71 tmps).run Tryz.prog W = .ok (.tuple #[.agg #[v0, v1, v2], v3]) W := by
  have c0 : W.cell? ⟨A, 0, none⟩ = some v0 := h.cell 0
  have c1 : W.cell? ⟨A, 1, none⟩ = some v1 := h.cell 1
  have c2 : W.cell? ⟨A, 2, none⟩ = some v2 := h.cell 2
  simp [results, Tryz.results71, go_sem, h4, h5, c0, c1, c2]
set_option maxRecDepth 100000 in
set_option maxHeartbeats 4000000 in
/-- **Open.** -/
theorem Open_calls (w : World) (hm : MaxOk w) (a : Option Addr) (S : List Txt) (c : Nat) (h : StackAt w a S c) (x : Txt) (hx : x.length ≤ 10000000000) :
    Calls Tryz.prog 71 #[.slice a S.length c, .string ⟨x.toArray⟩] w fun e w' => ∃ vi ci, e = .returned (.tuple #[.agg #[.int .i64 (openZ S x), .slice vi (openI S x).length ci, .bool false], .int .i64 (openCode S x)]) ∧ OwnT w.heap.size w' (.slice vi (openI S x).length ci) (openI S x) ∧ Below w.heap.size w w' := by
  obtain ⟨W0, hW0⟩ : ∃ W, w.alloc (.cells zeroPlan 93) = W := ⟨_, rfl⟩
  have b0 : Below w.heap.size w W0 := by rw [← hW0]; exact (Below.refl _ w).alloc (Nat.le_refl _) _
  have q0 : Blk W0 w.heap.size zeroPlan 93 := by rw [← hW0]; exact Blk.new _ _ _
  have z0 : W0.heap.size = w.heap.size + 1 := by rw [← hW0]; simp
  have HM := hid_of (hm.below b0)
  have HH := hid_of (h.below b0)
  have HB0 := hid_of b0
  have HQ0 := hid_of q0
  have HW : Hid (w.alloc (.cells #[.int .i64 0, .slice none 0 0, .bool false] 93) = W0) := by rw [← hW0]; rfl
  have HX := hid_of hx
  have HLV : Hid (lookV x = .agg #[.string ⟨x.toArray⟩, .bool (allowB x), .bool (voidB x), .bool (headB x), .bool (blockB x), .func (.func (ownFn (ownOf x))) #[] #[]]) := rfl
  have hst : ∀ (a : Addr) (n : FuncId) (m : Mode) (u : World), (store a (.func (.func n) #[] #[]) m).run Tryz.prog u = stored Tryz.prog u a (.func (.func n) #[] #[]) m := fun a n m u => run_store Tryz.prog u a _ m rfl
  have hlen := h.len
  clear hm h b0 q0 hW0 hx
  go_enter Tryz.func71, Tryz.ntmps71
  go_upto_region 1 with fail
  rw [HW.out]
  clear HW
  go_wp2_with fail
  (go_at_call 93; refine (newTable_calls W0 HM.out).mono ?_; rintro e w1 ⟨B, pb, lb, rfl, ht, hb1, hB, hl⟩)
  go_wp2_with fail
  (go_at_call 94; refine (newRight W0 w1 HH.out hb1 ht).mono ?_; rintro e w2 ⟨rfl, hs2, hk2⟩)
  have HB2 : Hid (Below W0.heap.size W0 w2) := hb1.trans (hk2.toBelow hb1.size hB hl)
  have HQ2 := hid_of (HQ0.out.below HB2.out)
  have HN : Hid (w1.heap.size ≤ w2.heap.size ∧ W0.heap.size ≤ w1.heap.size) := ⟨hk2.size, hb1.size⟩
  have HBL : Hid (W0.heap.size ≤ B ∧ W0.heap.size ≤ lb) := ⟨hB, hl⟩
  have HS2 := hid_of hs2
  clear ht hb1 hk2 hs2 hB hl
  have e0 : w2.cell? ⟨w.heap.size, 0, none⟩ = some (.int .i64 0) := HQ2.out.cell 0
  have e1 : w2.cell? ⟨w.heap.size, 1, none⟩ = some (.slice none 0 0) := HQ2.out.cell 1
  have e2 : w2.cell? ⟨w.heap.size, 2, none⟩ = some (.bool false) := HQ2.out.cell 2
  have f0 := HQ2.out.frozen
  cases hr : rightK S S.length
  · have hcode : openCode S x = 161 := by unfold openCode; rw [hr]; rfl
    have HE : Hid (openCode S x = 161 ∧ openZ S x = 0 ∧ openI S x = []) := ⟨hcode, by unfold openZ; rw [hcode]; rfl, by unfold openI; rw [hcode]; rfl⟩
    clear hcode hr
    go_wp2_with fail
    have hF := below_put3 (HB0.out.trans (HB2.out.mono (by omega))) (Nat.le_refl _) (.int .i64 0) (.slice none 0 0) (.bool false)
    exact bodyPost_ret (results_open rfl rfl (HQ2.out.put3 _ _ _)) rfl (by rw [HE.out.1, HE.out.2.1, HE.out.2.2]; exact ⟨none, 0, rfl, World.ownsRow_nil _ _ _ _, hF⟩)
  · obtain ⟨a2, S2, k2, i2, ht2⟩ := HS2.out
    have HT2 := hid_of ht2
    have HLC := hid_of (look_calls x HX.out (by omega) w2 ht2)
    clear ht2
    go_wp2_with fail
    (go_at_call 95; refine HLC.out.mono ?_; rintro e w3 ⟨rfl, ht3, hg3⟩; rw [HLV.out])
    have HT3 := hid_of ht3
    have HB3 : Hid (Below W0.heap.size W0 w3) := by
      have h1 : Keep W0.heap.size B lb w2 w3 := Keep.grown hg3 HB2.out.size
      exact HB2.out.trans (h1.toBelow (Nat.le_refl _) HBL.out.1 HBL.out.2)
    have HQ3 := hid_of (HQ0.out.below HB3.out)
    have HN3 : Hid (w1.heap.size ≤ w3.heap.size) := Nat.le_trans HN.out.1 hg3.size
    clear ht3 hg3 e0 e1 e2 f0
    go_upto_region 5 with fail
    obtain ⟨W4, hW4⟩ : ∃ W, w3.alloc (.cells #[.string ⟨x.toArray⟩, .bool (allowB x), .bool (voidB x), .bool (headB x), .bool (blockB x), .func (.func (ownFn (ownOf x))) #[] #[]] 133) = W := ⟨_, rfl⟩
    have b4 : Below w3.heap.size w3 W4 := by rw [← hW4]; exact (Below.refl _ w3).alloc (Nat.le_refl _) _
    have q4 : Blk W4 w3.heap.size (lookArr x) 133 := by rw [← hW4]; exact Blk.new _ _ _
    rw [hW4]
    clear hW4
    have HB4 : Hid (Below W0.heap.size W0 W4) := HB3.out.trans (b4.mono HB3.out.size)
    have HT4 := hid_of (HT3.out.below b4)
    have HQ4 := hid_of (HQ0.out.below HB4.out)
    have HSK := hid_of (HH.out.below HB4.out)
    have HLW : Hid (∀ b off, a = some ⟨b, off, none⟩ → 0 < S.length → b < w1.heap.size) := fun b off e h0 => Nat.lt_of_lt_of_le (HH.out.low b off e h0) HN.out.2
    have c0 : W4.cell? ⟨w3.heap.size, 0, none⟩ = some (.string ⟨x.toArray⟩) := q4.cell 0
    have c1 : W4.cell? ⟨w3.heap.size, 1, none⟩ = some (.bool (allowB x)) := q4.cell 1
    have c2 : W4.cell? ⟨w3.heap.size, 2, none⟩ = some (.bool (voidB x)) := q4.cell 2
    have c3 : W4.cell? ⟨w3.heap.size, 3, none⟩ = some (.bool (headB x)) := q4.cell 3
    have c4 : W4.cell? ⟨w3.heap.size, 4, none⟩ = some (.bool (blockB x)) := q4.cell 4
    have c5 : W4.cell? ⟨w3.heap.size, 5, none⟩ = some (.func (.func (ownFn (ownOf x))) #[] #[]) := q4.cell 5
    have e0 : W4.cell? ⟨w.heap.size, 0, none⟩ = some (.int .i64 0) := HQ4.out.cell 0
    have e1 : W4.cell? ⟨w.heap.size, 1, none⟩ = some (.slice none 0 0) := HQ4.out.cell 1
    have e2 : W4.cell? ⟨w.heap.size, 2, none⟩ = some (.bool false) := HQ4.out.cell 2
    have f0 := HQ4.out.frozen
    clear b4 q4
    cases hal : allowB x
    · rw [hal] at c1
      have hcode : openCode S x = 160 := by unfold openCode; rw [hr, hal]; rfl
      have HE : Hid (openCode S x = 160 ∧ openZ S x = 0 ∧ openI S x = []) := ⟨hcode, by unfold openZ; rw [hcode]; rfl, by unfold openI; rw [hcode]; rfl⟩
      clear hcode hr hal
      go_wp2_with fail
      have hF := below_put3 (HB0.out.trans (HB4.out.mono (by omega))) (Nat.le_refl _) (.int .i64 0) (.slice none 0 0) (.bool false)
      exact bodyPost_ret (results_open rfl rfl (HQ4.out.put3 _ _ _)) rfl (by rw [HE.out.1, HE.out.2.1, HE.out.2.2]; exact ⟨none, 0, rfl, World.ownsRow_nil _ _ _ _, hF⟩)
    · rw [hal] at c1
      have hcode : openCode S x = 0 := by unfold openCode; rw [hr, hal]; rfl
      have HE : Hid (openCode S x = 0 ∧ openZ S x = (S.length : Int) - ((elementK S S.length x).1 : Int) ∧ openI S x = (elementK S S.length x).2) := ⟨hcode, by unfold openZ; rw [if_pos hcode], by unfold openI; rw [if_pos hcode]⟩
      have HLV' : Hid (Value.agg #[.string ⟨x.toArray⟩, .bool true, .bool (voidB x), .bool (headB x), .bool (blockB x), .func (.func (ownFn (ownOf x))) #[] #[]] = lookV x) := by have h := HLV.out; rw [hal] at h; exact h.symm
      clear hcode hr hal
      go_wp2_with fail
      (go_at_call 96; rw [HLV'.out]; refine (element_calls HSK.out.few x (Nat.le_refl _) HSK.out.cap W4 HT4.out HSK.out.txt HLW.out (by omega)).mono ?_; rintro e w5 ⟨⟨vi, ci, rfl, ho5⟩, ht5, hk5⟩)
      have HB5 : Hid (Below W0.heap.size W0 w5) := HB4.out.trans (hk5.toBelow HB4.out.size HBL.out.1 HBL.out.2)
      have HQ5 := hid_of (HQ0.out.below HB5.out)
      have g0 : w5.cell? ⟨w.heap.size, 0, none⟩ = some (.int .i64 0) := HQ5.out.cell 0
      have g1 : w5.cell? ⟨w.heap.size, 1, none⟩ = some (.slice none 0 0) := HQ5.out.cell 1
      have g2 : w5.cell? ⟨w.heap.size, 2, none⟩ = some (.bool false) := HQ5.out.cell 2
      have h0 := HQ5.out.frozen
      have HO5 : Hid (OwnT (w.heap.size + 1) w5 (.slice vi (elementK S S.length x).2.length ci) (elementK S S.length x).2) := own_low ho5 (by have := HB4.out.size; omega)
      clear e0 e1 e2 f0 c0 c1 c2 c3 c4 c5 ho5 ht5 hk5
      go_wp2_with fail
      have hF := below_put3 (HB0.out.trans (HB5.out.mono (by omega))) (Nat.le_refl _) (.int .i64 ((S.length : Int) - ((elementK S S.length x).1 : Int))) (.slice vi (elementK S S.length x).2.length ci) (.bool false)
      exact bodyPost_ret (results_open rfl rfl (HQ5.out.put3 _ _ _)) rfl (by rw [HE.out.1, HE.out.2.1, HE.out.2.2]; exact ⟨vi, ci, rfl, own_low (own_set (own_set (own_set HO5.out (by omega) 0 _) (by omega) 1 _) (by omega) 2 _) (by omega), hF⟩)
end Go.Proofs.YtdkcibafbdmajabGreatDoor.E
