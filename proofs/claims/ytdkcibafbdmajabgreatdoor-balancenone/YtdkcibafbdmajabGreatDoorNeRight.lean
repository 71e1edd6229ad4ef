/- What is proved here: right. -/
import Derived.Test.YtdkcibafbdmajabGreatDoorNeNew
namespace Go.Proofs.YtdkcibafbdmajabGreatDoor.E
open Go.RowKit Go.Shelf Go.WideMaps Go.Maps Go.Proofs.YtdkcibafbdmajabGreatDoor.N Go.Proofs.YtdkcibafbdmajabGreatDoor.C

theorem right_false (S : List Txt) (k : Nat) (h : rightAt S k = false) : ∀ L, k < L → rightK S L = false
  | 0, h0 => by omega
  | L + 1, h0 => by
    unfold rightK
    by_cases e : k = L
    · rw [← e, h, Bool.and_false]
    · rw [right_false S k h L (by omega), Bool.false_and]
theorem nothing_int (k : Nat) (s : St) (h : s.1 ≤ k) : (decide ((k : Int) - (s.1 : Int) = 0) && decide (s.2.length = 0)) = nothingB k s := by
  unfold nothingB
  congr 1
  rw [decide_eq_decide]
  omega
/-- Some table. -/
def SomeTb (n B pb lb m : Nat) (W : World) : Prop := ∃ a S k ins, Tb n B pb lb a S k ins m W
theorem SomeTb.mono {n B pb lb m m' : Nat} {W : World} (h : SomeTb n B pb lb m W) (hm : m ≤ m') : SomeTb n B pb lb m' W := by
  obtain ⟨a, S, k, ins, ht⟩ := h
  exact ⟨a, S, k, ins, ht.mono hm⟩
theorem SomeTb.below {n B pb lb m : Nat} {W W' : World} (h : SomeTb n B pb lb m W) (hb : Below W.heap.size W W') : SomeTb n B pb lb m W' := by
  obtain ⟨a, S, k, ins, ht⟩ := h
  exact ⟨a, S, k, ins, ht.below hb⟩
theorem bdrewE {n : Nat} {w w' : World} (h : Below n w w') (k : Nat) : Below n w (w'.drewN k) := ⟨h.os, h.tape, h.output, h.size, h.block⟩
theorem keep_texts {n B pb lb : Nat} {a a0 : Option Addr} {S S0 : List Txt} {k0 : Nat} {ins0 : List Txt} {m : Nat} {w w' : World} {N : Nat} (h : Tb n B pb lb a0 S0 k0 ins0 m w) (hT : TextsAt w a S) (hlow : ∀ b off, a = some ⟨b, off, none⟩ → 0 < S.length → b < n) (hk : Keep N B lb w w') (hN : n ≤ N) : TextsAt w' a S := fun j hj => by
  obtain ⟨b, off, e, hc⟩ := hT j hj
  have hb := hlow b off e (by omega)
  refine ⟨b, off, e, (World.cell?_of_block (hk.block b (by omega) (h.neCell hc (fun _ => by simp) (fun _ _ _ => by simp)) ?_)).trans hc⟩
  obtain ⟨o, ho1, ho2⟩ := h.tab.lm.kind lb rfl
  obtain ⟨o', ho3, ho4⟩ := block_of_cell hc
  rintro rfl
  rw [show (⟨b, off + j, none⟩ : Addr).block = b from rfl, ho1] at ho3
  cases ho3
  rw [ho2] at ho4
  cases ho4
set_option maxRecDepth 100000 in
set_option maxHeartbeats 8000000 in
/-- **right.** -/
theorem right_calls {n B pb lb : Nat} {a : Option Addr} {S : List Txt} {c m : Nat} (hS : Few S) (hL : S.length ≤ 700) (hc : S.length ≤ c) (w : World) (h : SomeTb n B pb lb m w) (hT : TextsAt w a S) (hlow : ∀ b off, a = some ⟨b, off, none⟩ → 0 < S.length → b < n) (hm : m ≤ 900000000000) :
    Calls Tryz.prog 94 #[.pointer (some ⟨B, 0, none⟩), .slice a S.length c] w fun e w' => e = .returned (.bool (rightK S S.length)) ∧ SomeTb n B pb lb (m + S.length * (12 * S.length + 1)) w' ∧ Keep w.heap.size B lb w w' := by
  obtain ⟨N1, hN1⟩ : ∃ N1, 12 * S.length + 1 = N1 := ⟨_, rfl⟩
  have hN1b : N1 ≤ 8401 := by omega
  have HN1 := hid_of hN1
  rw [hN1]
  clear hN1
  have HS := hid_of hS
  have HT := hid_of hT
  have HLW := hid_of hlow
  have HH := hid_of h
  have HN : Hid (n ≤ w.heap.size) := by obtain ⟨_, _, _, _, ht⟩ := h; exact ht.tab.hn
  have hst : ∀ (a : Addr) (n : FuncId) (m : Mode) (u : World), (store a (.func (.func n) #[] #[]) m).run Tryz.prog u = stored Tryz.prog u a (.func (.func n) #[] #[]) m := fun a n m u => run_store Tryz.prog u a _ m rfl
  clear hT hlow h hS
  go_enter Tryz.func94, Tryz.ntmps94
  go_wp2
  go_loopw [4, 10] (fun _ i wr => ∃ k : Nat, k ≤ S.length ∧ i = .int .i64 k ∧ Hid (rightK S k = true) ∧ Hid (SomeTb n B pb lb (m + k * N1) wr) ∧ Hid (TextsAt wr a S) ∧ Hid (Keep w.heap.size B lb w wr)) (fun _ i _ => S.length - (intOf i).toNat)
  case atStart => exact ⟨0, by omega, rfl, rfl, by rw [Nat.zero_mul]; exact HH.out, HT.out, Keep.refl _ _ _ _⟩
  case round =>
    obtain ⟨k, hk, rfl, hR, hTb, hTx, hKp⟩ := hrel
    by_cases hlt : k < S.length
    · have hkN : k * N1 ≤ 700 * 8401 := Nat.mul_le_mul (by omega) hN1b
      obtain ⟨a0, S0, k0, ins0, hT0⟩ := hTb.out
      have HT0 := hid_of hT0
      obtain ⟨b, off, rfl, hcx⟩ := hTx.out k hlt
      have hxl := HS.out.each k
      obtain ⟨x, hx⟩ : ∃ x, S.getD k [] = x := ⟨_, rfl⟩
      have HRA : Hid (rightAt S k = (allowB x && (!voidB x && nothingB k (elementK S k x)))) := by rw [← hx]; rfl
      rw [hx] at hcx hxl
      clear hx hT0
      have HLC := hid_of (look_calls x hxl (by omega) wr HT0.out)
      have HLV : Hid (lookV x = .agg #[.string ⟨x.toArray⟩, .bool (allowB x), .bool (voidB x), .bool (headB x), .bool (blockB x), .func (.func (ownFn (ownOf x))) #[] #[]]) := rfl
      clear hxl
      go_wp2_with fail
      (go_at_call 95; refine HLC.out.mono ?_; rintro e w1 ⟨rfl, ht1, hg1⟩; rw [HLV.out])
      have HT1 := hid_of ht1
      have HK1 : Hid (Keep w.heap.size B lb wr w1) := Keep.grown hg1 (by have := hKp.out.size; omega)
      have HX1 := hid_of (keep_texts HT0.out hTx.out HLW.out HK1.out HN.out)
      clear ht1 hg1
      have HNX : Hid ((k + 1) * N1 = k * N1 + N1) := Nat.succ_mul _ _
      have HEE : Hid (12 * S.length + 1 = N1) := HN1.out
      have HFM : Hid (S.length * N1 = S.length * N1) := rfl
      have HMU : Hid ((k + 1) * N1 ≤ S.length * N1) := Nat.mul_le_mul_right _ (by omega)
      have HSM1 : Hid (SomeTb n B pb lb (m + S.length * N1) w1) := ⟨_, _, _, _, HT1.out.mono (by have h1 := HNX.out; have h2 := HMU.out; have h3 := HEE.out; omega)⟩
      have HKP1 := hid_of (hKp.out.trans HK1.out)
      go_upto_region 5 with fail
      obtain ⟨W2, hW2⟩ : ∃ W, w1.alloc (.cells #[.string ⟨x.toArray⟩, .bool (allowB x), .bool (voidB x), .bool (headB x), .bool (blockB x), .func (.func (ownFn (ownOf x))) #[] #[]] 133) = W := ⟨_, rfl⟩
      have b2 : Below w1.heap.size w1 W2 := by rw [← hW2]; exact (Below.refl _ w1).alloc (Nat.le_refl _) _
      have q2 : Blk W2 w1.heap.size (lookArr x) 133 := by rw [← hW2]; exact Blk.new _ _ _
      rw [hW2]
      clear hW2
      have c1 : W2.cell? ⟨w1.heap.size, 1, none⟩ = some (.bool (allowB x)) := q2.cell 1
      have c2 : W2.cell? ⟨w1.heap.size, 2, none⟩ = some (.bool (voidB x)) := q2.cell 2
      have HB2 := hid_of b2
      have HQ2 := hid_of q2
      clear b2 q2
      by_cases hal : allowB x = true
      · by_cases hvo : voidB x = true
        · rw [hal, hvo] at HRA
          rw [hal] at c1
          rw [hvo] at c2
          have HRF : Hid (rightK S S.length = false) := right_false S k (by rw [HRA.out]; rfl) _ hlt
          go_quiet (fail)
          go_wp2
          go_ret
          exact ⟨by rw [HRF.out]; rfl, HSM1.out.below (bdrewE HB2.out _), HKP1.out.trans (Keep.below (bdrewE (HB2.out.mono (by have := HKP1.out.size; omega)) _))⟩
        · have hvo' : voidB x = false := by simpa using hvo
          clear hvo
          rw [hal, hvo'] at HRA
          rw [hal] at c1
          rw [hvo'] at c2
          have HNB : Hid (∀ vi ci W, Calls Tryz.prog 103 #[.agg #[.int .i64 ((k : Int) - ((elementK S k x).1 : Int)), .slice vi (elementK S k x).2.length ci, .bool false]] W fun e w' => e = .returned (.bool (nothingB k (elementK S k x))) ∧ Below W.heap.size W w') := fun vi ci W => by
            have := nothing_calls ((k : Int) - ((elementK S k x).1 : Int)) vi (elementK S k x).2.length ci false W
            rwa [nothing_int k _ (element_le S k x)] at this
          have HEC : Hid (∀ W, Below W2.heap.size W2 W → Calls Tryz.prog 96 #[.pointer (some ⟨B, 0, none⟩), .slice (some ⟨b, off, none⟩) k c, lookV x] W fun e w' => Asked n B pb lb (some ⟨b, off, none⟩) S k (elementK S k x) (m + k * N1 + 1 + 12 * S.length) W w' e) := fun W hW =>
            element_calls HS.out x (by omega) (by omega) W ((HT1.out.below HB2.out).below hW) ((HX1.out.below HB2.out).below hW) HLW.out (by have := HEE.out; omega)
          have c0 : W2.cell? ⟨w1.heap.size, 0, none⟩ = some (.string ⟨x.toArray⟩) := HQ2.out.cell 0
          have c3 : W2.cell? ⟨w1.heap.size, 3, none⟩ = some (.bool (headB x)) := HQ2.out.cell 3
          have c4 : W2.cell? ⟨w1.heap.size, 4, none⟩ = some (.bool (blockB x)) := HQ2.out.cell 4
          have c5 : W2.cell? ⟨w1.heap.size, 5, none⟩ = some (.func (.func (ownFn (ownOf x))) #[] #[]) := HQ2.out.cell 5
          have HNW : Hid (w1.heap.size < W2.heap.size ∧ w1.heap.size ≠ B ∧ w1.heap.size ≠ lb ∧ w.heap.size ≤ w1.heap.size) := ⟨HQ2.out.lt, by have := HT1.out.tab.hB; have := HT1.out.tab.hn; omega, by have := HT1.out.tab.hl; have := HT1.out.tab.hn; omega, HKP1.out.size⟩
          have hkc : (k : Int) ≤ (c : Int) := by omega
          have hk0 : (0 : Int) ≤ (k : Int) := by omega
          have HLV' : Hid (Value.agg #[.string ⟨x.toArray⟩, .bool true, .bool false, .bool (headB x), .bool (blockB x), .func (.func (ownFn (ownOf x))) #[] #[]] = lookV x) := by have h := HLV.out; rw [hal, hvo'] at h; exact h.symm
          generalize nothingB k (elementK S k x) = nb at *
          have HAF : Hid (∀ cs, Blk W2 w1.heap.size cs 133 → cs = lookArr x) := fun cs h => by
            have h2 := HQ2.out
            unfold Blk at h h2
            rw [h2] at h
            simpa using h.symm
          cases nb
          · go_region_held3 (fun w' => w'.cell? ⟨w1.heap.size, 0, none⟩ = some (.string ⟨x.toArray⟩) ∧ w'.cell? ⟨w1.heap.size, 1, none⟩ = some (.bool true) ∧ w'.cell? ⟨w1.heap.size, 2, none⟩ = some (.bool false) ∧ w'.cell? ⟨w1.heap.size, 3, none⟩ = some (.bool (headB x)) ∧ w'.cell? ⟨w1.heap.size, 4, none⟩ = some (.bool (blockB x)) ∧ w'.cell? ⟨w1.heap.size, 5, none⟩ = some (.func (.func (ownFn (ownOf x))) #[] #[])) (first | exact ⟨c0, c1, c2, c3, c4, c5⟩ | exact ⟨y0, y1, y2, y3, y4, y5⟩ | exact ⟨z0, z1, z2, z3, z4, z5⟩ | go_keep) (first
              | (go_at_call 96; rw [HLV'.out]; refine (HEC.out _ (by first | exact (Below.refl _ _).drew | exact Below.refl _ _)).mono ?_; rintro e w3 ⟨⟨vi, ci, rfl, ho3⟩, ht3, hk3⟩; have q3 : Blk w3 w1.heap.size (lookArr x) 133 := (hk3.block w1.heap.size HNW.out.1 HNW.out.2.1 HNW.out.2.2.1).trans HQ2.out; have y0 : w3.cell? ⟨w1.heap.size, 0, none⟩ = some (.string ⟨x.toArray⟩) := q3.cell 0; have y1 : w3.cell? ⟨w1.heap.size, 1, none⟩ = some (.bool true) := (q3.cell 1).trans (by rw [← hal]; rfl); have y2 : w3.cell? ⟨w1.heap.size, 2, none⟩ = some (.bool false) := (q3.cell 2).trans (by rw [← hvo']; rfl); have y3 : w3.cell? ⟨w1.heap.size, 3, none⟩ = some (.bool (headB x)) := q3.cell 3; have y4 : w3.cell? ⟨w1.heap.size, 4, none⟩ = some (.bool (blockB x)) := q3.cell 4; have y5 : w3.cell? ⟨w1.heap.size, 5, none⟩ = some (.func (.func (ownFn (ownOf x))) #[] #[]) := q3.cell 5)
              | (go_at_call 103; refine (HNB.out vi ci _).mono ?_; rintro e w4 ⟨rfl, hb4⟩; have q4 := q3.below hb4; have z0 : w4.cell? ⟨w1.heap.size, 0, none⟩ = some (.string ⟨x.toArray⟩) := q4.cell 0; have z1 : w4.cell? ⟨w1.heap.size, 1, none⟩ = some (.bool true) := (q4.cell 1).trans (by rw [← hal]; rfl); have z2 : w4.cell? ⟨w1.heap.size, 2, none⟩ = some (.bool false) := (q4.cell 2).trans (by rw [← hvo']; rfl); have z3 : w4.cell? ⟨w1.heap.size, 3, none⟩ = some (.bool (headB x)) := q4.cell 3; have z4 : w4.cell? ⟨w1.heap.size, 4, none⟩ = some (.bool (blockB x)) := q4.cell 4; have z5 : w4.cell? ⟨w1.heap.size, 5, none⟩ = some (.func (.func (ownFn (ownOf x))) #[] #[]) := q4.cell 5))
            have HT9 := hid_of (ht3.below hb4)
            have HK9 : Hid (Keep w.heap.size B lb w w4) := (HKP1.out.trans (Keep.below (HB2.out.mono HNW.out.2.2.2))).trans ((show Keep w.heap.size B lb W2 w3 from ⟨hk3.os, hk3.tape, hk3.output, hk3.size, fun j hj h1 h2 => hk3.block j (by have := HNW.out; show j < W2.heap.size; omega) h1 h2⟩).trans (Keep.below (hb4.mono (by have := hk3.size; have h5 : W2.heap.size ≤ w3.heap.size := hk3.size; have := HNW.out; omega))))
            clear q3 y0 y1 y2 y3 y4 y5 q4 z0 z1 z2 z3 z4 z5 hk3 ho3 ht3 hb4
            have HRF : Hid (rightK S S.length = false) := right_false S k (by rw [HRA.out]; rfl) _ hlt
            go_wp2
            go_ret
            exact ⟨by rw [HRF.out]; rfl, ⟨_, _, _, _, HT9.out.mono (by have h1 := HNX.out; have h2 := HMU.out; have h3 := HEE.out; omega)⟩, HK9.out⟩
          · go_region_held3 (fun w' => w'.cell? ⟨w1.heap.size, 0, none⟩ = some (.string ⟨x.toArray⟩) ∧ w'.cell? ⟨w1.heap.size, 1, none⟩ = some (.bool true) ∧ w'.cell? ⟨w1.heap.size, 2, none⟩ = some (.bool false) ∧ w'.cell? ⟨w1.heap.size, 3, none⟩ = some (.bool (headB x)) ∧ w'.cell? ⟨w1.heap.size, 4, none⟩ = some (.bool (blockB x)) ∧ w'.cell? ⟨w1.heap.size, 5, none⟩ = some (.func (.func (ownFn (ownOf x))) #[] #[])) (first | exact ⟨c0, c1, c2, c3, c4, c5⟩ | exact ⟨y0, y1, y2, y3, y4, y5⟩ | exact ⟨z0, z1, z2, z3, z4, z5⟩ | go_keep) (first
              | (go_at_call 96; rw [HLV'.out]; refine (HEC.out _ (by first | exact (Below.refl _ _).drew | exact Below.refl _ _)).mono ?_; rintro e w3 ⟨⟨vi, ci, rfl, ho3⟩, ht3, hk3⟩; have q3 : Blk w3 w1.heap.size (lookArr x) 133 := (hk3.block w1.heap.size HNW.out.1 HNW.out.2.1 HNW.out.2.2.1).trans HQ2.out; have y0 : w3.cell? ⟨w1.heap.size, 0, none⟩ = some (.string ⟨x.toArray⟩) := q3.cell 0; have y1 : w3.cell? ⟨w1.heap.size, 1, none⟩ = some (.bool true) := (q3.cell 1).trans (by rw [← hal]; rfl); have y2 : w3.cell? ⟨w1.heap.size, 2, none⟩ = some (.bool false) := (q3.cell 2).trans (by rw [← hvo']; rfl); have y3 : w3.cell? ⟨w1.heap.size, 3, none⟩ = some (.bool (headB x)) := q3.cell 3; have y4 : w3.cell? ⟨w1.heap.size, 4, none⟩ = some (.bool (blockB x)) := q3.cell 4; have y5 : w3.cell? ⟨w1.heap.size, 5, none⟩ = some (.func (.func (ownFn (ownOf x))) #[] #[]) := q3.cell 5)
              | (go_at_call 103; refine (HNB.out vi ci _).mono ?_; rintro e w4 ⟨rfl, hb4⟩; have q4 := q3.below hb4; have z0 : w4.cell? ⟨w1.heap.size, 0, none⟩ = some (.string ⟨x.toArray⟩) := q4.cell 0; have z1 : w4.cell? ⟨w1.heap.size, 1, none⟩ = some (.bool true) := (q4.cell 1).trans (by rw [← hal]; rfl); have z2 : w4.cell? ⟨w1.heap.size, 2, none⟩ = some (.bool false) := (q4.cell 2).trans (by rw [← hvo']; rfl); have z3 : w4.cell? ⟨w1.heap.size, 3, none⟩ = some (.bool (headB x)) := q4.cell 3; have z4 : w4.cell? ⟨w1.heap.size, 4, none⟩ = some (.bool (blockB x)) := q4.cell 4; have z5 : w4.cell? ⟨w1.heap.size, 5, none⟩ = some (.func (.func (ownFn (ownOf x))) #[] #[]) := q4.cell 5))
            have HT9 := hid_of (ht3.below hb4)
            have HK9 : Hid (Keep w.heap.size B lb w w4) := (HKP1.out.trans (Keep.below (HB2.out.mono HNW.out.2.2.2))).trans ((show Keep w.heap.size B lb W2 w3 from ⟨hk3.os, hk3.tape, hk3.output, hk3.size, fun j hj h1 h2 => hk3.block j (by have := HNW.out; show j < W2.heap.size; omega) h1 h2⟩).trans (Keep.below (hb4.mono (by have := hk3.size; have h5 : W2.heap.size ≤ w3.heap.size := hk3.size; have := HNW.out; omega))))
            clear q3 y0 y1 y2 y3 y4 y5 q4 z0 z1 z2 z3 z4 z5 hk3 ho3 ht3 hb4
            have HX9 : Hid (TextsAt w4 (some ⟨b, off, none⟩) S) := by obtain ⟨a9, S9, k9, i9, h9⟩ := HH.out; exact keep_texts h9 HT.out HLW.out HK9.out HN.out
            go_wp2
            go_roundw
            case rel => exact ⟨k + 1, by omega, by go_num, by show (rightK S k && rightAt S k) = true; rw [hR.out, HRA.out]; rfl, ⟨_, _, _, _, HT9.out.mono (by have h1 := HNX.out; have h3 := HEE.out; omega)⟩, HX9.out, HK9.out⟩
            case measure => simp [intOf]; omega
      · have hal' : allowB x = false := by simpa using hal
        clear hal
        rw [hal'] at HRA c1
        have HRF : Hid (rightK S S.length = false) := right_false S k (by rw [HRA.out]; rfl) _ hlt
        go_quiet (fail)
        go_wp2
        go_ret
        exact ⟨by rw [HRF.out]; rfl, HSM1.out.below (bdrewE HB2.out _), HKP1.out.trans (Keep.below (bdrewE (HB2.out.mono (by have := HKP1.out.size; omega)) _))⟩
    · obtain rfl : k = S.length := by omega
      go_wp2
      go_ret
      exact ⟨by rw [hR.out]; rfl, hTb.out, hKp.out⟩
end Go.Proofs.YtdkcibafbdmajabGreatDoor.E
