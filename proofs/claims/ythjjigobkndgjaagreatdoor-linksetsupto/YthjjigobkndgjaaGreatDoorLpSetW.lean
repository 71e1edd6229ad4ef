/- What is proved here: the contract of link.Set: a srcset of candidates. -/
import Derived.Test.YthjjigobkndgjaaGreatDoorBun17
import Derived.Test.YthjjigobkndgjaaGreatDoorLpQuery
import Derived.Test.YthjjigobkndgjaaGreatDoorBun16
namespace Go.Proofs.YthjjigobkndgjaaGreatDoor.L
open Go.RowKit Go.Shelf Go.Proofs.YthjjigobkndgjaaGreatDoor.N Go.Proofs.YthjjigobkndgjaaGreatDoor.U

set_option maxRecDepth 100000 in
set_option maxHeartbeats 4000000 in
/-- **Set.** -/
theorem set_calls (l : List Two) (a : Option Addr) (cap : Nat) (w : World) (hT : Tb w) (hA : TwosAt w a l) (hl : l.length ≤ 1048576) (hN : ∀ x ∈ l, x.1.length + x.2.length ≤ 1048576) : Calls Tryz.prog 8 #[.slice a l.length cap] w fun e W' => e = .returned (.string ⟨(setK l).toArray⟩) ∧ Below w.heap.size w W' := by
  have HA := hid_of hA
  have HT := hid_of hT
  have HNN := hid_of hN
  have HQ : Hid (setK l = cPre l l.length) := rfl
  have HPL := hid_of (cPre_le l 1048576 hN)
  clear hA hT hN
  go_enter Tryz.func8, Tryz.ntmps8
  go_wp2_with fail
  go_loopw [8] (fun vi wr => ∃ k : Nat, k ≤ l.length ∧ vi = .int .i64 k ∧ Hid (T.Bld w.heap.size w.heap.size (cPre l k) wr) ∧ Hid (Below w.heap.size w wr)) (fun vi _ => l.length - (intOf vi).toNat)
  case atStart => exact ⟨0, by omega, rfl, bld_made w _ (Nat.le_refl _), (Below.refl _ w).alloc (Nat.le_refl _) _⟩
  case round =>
    obtain ⟨k, hk, rfl, hBl, hB⟩ := hrel
    have zr := hB.out.size
    by_cases hlt : k < l.length
    · obtain ⟨b0, o0, rfl, d0, d1⟩ := HA.out.below hB.out k hlt
      have hpl := HPL.out k
      have hpl2 : (cPre l k).length ≤ 4398049656832 := Nat.le_trans hpl (Nat.le_trans (Nat.mul_le_mul_right _ (show k ≤ 1048576 by omega)) (by decide))
      have hxx : (l.getD k ([], [])).1.length + (l.getD k ([], [])).2.length ≤ 1048576 := by
        rw [List.getD_eq_getElem?_getD, List.getElem?_eq_getElem hlt]
        exact HNN.out _ (List.getElem_mem hlt)
      have HSU : Hid (cPre l (k + 1) = cPre l k ++ cC l k) := cPre_succ l k
      have HQC : Hid (cC l k = (if k = 0 then [] else [44, 32]) ++ mendL (l.getD k ([], [])).1 ++ (if (l.getD k ([], [])).2 == [] then [] else [32] ++ mendL (l.getD k ([], [])).2)) := rfl
      obtain ⟨pre, hpre⟩ : ∃ pre, cPre l k = pre := ⟨_, rfl⟩
      rw [hpre] at HSU hBl hpl2
      clear hpl hpre
      obtain ⟨⟨x, y⟩, hxy⟩ : ∃ t, l.getD k ([], []) = t := ⟨_, rfl⟩
      rw [hxy] at d0 d1 HQC hxx
      simp only at d0 d1 HQC hxx
      clear hxy
      have hmx := mend_le x
      have hmy := mend_le y
      have HMX : Hid (∀ W, Below w.heap.size w W → Calls Tryz.prog 20 #[.string ⟨x.toArray⟩] W fun e W' => e = .returned (.string ⟨(mendL x).toArray⟩) ∧ Below W.heap.size W W') := fun W h => mend_calls x W (by omega) (HT.out.below h)
      have HMY : Hid (∀ W, Below w.heap.size w W → Calls Tryz.prog 20 #[.string ⟨y.toArray⟩] W fun e W' => e = .returned (.string ⟨(mendL y).toArray⟩) ∧ Below W.heap.size W W') := fun W h => mend_calls y W (by omega) (HT.out.below h)
      obtain ⟨mx, hmx9⟩ : ∃ t, mendL x = t := ⟨_, rfl⟩
      obtain ⟨my, hmy9⟩ : ∃ t, mendL y = t := ⟨_, rfl⟩
      rw [hmx9] at HMX HQC hmx
      rw [hmy9] at HMY HQC hmy
      have hmx : mx.length ≤ 4194304 := by omega
      have hmy : my.length ≤ 4194304 := by omega
      clear hmx9 hmy9 hxx
      obtain ⟨W0, hW0⟩ : ∃ W0, wr.alloc (.cells #[.string ⟨x.toArray⟩, .string ⟨y.toArray⟩] 27) = W0 := ⟨_, rfl⟩
      have b0' : Below wr.heap.size wr W0 := by rw [← hW0]; exact (Below.refl _ wr).alloc (Nat.le_refl _) _
      have HK0 : Hid (W0.heap[wr.heap.size]? = some (.cells #[.string ⟨x.toArray⟩, .string ⟨y.toArray⟩] 27 (0, 0))) := by rw [← hW0]; exact World.alloc_heap_new wr _
      have HBl0 := hid_of (bld_below hBl.out b0')
      have HB0 := hid_of (hB.out.trans (b0'.mono zr))
      have HW0 := hid_of hW0
      have hne : wr.heap.size ≠ w.heap.size := by
        have := (Array.getElem?_eq_some_iff.1 (show ∃ o, wr.heap[w.heap.size]? = some o from by rcases hBl.out with ⟨_, v, h, _⟩ | ⟨_, v, h, _⟩ <;> exact ⟨_, h⟩).choose_spec).1
        omega
      have HNE := hid_of hne
      clear hW0 b0' hB hBl hne
      have HWS : Hid (∀ (s : List UInt8) (p : List UInt8) (W : World), T.Bld w.heap.size w.heap.size p W → Below w.heap.size w W → p.length + s.length ≤ 14000000000000 → Calls Tryz.prog 28 #[.pointer (some ⟨w.heap.size, 0, none⟩), .string ⟨s.toArray⟩] W fun e w' => (∃ v, e = .returned v) ∧ T.Bld w.heap.size w.heap.size (p ++ s) w' ∧ Below w.heap.size W w' ∧ T.Kept w.heap.size W w') := fun s p W h1 h2 h3 => T.writeString_calls w.heap.size w.heap.size p ⟨s.toArray⟩ W h1 (by rw [arr_size]; omega) h2.size
      have HPR := hid_of hpl2
      clear hpl2
      have HMXL := hid_of hmx
      have HMYL := hid_of hmy
      clear hmx hmy
      have HKC : Hid (∀ W : World, W.heap[wr.heap.size]? = some (.cells #[.string ⟨x.toArray⟩, .string ⟨y.toArray⟩] 27 (0, 0)) → W.cell? ⟨wr.heap.size, 0, none⟩ = some (.string ⟨x.toArray⟩) ∧ W.cell? ⟨wr.heap.size, 1, none⟩ = some (.string ⟨y.toArray⟩)) := fun W h => ⟨by rw [cell_of_row _ _ _ _ _ _ h]; rfl, by rw [cell_of_row _ _ _ _ _ _ h]; rfl⟩
      by_cases hk0 : k = 0
      case' pos =>
        have dk : decide ((k : Int) > 0) = false := by rw [decide_eq_false_iff_not]; omega
        have dk' : decide (0 < k) = false := by rw [decide_eq_false_iff_not]; omega
        rw [if_pos hk0] at HQC
        clear hk0
        go_wp2_with fail
        rw [HW0.out]
        obtain ⟨p1, hp1⟩ : ∃ p, pre = p := ⟨_, rfl⟩
        have HE1 : Hid (pre ++ [] = p1) := by show _ = _; rw [← hp1]; simp
        have HLn : Hid (p1.length ≤ 4398049656834) := by have := HPR.out; show _ ≤ _; rw [← hp1]; omega
        rw [hp1] at HBl0
        clear hp1
        have HBl1 := HBl0
        have HB1 := HB0
        have HK1 := HK0
        clear HBl0 HB0 HK0
        obtain ⟨W1, hW1⟩ : ∃ W, W0 = W := ⟨_, rfl⟩
        rw [hW1] at HBl1 HB1 HK1 ⊢
        clear HW0 hW1
      case' neg =>
        have dk : decide ((k : Int) > 0) = true := by rw [decide_eq_true_eq]; omega
        have dk' : decide (0 < k) = true := by rw [decide_eq_true_eq]; omega
        rw [if_neg hk0] at HQC
        clear hk0
        go_wp2_with fail
        rw [HW0.out]
        (go_at_call 28; refine (HWS.out [44, 32] pre W0 HBl0.out HB0.out (by have := HPR.out; simp; omega)).mono ?_; rintro e W1 ⟨⟨v9, rfl⟩, g1, hb1, hk1⟩)
        obtain ⟨p1, hp1⟩ : ∃ p, pre ++ [44, 32] = p := ⟨_, rfl⟩
        have HE1 : Hid (pre ++ [44, 32] = p1) := hp1
        have HLn : Hid (p1.length ≤ 4398049656834) := by have := HPR.out; show _ ≤ _; rw [← hp1, List.length_append]; simp; omega
        rw [hp1] at g1
        have HBl1 := hid_of g1
        have HB1 := hid_of (HB0.out.trans hb1)
        have HK1 := hid_of (kept_cell hk1 HK0.out HNE.out (by decide))
        clear hp1 g1 hb1 hk1 HBl0 HB0 HK0 HW0
      all_goals
        have t0 := (HKC.out _ HK1.out).1
        go_wp2_with fail
        (go_at_call 20; refine (HMX.out W1 HB1.out).mono ?_; rintro e W2 ⟨rfl, hb2⟩)
        have HBl2 := hid_of (bld_below HBl1.out hb2)
        have HB2 := hid_of (HB1.out.trans (hb2.mono HB1.out.size))
        have HK2 : Hid (W2.heap[wr.heap.size]? = some (.cells #[.string ⟨x.toArray⟩, .string ⟨y.toArray⟩] 27 (0, 0))) := (hb2.block _ (Array.getElem?_eq_some_iff.1 HK1.out).1).trans HK1.out
        clear hb2 t0 HBl1 HB1 HK1
        go_wp2_with fail
        (go_at_call 28; refine (HWS.out mx p1 W2 HBl2.out HB2.out (by have := HLn.out; have := HMXL.out; omega)).mono ?_; rintro e W3 ⟨⟨v9, rfl⟩, g3, hb3, hk3⟩)
        have HBl3 := hid_of g3
        have HB3 := hid_of (HB2.out.trans hb3)
        have HK3 := hid_of (kept_cell hk3 HK2.out HNE.out (by decide))
        clear g3 hb3 hk3 HBl2 HB2 HK2
        have t1 := (HKC.out _ HK3.out).2
        cases hy0 : (y == [])
        case' true =>
          rw [hy0] at HQC
          have HEQ : Hid (cPre l (k + 1) = p1 ++ mx) := by show _ = _; rw [HSU.out, HQC.out, ← HE1.out]; simp
          go_wp2_with fail
          exact ⟨⟨k + 1, by omega, by go_num, by rw [HEQ.out]; exact HBl3, HB3⟩, by simp [intOf]; omega⟩
        case' false =>
          rw [hy0] at HQC
          have HEQ : Hid (cPre l (k + 1) = p1 ++ mx ++ (32 :: my)) := by show _ = _; rw [HSU.out, HQC.out, ← HE1.out]; simp
          go_wp2_with fail
          (go_at_call 20; refine (HMY.out W3 HB3.out).mono ?_; rintro e W4 ⟨rfl, hb4⟩)
          have HBl4 := hid_of (bld_below HBl3.out hb4)
          have HB4 := hid_of (HB3.out.trans (hb4.mono HB3.out.size))
          clear hb4 t1 HBl3 HB3 HK3
          have sy := arr_size my
          have t2 := cat_text [32] my
          have hmyl := HMYL.out
          have sy1 : (⟨([32] ++ my).toArray⟩ : ByteArray).size = 1 + my.length := by rw [arr_size, List.length_append]; rfl
          go_wp2_with fail
          (go_at_call 28; refine (HWS.out (32 :: my) (p1 ++ mx) W4 HBl4.out HB4.out (by have := HLn.out; have := HMXL.out; have := HMYL.out; simp; omega)).mono ?_; rintro e W5 ⟨⟨v9, rfl⟩, g5, hb5, hk5⟩)
          have HBl5 := hid_of g5
          have HB5 := hid_of (HB4.out.trans hb5)
          clear g5 hb5 hk5
          go_wp2_with fail
          exact ⟨⟨k + 1, by omega, by go_num, by rw [HEQ.out]; exact HBl5, HB5⟩, by simp [intOf]; omega⟩
    · obtain rfl : k = l.length := by omega
      have HST := hid_of (T.string_calls w.heap.size w.heap.size (cPre l l.length) wr hBl.out zr)
      go_wp2_with (go_at_call 29; refine HST.out.mono ?_; rintro e W' ⟨rfl, hg, hb', hk'⟩)
      go_ret
      exact ⟨by rw [HQ.out]; rfl, hB.out.trans hb'⟩
end Go.Proofs.YthjjigobkndgjaaGreatDoor.L
