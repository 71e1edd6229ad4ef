/- What is proved here: laws and contracts of LpSetW, LkCands, LkAttrs, LkBlk, one behind the other (each says its own). -/
import Derived.Test.YtmfhhpacojodkaaGreatDoorBun15
import Derived.Test.YtmfhhpacojodkaaGreatDoorLpQuery
import Derived.Test.YtmfhhpacojodkaaGreatDoorBun18
import Derived.BigQuiet
import Derived.Test.YtmfhhpacojodkaaGreatDoorBun16
import Derived.Test.YtmfhhpacojodkaaGreatDoorBun19
import Derived.Test.YtmfhhpacojodkaaGreatDoorBun7
/- What is proved here: the contract of link.Set: a srcset of candidates. -/
namespace Go.Proofs.YtmfhhpacojodkaaGreatDoor.L
open Go.RowKit Go.Shelf Go.Proofs.YtmfhhpacojodkaaGreatDoor.N Go.Proofs.YtmfhhpacojodkaaGreatDoor.U

set_option maxRecDepth 100000 in
set_option maxHeartbeats 4000000 in
/-- **Set.** -/
theorem set_calls (l : List Two) (a : Option Addr) (cap : Nat) (w : World) (hT : Tb w) (hA : TwosAt w a l) (hl : l.length ≤ 1048576) (hN : ∀ x ∈ l, x.1.length + x.2.length ≤ 1048576) : Calls Tryz.prog 7 #[.slice a l.length cap] w fun e W' => e = .returned (.string ⟨(setK l).toArray⟩) ∧ Below w.heap.size w W' := by
  have HA := hid_of hA
  have HT := hid_of hT
  have HNN := hid_of hN
  have HQ : Hid (setK l = cPre l l.length) := rfl
  have HPL := hid_of (cPre_le l 1048576 hN)
  clear hA hT hN
  go_enter Tryz.func7, Tryz.ntmps7
  go_wp2_with fail
  go_loopw [8] (fun vi wr => ∃ k : Nat, k ≤ l.length ∧ vi = .int .i64 k ∧ Hid (T.Bld w.heap.size w.heap.size (cPre l k) wr) ∧ Hid (Below w.heap.size w wr)) (fun vi _ => l.length - (intOf vi).toNat)
  case atStart => exact ⟨0, by omega, rfl, bld_made w _ (Nat.le_refl _), (Below.refl _ w).alloc (Nat.le_refl _) _⟩
  case round =>
    obtain ⟨k, hk, rfl, hBl, hB⟩ := hrel
    have zr := hB.out.size
    by_cases hlt : k < l.length
    · obtain ⟨b0, o0, rfl, d0, d1⟩ := HA.out.below hB.out k hlt
      have hpl := HPL.out k
      have hpl2 : (cPre l k).length ≤ 4398049656832 := Nat.le_trans hpl (Nat.le_trans (Nat.mul_le_mul_right _ (show k ≤ 1048576 by omega)) (by decide))
      have hxx : (l.getD k ([], [])).1.length + (l.getD k ([], [])).2.length ≤ 1048576 := by
        rw [List.getD_eq_getElem?_getD, List.getElem?_eq_getElem hlt]
        exact HNN.out _ (List.getElem_mem hlt)
      have HSU : Hid (cPre l (k + 1) = cPre l k ++ cC l k) := cPre_succ l k
      have HQC : Hid (cC l k = (if k = 0 then [] else [44, 32]) ++ mendL (l.getD k ([], [])).1 ++ (if (l.getD k ([], [])).2 == [] then [] else [32] ++ mendL (l.getD k ([], [])).2)) := rfl
      obtain ⟨pre, hpre⟩ : ∃ pre, cPre l k = pre := ⟨_, rfl⟩
      rw [hpre] at HSU hBl hpl2
      clear hpl hpre
      obtain ⟨⟨x, y⟩, hxy⟩ : ∃ t, l.getD k ([], []) = t := ⟨_, rfl⟩
      rw [hxy] at d0 d1 HQC hxx
      simp only at d0 d1 HQC hxx
      clear hxy
      have hmx := mend_le x
      have hmy := mend_le y
      have HMX : Hid (∀ W, Below w.heap.size w W → Calls Tryz.prog 18 #[.string ⟨x.toArray⟩] W fun e W' => e = .returned (.string ⟨(mendL x).toArray⟩) ∧ Below W.heap.size W W') := fun W h => mend_calls x W (by omega) (HT.out.below h)
      have HMY : Hid (∀ W, Below w.heap.size w W → Calls Tryz.prog 18 #[.string ⟨y.toArray⟩] W fun e W' => e = .returned (.string ⟨(mendL y).toArray⟩) ∧ Below W.heap.size W W') := fun W h => mend_calls y W (by omega) (HT.out.below h)
      obtain ⟨mx, hmx9⟩ : ∃ t, mendL x = t := ⟨_, rfl⟩
      obtain ⟨my, hmy9⟩ : ∃ t, mendL y = t := ⟨_, rfl⟩
      rw [hmx9] at HMX HQC hmx
      rw [hmy9] at HMY HQC hmy
      have hmx : mx.length ≤ 4194304 := by omega
      have hmy : my.length ≤ 4194304 := by omega
      clear hmx9 hmy9 hxx
      obtain ⟨W0, hW0⟩ : ∃ W0, wr.alloc (.cells #[.string ⟨x.toArray⟩, .string ⟨y.toArray⟩] 27) = W0 := ⟨_, rfl⟩
      have b0' : Below wr.heap.size wr W0 := by rw [← hW0]; exact (Below.refl _ wr).alloc (Nat.le_refl _) _
      have HK0 : Hid (W0.heap[wr.heap.size]? = some (.cells #[.string ⟨x.toArray⟩, .string ⟨y.toArray⟩] 27 (0, 0))) := by rw [← hW0]; exact World.alloc_heap_new wr _
      have HBl0 := hid_of (bld_below hBl.out b0')
      have HB0 := hid_of (hB.out.trans (b0'.mono zr))
      have HW0 := hid_of hW0
      have hne : wr.heap.size ≠ w.heap.size := by
        have := (Array.getElem?_eq_some_iff.1 (show ∃ o, wr.heap[w.heap.size]? = some o from by rcases hBl.out with ⟨_, v, h, _⟩ | ⟨_, v, h, _⟩ <;> exact ⟨_, h⟩).choose_spec).1
        omega
      have HNE := hid_of hne
      clear hW0 b0' hB hBl hne
      have HWS : Hid (∀ (s : List UInt8) (p : List UInt8) (W : World), T.Bld w.heap.size w.heap.size p W → Below w.heap.size w W → p.length + s.length ≤ 14000000000000 → Calls Tryz.prog 23 #[.pointer (some ⟨w.heap.size, 0, none⟩), .string ⟨s.toArray⟩] W fun e w' => (∃ v, e = .returned v) ∧ T.Bld w.heap.size w.heap.size (p ++ s) w' ∧ Below w.heap.size W w' ∧ T.Kept w.heap.size W w') := fun s p W h1 h2 h3 => T.writeString_calls w.heap.size w.heap.size p ⟨s.toArray⟩ W h1 (by rw [arr_size]; omega) h2.size
      have HPR := hid_of hpl2
      clear hpl2
      have HMXL := hid_of hmx
      have HMYL := hid_of hmy
      clear hmx hmy
      have HKC : Hid (∀ W : World, W.heap[wr.heap.size]? = some (.cells #[.string ⟨x.toArray⟩, .string ⟨y.toArray⟩] 27 (0, 0)) → W.cell? ⟨wr.heap.size, 0, none⟩ = some (.string ⟨x.toArray⟩) ∧ W.cell? ⟨wr.heap.size, 1, none⟩ = some (.string ⟨y.toArray⟩)) := fun W h => ⟨by rw [cell_of_row _ _ _ _ _ _ h]; rfl, by rw [cell_of_row _ _ _ _ _ _ h]; rfl⟩
      by_cases hk0 : k = 0
      case' pos =>
        have dk : decide ((k : Int) > 0) = false := by rw [decide_eq_false_iff_not]; omega
        have dk' : decide (0 < k) = false := by rw [decide_eq_false_iff_not]; omega
        rw [if_pos hk0] at HQC
        clear hk0
        go_wp2_with fail
        rw [HW0.out]
        obtain ⟨p1, hp1⟩ : ∃ p, pre = p := ⟨_, rfl⟩
        have HE1 : Hid (pre ++ [] = p1) := by show _ = _; rw [← hp1]; simp
        have HLn : Hid (p1.length ≤ 4398049656834) := by have := HPR.out; show _ ≤ _; rw [← hp1]; omega
        rw [hp1] at HBl0
        clear hp1
        have HBl1 := HBl0
        have HB1 := HB0
        have HK1 := HK0
        clear HBl0 HB0 HK0
        obtain ⟨W1, hW1⟩ : ∃ W, W0 = W := ⟨_, rfl⟩
        rw [hW1] at HBl1 HB1 HK1 ⊢
        clear HW0 hW1
      case' neg =>
        have dk : decide ((k : Int) > 0) = true := by rw [decide_eq_true_eq]; omega
        have dk' : decide (0 < k) = true := by rw [decide_eq_true_eq]; omega
        rw [if_neg hk0] at HQC
        clear hk0
        go_wp2_with fail
        rw [HW0.out]
        (go_at_call 23; refine (HWS.out [44, 32] pre W0 HBl0.out HB0.out (by have := HPR.out; simp; omega)).mono ?_; rintro e W1 ⟨⟨v9, rfl⟩, g1, hb1, hk1⟩)
        obtain ⟨p1, hp1⟩ : ∃ p, pre ++ [44, 32] = p := ⟨_, rfl⟩
        have HE1 : Hid (pre ++ [44, 32] = p1) := hp1
        have HLn : Hid (p1.length ≤ 4398049656834) := by have := HPR.out; show _ ≤ _; rw [← hp1, List.length_append]; simp; omega
        rw [hp1] at g1
        have HBl1 := hid_of g1
        have HB1 := hid_of (HB0.out.trans hb1)
        have HK1 := hid_of (kept_cell hk1 HK0.out HNE.out (by decide))
        clear hp1 g1 hb1 hk1 HBl0 HB0 HK0 HW0
      all_goals
        have t0 := (HKC.out _ HK1.out).1
        go_wp2_with fail
        (go_at_call 18; refine (HMX.out W1 HB1.out).mono ?_; rintro e W2 ⟨rfl, hb2⟩)
        have HBl2 := hid_of (bld_below HBl1.out hb2)
        have HB2 := hid_of (HB1.out.trans (hb2.mono HB1.out.size))
        have HK2 : Hid (W2.heap[wr.heap.size]? = some (.cells #[.string ⟨x.toArray⟩, .string ⟨y.toArray⟩] 27 (0, 0))) := (hb2.block _ (Array.getElem?_eq_some_iff.1 HK1.out).1).trans HK1.out
        clear hb2 t0 HBl1 HB1 HK1
        go_wp2_with fail
        (go_at_call 23; refine (HWS.out mx p1 W2 HBl2.out HB2.out (by have := HLn.out; have := HMXL.out; omega)).mono ?_; rintro e W3 ⟨⟨v9, rfl⟩, g3, hb3, hk3⟩)
        have HBl3 := hid_of g3
        have HB3 := hid_of (HB2.out.trans hb3)
        have HK3 := hid_of (kept_cell hk3 HK2.out HNE.out (by decide))
        clear g3 hb3 hk3 HBl2 HB2 HK2
        have t1 := (HKC.out _ HK3.out).2
        cases hy0 : (y == [])
        case' true =>
          rw [hy0] at HQC
          have HEQ : Hid (cPre l (k + 1) = p1 ++ mx) := by show _ = _; rw [HSU.out, HQC.out, ← HE1.out]; simp
          go_wp2_with fail
          exact ⟨⟨k + 1, by omega, by go_num, by rw [HEQ.out]; exact HBl3, HB3⟩, by simp [intOf]; omega⟩
        case' false =>
          rw [hy0] at HQC
          have HEQ : Hid (cPre l (k + 1) = p1 ++ mx ++ (32 :: my)) := by show _ = _; rw [HSU.out, HQC.out, ← HE1.out]; simp
          go_wp2_with fail
          (go_at_call 18; refine (HMY.out W3 HB3.out).mono ?_; rintro e W4 ⟨rfl, hb4⟩)
          have HBl4 := hid_of (bld_below HBl3.out hb4)
          have HB4 := hid_of (HB3.out.trans (hb4.mono HB3.out.size))
          clear hb4 t1 HBl3 HB3 HK3
          have sy := arr_size my
          have t2 := cat_text [32] my
          have hmyl := HMYL.out
          have sy1 : (⟨([32] ++ my).toArray⟩ : ByteArray).size = 1 + my.length := by rw [arr_size, List.length_append]; rfl
          go_wp2_with fail
          (go_at_call 23; refine (HWS.out (32 :: my) (p1 ++ mx) W4 HBl4.out HB4.out (by have := HLn.out; have := HMXL.out; have := HMYL.out; simp; omega)).mono ?_; rintro e W5 ⟨⟨v9, rfl⟩, g5, hb5, hk5⟩)
          have HBl5 := hid_of g5
          have HB5 := hid_of (HB4.out.trans hb5)
          clear g5 hb5 hk5
          go_wp2_with fail
          exact ⟨⟨k + 1, by omega, by go_num, by rw [HEQ.out]; exact HBl5, HB5⟩, by simp [intOf]; omega⟩
    · obtain rfl : k = l.length := by omega
      have HST := hid_of (T.string_calls w.heap.size w.heap.size (cPre l l.length) wr hBl.out zr)
      go_wp2_with (go_at_call 24; refine HST.out.mono ?_; rintro e W' ⟨rfl, hg, hb', hk'⟩)
      go_ret
      exact ⟨by rw [HQ.out]; rfl, hB.out.trans hb'⟩
end Go.Proofs.YtmfhhpacojodkaaGreatDoor.L

/- What is proved here: the contract of the law's candidates of layer 12: the same candidates are the same. -/
namespace Go.Proofs.YtmfhhpacojodkaaGreatDoor.L
open Go.RowKit Go.Shelf Go.Proofs.YtmfhhpacojodkaaGreatDoor.N Go.Proofs.YtmfhhpacojodkaaGreatDoor.U

set_option maxRecDepth 100000 in
set_option maxHeartbeats 4000000 in
theorem cands_calls (l : List Two) (a b : Option Addr) (ca cb : Nat) (w : World) (hA : TwosAt w a l) (hB : TwosAt w b l) (hl : l.length ≤ 1000000000000) : Calls Tryz.prog 8 #[.slice a l.length ca, .slice b l.length cb] w fun e W' => e = .returned (.bool true) ∧ Below w.heap.size w W' := by
  have HA := hid_of hA
  have HB := hid_of hB
  clear hA hB
  go_enter Tryz.func8, Tryz.ntmps8
  go_wp2_with fail
  go_loopw [13] (fun vi wr => ∃ k : Nat, k ≤ l.length ∧ vi = .int .i64 k ∧ Hid (Below w.heap.size w wr)) (fun vi _ => l.length - (intOf vi).toNat)
  case atStart => exact ⟨0, by omega, rfl, Below.refl _ _⟩
  case round =>
    obtain ⟨k, hk, rfl, hBw⟩ := hrel
    by_cases hlt : k < l.length
    · obtain ⟨b1, o1, rfl, c0, c1⟩ := HA.out.below hBw.out k hlt
      obtain ⟨b2, o2, rfl, d0, d1⟩ := HB.out.below hBw.out k hlt
      generalize (⟨(l.getD k ([], [])).1.toArray⟩ : ByteArray) = f at *
      generalize (⟨(l.getD k ([], [])).2.toArray⟩ : ByteArray) = g at *
      have hf : (f.toList == f.toList) = true := by simp
      have hg : (g.toList == g.toList) = true := by simp
      go_wp2_with fail
      go_quiet (fail)
      go_wp2_with fail
      exact ⟨⟨k + 1, by omega, by go_num, hBw.out.trans ((below_drewN _ _).mono hBw.out.size)⟩, by simp [intOf]; omega⟩
    · obtain rfl : k = l.length := by omega
      go_wp2_with fail
      go_ret
      exact ⟨rfl, hBw.out⟩
end Go.Proofs.YtmfhhpacojodkaaGreatDoor.L

/- What is proved here: the contract of the law's attrs of layer 12: the same pairs are the same. -/
namespace Go.Proofs.YtmfhhpacojodkaaGreatDoor.L
open Go.RowKit Go.Shelf Go.Proofs.YtmfhhpacojodkaaGreatDoor.N Go.Proofs.YtmfhhpacojodkaaGreatDoor.U

set_option maxRecDepth 100000 in
set_option maxHeartbeats 4000000 in
theorem attrs_calls (l : List Two) (a b : Option Addr) (ca cb : Nat) (w : World) (hA : TwosAt w a l) (hB : TwosAt w b l) (hl : l.length ≤ 1000000000000) : Calls Tryz.prog 10 #[.slice a l.length ca, .slice b l.length cb] w fun e W' => e = .returned (.bool true) ∧ Below w.heap.size w W' := by
  have HA := hid_of hA
  have HB := hid_of hB
  clear hA hB
  go_enter Tryz.func10, Tryz.ntmps10
  go_wp2_with fail
  go_loopw [13] (fun vi wr => ∃ k : Nat, k ≤ l.length ∧ vi = .int .i64 k ∧ Hid (Below w.heap.size w wr)) (fun vi _ => l.length - (intOf vi).toNat)
  case atStart => exact ⟨0, by omega, rfl, Below.refl _ _⟩
  case round =>
    obtain ⟨k, hk, rfl, hBw⟩ := hrel
    by_cases hlt : k < l.length
    · obtain ⟨b1, o1, rfl, c0, c1⟩ := HA.out.below hBw.out k hlt
      obtain ⟨b2, o2, rfl, d0, d1⟩ := HB.out.below hBw.out k hlt
      generalize (⟨(l.getD k ([], [])).1.toArray⟩ : ByteArray) = f at *
      generalize (⟨(l.getD k ([], [])).2.toArray⟩ : ByteArray) = g at *
      have hf : (f.toList == f.toList) = true := by simp
      have hg : (g.toList == g.toList) = true := by simp
      go_wp2_with fail
      go_quiet (fail)
      go_wp2_with fail
      exact ⟨⟨k + 1, by omega, by go_num, hBw.out.trans ((below_drewN _ _).mono hBw.out.size)⟩, by simp [intOf]; omega⟩
    · obtain rfl : k = l.length := by omega
      go_wp2_with fail
      go_ret
      exact ⟨rfl, hBw.out⟩
end Go.Proofs.YtmfhhpacojodkaaGreatDoor.L

/- What is proved here: a link as a struct in memory; its parts of a scheme and what stands behind it. -/
namespace Go.Proofs.YtmfhhpacojodkaaGreatDoor.L
open Go.RowKit Go.Shelf Go.Proofs.YtmfhhpacojodkaaGreatDoor.N Go.Proofs.YtmfhhpacojodkaaGreatDoor.U

/-- A struct in memory, none of it frozen. -/
def Blk (w : World) (g : Nat) (cs : Array Value) (t : TypeId) : Prop := w.heap[g]? = some (.cells cs t)
theorem Blk.cell {w : World} {g : Nat} {cs : Array Value} {t : TypeId} (h : Blk w g cs t) (j : Nat) : w.cell? ⟨g, j, none⟩ = cs[j]? := by
  simp only [World.cell?]; rw [show w.heap[g]? = _ from h]; simp
theorem Blk.frozen {w : World} {g : Nat} {cs : Array Value} {t : TypeId} (h : Blk w g cs t) (j : Nat) : w.frozen? ⟨g, j, none⟩ = false := by
  simp only [World.frozen?]; rw [show w.heap[g]? = _ from h]; simp
theorem Blk.lt {w : World} {g : Nat} {cs : Array Value} {t : TypeId} (h : Blk w g cs t) : g < w.heap.size := by
  have : w.heap[g]? = some _ := h
  exact (Array.getElem?_eq_some_iff.1 this).1
theorem Blk.set {w : World} {g : Nat} {cs : Array Value} {t : TypeId} (h : Blk w g cs t) (j : Nat) (v : Value) : Blk (w.setCell ⟨g, j, none⟩ v) g (cs.setIfInBounds j v) t := by
  have hh : w.heap[g]? = some _ := h
  have hl := h.lt
  show (w.setCell ⟨g, j, none⟩ v).heap[g]? = _
  simp only [World.setCell, Array.getElem?_modify, hh]; simp
theorem Blk.new (w : World) (cs : Array Value) (t : TypeId) : Blk (w.alloc (.cells cs t)) w.heap.size cs t := World.alloc_heap_new w _
theorem Blk.below {w w' : World} {g : Nat} {cs : Array Value} {t : TypeId} (h : Blk w g cs t) (hb : Below w.heap.size w w') : Blk w' g cs t := (hb.block g h.lt).trans h
theorem Blk.alloc {w : World} {g : Nat} {cs : Array Value} {t : TypeId} (h : Blk w g cs t) (o : Obj) : Blk (w.alloc o) g cs t := h.below ((Below.refl _ w).alloc (Nat.le_refl _) o)
theorem Blk.drew {w : World} {g : Nat} {cs : Array Value} {t : TypeId} (h : Blk w g cs t) : Blk w.drew g cs t := h
theorem Blk.other {w : World} {g g' : Nat} {cs : Array Value} {t : TypeId} (h : Blk w g cs t) (hg : g ≠ g') (j : Nat) (v : Value) : Blk (w.setCell ⟨g', j, none⟩ v) g cs t := by
  show (w.setCell ⟨g', j, none⟩ v).heap[g]? = _
  rw [Below.heap_setCell _ _ _ _ (fun e => hg e)]
  exact h
/-- The nine cells of a link. -/
theorem Blk.nine {w : World} {g : Nat} {v0 v1 v2 v3 v4 v5 v6 v7 v8 : Value} {t : TypeId} (h : Blk w g #[v0, v1, v2, v3, v4, v5, v6, v7, v8] t) :
    w.cell? ⟨g, 0, none⟩ = some v0 ∧ w.cell? ⟨g, 1, none⟩ = some v1 ∧ w.cell? ⟨g, 2, none⟩ = some v2 ∧ w.cell? ⟨g, 3, none⟩ = some v3 ∧ w.cell? ⟨g, 4, none⟩ = some v4 ∧ w.cell? ⟨g, 5, none⟩ = some v5 ∧ w.cell? ⟨g, 6, none⟩ = some v6 ∧ w.cell? ⟨g, 7, none⟩ = some v7 ∧ w.cell? ⟨g, 8, none⟩ = some v8 ∧ ∀ k, w.frozen? ⟨g, k, none⟩ = false :=
  ⟨h.cell 0, h.cell 1, h.cell 2, h.cell 3, h.cell 4, h.cell 5, h.cell 6, h.cell 7, h.cell 8, h.frozen⟩
theorem below_setCell {n : Nat} {w W : World} (h : Below n w W) {g : Nat} (hg : n ≤ g) (j : Nat) (v : Value) : Below n w (W.setCell ⟨g, j, none⟩ v) :=
  ⟨h.os, h.tape, h.output, by simpa [World.setCell] using h.size, fun k hk => by rw [Below.heap_setCell _ _ _ _ (fun e => by rw [show k = g from e] at hk; omega)]; exact h.block k hk⟩
def noLink : Array Value := #[.string ⟨#[]⟩, .string ⟨#[]⟩, .string ⟨#[]⟩, .string ⟨#[]⟩, .string ⟨#[]⟩, .bool false, .bool false, .bool false, .bool false]
theorem below_put9 {n : Nat} {w W : World} (h : Below n w W) {g : Nat} (hg : n ≤ g) (v0 v1 v2 v3 v4 v5 v6 v7 v8 : Value) : Below n w (((((((((W.setCell ⟨g, 0, none⟩ v0).setCell ⟨g, 1, none⟩ v1).setCell ⟨g, 2, none⟩ v2).setCell ⟨g, 3, none⟩ v3).setCell ⟨g, 4, none⟩ v4).setCell ⟨g, 5, none⟩ v5).setCell ⟨g, 6, none⟩ v6).setCell ⟨g, 7, none⟩ v7).setCell ⟨g, 8, none⟩ v8) :=
  below_setCell (below_setCell (below_setCell (below_setCell (below_setCell (below_setCell (below_setCell (below_setCell (below_setCell h hg 0 v0) hg 1 v1) hg 2 v2) hg 3 v3) hg 4 v4) hg 5 v5) hg 6 v6) hg 7 v7) hg 8 v8
theorem Blk.put9 {w : World} {g : Nat} {u0 u1 u2 u3 u4 u5 u6 u7 u8 : Value} {t : TypeId} (h : Blk w g #[u0, u1, u2, u3, u4, u5, u6, u7, u8] t) (v0 v1 v2 v3 v4 v5 v6 v7 v8 : Value) : Blk (((((((((w.setCell ⟨g, 0, none⟩ v0).setCell ⟨g, 1, none⟩ v1).setCell ⟨g, 2, none⟩ v2).setCell ⟨g, 3, none⟩ v3).setCell ⟨g, 4, none⟩ v4).setCell ⟨g, 5, none⟩ v5).setCell ⟨g, 6, none⟩ v6).setCell ⟨g, 7, none⟩ v7).setCell ⟨g, 8, none⟩ v8) g #[v0, v1, v2, v3, v4, v5, v6, v7, v8] t := by
  have h0 : Blk _ g #[v0, u1, u2, u3, u4, u5, u6, u7, u8] t := h.set 0 v0
  have h1 : Blk _ g #[v0, v1, u2, u3, u4, u5, u6, u7, u8] t := h0.set 1 v1
  have h2 : Blk _ g #[v0, v1, v2, u3, u4, u5, u6, u7, u8] t := h1.set 2 v2
  have h3 : Blk _ g #[v0, v1, v2, v3, u4, u5, u6, u7, u8] t := h2.set 3 v3
  have h4 : Blk _ g #[v0, v1, v2, v3, v4, u5, u6, u7, u8] t := h3.set 4 v4
  have h5 : Blk _ g #[v0, v1, v2, v3, v4, v5, u6, u7, u8] t := h4.set 5 v5
  have h6 : Blk _ g #[v0, v1, v2, v3, v4, v5, v6, u7, u8] t := h5.set 6 v6
  have h7 : Blk _ g #[v0, v1, v2, v3, v4, v5, v6, v7, u8] t := h6.set 7 v7
  have h8 : Blk _ g #[v0, v1, v2, v3, v4, v5, v6, v7, v8] t := h7.set 8 v8
  exact h8
def Lk.mend (l : Lk) : Lk := { l with sc := mendL l.sc, ho := mendL l.ho, pa := mendL l.pa, qu := mendL l.qu, fr := mendL l.fr }
structure Lk.Small (l : Lk) (n : Nat) : Prop where
  sc : l.sc.length ≤ n
  ho : l.ho.length ≤ n
  pa : l.pa.length ≤ n
  qu : l.qu.length ≤ n
  fr : l.fr.length ≤ n
/-- The parts, of a scheme and what stands behind it. -/
def partsK (sc : List UInt8) (hb : Bool) (r : List UInt8) : Lk where
  sc := sc
  hs := hb
  fr := r.drop (upToL [35] r + 1)
  hf := decide (upToL [35] r < r.length)
  qu := (aheadK r).drop (upToL [63] (aheadK r) + 1)
  hq := decide (upToL [63] (aheadK r) < (aheadK r).length)
  hh := (hostK ((aheadK r).take (upToL [63] (aheadK r)))).1
  ho := (hostK ((aheadK r).take (upToL [63] (aheadK r)))).2.1
  pa := (hostK ((aheadK r).take (upToL [63] (aheadK r)))).2.2
theorem split_none {s : List UInt8} (h : colonL s = none) : splitK s = partsK [] false s := by
  have e : restK s = s := by unfold restK; rw [h]
  unfold splitK partsK
  rw [e, h]
  rfl
theorem split_some {s : List UInt8} {n : Nat} (h : colonL s = some n) : splitK s = partsK (lower (s.take n)) true (s.drop (n + 1)) := by
  have e : restK s = s.drop (n + 1) := by unfold restK; rw [h]
  unfold splitK partsK
  rw [e, h]
  rfl
theorem parts_v (sc : List UInt8) (hb : Bool) (r : List UInt8) : ∃ A F hf B Q hq, r.take (upToL [35] r) = A ∧ r.drop (upToL [35] r + 1) = F ∧ decide (upToL [35] r < r.length) = hf ∧ A.take (upToL [63] A) = B ∧ A.drop (upToL [63] A + 1) = Q ∧ decide (upToL [63] A < A.length) = hq ∧
    (partsK sc hb r).v = .agg #[.string ⟨sc.toArray⟩, .string ⟨(hostK B).2.1.toArray⟩, .string ⟨(hostK B).2.2.toArray⟩, .string ⟨Q.toArray⟩, .string ⟨F.toArray⟩, .bool hb, .bool (hostK B).1, .bool hq, .bool hf] ∧ A.length ≤ r.length ∧ B.length ≤ A.length :=
  ⟨_, _, _, _, _, _, rfl, rfl, rfl, rfl, rfl, rfl, rfl, by simp; omega, by simp; omega⟩
theorem parts_three (sc : List UInt8) (hb : Bool) (r : List UInt8) : ∃ B Q F, Three r B Q F ∧ (partsK sc hb r).v = .agg #[.string ⟨sc.toArray⟩, .string ⟨(hostK B).2.1.toArray⟩, .string ⟨(hostK B).2.2.toArray⟩, .string ⟨(Q.drop 1).toArray⟩, .string ⟨(F.drop 1).toArray⟩, .bool hb, .bool (hostK B).1, .bool (decide (0 < Q.length)), .bool (decide (0 < F.length))] := by
  obtain ⟨B, Q, F, h, h1, h2, h3, h4⟩ := three r
  refine ⟨B, Q, F, h, ?_⟩
  have hA : aheadK r = B ++ Q := h1.symm
  have e1 : (B ++ Q).drop (upToL [63] (B ++ Q) + 1) = Q.drop 1 := by
    have : (B ++ Q).drop (upToL [63] (B ++ Q) + 1) = ((B ++ Q).drop (upToL [63] (B ++ Q))).drop 1 := by rw [List.drop_drop]
    rw [this, ← h4]
  have e2 : r.drop (upToL [35] r + 1) = F.drop 1 := by
    have : r.drop (upToL [35] r + 1) = (r.drop (upToL [35] r)).drop 1 := by rw [List.drop_drop]
    rw [this, ← h2]
  have e3 : decide (upToL [63] (B ++ Q) < (B ++ Q).length) = decide (0 < Q.length) := by
    have e := congrArg List.length h4
    rw [List.length_drop] at e
    rw [decide_eq_decide]
    omega
  have e4 : decide (upToL [35] r < r.length) = decide (0 < F.length) := by
    have e := congrArg List.length h2
    rw [List.length_drop] at e
    rw [decide_eq_decide]
    omega
  unfold Lk.v partsK
  simp only
  rw [hA, ← h3, e1, e2, e3, e4]
theorem nohost_r {r B Q F : List UInt8} (h : Three r B Q F) (hB : (hostK B).1 = false) : r.length ≤ 1 ∨ (1 < r.length ∧ (r.getD 0 0 == 47) = false) ∨ (1 < r.length ∧ (r.getD 0 0 == 47) = true ∧ (r.getD 1 0 == 47) = false) := by
  by_cases h1 : r.length ≤ 1
  · exact .inl h1
  · cases e0 : (r.getD 0 0 == 47) with
    | false => exact .inr (.inl ⟨by omega, rfl⟩)
    | true =>
      cases e1 : (r.getD 1 0 == 47) with
      | false => exact .inr (.inr ⟨by omega, rfl, rfl⟩)
      | true =>
        exfalso
        have ht := h.tail
        have ha := h.all
        have z0 : r.getD 0 0 = 47 := by simpa using e0
        have z1 : r.getD 1 0 = 47 := by simpa using e1
        rw [ha] at z0 z1 h1
        cases B with
        | nil =>
          rcases ht with e | ⟨c, t, e, hc⟩
          · rw [e] at h1; simp at h1
          · rw [e] at z0; simp at z0; rcases hc with rfl | rfl <;> simp at z0
        | cons a B' =>
          cases B' with
          | nil =>
            rcases ht with e | ⟨c, t, e, hc⟩
            · rw [e] at h1; simp at h1
            · rw [e] at z1; simp at z1; rcases hc with rfl | rfl <;> simp at z1
          | cons b u =>
            simp at z0 z1
            subst z0; subst z1
            have : (hostK (47 :: 47 :: u)).1 = true := rfl
            rw [this] at hB
            cases hB
theorem hostK_cases (B : List UInt8) : ((hostK B).1 = false ∧ (hostK B).2.1 = [] ∧ (hostK B).2.2 = B) ∨ ∃ C, B = 47 :: 47 :: C ∧ hostK B = (true, C.take (upToL [47] C), C.drop (upToL [47] C)) := by
  cases B with
  | nil => exact .inl ⟨rfl, rfl, rfl⟩
  | cons a t =>
    cases t with
    | nil => exact .inl ⟨rfl, rfl, rfl⟩
    | cons b u =>
      have e : hostK (a :: b :: u) = if (a == 47 && b == 47) = true then (true, u.take (upToL [47] u), u.drop (upToL [47] u)) else (false, [], a :: b :: u) := rfl
      rw [e]
      cases hc : (a == 47 && b == 47) with
      | false => exact .inl ⟨rfl, rfl, rfl⟩
      | true =>
        simp at hc
        obtain ⟨rfl, rfl⟩ := hc
        right
        exact ⟨u, rfl, by simp⟩
end Go.Proofs.YtmfhhpacojodkaaGreatDoor.L
