/- What is proved here: laws and contracts of LkForm, LkSetW, one behind the other (each says its own). -/
import Derived.Lib.QuietBelow
import Derived.BigQuiet
import Derived.Test.YthjjigobkndgjaaGreatDoorBun13
import Derived.Test.YthjjigobkndgjaaGreatDoorBun16
import Derived.Test.YthjjigobkndgjaaGreatDoorBun17
/- What is proved here: the document's formed and QueryOf of layer 12. -/
namespace Go.Proofs.YthjjigobkndgjaaGreatDoor.L
open Go.RowKit Go.Shelf Go.Proofs.YthjjigobkndgjaaGreatDoor.N Go.Proofs.YthjjigobkndgjaaGreatDoor.U

theorem form_parts (c : UInt8) : plainF c = (letterZ (c.toNat : Int) || digitZ (c.toNat : Int) || (c == 42) || (c == 45) || (c == 46) || (c == 95)) := by
  unfold plainF
  simp only [List.contains_cons, List.contains_nil, Bool.or_false, Bool.or_assoc]
end Go.Proofs.YthjjigobkndgjaaGreatDoor.L

/- What is proved here: the contract of the document's Set: a srcset of candidates. -/
namespace Go.Proofs.YthjjigobkndgjaaGreatDoor.L
open Go.RowKit Go.Shelf Go.Proofs.YthjjigobkndgjaaGreatDoor.N Go.Proofs.YthjjigobkndgjaaGreatDoor.U

set_option maxRecDepth 100000 in
set_option maxHeartbeats 4000000 in
/-- **Set.** -/
theorem rset_calls (l : List Two) (a : Option Addr) (cap : Nat) (w : World) (hA : TwosAt w a l) (hl : l.length ≤ 1048576) (hN : ∀ x ∈ l, x.1.length + x.2.length ≤ 1048576) : Calls Tryz.prog 9 #[.slice a l.length cap] w fun e W' => e = .returned (.string ⟨(setK l).toArray⟩) ∧ Below w.heap.size w W' := by
  have mixed : Tryz.prog.follows .mixedOrders = true := by kernel_rfl
  have HA := hid_of hA
  have HNN := hid_of hN
  have HQ : Hid (setK l = cPre l l.length) := rfl
  clear hA hN
  go_enter Tryz.func9, Tryz.ntmps9
  go_wp2_with fail
  go_loopw [3, 8] (fun vo vi wr => ∃ k : Nat, k ≤ l.length ∧ vi = .int .i64 k ∧ vo = .string ⟨(cPre l k).toArray⟩ ∧ Hid (Below w.heap.size w wr)) (fun _ vi _ => l.length - (intOf vi).toNat)
  case atStart => exact ⟨0, by omega, rfl, rfl, Below.refl _ _⟩
  case round =>
    obtain ⟨k, hk, rfl, rfl, hB⟩ := hrel
    have zr := hB.out.size
    by_cases hlt : k < l.length
    · obtain ⟨b0, o0, rfl, d0, d1⟩ := HA.out.below hB.out k hlt
      have hxx : (l.getD k ([], [])).1.length + (l.getD k ([], [])).2.length ≤ 1048576 := by
        rw [List.getD_eq_getElem?_getD, List.getElem?_eq_getElem hlt]
        exact HNN.out _ (List.getElem_mem hlt)
      have HSU : Hid (cPre l (k + 1) = cPre l k ++ cC l k) := cPre_succ l k
      have HQC : Hid (cC l k = (if k = 0 then [] else [44, 32]) ++ mendL (l.getD k ([], [])).1 ++ (if (l.getD k ([], [])).2 == [] then [] else [32] ++ mendL (l.getD k ([], [])).2)) := rfl
      obtain ⟨pre, hpre⟩ : ∃ pre, cPre l k = pre := ⟨_, rfl⟩
      have hpl : pre.length ≤ 4398049656832 := by
        rw [← hpre]
        exact Nat.le_trans (cPre_le l 1048576 HNN.out k) (Nat.le_trans (Nat.mul_le_mul_right _ (show k ≤ 1048576 by omega)) (by decide))
      rw [hpre] at HSU ⊢
      clear hpre
      obtain ⟨⟨x, y⟩, hxy⟩ : ∃ t, l.getD k ([], []) = t := ⟨_, rfl⟩
      rw [hxy] at d0 d1 HQC hxx
      simp only at d0 d1 HQC hxx
      clear hxy
      have HX : Hid (∀ W, Calls Tryz.prog 13 #[.string ⟨x.toArray⟩] W fun e W' => e = .returned (.string ⟨(mendL x).toArray⟩) ∧ Below W.heap.size W W') := fun W => R.rmend_calls x W (by omega)
      have HY : Hid (∀ W, Calls Tryz.prog 13 #[.string ⟨y.toArray⟩] W fun e W' => e = .returned (.string ⟨(mendL y).toArray⟩) ∧ Below W.heap.size W W') := fun W => R.rmend_calls y W (by omega)
      have hlx := mend_le x
      have hly := mend_le y
      obtain ⟨fx, hfx⟩ : ∃ t, mendL x = t := ⟨_, rfl⟩
      obtain ⟨fy, hfy⟩ : ∃ t, mendL y = t := ⟨_, rfl⟩
      rw [hfx] at HX HQC hlx
      rw [hfy] at HY HQC hly
      have hlx : fx.length ≤ 4194304 := by omega
      have hly : fy.length ≤ 4194304 := by omega
      clear hfx hfy hxx
      have sx := arr_size fx
      have sy := arr_size fy
      have sy1 : (⟨([32] ++ fy).toArray⟩ : ByteArray).size = 1 + fy.length := by rw [arr_size, List.length_append]; rfl
      obtain ⟨W0, hW0⟩ : ∃ W0, wr.alloc (.cells #[.string ⟨x.toArray⟩, .string ⟨y.toArray⟩] 27) = W0 := ⟨_, rfl⟩
      have b0' : Below wr.heap.size wr W0 := by rw [← hW0]; exact (Below.refl _ wr).alloc (Nat.le_refl _) _
      have HK0 : Hid (W0.heap[wr.heap.size]? = some (.cells #[.string ⟨x.toArray⟩, .string ⟨y.toArray⟩] 27 (0, 0))) := by rw [← hW0]; exact World.alloc_heap_new wr _
      have z0 : Hid (wr.heap.size < W0.heap.size) := by rw [← hW0]; show _ < _; simp
      have HB0 := hid_of (hB.out.trans (b0'.mono zr))
      have HW0 := hid_of hW0
      clear hW0 b0' hB
      have HP : ∃ p1, pre ++ (if k = 0 then [] else [44, 32]) = p1 ∧ p1.length ≤ 4398049656834 := ⟨_, rfl, by rw [List.length_append]; split <;> simp <;> omega⟩
      obtain ⟨p1, hp1, hp1l⟩ := HP
      have HQ1 : Hid (cPre l (k + 1) = p1 ++ fx ++ (if y == [] then [] else [32] ++ fy)) := by show _ = _; rw [HSU.out, HQC.out, ← hp1]; simp
      have sp := arr_size pre
      have sp1 := arr_size p1
      have sp2 : (⟨(p1 ++ fx).toArray⟩ : ByteArray).size = p1.length + fx.length := by rw [arr_size, List.length_append]
      have t1 := cat_text p1 fx
      have t2 := cat_text [32] fy
      have t3 := cat_text (p1 ++ fx) ([32] ++ fy)
      by_cases hk0 : k = 0
      case' pos =>
        have dk : decide ((k : Int) > 0) = false := by rw [decide_eq_false_iff_not]; omega
        have dk' : decide (0 < k) = false := by rw [decide_eq_false_iff_not]; omega
        rw [if_pos hk0, List.append_nil] at hp1
        obtain rfl : p1 = pre := hp1.symm
        clear hk0 HSU HQC hpl
        go_wp2_with fail
      case' neg =>
        have dk : decide ((k : Int) > 0) = true := by rw [decide_eq_true_eq]; omega
        have dk' : decide (0 < k) = true := by rw [decide_eq_true_eq]; omega
        rw [if_neg hk0] at hp1
        have t0 := cat_text pre [44, 32]
        rw [hp1] at t0
        clear hk0 HSU HQC hp1
        go_wp2_with fail
      all_goals
        rw [HW0.out]
        clear HW0
        (go_at_call 13; refine (HX.out W0).mono ?_; rintro e W9 ⟨rfl, hb2⟩)
        have HB9 := hid_of (HB0.out.trans (hb2.mono HB0.out.size))
        have HK9 : Hid (W9.heap[wr.heap.size]? = some (.cells #[.string ⟨x.toArray⟩, .string ⟨y.toArray⟩] 27 (0, 0))) := (hb2.block _ z0.out).trans HK0.out
        have z9 : Hid (wr.heap.size < W9.heap.size) := Nat.lt_of_lt_of_le z0.out hb2.size
        clear hb2 HB0 HK0
        have e1 : W9.cell? ⟨wr.heap.size, 1, none⟩ = some (.string ⟨y.toArray⟩) := by rw [cell_of_row _ _ _ _ _ _ HK9.out]; rfl
        cases hy0 : (y == [])
        case' true =>
          rw [hy0] at HQ1
          have HEQ : Hid (cPre l (k + 1) = p1 ++ fx) := by show _ = _; rw [HQ1.out]; simp
          go_wp2_with fail
          exact ⟨⟨k + 1, by omega, by go_num, by rw [HEQ.out], HB9⟩, by simp [intOf]; omega⟩
        case' false =>
          rw [hy0] at HQ1
          have HEQ : Hid (cPre l (k + 1) = p1 ++ fx ++ ([32] ++ fy)) := by show _ = _; rw [HQ1.out]; rfl
          go_wp2_with fail
          (go_at_call 13; refine (HY.out W9).mono ?_; rintro e W8 ⟨rfl, hb3⟩)
          have HB8 := hid_of (HB9.out.trans (hb3.mono HB9.out.size))
          clear hb3 e1
          go_wp2_with fail
          exact ⟨⟨k + 1, by omega, by go_num, by rw [HEQ.out]; first | rfl | (rw [cat_text]; rfl), HB8⟩, by simp [intOf]; omega⟩
    · obtain rfl : k = l.length := by omega
      go_wp2_with fail
      go_ret
      exact ⟨by rw [HQ.out]; rfl, hB.out⟩
end Go.Proofs.YthjjigobkndgjaaGreatDoor.L
