/- What is proved here: the document's formed and QueryOf of layer 12. -/
import Derived.Lib.QuietBelow
import Derived.BigQuiet
import Derived.Test.YtkbegfdbfmfedaaGreatDoorLkTwo
import Derived.Test.YtkbegfdbfmfedaaGreatDoorBun12
namespace Go.Proofs.YtkbegfdbfmfedaaGreatDoor.L
open Go.RowKit Go.Shelf Go.Proofs.YtkbegfdbfmfedaaGreatDoor.N Go.Proofs.YtkbegfdbfmfedaaGreatDoor.U

theorem form_parts (c : UInt8) : plainF c = (letterZ (c.toNat : Int) || digitZ (c.toNat : Int) || (c == 42) || (c == 45) || (c == 46) || (c == 95)) := by
  unfold plainF
  simp only [List.contains_cons, List.contains_nil, Bool.or_false, Bool.or_assoc]
set_option maxRecDepth 100000 in
set_option maxHeartbeats 4000000 in
/-- **formed.** -/
theorem formed_calls (bs : List UInt8) (w : World) (hl : bs.length ≤ 1000000000) : Calls Tryz.prog 48 #[.string ⟨bs.toArray⟩] w fun e W' => e = .returned (.string ⟨(formL bs).toArray⟩) ∧ Below w.heap.size w W' := by
  have HM : Hid (Calls Tryz.prog 21 #[.string ⟨bs.toArray⟩] w fun e W' => e = .returned (.string ⟨(mendL bs).toArray⟩) ∧ Below w.heap.size w W') := R.rmend_calls bs w (by omega)
  have hml := mend_le bs
  have HF : Hid (formL bs = (mendL bs).flatMap formC) := rfl
  obtain ⟨s, hS⟩ : ∃ s, mendL bs = s := ⟨_, rfl⟩
  rw [hS] at HM hml HF
  have hss : s.length ≤ 4000000000 := by omega
  clear hS hml hl
  have ss := arr_size s
  go_enter Tryz.func48, Tryz.ntmps48
  go_wp2_with fail
  (go_at_call 21; refine HM.out.mono ?_; rintro e w1 ⟨rfl, hb1⟩)
  have z1 := hb1.size
  go_wp2_with fail
  go_loopw [3, 11] (fun vo vi wr => ∃ k : Nat, k ≤ s.length ∧ vi = .int .i64 k ∧ vo = .string ⟨((s.take k).flatMap formC).toArray⟩ ∧ Hid (Below w.heap.size w wr)) (fun _ vi _ => s.length - (intOf vi).toNat)
  case atStart => exact ⟨0, by omega, rfl, rfl, hb1⟩
  case round =>
    obtain ⟨k, hk, rfl, rfl, hB⟩ := hrel
    have zr := hB.out.size
    by_cases hlt : k < s.length
    · obtain ⟨c, hc⟩ : ∃ c, s.getD k 0 = c := ⟨_, rfl⟩
      have hix := byte_at s k c hlt hc (k : Int) rfl
      have hsl : ∀ W, (Instr.slice 9 (.string ⟨s.toArray⟩) (some (.int .i64 (k : Int))) (some (.int .i64 ((k : Int) + 1))) none).run Tryz.prog W = .ok (.string ⟨[c].toArray⟩) W := by
        have h := slice_lh s k (k + 1) (by omega) hlt (k : Int) ((k : Int) + 1) rfl (by omega)
        have e : (s.take (k + 1)).drop k = [c] := by
          rw [List.take_succ_eq_append_getElem hlt, List.drop_append, ← hc, getD_at s k hlt]
          simp [Nat.min_eq_left (Nat.le_of_lt hlt)]
        rw [e] at h
        exact h
      have hcl := c.toNat_lt
      have w32 : wrap32 (c.toNat : Int) = c.toNat := by unfold wrap32; omega
      have HSN : Hid ((s.take (k + 1)).flatMap formC = (s.take k).flatMap formC ++ formC c) := by show _ = _; rw [form_snoc s k hlt, hc]
      have HFC : Hid (formC c = if c == 32 then [43] else if plainF c then [c] else escC c) := (formC_doc c).symm
      have HPF := hid_of (form_parts c)
      obtain ⟨pre, hpre⟩ : ∃ pre, (s.take k).flatMap formC = pre := ⟨_, rfl⟩
      have hpl : pre.length ≤ 12000000000 := by
        have h1 := flat_le (s.take k)
        have h2 : (s.take k).length = k := by rw [List.length_take]; omega
        rw [hpre] at h1
        omega
      have sp := arr_size pre
      rw [hpre] at HSN ⊢
      have HLE := hid_of (rletter_calls (c.toNat : Int) wr)
      have HDI := hid_of (rdigit_calls (c.toNat : Int) wr)
      have e32 : ((c.toNat : Int) == 32) = (c == 32) := eq_byte c 32
      have e42 : ((c.toNat : Int) == 42) = (c == 42) := eq_byte c 42
      have e45 : ((c.toNat : Int) == 45) = (c == 45) := eq_byte c 45
      have e46 : ((c.toNat : Int) == 46) = (c == 46) := eq_byte c 46
      have e95 : ((c.toNat : Int) == 95) = (c == 95) := eq_byte c 95
      clear hc hpre
      cases hsp : (c == 32) with
      | true =>
        rw [hsp] at e32 HFC
        have HS2 : Hid ((s.take (k + 1)).flatMap formC = pre ++ [43]) := by show _ = _; rw [HSN.out, HFC.out]; simp
        have t1 := cat_text pre [43]
        clear HSN HFC hsp HPF HLE HDI e42 e45 e46 e95 hsl hcl
        go_wp2_with fail
        exact ⟨⟨k + 1, by omega, by go_num, by rw [HS2.out], hB⟩, by simp [intOf]; omega⟩
      | false =>
        rw [hsp] at e32 HFC
        clear hsp
        have hcs : (plainF c = true ∧ (letterZ (c.toNat : Int) = true ∨ (letterZ (c.toNat : Int) = false ∧ digitZ (c.toNat : Int) = true) ∨ (letterZ (c.toNat : Int) = false ∧ digitZ (c.toNat : Int) = false ∧ (c == 42) = true) ∨ (letterZ (c.toNat : Int) = false ∧ digitZ (c.toNat : Int) = false ∧ (c == 42) = false ∧ (c == 45) = true) ∨ (letterZ (c.toNat : Int) = false ∧ digitZ (c.toNat : Int) = false ∧ (c == 42) = false ∧ (c == 45) = false ∧ (c == 46) = true) ∨ (letterZ (c.toNat : Int) = false ∧ digitZ (c.toNat : Int) = false ∧ (c == 42) = false ∧ (c == 45) = false ∧ (c == 46) = false ∧ (c == 95) = true))) ∨ (plainF c = false ∧ letterZ (c.toNat : Int) = false ∧ digitZ (c.toNat : Int) = false ∧ (c == 42) = false ∧ (c == 45) = false ∧ (c == 46) = false ∧ (c == 95) = false) := by
          rw [HPF.out]
          cases letterZ (c.toNat : Int) <;> cases digitZ (c.toNat : Int) <;> cases (c == 42) <;> cases (c == 45) <;> cases (c == 46) <;> cases (c == 95) <;> simp
        clear HPF
        rcases hcs with ⟨hpf, hcs⟩ | ⟨hpf, x1, x2, x3, x4, x5, x6⟩
        · rw [hpf] at HFC
          have HS2 : Hid ((s.take (k + 1)).flatMap formC = pre ++ [c]) := by show _ = _; rw [HSN.out, HFC.out]; simp
          have t1 := cat_text pre [c]
          clear HSN HFC hpf hcl
          rcases hcs with x1 | ⟨x1, x2⟩ | ⟨x1, x2, x3⟩ | ⟨x1, x2, x3, x4⟩ | ⟨x1, x2, x3, x4, x5⟩ | ⟨x1, x2, x3, x4, x5, x6⟩
          all_goals
            rw [x1] at HLE
            clear x1
            try (rw [x2] at HDI; clear x2)
            try (rw [x3] at e42; clear x3)
            try (rw [x4] at e45; clear x4)
            try (rw [x5] at e46; clear x5)
            try (rw [x6] at e95; clear x6)
            go_wp2_with (first
              | (go_at_call 86; refine HLE.out.mono ?_; rintro e w' ⟨rfl, hx⟩; obtain rfl : wr = w' := hx.symm)
              | (go_at_call 45; refine HDI.out.mono ?_; rintro e w' ⟨rfl, hx⟩; obtain rfl : wr = w' := hx.symm))
            exact ⟨⟨k + 1, by omega, by go_num, by rw [HS2.out], hB⟩, by simp [intOf]; omega⟩
        · rw [hpf] at HFC
          rw [x1] at HLE
          rw [x2] at HDI
          rw [x3] at e42
          rw [x4] at e45
          rw [x5] at e46
          rw [x6] at e95
          have HS2 : Hid ((s.take (k + 1)).flatMap formC = pre ++ [37, hexD (c.toNat / 16), hexD (c.toNat % 16)]) := by show _ = _; rw [HSN.out, HFC.out]; rfl
          clear x1 x2 x3 x4 x5 x6 HSN HFC hpf hsl
          have s1 := hex_slice (c.toNat / 16) (by omega) ((c.toNat : Int) / 16) ((c.toNat : Int) / 16 + 1) (by omega) (by omega)
          have s2 := hex_slice (c.toNat % 16) (by omega) ((c.toNat : Int) % 16) ((c.toNat : Int) % 16 + 1) (by omega) (by omega)
          obtain ⟨h1, hh1⟩ : ∃ h, hexD (c.toNat / 16) = h := ⟨_, rfl⟩
          obtain ⟨h2, hh2⟩ : ∃ h, hexD (c.toNat % 16) = h := ⟨_, rfl⟩
          rw [hh1] at s1 HS2
          rw [hh2] at s2 HS2
          clear hh1 hh2
          have t1 := cat_text [37] [h1]
          have t2 := cat_text [37, h1] [h2]
          have t3 := cat_text pre [37, h1, h2]
          go_wp2_with (first
            | (go_at_call 86; refine HLE.out.mono ?_; rintro e w' ⟨rfl, hx⟩; obtain rfl : wr = w' := hx.symm)
            | (go_at_call 45; refine HDI.out.mono ?_; rintro e w' ⟨rfl, hx⟩; obtain rfl : wr = w' := hx.symm))
          refine wp_region_quiet_below (by kernel_rfl) (by kernel_rfl) ?_
          repeat (go_big_quiet_step (fail))
          refine wpQuiet_nil ?_
          intro W9 hw'
          obtain ⟨⟨dq, osq⟩, hw''⟩ := hw'
          have hb2 : Below wr.heap.size wr W9 := by rw [hw'']; exact below_regrown wr dq osq
          clear hw'' s1 s2 t1 t2 t3
          go_wp2_with fail
          exact ⟨⟨k + 1, by omega, by go_num, by rw [HS2.out], hB.out.trans (hb2.mono zr)⟩, by simp [intOf]; omega⟩
    · obtain rfl : k = s.length := by omega
      have HE : Hid ((s.take s.length).flatMap formC = formL bs) := by show _ = _; rw [HF.out, List.take_length]
      go_wp2_with fail
      go_ret
      exact ⟨by rw [← HE.out]; rfl, hB.out⟩
set_option maxRecDepth 100000 in
set_option maxHeartbeats 4000000 in
/-- **QueryOf.** -/
theorem rquery_calls (l : List Two) (a : Option Addr) (cap : Nat) (w : World) (hA : TwosAt w a l) (hl : l.length ≤ 1048576) (hN : ∀ x ∈ l, x.1.length + x.2.length ≤ 1048576) : Calls Tryz.prog 18 #[.slice a l.length cap] w fun e W' => e = .returned (.string ⟨(queryK l).toArray⟩) ∧ Below w.heap.size w W' := by
  have mixed : Tryz.prog.follows .mixedOrders = true := by kernel_rfl
  have HA := hid_of hA
  have HNN := hid_of hN
  have HQ : Hid (queryK l = qPre l l.length) := rfl
  clear hA hN
  go_enter Tryz.func18, Tryz.ntmps18
  go_wp2_with fail
  go_loopw [3, 8] (fun vo vi wr => ∃ k : Nat, k ≤ l.length ∧ vi = .int .i64 k ∧ vo = .string ⟨(qPre l k).toArray⟩ ∧ Hid (Below w.heap.size w wr)) (fun _ vi _ => l.length - (intOf vi).toNat)
  case atStart => exact ⟨0, by omega, rfl, rfl, Below.refl _ _⟩
  case round =>
    obtain ⟨k, hk, rfl, rfl, hB⟩ := hrel
    have zr := hB.out.size
    by_cases hlt : k < l.length
    · obtain ⟨b0, o0, rfl, d0, d1⟩ := HA.out.below hB.out k hlt
      have hxx : (l.getD k ([], [])).1.length + (l.getD k ([], [])).2.length ≤ 1048576 := by
        rw [List.getD_eq_getElem?_getD, List.getElem?_eq_getElem hlt]
        exact HNN.out _ (List.getElem_mem hlt)
      have HSU : Hid (qPre l (k + 1) = qPre l k ++ qC l k) := qPre_succ l k
      have HQC : Hid (qC l k = (if k = 0 then [] else [38]) ++ formL (l.getD k ([], [])).1 ++ [61] ++ formL (l.getD k ([], [])).2) := rfl
      obtain ⟨pre, hpre⟩ : ∃ pre, qPre l k = pre := ⟨_, rfl⟩
      have hpl : pre.length ≤ 13194143629312 := by
        rw [← hpre]
        exact Nat.le_trans (qPre_le l 1048576 HNN.out k) (Nat.le_trans (Nat.mul_le_mul_right _ (show k ≤ 1048576 by omega)) (by decide))
      rw [hpre] at HSU ⊢
      clear hpre
      obtain ⟨⟨x, y⟩, hxy⟩ : ∃ t, l.getD k ([], []) = t := ⟨_, rfl⟩
      rw [hxy] at d0 d1 HQC hxx
      simp only at d0 d1 HQC hxx
      clear hxy
      have HX := hid_of (fun W => formed_calls x W (by omega))
      have HY := hid_of (fun W => formed_calls y W (by omega))
      have hlx := formL_le x
      have hly := formL_le y
      obtain ⟨fx, hfx⟩ : ∃ t, formL x = t := ⟨_, rfl⟩
      obtain ⟨fy, hfy⟩ : ∃ t, formL y = t := ⟨_, rfl⟩
      rw [hfx] at HX HQC hlx
      rw [hfy] at HY HQC hly
      have hlx : fx.length ≤ 12582912 := by omega
      have hly : fy.length ≤ 12582912 := by omega
      clear hfx hfy hxx
      have sp := arr_size pre
      have sx := arr_size fx
      have sy := arr_size fy
      have sx1 : (⟨(fx ++ [61]).toArray⟩ : ByteArray).size = fx.length + 1 := by rw [arr_size, List.length_append]; rfl
      have sx2 : (⟨(fx ++ [61] ++ fy).toArray⟩ : ByteArray).size = fx.length + 1 + fy.length := by rw [arr_size, List.length_append, List.length_append]; rfl
      have sp1 : (⟨(pre ++ [38]).toArray⟩ : ByteArray).size = pre.length + 1 := by rw [arr_size, List.length_append]; rfl
      obtain ⟨W0, hW0⟩ : ∃ W0, wr.alloc (.cells #[.string ⟨x.toArray⟩, .string ⟨y.toArray⟩] 36) = W0 := ⟨_, rfl⟩
      have b0' : Below wr.heap.size wr W0 := by rw [← hW0]; exact (Below.refl _ wr).alloc (Nat.le_refl _) _
      have HK0 : Hid (W0.heap[wr.heap.size]? = some (.cells #[.string ⟨x.toArray⟩, .string ⟨y.toArray⟩] 36 (0, 0))) := by rw [← hW0]; exact World.alloc_heap_new wr _
      have z0 : wr.heap.size < W0.heap.size := by rw [← hW0]; simp
      have HB0 := hid_of (hB.out.trans (b0'.mono zr))
      have HW0 := hid_of hW0
      clear hW0 b0' hB
      have D : ∀ d os, Below W0.heap.size W0 (Go.Sort.grow (redrawn W0 d) os) := fun d os => below_regrown W0 d os
      have HKC : Hid (∀ d os, (Go.Sort.grow (redrawn W0 d) os).heap[wr.heap.size]? = some (.cells #[.string ⟨x.toArray⟩, .string ⟨y.toArray⟩] 36 (0, 0))) := fun d os => ((D d os).block _ z0).trans HK0.out
      have c0 : ∀ d os, (Go.Sort.grow (redrawn W0 d) os).cell? ⟨wr.heap.size, 0, none⟩ = some (.string ⟨x.toArray⟩) := fun d os => by rw [cell_of_row _ _ _ _ _ _ (HKC.out d os)]; rfl
      have c1 : ∀ d os, (Go.Sort.grow (redrawn W0 d) os).cell? ⟨wr.heap.size, 1, none⟩ = some (.string ⟨y.toArray⟩) := fun d os => by rw [cell_of_row _ _ _ _ _ _ (HKC.out d os)]; rfl
      have q1 : ∀ d os, Calls Tryz.prog 48 #[.string ⟨x.toArray⟩] (Go.Sort.grow (redrawn W0 d) os) fun e w'' => e = .returned (.string ⟨fx.toArray⟩) ∧ ∃ p : Regrown, w'' = Go.Sort.grow (redrawn W0 p.d) p.os := fun d os => Calls.regrown_of (HX.out _)
      have q2 : ∀ d os, Calls Tryz.prog 48 #[.string ⟨y.toArray⟩] (Go.Sort.grow (redrawn W0 d) os) fun e w'' => e = .returned (.string ⟨fy.toArray⟩) ∧ ∃ p : Regrown, w'' = Go.Sort.grow (redrawn W0 p.d) p.os := fun d os => Calls.regrown_of (HY.out _)
      have t1 := cat_text fx [61]
      have t2 := cat_text (fx ++ [61]) fy
      have t0 := cat_text pre [38]
      by_cases hk0 : k = 0
      case' pos =>
        have dk : decide ((k : Int) > 0) = false := by rw [decide_eq_false_iff_not]; omega
        have dk' : decide (0 < k) = false := by rw [decide_eq_false_iff_not]; omega
        rw [if_pos hk0] at HQC
        have t3 := cat_text pre (fx ++ [61] ++ fy)
        have HEQ : Hid (qPre l (k + 1) = pre ++ (fx ++ [61] ++ fy)) := by show _ = _; rw [HSU.out, HQC.out]; simp
      case' neg =>
        have dk : decide ((k : Int) > 0) = true := by rw [decide_eq_true_eq]; omega
        have dk' : decide (0 < k) = true := by rw [decide_eq_true_eq]; omega
        rw [if_neg hk0] at HQC
        have t3 := cat_text (pre ++ [38]) (fx ++ [61] ++ fy)
        have HEQ : Hid (qPre l (k + 1) = pre ++ [38] ++ (fx ++ [61] ++ fy)) := by show _ = _; rw [HSU.out, HQC.out]; simp
      all_goals
        clear hk0 HSU HQC
        go_wp2_with fail
        rw [HW0.out]
        clear HW0
        refine wp_region_quiet_below mixed (by kernel_rfl) ?_
        repeat (go_big_quiet_step (first | with_reducible exact q1 _ _ | with_reducible exact q2 _ _))
        refine wpQuiet_nil ?_
        intro W9 hw'
        obtain ⟨⟨dq, osq⟩, hw''⟩ := hw'
        have hb2 : Below W0.heap.size W0 W9 := by rw [hw'']; exact D dq osq
        have HB9 := hid_of (HB0.out.trans (hb2.mono HB0.out.size))
        clear hw'' q1 q2 c0 c1 D t1 t2 hb2
        go_wp2_with fail
        exact ⟨⟨k + 1, by omega, by go_num, by rw [HEQ.out, cat_text]; simp, HB9⟩, by simp [intOf]; omega⟩
    · obtain rfl : k = l.length := by omega
      go_wp2_with fail
      go_ret
      exact ⟨by rw [HQ.out]; rfl, hB.out⟩
end Go.Proofs.YtkbegfdbfmfedaaGreatDoor.L
