/- What is proved here: the document's Authority of layer 12. -/
import Derived.Lib.QuietBelow
import Derived.BigQuiet
import Derived.OwnWalk
import Derived.Test.YtkbegfdbfmfedaaGreatDoorLkPairM
namespace Go.Proofs.YtkbegfdbfmfedaaGreatDoor.L
open Go.RowKit Go.Shelf Go.Proofs.YtkbegfdbfmfedaaGreatDoor.N Go.Proofs.YtkbegfdbfmfedaaGreatDoor.U

set_option maxRecDepth 100000 in
set_option maxHeartbeats 4000000 in
/-- **Authority.** -/
theorem rauthority_calls (bs : List UInt8) (w : World) (hl : bs.length ≤ 1000000000) : Calls Tryz.prog 16 #[.string ⟨bs.toArray⟩] w fun e W' => e = .returned (authV (userK (mendL bs)) ((mendL bs).drop (lastN 64 (mendL bs)))) ∧ Below w.heap.size w W' := by
  have mixed : Tryz.prog.follows .mixedOrders = true := by kernel_rfl
  have HM : Hid (Calls Tryz.prog 21 #[.string ⟨bs.toArray⟩] w fun e W' => e = .returned (.string ⟨(mendL bs).toArray⟩) ∧ Below w.heap.size w W') := R.rmend_calls bs w (by omega)
  have hml := mend_le bs
  obtain ⟨h, hS⟩ : ∃ s, mendL bs = s := ⟨_, rfl⟩
  rw [hS] at HM hml ⊢
  have hss : h.length ≤ 4000000000 := by omega
  clear hS hml hl
  have ss := arr_size h
  obtain ⟨V, hV⟩ : ∃ V, authV (userK h) (h.drop (lastN 64 h)) = V := ⟨_, rfl⟩
  have HV := hid_of hV
  rw [hV]
  clear hV
  go_enter Tryz.func16, Tryz.ntmps16
  go_wp2_with fail
  (go_at_call 21; refine HM.out.mono ?_; rintro e w1 ⟨rfl, hb1⟩)
  have z1 := hb1.size
  go_wp2_with fail
  go_loopw [0, 5, 6] (fun v0 v5 vi wr => ∃ n : Nat, n ≤ h.length ∧ vi = .int .i64 ((n : Int) - 1) ∧ v0 = .string ⟨h.toArray⟩ ∧ v5 = .string ⟨#[]⟩ ∧ Hid (∀ j, n ≤ j → j < h.length → (h.getD j 0 == 64) = false) ∧ Hid (Below w.heap.size w wr)) (fun _ _ vi _ => (intOf vi + 1).toNat)
  case atStart => exact ⟨h.length, Nat.le_refl _, by go_num, rfl, rfl, fun j h1 h2 => by omega, hb1⟩
  case round =>
    obtain ⟨n, hn, rfl, rfl, rfl, hP, hB⟩ := hrel
    have zr := hB.out.size
    have hcase : (n = 0 ∧ Hid (V = authV [] h)) ∨ (1 ≤ n ∧ (h.getD (n - 1) 0 == 64) = true ∧ Hid (V = authV (h.take (n - 1)) (h.drop n))) ∨ (1 ≤ n ∧ (h.getD (n - 1) 0 == 64) = false ∧ Hid (∀ j, n - 1 ≤ j → j < h.length → (h.getD j 0 == 64) = false)) := by
      by_cases hn0 : n = 0
      · left
        refine ⟨hn0, ?_⟩
        have e : lastN 64 h = 0 := lastN_at 64 h 0 (by omega) (fun j _ hj => hP.out j (by omega) hj) (.inl rfl)
        show V = _
        rw [← HV.out, e]
        unfold userK
        rw [e]
        rfl
      · right
        cases hc : (h.getD (n - 1) 0 == 64) with
        | true =>
          left
          refine ⟨by omega, rfl, ?_⟩
          have e : lastN 64 h = n := lastN_at 64 h n hn hP.out (.inr hc)
          show V = _
          rw [← HV.out]
          unfold userK
          rw [e]
        | false =>
          right
          refine ⟨by omega, rfl, fun j h1 h2 => ?_⟩
          by_cases e : j = n - 1
          · rw [e]; exact hc
          · exact hP.out j (by omega) h2
    clear hP
    rcases hcase with ⟨hn0, hV⟩ | ⟨hn1, hc, hV⟩ | ⟨hn1, hc, hP2⟩
    case' inr.inr =>
      have hix : ∀ W, (Instr.index 9 (.string ⟨h.toArray⟩) (.int .i64 ((n : Int) - 1))).run Tryz.prog W = .ok (.int .u8 (h.getD (n - 1) 0).toNat) W := byte_at h (n - 1) _ (by omega) rfl ((n : Int) - 1) (by omega)
      obtain ⟨c, hcc⟩ : ∃ c, h.getD (n - 1) 0 = c := ⟨_, rfl⟩
      rw [hcc] at hix hc
      have e64 : ((c.toNat : Int) == 64) = (c == 64) := eq_byte c 64
      rw [hc] at e64
      have d1 : decide ((n : Int) - 1 ≥ 0) = true := by rw [decide_eq_true_eq]; omega
      clear hcc hc
      go_wp2_with fail
      exact ⟨⟨n - 1, by omega, by go_num, rfl, rfl, hP2, hB⟩, by simp [intOf]; omega⟩
    case' inr.inl =>
      have hix : ∀ W, (Instr.index 9 (.string ⟨h.toArray⟩) (.int .i64 ((n : Int) - 1))).run Tryz.prog W = .ok (.int .u8 (h.getD (n - 1) 0).toNat) W := byte_at h (n - 1) _ (by omega) rfl ((n : Int) - 1) (by omega)
      obtain ⟨c, hcc⟩ : ∃ c, h.getD (n - 1) 0 = c := ⟨_, rfl⟩
      rw [hcc] at hix hc
      have e64 : ((c.toNat : Int) == 64) = (c == 64) := eq_byte c 64
      rw [hc] at e64
      have d1 : decide ((n : Int) - 1 ≥ 0) = true := by rw [decide_eq_true_eq]; omega
      have wn : IntKind.i64.wrap ((n : Int) - 1 + 1) = (n : Int) - 1 + 1 := by rw [IntKind.wrap_i64]; omega
      have y1 := slice_h h (n - 1) (by omega) ((n : Int) - 1) (by omega)
      have y2 := slice_l h n hn (n : Int) rfl
      have hdl : (h.drop n).length ≤ 4000000000 := by rw [List.length_drop]; omega
      obtain ⟨U, hU⟩ : ∃ U, h.take (n - 1) = U := ⟨_, rfl⟩
      obtain ⟨H, hH⟩ : ∃ H, h.drop n = H := ⟨_, rfl⟩
      rw [hU] at y1 hV
      rw [hH] at y2 hV hdl
      clear hcc hc hU hH
      go_wp2_with fail
      have D1 : ∀ d os, Below wr.heap.size wr (Go.Sort.grow (redrawn wr d) os) := fun d os => below_regrown wr d os
      refine wp_region_quiet_below mixed (by kernel_rfl) ?_
      repeat (go_big_quiet_step (fail))
      refine wpQuiet_nil ?_
      intro W1 hw'
      obtain ⟨⟨dq, osq⟩, hw''⟩ := hw'
      have hb2 : Below wr.heap.size wr W1 := by rw [hw'']; exact D1 dq osq
      have HBW := hid_of (hB.out.trans (hb2.mono zr))
      have d9 : decide ((1 : Int) ≤ (n : Int)) = true := by rw [decide_eq_true_eq]; omega
      clear hw'' D1 hb2 hB y1 y2 wn hix e64 d1 hn1 hn
    case' inl =>
      subst hn0
      rw [show (((0 : Nat) : Int) - 1) = -1 from rfl]
      have hdl := hss
      obtain ⟨U, hU⟩ : ∃ U : List UInt8, [] = U := ⟨_, rfl⟩
      rw [hU] at hV
      have HUV : Hid (Value.string ⟨#[]⟩ = .string ⟨U.toArray⟩) := by show _ = _; rw [← hU]
      have HBW := hB
      obtain ⟨W1, hW1⟩ : ∃ W, wr = W := ⟨_, rfl⟩
      rw [hW1] at HBW ⊢
      obtain ⟨H, hH⟩ : ∃ H, h = H := ⟨_, rfl⟩
      rw [hH] at hdl hV ss ⊢
      clear hU hB hW1 zr hss HV hn hH
      go_wp2_with fail
    all_goals
      have sH := arr_size H
      go_wp2_with fail
      try rw [d9]
      go_loopw [7] (fun vi wr2 => ∃ n : Nat, n ≤ H.length ∧ vi = .int .i64 (n : Int) ∧ Hid (∀ j, n ≤ j → j < H.length → digB (H.getD j 0) = true) ∧ Hid (Below w.heap.size w wr2)) (fun vi _ => (intOf vi).toNat)
      case atStart => exact ⟨H.length, Nat.le_refl _, by go_num, fun j h1 h2 => by omega, HBW⟩
      case round =>
        clear HBW
        obtain ⟨m, hm, rfl, hP, hB⟩ := hrel
        have zr2 := hB.out.size
        have hcase : (m = 0 ∧ Hid (V = .tuple #[.string ⟨U.toArray⟩, .string ⟨H.toArray⟩, .string ⟨#[]⟩])) ∨ (1 ≤ m ∧ digB (H.getD (m - 1) 0) = true ∧ Hid (∀ j, m - 1 ≤ j → j < H.length → digB (H.getD j 0) = true)) ∨ (1 ≤ m ∧ digB (H.getD (m - 1) 0) = false ∧ (H.getD (m - 1) 0 == 58) = true ∧ Hid (V = .tuple #[.string ⟨U.toArray⟩, .string ⟨(H.take (m - 1)).toArray⟩, .string ⟨(H.drop m).toArray⟩])) ∨ (1 ≤ m ∧ digB (H.getD (m - 1) 0) = false ∧ (H.getD (m - 1) 0 == 58) = false ∧ Hid (V = .tuple #[.string ⟨U.toArray⟩, .string ⟨H.toArray⟩, .string ⟨#[]⟩])) := by
          by_cases hm0 : m = 0
          · left
            refine ⟨hm0, ?_⟩
            have e := portAt_doc H m hm hP.out (.inl hm0)
            rw [if_neg (fun x => x.1 hm0)] at e
            show V = _
            rw [hV.out]
            unfold authV
            rw [e]
          · right
            cases hd : digB (H.getD (m - 1) 0) with
            | true =>
              left
              refine ⟨by omega, rfl, fun j h1 h2 => ?_⟩
              by_cases e : j = m - 1
              · rw [e]; exact hd
              · exact hP.out j (by omega) h2
            | false =>
              right
              have e := portAt_doc H m hm hP.out (.inr hd)
              cases hc : (H.getD (m - 1) 0 == 58) with
              | true =>
                left
                rw [if_pos ⟨hm0, hc⟩] at e
                refine ⟨by omega, rfl, rfl, ?_⟩
                show V = _
                rw [hV.out]
                unfold authV
                rw [e]
              | false =>
                right
                rw [if_neg (fun x => by rw [hc] at x; cases x.2)] at e
                refine ⟨by omega, rfl, rfl, ?_⟩
                show V = _
                rw [hV.out]
                unfold authV
                rw [e]
        clear hP hV
        rcases hcase with ⟨hm0, hV⟩ | ⟨hm1, hd, hP2⟩ | ⟨hm1, hd, hc, hV⟩ | ⟨hm1, hd, hc, hV⟩
        · subst hm0
          go_wp2_with fail
          refine bodyPost_ret (results_tmp3 rfl _ _ _) rfl ?_
          exact ⟨by first | (rw [hV.out, ← HUV.out]; rfl) | (rw [hV.out]; rfl), hB.out⟩
        · have hix : ∀ W, (Instr.index 9 (.string ⟨H.toArray⟩) (.int .i64 ((m : Int) - 1))).run Tryz.prog W = .ok (.int .u8 (H.getD (m - 1) 0).toNat) W := byte_at H (m - 1) _ (by omega) rfl ((m : Int) - 1) (by omega)
          obtain ⟨c, hcc⟩ : ∃ c, H.getD (m - 1) 0 = c := ⟨_, rfl⟩
          rw [hcc] at hix hd
          have w32 : wrap32 (c.toNat : Int) = c.toNat := by have := c.toNat_lt; unfold wrap32; omega
          have HDI : Hid (∀ W, Calls Tryz.prog 45 #[.int .i32 (c.toNat : Int)] W fun e w' => e = .returned (.bool (digB c)) ∧ w' = W) := fun W => rdigit_calls (c.toNat : Int) W
          rw [hd] at HDI
          have d1 : decide ((m : Int) > 0) = true := by rw [decide_eq_true_eq]; omega
          clear hcc hd
          go_wp2_with fail
          (go_at_call 45; refine (HDI.out _).mono ?_; rintro e w' ⟨rfl, hx⟩; obtain rfl : wr = w' := hx.symm)
          go_wp2_with fail
          go_roundw
          case rel => exact ⟨m - 1, by omega, by go_num, hP2, hB⟩
          case measure => simp [intOf]; omega
        all_goals
          have hix : ∀ W, (Instr.index 9 (.string ⟨H.toArray⟩) (.int .i64 ((m : Int) - 1))).run Tryz.prog W = .ok (.int .u8 (H.getD (m - 1) 0).toNat) W := byte_at H (m - 1) _ (by omega) rfl ((m : Int) - 1) (by omega)
          obtain ⟨c, hcc⟩ : ∃ c, H.getD (m - 1) 0 = c := ⟨_, rfl⟩
          rw [hcc] at hix hd hc
          have w32 : wrap32 (c.toNat : Int) = c.toNat := by have := c.toNat_lt; unfold wrap32; omega
          have HDI : Hid (∀ W, Calls Tryz.prog 45 #[.int .i32 (c.toNat : Int)] W fun e w' => e = .returned (.bool (digB c)) ∧ w' = W) := fun W => rdigit_calls (c.toNat : Int) W
          rw [hd] at HDI
          have e58 : ((c.toNat : Int) == 58) = (c == 58) := eq_byte c 58
          rw [hc] at e58
          have d1 : decide ((m : Int) > 0) = true := by rw [decide_eq_true_eq]; omega
          clear hcc hd hc
          have y1 := slice_h H (m - 1) (by omega) ((m : Int) - 1) (by omega)
          have y2 := slice_l H m hm (m : Int) rfl
          go_wp2_with fail
          (go_at_call 45; refine (HDI.out _).mono ?_; rintro e w' ⟨rfl, hx⟩; obtain rfl : wr = w' := hx.symm)
          go_wp2_with fail
        · have D1 : ∀ d os, Below wr.heap.size wr (Go.Sort.grow (redrawn wr d) os) := fun d os => below_regrown wr d os
          have wm : IntKind.i64.wrap ((m : Int) - 1) = (m : Int) - 1 := by rw [IntKind.wrap_i64]; omega
          refine wp_region_quiet_below mixed (by kernel_rfl) ?_
          repeat (go_big_quiet_step (fail))
          refine wpQuiet_nil ?_
          intro W2 hw'
          obtain ⟨⟨dq, osq⟩, hw''⟩ := hw'
          have hb2 : Below wr.heap.size wr W2 := by rw [hw'']; exact D1 dq osq
          clear hw'' D1
          go_wp2_with fail
          refine bodyPost_ret (results_tmp3 rfl _ _ _) rfl ?_
          exact ⟨by first | (rw [hV.out, ← HUV.out]; rfl) | (rw [hV.out]; rfl), hB.out.trans (hb2.mono zr2)⟩
        · refine bodyPost_ret (results_tmp3 rfl _ _ _) rfl ?_
          exact ⟨by first | (rw [hV.out, ← HUV.out]; rfl) | (rw [hV.out]; rfl), hB.out⟩
end Go.Proofs.YtkbegfdbfmfedaaGreatDoor.L
