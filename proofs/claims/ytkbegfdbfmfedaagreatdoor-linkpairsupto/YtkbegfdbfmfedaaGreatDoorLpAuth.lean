/- What is proved here: the contracts of link.digits and link.Authority. -/
import Derived.Test.YtkbegfdbfmfedaaGreatDoorLkPairM
import Derived.Test.YtkbegfdbfmfedaaGreatDoorTShelf
import Derived.Lib.QuietBelow
import Derived.BigQuiet
import Derived.OwnWalk
namespace Go.Proofs.YtkbegfdbfmfedaaGreatDoor.L
open Go.RowKit Go.Shelf Go.Proofs.YtkbegfdbfmfedaaGreatDoor.N Go.Proofs.YtkbegfdbfmfedaaGreatDoor.U

theorem get_dataP (l : List UInt8) (j : Nat) (hj : j < l.length) : (⟨l.toArray⟩ : ByteArray).data[j]! = l.getD j 0 := by
  simp [hj]
theorem lastPos (p : List UInt8) (c : UInt8) (z : Int) (hz : z = (c.toNat : Int)) : Lib.lastIndexByte ⟨p.toArray⟩ z = (lastN c p : Int) - 1 := by
  subst hz
  have hz : (⟨p.toArray⟩ : ByteArray).size = p.length := arr_size p
  have key : ∀ j, j < p.length → ((⟨p.toArray⟩ : ByteArray).data[j]!.toNat : Int) ≠ (c.toNat : Int) → (p.getD j 0 == c) = false := fun j hj h => by
    rw [get_dataP p j hj] at h
    rw [← eq_byte]
    exact beq_eq_false_iff_ne.2 h
  unfold Lib.lastIndexByte
  rw [hz]
  rcases Lib.lastIdx_spec ⟨p.toArray⟩ (c.toNat : Int) p.length with ⟨e, h⟩ | ⟨i, hi, e, h1, h2⟩
  · rw [e, lastN_at c p 0 (by omega) (fun j _ hj => key j hj (h j hj)) (.inl rfl)]
    rfl
  · rw [e, lastN_at c p (i + 1) (by omega) (fun j hj1 hj2 => key j hj2 (h2 j (by omega) hj2)) (.inr (by
      rw [get_dataP p i hi] at h1
      rw [show i + 1 - 1 = i by omega, ← eq_byte]
      exact beq_iff_eq.2 h1))]
    omega
theorem lastIx_calls (p : List UInt8) (c : UInt8) (z : Int) (hz : z = (c.toNat : Int)) (w : World) (hp : p.length ≤ 100000000000) : Calls Tryz.prog 43 #[.string ⟨p.toArray⟩, .int .u8 z] w fun e w' => e = .returned (.int .i64 ((lastN c p : Int) - 1)) ∧ w' = w := by
  have := Any.strings_LastIndexByte Tryz.lays149 ⟨p.toArray⟩ z (by rw [arr_size]; omega) w
  rw [lastPos p c z hz] at this
  exact this
set_option maxRecDepth 100000 in
set_option maxHeartbeats 2000000 in
/-- **digits.** -/
theorem digits_calls (s : List UInt8) (w : World) (hl : s.length ≤ 100000000000) : Calls Tryz.prog 44 #[.string ⟨s.toArray⟩] w fun e w' => e = .returned (.int .i64 (digitsN s : Nat)) ∧ w' = w := by
  have ss := arr_size s
  go_enter Tryz.func44, Tryz.ntmps44
  go_wp2_with fail
  go_loopw [3] (fun vi wr => ∃ k : Nat, k ≤ s.length ∧ vi = .int .i64 k ∧ wr = w ∧ Hid (∀ j, j < k → digB (s.getD j 0) = true)) (fun vi _ => s.length - (intOf vi).toNat)
  case atStart => exact ⟨0, by omega, rfl, by trivial, fun j hj => by omega⟩
  case round =>
    obtain ⟨k, hk, rfl, hwr, hP⟩ := hrel
    obtain rfl : w = wr := hwr.symm
    clear hwr
    by_cases hlt : k < s.length
    · obtain ⟨c, hc⟩ : ∃ c, s.getD k 0 = c := ⟨_, rfl⟩
      have hix := byte_at s k c hlt hc (k : Int) rfl
      have w32 : wrap32 (c.toNat : Int) = c.toNat := by have := c.toNat_lt; unfold wrap32; omega
      have HDI : Hid (Calls Tryz.prog 83 #[.int .i32 (c.toNat : Int)] w fun e w' => e = .returned (.bool (digB c)) ∧ w' = w) := digit_calls (c.toNat : Int) w
      have HC := hid_of hc
      clear hc
      cases hd : digB c with
      | true =>
        rw [hd] at HDI
        have HP2 : Hid (∀ j, j < k + 1 → digB (s.getD j 0) = true) := fun j hj => by
          by_cases e : j = k
          · rw [e, HC.out]; exact hd
          · exact hP.out j (by omega)
        clear hd hP
        go_wp2_with fail
        (go_at_call 83; refine HDI.out.mono ?_; rintro e w' ⟨rfl, hx⟩; obtain rfl : w = w' := hx.symm)
        go_wp2_with fail
        exact ⟨⟨k + 1, by omega, by go_num, by trivial, HP2⟩, by simp [intOf]; omega⟩
      | false =>
        rw [hd] at HDI
        have HZ : Hid (digitsN s = k) := digitsN_at s k hk hP.out (.inr (by rw [HC.out]; exact hd))
        clear hd hP
        go_wp2_with fail
        (go_at_call 83; refine HDI.out.mono ?_; rintro e w' ⟨rfl, hx⟩; obtain rfl : w = w' := hx.symm)
        go_wp2_with fail
        go_ret
        exact ⟨by rw [HZ.out]; rfl, rfl⟩
    · obtain rfl : k = s.length := by omega
      have HZ : Hid (digitsN s = s.length) := digitsN_at s _ (Nat.le_refl _) hP.out (.inl rfl)
      clear hP
      go_wp2_with fail
      go_ret
      exact ⟨by rw [HZ.out]; rfl, rfl⟩
set_option maxRecDepth 100000 in
set_option maxHeartbeats 4000000 in
/-- **Authority.** -/
theorem authority_calls (bs : List UInt8) (w : World) (hT : Tb w) (hl : bs.length ≤ 1000000000) : Calls Tryz.prog 15 #[.string ⟨bs.toArray⟩] w fun e W' => e = .returned (authV (userK (mendL bs)) ((mendL bs).drop (lastN 64 (mendL bs)))) ∧ Below w.heap.size w W' := by
  have HM : Hid (Calls Tryz.prog 25 #[.string ⟨bs.toArray⟩] w fun e W' => e = .returned (.string ⟨(mendL bs).toArray⟩) ∧ Below w.heap.size w W') := mend_calls bs w (by omega) hT
  have hml := mend_le bs
  obtain ⟨h, hS⟩ : ∃ s, mendL bs = s := ⟨_, rfl⟩
  rw [hS] at HM hml ⊢
  have hss : h.length ≤ 4000000000 := by omega
  clear hS hml hl hT
  have ss := arr_size h
  have hu := lastN_le 64 h
  have HL1 := hid_of (fun W => lastIx_calls h 64 64 rfl W (by omega))
  have HU : Hid (userK h = h.take (lastN 64 h - 1)) := rfl
  obtain ⟨u, hue⟩ : ∃ u, lastN 64 h = u := ⟨_, rfl⟩
  rw [hue] at hu HL1 HU ⊢
  clear hue
  have y1 := slice_h h (u - 1) (by omega) ((u : Int) - 1)
  have y2 := slice_l h u hu (u : Int) rfl
  obtain ⟨U, hU⟩ : ∃ U, userK h = U := ⟨_, rfl⟩
  rw [hU] at HU ⊢
  clear hU
  have hdl : (h.drop u).length = h.length - u := List.length_drop
  have hd0 : u = 0 → h.drop u = h := fun e => by rw [e]; rfl
  obtain ⟨H, hH⟩ : ∃ H, h.drop u = H := ⟨_, rfl⟩
  rw [hH] at y2 hdl hd0 ⊢
  clear hH
  have hHl : H.length ≤ 4000000000 := by omega
  have sH := arr_size H
  have hq := lastN_le 58 H
  have HL2 := hid_of (fun W => lastIx_calls H 58 58 rfl W (by omega))
  have HPA : Hid (portAt H = if 0 < lastN 58 H ∧ digitsN (H.drop (lastN 58 H)) = (H.drop (lastN 58 H)).length then some (lastN 58 H) else none) := rfl
  obtain ⟨q, hqe⟩ : ∃ q, lastN 58 H = q := ⟨_, rfl⟩
  rw [hqe] at hq HL2 HPA
  clear hqe
  have HDG := hid_of (fun W => digits_calls (H.drop q) W (by rw [List.length_drop]; omega))
  have hdn := digitsN_le (H.drop q)
  have x1 := slice_h H (q - 1) (by omega) ((q : Int) - 1)
  have x2 := slice_l H q hq (q : Int) rfl
  have HAV : Hid (authV U H = match portAt H with
    | some p => .tuple #[.string ⟨U.toArray⟩, .string ⟨(H.take (p - 1)).toArray⟩, .string ⟨(H.drop p).toArray⟩]
    | none => .tuple #[.string ⟨U.toArray⟩, .string ⟨H.toArray⟩, .string ⟨#[]⟩]) := rfl
  obtain ⟨V, hV⟩ : ∃ V, authV U H = V := ⟨_, rfl⟩
  rw [hV] at HAV ⊢
  clear hV
  have sD := arr_size (H.drop q)
  obtain ⟨D, hD⟩ : ∃ D, H.drop q = D := ⟨_, rfl⟩
  have hDl : D.length = H.length - q := by rw [← hD]; exact List.length_drop
  have HDE := hid_of hD
  rw [hD] at HDG hdn x2 HPA sD
  clear hD
  obtain ⟨n, hn⟩ : ∃ n, digitsN D = n := ⟨_, rfl⟩
  rw [hn] at HDG hdn HPA
  clear hn
  have HUC : (u = 0 ∧ U = [] ∧ h = H) ∨ (u ≠ 0 ∧ h.take (u - 1) = U) := by
    by_cases hu0 : u = 0
    · left
      refine ⟨hu0, by rw [HU.out, hu0]; rfl, (hd0 hu0).symm⟩
    · right; exact ⟨hu0, HU.out.symm⟩
  clear HU hd0
  have HB0 : (q = 0 ∧ Hid (V = .tuple #[.string ⟨U.toArray⟩, .string ⟨H.toArray⟩, .string ⟨#[]⟩])) ∨ (q ≠ 0 ∧ n < D.length ∧ Hid (V = .tuple #[.string ⟨U.toArray⟩, .string ⟨H.toArray⟩, .string ⟨#[]⟩])) ∨ (q ≠ 0 ∧ n = D.length ∧ Hid (V = .tuple #[.string ⟨U.toArray⟩, .string ⟨(H.take (q - 1)).toArray⟩, .string ⟨D.toArray⟩])) := by
    by_cases hq0 : q = 0
    · left; refine ⟨hq0, ?_⟩; show _ = _; rw [HAV.out, HPA.out, if_neg (by omega)]
    · right
      by_cases hnd : n = D.length
      · right; refine ⟨hq0, hnd, ?_⟩; show _ = _; rw [HAV.out, HPA.out, if_pos ⟨by omega, hnd⟩]; simp only; rw [HDE.out]
      · left; refine ⟨hq0, by omega, ?_⟩; show _ = _; rw [HAV.out, HPA.out, if_neg (fun x => hnd x.2)]
  clear HAV HPA HDE
  rcases HUC with ⟨hu0, hU0, hhH⟩ | ⟨hu0, hUt⟩
  case' inl =>
    subst hhH
    have ev : (u : Int) - 1 = -1 := by omega
    rw [ev] at HL1
    clear y1 y2 ev hdl hu
    have HUE := hid_of hU0
    clear hU0 hu0
    go_enter Tryz.func15, Tryz.ntmps15
    go_wp2_with fail
    (go_at_call 25; refine HM.out.mono ?_; rintro e w1 ⟨rfl, hb1⟩)
    go_wp2_with fail
    (go_at_call 43; refine (HL1.out w1).mono ?_; rintro e w' ⟨rfl, hx⟩; obtain rfl : w1 = w' := hx.symm)
    go_wp2_with fail
    have HBW := hid_of hb1
    clear hb1
    have HUV : Hid (Value.string ⟨#[]⟩ = .string ⟨U.toArray⟩) := by show _ = _; rw [HUE.out]
    clear HUE
    obtain ⟨W1, hW1⟩ : ∃ W, w1 = W := ⟨_, rfl⟩
    rw [hW1] at HBW ⊢
    clear hW1
  case' inr =>
    have y1 := y1 (by omega)
    rw [hUt] at y1
    have d1 : decide ((u : Int) - 1 ≥ 0) = true := by rw [decide_eq_true_eq]; omega
    have wn : IntKind.i64.wrap ((u : Int) - 1 + 1) = (u : Int) - 1 + 1 := by rw [IntKind.wrap_i64]; omega
    clear hUt
    go_enter Tryz.func15, Tryz.ntmps15
    go_wp2_with fail
    (go_at_call 25; refine HM.out.mono ?_; rintro e w1 ⟨rfl, hb1⟩)
    go_wp2_with fail
    (go_at_call 43; refine (HL1.out w1).mono ?_; rintro e w' ⟨rfl, hx⟩; obtain rfl : w1 = w' := hx.symm)
    go_wp2_with fail
    have D1 : ∀ d os, Below w1.heap.size w1 (Go.Sort.grow (redrawn w1 d) os) := fun d os => below_regrown w1 d os
    refine wp_region_quiet_below (by kernel_rfl) (by kernel_rfl) ?_
    repeat (go_big_quiet_step (fail))
    refine wpQuiet_nil ?_
    intro W1 hw'
    obtain ⟨⟨dq, osq⟩, hw''⟩ := hw'
    have hb2 : Below w1.heap.size w1 W1 := by rw [hw'']; exact D1 dq osq
    have HBW := hid_of (hb1.trans (hb2.mono hb1.size))
    clear hw'' D1 hb1 hb2 y1 y2 wn hdl hu hu0
  all_goals clear HL1 HM
  all_goals go_wp2_with fail
  all_goals (go_at_call 43; refine (HL2.out W1).mono ?_; rintro e w' ⟨rfl, hx⟩; obtain rfl : W1 = w' := hx.symm)
  all_goals
    rcases HB0 with ⟨hq0, hV⟩ | ⟨hq0, hnD, hV⟩ | ⟨hq0, hnD, hV⟩
    · have ev : (q : Int) - 1 = -1 := by omega
      rw [ev]
      clear x1 x2 ev
      go_wp2_with fail
      refine bodyPost_ret (results_tmp3 rfl _ _ _) rfl ?_
      exact ⟨by first | (rw [hV.out, ← HUV.out]; rfl) | (rw [hV.out]; rfl), HBW.out⟩
    · have d2 : decide ((q : Int) - 1 < 0) = false := by rw [decide_eq_false_iff_not]; omega
      have wq : IntKind.i64.wrap ((q : Int) - 1 + 1) = (q : Int) - 1 + 1 := by rw [IntKind.wrap_i64]; omega
      clear x1
      go_wp2_with fail
      (go_at_call 44; refine (HDG.out W1).mono ?_; rintro e w' ⟨rfl, hx⟩; obtain rfl : W1 = w' := hx.symm)
      have d3 : decide ((n : Int) < (D.length : Int)) = true := by rw [decide_eq_true_eq]; omega
      go_wp2_with fail
      refine bodyPost_ret (results_tmp3 rfl _ _ _) rfl ?_
      exact ⟨by first | (rw [hV.out, ← HUV.out]; rfl) | (rw [hV.out]; rfl), HBW.out⟩
    · have d2 : decide ((q : Int) - 1 < 0) = false := by rw [decide_eq_false_iff_not]; omega
      have wq : IntKind.i64.wrap ((q : Int) - 1 + 1) = (q : Int) - 1 + 1 := by rw [IntKind.wrap_i64]; omega
      have x1 := x1 (by omega)
      go_wp2_with fail
      (go_at_call 44; refine (HDG.out W1).mono ?_; rintro e w' ⟨rfl, hx⟩; obtain rfl : W1 = w' := hx.symm)
      subst hnD
      go_wp2_with fail
      have D1 : ∀ d os, Below W1.heap.size W1 (Go.Sort.grow (redrawn W1 d) os) := fun d os => below_regrown W1 d os
      refine wp_region_quiet_below (by kernel_rfl) (by kernel_rfl) ?_
      repeat (go_big_quiet_step (fail))
      refine wpQuiet_nil ?_
      intro W2 hw'
      obtain ⟨⟨dq, osq⟩, hw''⟩ := hw'
      have hb2 : Below W1.heap.size W1 W2 := by rw [hw'']; exact D1 dq osq
      clear hw'' D1
      go_wp2_with fail
      refine bodyPost_ret (results_tmp3 rfl _ _ _) rfl ?_
      exact ⟨by first | (rw [hV.out, ← HUV.out]; rfl) | (rw [hV.out]; rfl), HBW.out.trans (hb2.mono HBW.out.size)⟩
end Go.Proofs.YtkbegfdbfmfedaaGreatDoor.L
