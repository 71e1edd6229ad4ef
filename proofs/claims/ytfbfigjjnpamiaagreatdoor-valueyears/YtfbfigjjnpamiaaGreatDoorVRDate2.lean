/- What is proved here: the contract of the document's Date: the day that a value says, if there is one. -/
import Derived.Test.YtfbfigjjnpamiaaGreatDoorBun10
import Derived.Test.YtfbfigjjnpamiaaGreatDoorVClean
namespace Go.Proofs.YtfbfigjjnpamiaaGreatDoor.V
open Go.RowKit Go.Shelf Go.Proofs.YtfbfigjjnpamiaaGreatDoor.N Go.Proofs.YtfbfigjjnpamiaaGreatDoor.U Go.Proofs.YtfbfigjjnpamiaaGreatDoor.L

def monthA : Array Value := #[.int .i64 0, .int .i64 31, .int .i64 28, .int .i64 31, .int .i64 30, .int .i64 31, .int .i64 30, .int .i64 31, .int .i64 31, .int .i64 30, .int .i64 31, .int .i64 30, .int .i64 31]
theorem isDay_no {y m d : Nat} (h : y < 1 ∨ m < 1 ∨ 12 < m ∨ d < 1 ∨ daysN y m < d) : isDayN y m d = false := by
  unfold isDayN
  rw [Bool.eq_false_iff]
  intro e
  simp only [Bool.and_eq_true, decide_eq_true_eq] at e
  omega
theorem isDay_yes {y m d : Nat} (h1 : 1 ≤ y) (h2 : 1 ≤ m) (h3 : m ≤ 12) (h4 : 1 ≤ d) (h5 : d ≤ daysN y m) : isDayN y m d = true := by
  unfold isDayN
  simp only [Bool.and_eq_true, decide_eq_true_eq]
  omega
theorem digsAt_lt {l : List UInt8} {p n y : Nat} (h : digsAt l p n = some y) (hn : n ≤ 9) : y < 1000000000 := by
  unfold digsAt at h
  split at h
  · rename_i hc
    cases h
    have h1 := numV_lt _ (List.all_eq_true.1 hc.2)
    have h2 : ((l.drop p).take n).length ≤ 9 := by simp; omega
    have h3 : 10 ^ ((l.drop p).take n).length ≤ 10 ^ 9 := Nat.pow_le_pow_right (by decide) h2
    have h4 : 10 ^ 9 = 1000000000 := by decide
    omega
  · cases h
theorem digsAt_len {l : List UInt8} {p n y : Nat} (h : digsAt l p n = some y) : p + n ≤ l.length := by
  unfold digsAt at h
  split at h
  · rename_i hc; exact hc.1
  · cases h
set_option maxRecDepth 100000 in
set_option maxHeartbeats 8000000 in
/-- **The document's Date.** -/
theorem rDate_calls (bs : List UInt8) (w : World) (hl : bs.length ≤ 10000000000) :
    Calls Tryz.prog 15 #[.string ⟨bs.toArray⟩] w fun e W' => e = .returned (dateV (dateB (clB bs))) ∧ Below w.heap.size w W' := by
  have HC := hid_of (rclean_calls bs w (by omega))
  have hcl := clB_len bs
  obtain ⟨l, hL⟩ : ∃ l, clB bs = l := ⟨_, rfl⟩
  rw [hL] at HC hcl ⊢
  have hsz := byteArr_size l
  have hR := date_digs l
  obtain ⟨R, hRR⟩ : ∃ R, dateB l = R := ⟨_, rfl⟩
  rw [hRR] at hR ⊢
  clear hL hRR
  have HD1 := hid_of (fun W => digitsAt_calls l 0 4 W (by omega) (by omega) (by omega) (by omega))
  have HD2 := hid_of (fun W => digitsAt_calls l 5 2 W (by omega) (by omega) (by omega) (by omega))
  have HD3 := hid_of (fun W => digitsAt_calls l 8 2 W (by omega) (by omega) (by omega) (by omega))
  have HL3 : Hid (∀ d, digsAt l 8 2 = some d → 10 ≤ l.length) := fun d h => by have := digsAt_len h; omega
  have HLT1 : Hid (∀ y, digsAt l 0 4 = some y → y < 1000000000) := fun y h => digsAt_lt h (by omega)
  have HLT2 : Hid (∀ y, digsAt l 5 2 = some y → y < 1000000000) := fun y h => digsAt_lt h (by omega)
  have HLT3 : Hid (∀ y, digsAt l 8 2 = some y → y < 1000000000) := fun y h => digsAt_lt h (by omega)
  obtain ⟨o1, h1⟩ : ∃ o, digsAt l 0 4 = o := ⟨_, rfl⟩
  obtain ⟨o2, h2⟩ : ∃ o, digsAt l 5 2 = o := ⟨_, rfl⟩
  obtain ⟨o3, h3⟩ : ∃ o, digsAt l 8 2 = o := ⟨_, rfl⟩
  rw [h1] at HD1 HLT1 hR
  rw [h2] at HD2 HLT2 hR
  rw [h3] at HD3 HLT3 HL3 hR
  clear h1 h2 h3
  have GO : Hid (∀ Q : Exit → Act → World → Prop, True) := fun _ => trivial
  clear GO
  by_cases hsome : o1.isSome = true ∧ o2.isSome = true ∧ o3.isSome = true
  case' neg =>
    have HR : Hid (R = none) := by
      show R = none
      rw [hR]
      split
      · cases o1 <;> cases o2 <;> cases o3 <;> first | rfl | simp at hsome
      · rfl
    have hs2 : o1.isSome = false ∨ (o1.isSome = true ∧ o2.isSome = false) ∨ (o1.isSome = true ∧ o2.isSome = true ∧ o3.isSome = false) := by
      cases o1 <;> cases o2 <;> cases o3 <;> simp at hsome ⊢
    clear hR hsome HLT1 HLT2 HLT3 HL3
    generalize o1.getD 0 = n1 at *
    generalize o2.getD 0 = n2 at *
    generalize o3.getD 0 = n3 at *
    rcases hs2 with e1 | ⟨e1, e2⟩ | ⟨e1, e2, e3⟩
    case' inl => rw [e1] at HD1; clear e1
    case' inr.inl => rw [e1] at HD1; rw [e2] at HD2; clear e1 e2
    case' inr.inr => rw [e1] at HD1; rw [e2] at HD2; rw [e3] at HD3; clear e1 e2 e3
    all_goals go_enter Tryz.func15, Tryz.ntmps15
    all_goals go_wp2_with fail
    all_goals (go_at_call 22; refine HC.out.mono ?_; rintro e w1 ⟨rfl, hb1⟩)
    all_goals go_wp2_with fail
    all_goals (go_at_call 29; refine (HD1.out _).mono ?_; rintro e w' ⟨rfl, hw'⟩; obtain rfl : w1 = w' := hw'.symm)
    all_goals go_wp2_with fail
    all_goals (go_at_call 29; refine (HD2.out _).mono ?_; rintro e w' ⟨rfl, hw'⟩; obtain rfl : w1 = w' := hw'.symm)
    all_goals go_wp2_with fail
    all_goals (go_at_call 29; refine (HD3.out _).mono ?_; rintro e w' ⟨rfl, hw'⟩; obtain rfl : w1 = w' := hw'.symm)
    all_goals go_wp2_with fail
    all_goals refine bodyPost_ret (results_four rfl _ _ _) rfl ?_
    all_goals exact ⟨by rw [HR.out]; rfl, hb1⟩
  obtain ⟨y, rfl⟩ := Option.isSome_iff_exists.1 hsome.1
  obtain ⟨m, rfl⟩ := Option.isSome_iff_exists.1 hsome.2.1
  obtain ⟨d, rfl⟩ := Option.isSome_iff_exists.1 hsome.2.2
  have hy := HLT1.out y rfl
  have hm := HLT2.out m rfl
  have hd := HLT3.out d rfl
  have hl10 := HL3.out d rfl
  clear hsome HLT1 HLT2 HLT3 HL3
  simp only [Option.getD_some, Option.isSome_some] at HD1 HD2 HD3 hR
  obtain ⟨c4, h4⟩ : ∃ c, l.getD 4 0 = c := ⟨_, rfl⟩
  obtain ⟨c7, h7⟩ : ∃ c, l.getD 7 0 = c := ⟨_, rfl⟩
  have i4 := L.byte_at l 4 c4 (by omega) h4 4 rfl
  have i7 := L.byte_at l 7 c7 (by omega) h7 7 rfl
  have d4 := eq_dash c4
  have d7 := eq_dash c7
  rw [h4, h7] at hR
  clear h4 h7
  by_cases hgood : l.length = 10 ∧ c4 = 45 ∧ c7 = 45 ∧ 1 ≤ y ∧ 1 ≤ m ∧ m ≤ 12 ∧ 1 ≤ d
  case' neg =>
    have HR : Hid (R = none) := by
      show R = none
      rw [hR]
      split
      · rename_i hc
        have hx : ¬ (1 ≤ y ∧ 1 ≤ m ∧ m ≤ 12 ∧ 1 ≤ d) := fun h => hgood ⟨hc.1, hc.2.1, hc.2.2, h.1, h.2.1, h.2.2.1, h.2.2.2⟩
        rw [if_neg (by rw [isDay_no (by omega)]; decide)]
      · rfl
    have hs2 : ((l.length : Int) != 10) = true ∨ (((l.length : Int) != 10) = false ∧ (c4 != 45) = true) ∨ (((l.length : Int) != 10) = false ∧ (c4 != 45) = false ∧ (c7 != 45) = true)
        ∨ (((l.length : Int) != 10) = false ∧ (c4 != 45) = false ∧ (c7 != 45) = false ∧ decide ((y : Int) < 1) = true)
        ∨ (((l.length : Int) != 10) = false ∧ (c4 != 45) = false ∧ (c7 != 45) = false ∧ decide ((y : Int) < 1) = false ∧ decide ((m : Int) < 1) = true)
        ∨ (((l.length : Int) != 10) = false ∧ (c4 != 45) = false ∧ (c7 != 45) = false ∧ decide ((y : Int) < 1) = false ∧ decide ((m : Int) < 1) = false ∧ decide ((m : Int) > 12) = true)
        ∨ (((l.length : Int) != 10) = false ∧ (c4 != 45) = false ∧ (c7 != 45) = false ∧ decide ((y : Int) < 1) = false ∧ decide ((m : Int) < 1) = false ∧ decide ((m : Int) > 12) = false ∧ decide ((d : Int) < 1) = true) := by
      simp only [bne_iff_ne, ne_eq, bne_eq_false_iff_eq, decide_eq_true_eq, decide_eq_false_iff_not]
      by_cases a1 : l.length = 10
      · by_cases a2 : c4 = 45
        · by_cases a3 : c7 = 45
          · by_cases a4 : 1 ≤ y
            · by_cases a5 : 1 ≤ m
              · by_cases a6 : m ≤ 12
                · have a7 : ¬ 1 ≤ d := fun h => hgood ⟨a1, a2, a3, a4, a5, a6, h⟩
                  exact .inr (.inr (.inr (.inr (.inr (.inr ⟨by omega, a2, a3, by omega, by omega, by omega, by omega⟩)))))
                · exact .inr (.inr (.inr (.inr (.inr (.inl ⟨by omega, a2, a3, by omega, by omega, by omega⟩)))))
              · exact .inr (.inr (.inr (.inr (.inl ⟨by omega, a2, a3, by omega, by omega⟩))))
            · exact .inr (.inr (.inr (.inl ⟨by omega, a2, a3, by omega⟩)))
          · exact .inr (.inr (.inl ⟨by omega, a2, a3⟩))
        · exact .inr (.inl ⟨by omega, a2⟩)
      · exact .inl (by omega)
    clear hR hgood hl10
    rcases hs2 with e1 | ⟨e1, e2⟩ | ⟨e1, e2, e3⟩ | ⟨e1, e2, e3, e4⟩ | ⟨e1, e2, e3, e4, e5⟩ | ⟨e1, e2, e3, e4, e5, e6⟩ | ⟨e1, e2, e3, e4, e5, e6, e7⟩
    all_goals try rw [e2] at d4
    all_goals try rw [e3] at d7
    all_goals try clear e2
    all_goals try clear e3
    all_goals clear hy hm hd
    all_goals go_enter Tryz.func15, Tryz.ntmps15
    all_goals go_wp2_with fail
    all_goals (go_at_call 22; refine HC.out.mono ?_; rintro e w1 ⟨rfl, hb1⟩)
    all_goals go_wp2_with fail
    all_goals (go_at_call 29; refine (HD1.out _).mono ?_; rintro e w' ⟨rfl, hw'⟩; obtain rfl : w1 = w' := hw'.symm)
    all_goals go_wp2_with fail
    all_goals (go_at_call 29; refine (HD2.out _).mono ?_; rintro e w' ⟨rfl, hw'⟩; obtain rfl : w1 = w' := hw'.symm)
    all_goals go_wp2_with fail
    all_goals (go_at_call 29; refine (HD3.out _).mono ?_; rintro e w' ⟨rfl, hw'⟩; obtain rfl : w1 = w' := hw'.symm)
    all_goals go_wp2_with fail
    all_goals refine bodyPost_ret (results_four rfl _ _ _) rfl ?_
    all_goals exact ⟨by rw [HR.out]; rfl, hb1⟩
  obtain ⟨g1, g2, g3, g4, g5, g6, g7⟩ := hgood
  subst g2 g3
  rw [if_pos ⟨g1, rfl, rfl⟩] at hR
  have HR := hid_of hR
  have e1 : ((l.length : Int) != 10) = false := by rw [bne_eq_false_iff_eq]; omega
  have e4 : decide ((y : Int) < 1) = false := by rw [decide_eq_false_iff_not]; omega
  have e5 : decide ((m : Int) < 1) = false := by rw [decide_eq_false_iff_not]; omega
  have e6 : decide ((m : Int) > 12) = false := by rw [decide_eq_false_iff_not]; omega
  have e7 : decide ((d : Int) < 1) = false := by rw [decide_eq_false_iff_not]; omega
  have t4 : (y : Int).tmod 4 = ((y % 4 : Nat) : Int) := rfl
  have t100 : (y : Int).tmod 100 = ((y % 100 : Nat) : Int) := rfl
  have t400 : (y : Int).tmod 400 = ((y % 400 : Nat) : Int) := rfl
  clear hR hl10 g1
  go_enter Tryz.func15, Tryz.ntmps15
  go_wp2_with fail
  (go_at_call 22; refine HC.out.mono ?_; rintro e w1 ⟨rfl, hb1⟩)
  go_wp2_with fail
  (go_at_call 29; refine (HD1.out _).mono ?_; rintro e w' ⟨rfl, hw'⟩; obtain rfl : w1 = w' := hw'.symm)
  go_wp2_with fail
  (go_at_call 29; refine (HD2.out _).mono ?_; rintro e w' ⟨rfl, hw'⟩; obtain rfl : w1 = w' := hw'.symm)
  go_wp2_with fail
  (go_at_call 29; refine (HD3.out _).mono ?_; rintro e w' ⟨rfl, hw'⟩; obtain rfl : w1 = w' := hw'.symm)
  go_upto_region 8 with fail
  have HK := Blk.new w1 monthA 53
  have hb2 : Below w.heap.size w (w1.alloc (.cells monthA 53)) := hb1.alloc hb1.size _
  have s1 := hb1.size
  unfold monthA at HK hb2
  generalize w1.alloc (.cells #[.int .i64 0, .int .i64 31, .int .i64 28, .int .i64 31, .int .i64 30, .int .i64 31, .int .i64 30, .int .i64 31, .int .i64 31, .int .i64 30, .int .i64 31, .int .i64 30, .int .i64 31] 53) = W2 at *
  generalize w1.heap.size = B at *
  have hyn : y % 400 = 0 ∨ (y % 400 ≠ 0 ∧ y % 4 = 0 ∧ y % 100 ≠ 0) ∨ (y % 400 ≠ 0 ∧ y % 4 = 0 ∧ y % 100 = 0) ∨ (y % 400 ≠ 0 ∧ y % 4 ≠ 0) := by omega
  have hmc : m = 1 ∨ m = 2 ∨ m = 3 ∨ m = 4 ∨ m = 5 ∨ m = 6 ∨ m = 7 ∨ m = 8 ∨ m = 9 ∨ m = 10 ∨ m = 11 ∨ m = 12 := by omega
  clear hb1 HC HD1 HD2 HD3 i4 i7 d4 d7 e1 e4 e5 e6 e7
  have LEAP : Hid (leapN y = true → ∀ W, Blk W B #[.int .i64 0, .int .i64 31, .int .i64 29, .int .i64 31, .int .i64 30, .int .i64 31, .int .i64 30, .int .i64 31, .int .i64 31, .int .i64 30, .int .i64 31, .int .i64 30, .int .i64 31] 53 → W.cell? ⟨B, m, none⟩ = some (.int .i64 (daysN y m : Nat))) := fun hl W h => by
    rw [h.cell m]
    rcases hmc with rfl | rfl | rfl | rfl | rfl | rfl | rfl | rfl | rfl | rfl | rfl | rfl <;> simp [daysN, hl]
  have NOLEAP : Hid (leapN y = false → W2.cell? ⟨B, m, none⟩ = some (.int .i64 (daysN y m : Nat))) := fun hl => by
    rw [HK.cell m]
    rcases hmc with rfl | rfl | rfl | rfl | rfl | rfl | rfl | rfl | rfl | rfl | rfl | rfl <;> simp [daysN, hl]
  have k2 : W2.cell? ⟨B, 2, none⟩ = some (.int .i64 28) := HK.cell 2
  have kz := HK.frozen 2
  have HKL := hid_of (HK.set 2 (.int .i64 29))
  have HBL := hid_of (below_setCell hb2 s1 2 (.int .i64 29))
  have HB2 := hid_of hb2
  have HRY : Hid (∀ D, daysN y m = D → R = if d ≤ D then some (y, m, d) else none) := fun D hD => by
    rw [HR.out]
    by_cases hdd : d ≤ D
    · rw [if_pos hdd, if_pos (isDay_yes g4 g5 g6 g7 (by omega))]
    · rw [if_neg hdd, if_neg (by rw [isDay_no (by omega)]; decide)]
  have hm13 : (m : Int) < 13 := by omega
  have hm0 : (0 : Int) ≤ (m : Int) := by omega
  obtain ⟨D, hD⟩ : ∃ D, daysN y m = D := ⟨_, rfl⟩
  rw [hD] at LEAP NOLEAP
  have HRD := hid_of (HRY.out D hD)
  clear HK hb2 HR HRY hmc hD
  have hdc : d ≤ D ∨ D < d := by omega
  rcases hyn with hq | ⟨hq, hr, ht⟩ | ⟨hq, hr, ht⟩ | ⟨hq, hr⟩
  case' inl =>
    have f1 : (((y % 400 : Nat) : Int) == 0) = true := by rw [beq_iff_eq]; omega
    have hlp : leapN y = true := by unfold leapN; simp [hq]
  case' inr.inl =>
    have f1 : (((y % 400 : Nat) : Int) == 0) = false := by rw [beq_eq_false_iff_ne]; omega
    have f2 : (((y % 4 : Nat) : Int) == 0) = true := by rw [beq_iff_eq]; omega
    have f3 : (((y % 100 : Nat) : Int) != 0) = true := by rw [bne_iff_ne]; omega
    have hlp : leapN y = true := by unfold leapN; simp [hr, ht]
  case' inr.inr.inl =>
    have f1 : (((y % 400 : Nat) : Int) == 0) = false := by rw [beq_eq_false_iff_ne]; omega
    have f2 : (((y % 4 : Nat) : Int) == 0) = true := by rw [beq_iff_eq]; omega
    have f3 : (((y % 100 : Nat) : Int) != 0) = false := by rw [bne_eq_false_iff_eq]; omega
    have cm := NOLEAP.out (by unfold leapN; simp [hq, ht])
  case' inr.inr.inr =>
    have f1 : (((y % 400 : Nat) : Int) == 0) = false := by rw [beq_eq_false_iff_ne]; omega
    have f2 : (((y % 4 : Nat) : Int) == 0) = false := by rw [beq_eq_false_iff_ne]; omega
    have cm := NOLEAP.out (by unfold leapN; simp [hq, hr])
  all_goals clear NOLEAP
  all_goals generalize y % 400 = r1 at *
  all_goals generalize y % 4 = r2 at *
  all_goals generalize y % 100 = r3 at *
  case' inl =>
    clear hq
    have cm := LEAP.out hlp _ HKL.out
    go_upto_region 10 with fail
  case' inr.inl =>
    clear hq hr ht
    have cm := LEAP.out hlp _ HKL.out
    go_upto_region 10 with fail
  case' inr.inr.inl =>
    clear hq hr ht HBL
    go_upto_region 10 with fail
    have HBL := HB2
  case' inr.inr.inr =>
    clear hq hr HBL
    go_upto_region 10 with fail
    have HBL := HB2
  all_goals clear k2 kz HKL LEAP HB2 t4 t100 t400
  case' inl =>
    generalize W2.setCell ⟨B, 2, none⟩ (.int .i64 29) = W3 at *
  case' inr.inl =>
    generalize W2.setCell ⟨B, 2, none⟩ (.int .i64 29) = W3 at *
  all_goals rcases hdc with hle | hgt
  case' inl.inl | inr.inl.inl | inr.inr.inl.inl | inr.inr.inr.inl =>
    have hdd : decide ((d : Int) > (D : Int)) = false := by rw [decide_eq_false_iff_not]; omega
    have HRE := hid_of (HRD.out.trans (if_pos hle))
  case' inl.inr | inr.inl.inr | inr.inr.inl.inr | inr.inr.inr.inr =>
    have hdd : decide ((d : Int) > (D : Int)) = true := by rw [decide_eq_true_eq]; omega
    have HRE := hid_of (HRD.out.trans (if_neg (by omega)))
  all_goals clear HRD
  all_goals go_wp2_with fail
  all_goals refine bodyPost_ret (results_four rfl _ _ _) rfl ?_
  all_goals exact ⟨by rw [HRE.out]; rfl, HBL.out⟩
end Go.Proofs.YtfbfigjjnpamiaaGreatDoor.V
