/- What is proved here: the contract of the document's Color: the color that a value says, if it is one. -/
import Derived.Test.YtfbfigjjnpamiaaGreatDoorVColor
namespace Go.Proofs.YtfbfigjjnpamiaaGreatDoor.V
open Go.RowKit Go.Shelf Go.Proofs.YtfbfigjjnpamiaaGreatDoor.N Go.Proofs.YtfbfigjjnpamiaaGreatDoor.U Go.Proofs.YtfbfigjjnpamiaaGreatDoor.L

theorem eq_hash (c : UInt8) : ((c.toNat : Int) != 35) = (c != 35) := by
  have : ∀ n : Fin 256, (((UInt8.ofNat n.val).toNat : Int) != 35) = (UInt8.ofNat n.val != 35) := by decide +kernel
  have h := this ⟨c.toNat, c.toNat_lt⟩
  simpa using h
theorem hex_ways (c : Nat) : (48 ≤ c ∧ c ≤ 57 ∧ hexC c = some (c - 48)) ∨ (97 ≤ c ∧ c ≤ 102 ∧ hexC c = some (c - 87)) ∨ (65 ≤ c ∧ c ≤ 70 ∧ hexC c = some (c - 55)) ∨ (¬ (48 ≤ c ∧ c ≤ 57) ∧ ¬ (97 ≤ c ∧ c ≤ 102) ∧ ¬ (65 ≤ c ∧ c ≤ 70) ∧ hexC c = none) := by
  by_cases h1 : 48 ≤ c ∧ c ≤ 57
  · exact .inl ⟨h1.1, h1.2, by unfold hexC; rw [if_pos h1]⟩
  · by_cases h2 : 97 ≤ c ∧ c ≤ 102
    · exact .inr (.inl ⟨h2.1, h2.2, by unfold hexC; rw [if_neg h1, if_pos h2]⟩)
    · by_cases h3 : 65 ≤ c ∧ c ≤ 70
      · exact .inr (.inr (.inl ⟨h3.1, h3.2, by unfold hexC; rw [if_neg h1, if_neg h2, if_pos h3]⟩))
      · exact .inr (.inr (.inr ⟨h1, h2, h3, by unfold hexC; rw [if_neg h1, if_neg h2, if_neg h3]⟩))
set_option maxRecDepth 100000 in
set_option maxHeartbeats 8000000 in
/-- **The document's Color.** -/
theorem rColor_calls (bs : List UInt8) (w : World) (hl : bs.length ≤ 10000000000) :
    Calls Tryz.prog 17 #[.string ⟨bs.toArray⟩] w fun e W' => e = .returned (colR (colB (clB bs))) ∧ Below w.heap.size w W' := by
  have HC := hid_of (rclean_calls bs w (by omega))
  have hcl := clB_len bs
  obtain ⟨l, hL⟩ : ∃ l, clB bs = l := ⟨_, rfl⟩
  rw [hL] at HC hcl ⊢
  have hsz := byteArr_size l
  obtain ⟨R, hR⟩ : ∃ R, colB l = R := ⟨_, rfl⟩
  rw [hR]
  clear hL
  by_cases h47 : l.length = 4 ∨ l.length = 7
  case' neg =>
    have HR : Hid (R = none) := by show R = none; rw [← hR]; unfold colB; rw [if_neg (fun h => h47 h.1)]
    have e4 : ((l.length : Int) != 4) = true := by rw [bne_iff_ne]; omega
    have e7 : ((l.length : Int) != 7) = true := by rw [bne_iff_ne]; omega
    clear hR h47
    go_enter Tryz.func17, Tryz.ntmps17
    go_wp2_with (go_at_call 22; refine HC.out.mono ?_; rintro e w1 ⟨rfl, hb1⟩)
    go_ret2
    exact ⟨by rw [HR.out]; rfl, hb1⟩
  obtain ⟨c0, h0⟩ : ∃ c, l.getD 0 0 = c := ⟨_, rfl⟩
  have i0 := L.byte_at l 0 c0 (by omega) h0 0 rfl
  have d0 := eq_hash c0
  have e47 : ((l.length : Int) != 4) = false ∨ (((l.length : Int) != 4) = true ∧ ((l.length : Int) != 7) = false) := by
    simp only [bne_iff_ne, bne_eq_false_iff_eq]
    omega
  by_cases h35 : c0 = 35
  case' neg =>
    have HR : Hid (R = none) := by show R = none; rw [← hR]; unfold colB; rw [if_neg (fun h => h35 (h0.symm.trans h.2.1))]
    rw [show (c0 != 35) = true from bne_iff_ne.2 h35] at d0
    clear hR h47 h0 h35
    rcases e47 with e4 | ⟨e4, e7⟩
    all_goals go_enter Tryz.func17, Tryz.ntmps17
    all_goals go_wp2_with (go_at_call 22; refine HC.out.mono ?_; rintro e w1 ⟨rfl, hb1⟩)
    all_goals go_ret2
    all_goals exact ⟨by rw [HR.out]; rfl, hb1⟩
  subst h35
  have HR : Hid (R = if (l.drop 1).all hexB = true then some (colV (decide (l.length = 4)) (l.drop 1)) else none) := by
    show _ = _
    rw [← hR]
    unfold colB
    by_cases ha : (l.drop 1).all hexB = true
    · rw [if_pos ha, if_pos ⟨h47, h0, ha⟩]
    · rw [if_neg ha, if_neg (fun h => ha h.2.2)]
  obtain ⟨sh, hsh⟩ : ∃ sh, decide (l.length = 4) = sh := ⟨_, rfl⟩
  rw [hsh] at HR
  have e4s : ((l.length : Int) == 4) = sh := by rw [← hsh, Bool.eq_iff_iff, beq_iff_eq, decide_eq_true_eq]; omega
  have hdl : (l.drop 1).length + 1 = l.length := by simp; omega
  have hbig : ∀ k, k ≤ (l.drop 1).length → (if sh then 256 else 16) ^ k ≤ 16777216 := fun k hk => by
    have h1 : ∀ (b : Nat), 0 < b → b ^ k ≤ b ^ (l.drop 1).length := fun b hb => Nat.pow_le_pow_right hb hk
    cases hs : sh with
    | true =>
      rw [hs] at hsh
      have : (l.drop 1).length = 3 := by have := of_decide_eq_true hsh; omega
      have h2 := h1 256 (by decide)
      rw [this] at h2
      exact h2
    | false =>
      rw [hs] at hsh
      have : (l.drop 1).length = 6 := by have := of_decide_eq_false hsh; omega
      have h2 := h1 16 (by decide)
      rw [this] at h2
      exact h2
  have HBIG : Hid (∀ k, k ≤ (l.drop 1).length → colV sh ((l.drop 1).take k) < 16777216) := fun k hk => Nat.lt_of_lt_of_le (colV_lt sh (l.drop 1) k hk) (hbig k hk)
  have e4n : ((l.length : Int) != 4) = !sh := by rw [← e4s]; rfl
  have e7n : sh = false → ((l.length : Int) != 7) = false := fun h => by
    rw [h] at hsh
    rw [bne_eq_false_iff_eq]
    have := of_decide_eq_false hsh
    omega
  obtain ⟨ds, hds⟩ : ∃ ds, l.drop 1 = ds := ⟨_, rfl⟩
  rw [hds] at HR HBIG hdl
  have HGET : Hid (∀ j, l.getD (j + 1) 0 = ds.getD j 0) := fun j => by rw [← hds]; simp [List.getD]
  clear hR hbig hsh e47 h47 h0 hds
  cases sh
  case' false =>
    have e7 := e7n rfl
    have HF : Hid (∀ n v, colF false n v = 16 * n + v) := fun n v => rfl
  case' true =>
    have HF : Hid (∀ n v, colF true n v = 16 * (16 * n + v) + v) := fun n v => rfl
  all_goals simp only [Bool.not_false, Bool.not_true] at e4n
  all_goals clear e7n
  all_goals go_enter Tryz.func17, Tryz.ntmps17
  all_goals go_wp2_with (go_at_call 22; refine HC.out.mono ?_; rintro e w1 ⟨rfl, hb1⟩)
  all_goals clear HC i0 d0
  · go_loopw [5, 6, 7, 8, 33, 39, 50] (fun n i _ _ _ _ _ wr => ∃ k q : Nat, q ≤ k + 1 ∧ k + 1 ≤ q ∧ k ≤ ds.length ∧ n = .int .u32 ((colV true (ds.take k) : Nat) : Int) ∧ i = .int .i64 (q : Int) ∧ Hid (∀ c ∈ ds.take k, hexB c = true) ∧ wr = w1) (fun _ i _ _ _ _ _ _ => l.length - (intOf i).toNat)
    case atStart => exact ⟨0, 1, by omega, by omega, by omega, rfl, rfl, (fun c hc => absurd hc (by simp)), by trivial⟩
    case round =>
      obtain ⟨k, q, hq1, hq2, hk, rfl, rfl, hD, hwr⟩ := hrel
      obtain rfl : w1 = wr := hwr.symm
      clear hwr
      by_cases hlt : k < ds.length
      · obtain ⟨c, hc⟩ : ∃ c, ds.getD k 0 = c := ⟨_, rfl⟩
        have hnum := HBIG.out (k + 1) (by omega)
        rw [take_snoc ds k hlt, hc, colV_snoc, HF.out] at hnum
        have hix := L.byte_at l q c (by omega) (by rw [show q = k + 1 by omega, HGET.out, hc]) (q : Int) rfl
        have hlt' : decide ((q : Int) < (l.length : Int)) = true := by rw [decide_eq_true_eq]; omega
        have hgo : ∀ v, hexC c.toNat = some v → colV true (ds.take (k + 1)) = colF true (colV true (ds.take k)) v ∧ ∀ d ∈ ds.take (k + 1), hexB d = true := fun v hd => by
          refine ⟨by rw [take_snoc ds k hlt, hc, colV_snoc, hd]; rfl, fun d hdm => ?_⟩
          rw [take_snoc ds k hlt, hc] at hdm
          rcases List.mem_append.1 hdm with h | h
          · exact hD.out d h
          · simp at h; subst h; unfold hexB; rw [hd]; rfl
        have HD1 := hid_of (rdigit_calls c w1)
        have HNN : Hid (hexC c.toNat = none → R = none) := fun hd => by
          rw [HR.out, if_neg]
          intro h
          rw [List.all_eq_true] at h
          have := h c (by rw [← hc, List.getD_eq_getElem?_getD, List.getElem?_eq_getElem hlt]; exact List.getElem_mem hlt)
          unfold hexB at this
          rw [hd] at this
          cases this
        clear hc hD
        rcases hex_ways c.toNat with ⟨x1, x2, hd⟩ | ⟨x1, x2, hd⟩ | ⟨x1, x2, hd⟩ | ⟨x1, x2, x3, hd⟩
        · rw [show digC c = true by unfold digC; simp; omega] at HD1
          obtain ⟨g1, g2⟩ := hgo _ hd
          rw [hd, Option.getD_some] at hnum
          have HS := hid_of g1
          have HD := hid_of g2
          rw [HF.out] at HS
          obtain ⟨m, hm⟩ : ∃ m, colV true (ds.take k) = m := ⟨_, rfl⟩
          rw [hm] at hnum HS ⊢
          clear g1 g2 hgo hm hd HNN
          go_wp2_with (go_at_call 27; refine HD1.out.mono ?_; rintro e w' ⟨rfl, hw'⟩; obtain rfl : w1 = w' := hw'.symm)
          go_roundw
          case rel => exact ⟨k + 1, q + 1, by omega, by omega, by omega, by rw [HS.out]; go_num, by go_num, HD, by trivial⟩
          case measure => simp [intOf]; omega
        · rw [show digC c = false by unfold digC; simp; omega] at HD1
          have a1 : decide ((c.toNat : Int) ≥ 97) = true := by rw [decide_eq_true_eq]; omega
          have a2 : decide ((c.toNat : Int) ≤ 102) = true := by rw [decide_eq_true_eq]; omega
          obtain ⟨g1, g2⟩ := hgo _ hd
          rw [hd, Option.getD_some] at hnum
          have HS := hid_of g1
          have HD := hid_of g2
          rw [HF.out] at HS
          obtain ⟨m, hm⟩ : ∃ m, colV true (ds.take k) = m := ⟨_, rfl⟩
          rw [hm] at hnum HS ⊢
          clear g1 g2 hgo hm hd HNN
          go_wp2_with (go_at_call 27; refine HD1.out.mono ?_; rintro e w' ⟨rfl, hw'⟩; obtain rfl : w1 = w' := hw'.symm)
          go_roundw
          case rel => exact ⟨k + 1, q + 1, by omega, by omega, by omega, by rw [HS.out]; go_num, by go_num, HD, by trivial⟩
          case measure => simp [intOf]; omega
        · rw [show digC c = false by unfold digC; simp; omega] at HD1
          have a1 : decide ((c.toNat : Int) ≥ 97) = false := by rw [decide_eq_false_iff_not]; omega
          have a2 : decide ((c.toNat : Int) ≥ 65) = true := by rw [decide_eq_true_eq]; omega
          have a3 : decide ((c.toNat : Int) ≤ 70) = true := by rw [decide_eq_true_eq]; omega
          obtain ⟨g1, g2⟩ := hgo _ hd
          rw [hd, Option.getD_some] at hnum
          have HS := hid_of g1
          have HD := hid_of g2
          rw [HF.out] at HS
          obtain ⟨m, hm⟩ : ∃ m, colV true (ds.take k) = m := ⟨_, rfl⟩
          rw [hm] at hnum HS ⊢
          clear g1 g2 hgo hm hd HNN
          go_wp2_with (go_at_call 27; refine HD1.out.mono ?_; rintro e w' ⟨rfl, hw'⟩; obtain rfl : w1 = w' := hw'.symm)
          go_roundw
          case rel => exact ⟨k + 1, q + 1, by omega, by omega, by omega, by rw [HS.out]; go_num, by go_num, HD, by trivial⟩
          case measure => simp [intOf]; omega
        · have HN := hid_of (HNN.out hd)
          rw [show digC c = false by unfold digC; rw [Bool.eq_false_iff]; simp; omega] at HD1
          clear hgo hnum hd HNN
          go_wp2_with (go_at_call 27; refine HD1.out.mono ?_; rintro e w' ⟨rfl, hw'⟩; obtain rfl : w1 = w' := hw'.symm)
          all_goals first
            | (go_ret2
               exact ⟨by rw [HN.out]; rfl, hb1⟩)
            | (exfalso; simp only [decide_eq_true_eq, decide_eq_false_iff_not] at *; omega)
      · obtain rfl : k = ds.length := by omega
        have HN : Hid (R = some (colV true ds)) := by
          have := hD.out
          rw [List.take_length] at this
          show R = _
          rw [HR.out, if_pos (by rw [List.all_eq_true]; exact this)]
        have hlt' : decide ((q : Int) < (l.length : Int)) = false := by rw [decide_eq_false_iff_not]; omega
        rw [List.take_length]
        clear hD
        go_wp2
        go_ret2
        exact ⟨by rw [HN.out]; rfl, hb1⟩
  · go_loopw [5, 6, 7, 8, 33, 39, 50] (fun n i _ _ _ _ _ wr => ∃ k q : Nat, q ≤ k + 1 ∧ k + 1 ≤ q ∧ k ≤ ds.length ∧ n = .int .u32 ((colV false (ds.take k) : Nat) : Int) ∧ i = .int .i64 (q : Int) ∧ Hid (∀ c ∈ ds.take k, hexB c = true) ∧ wr = w1) (fun _ i _ _ _ _ _ _ => l.length - (intOf i).toNat)
    case atStart => exact ⟨0, 1, by omega, by omega, by omega, rfl, rfl, (fun c hc => absurd hc (by simp)), by trivial⟩
    case round =>
      obtain ⟨k, q, hq1, hq2, hk, rfl, rfl, hD, hwr⟩ := hrel
      obtain rfl : w1 = wr := hwr.symm
      clear hwr
      by_cases hlt : k < ds.length
      · obtain ⟨c, hc⟩ : ∃ c, ds.getD k 0 = c := ⟨_, rfl⟩
        have hnum := HBIG.out (k + 1) (by omega)
        rw [take_snoc ds k hlt, hc, colV_snoc, HF.out] at hnum
        have hix := L.byte_at l q c (by omega) (by rw [show q = k + 1 by omega, HGET.out, hc]) (q : Int) rfl
        have hlt' : decide ((q : Int) < (l.length : Int)) = true := by rw [decide_eq_true_eq]; omega
        have hgo : ∀ v, hexC c.toNat = some v → colV false (ds.take (k + 1)) = colF false (colV false (ds.take k)) v ∧ ∀ d ∈ ds.take (k + 1), hexB d = true := fun v hd => by
          refine ⟨by rw [take_snoc ds k hlt, hc, colV_snoc, hd]; rfl, fun d hdm => ?_⟩
          rw [take_snoc ds k hlt, hc] at hdm
          rcases List.mem_append.1 hdm with h | h
          · exact hD.out d h
          · simp at h; subst h; unfold hexB; rw [hd]; rfl
        have HD1 := hid_of (rdigit_calls c w1)
        have HNN : Hid (hexC c.toNat = none → R = none) := fun hd => by
          rw [HR.out, if_neg]
          intro h
          rw [List.all_eq_true] at h
          have := h c (by rw [← hc, List.getD_eq_getElem?_getD, List.getElem?_eq_getElem hlt]; exact List.getElem_mem hlt)
          unfold hexB at this
          rw [hd] at this
          cases this
        clear hc hD
        rcases hex_ways c.toNat with ⟨x1, x2, hd⟩ | ⟨x1, x2, hd⟩ | ⟨x1, x2, hd⟩ | ⟨x1, x2, x3, hd⟩
        · rw [show digC c = true by unfold digC; simp; omega] at HD1
          obtain ⟨g1, g2⟩ := hgo _ hd
          rw [hd, Option.getD_some] at hnum
          have HS := hid_of g1
          have HD := hid_of g2
          rw [HF.out] at HS
          obtain ⟨m, hm⟩ : ∃ m, colV false (ds.take k) = m := ⟨_, rfl⟩
          rw [hm] at hnum HS ⊢
          clear g1 g2 hgo hm hd HNN
          go_wp2_with (go_at_call 27; refine HD1.out.mono ?_; rintro e w' ⟨rfl, hw'⟩; obtain rfl : w1 = w' := hw'.symm)
          go_roundw
          case rel => exact ⟨k + 1, q + 1, by omega, by omega, by omega, by rw [HS.out]; go_num, by go_num, HD, by trivial⟩
          case measure => simp [intOf]; omega
        · rw [show digC c = false by unfold digC; simp; omega] at HD1
          have a1 : decide ((c.toNat : Int) ≥ 97) = true := by rw [decide_eq_true_eq]; omega
          have a2 : decide ((c.toNat : Int) ≤ 102) = true := by rw [decide_eq_true_eq]; omega
          obtain ⟨g1, g2⟩ := hgo _ hd
          rw [hd, Option.getD_some] at hnum
          have HS := hid_of g1
          have HD := hid_of g2
          rw [HF.out] at HS
          obtain ⟨m, hm⟩ : ∃ m, colV false (ds.take k) = m := ⟨_, rfl⟩
          rw [hm] at hnum HS ⊢
          clear g1 g2 hgo hm hd HNN
          go_wp2_with (go_at_call 27; refine HD1.out.mono ?_; rintro e w' ⟨rfl, hw'⟩; obtain rfl : w1 = w' := hw'.symm)
          go_roundw
          case rel => exact ⟨k + 1, q + 1, by omega, by omega, by omega, by rw [HS.out]; go_num, by go_num, HD, by trivial⟩
          case measure => simp [intOf]; omega
        · rw [show digC c = false by unfold digC; simp; omega] at HD1
          have a1 : decide ((c.toNat : Int) ≥ 97) = false := by rw [decide_eq_false_iff_not]; omega
          have a2 : decide ((c.toNat : Int) ≥ 65) = true := by rw [decide_eq_true_eq]; omega
          have a3 : decide ((c.toNat : Int) ≤ 70) = true := by rw [decide_eq_true_eq]; omega
          obtain ⟨g1, g2⟩ := hgo _ hd
          rw [hd, Option.getD_some] at hnum
          have HS := hid_of g1
          have HD := hid_of g2
          rw [HF.out] at HS
          obtain ⟨m, hm⟩ : ∃ m, colV false (ds.take k) = m := ⟨_, rfl⟩
          rw [hm] at hnum HS ⊢
          clear g1 g2 hgo hm hd HNN
          go_wp2_with (go_at_call 27; refine HD1.out.mono ?_; rintro e w' ⟨rfl, hw'⟩; obtain rfl : w1 = w' := hw'.symm)
          go_roundw
          case rel => exact ⟨k + 1, q + 1, by omega, by omega, by omega, by rw [HS.out]; go_num, by go_num, HD, by trivial⟩
          case measure => simp [intOf]; omega
        · have HN := hid_of (HNN.out hd)
          rw [show digC c = false by unfold digC; rw [Bool.eq_false_iff]; simp; omega] at HD1
          clear hgo hnum hd HNN
          go_wp2_with (go_at_call 27; refine HD1.out.mono ?_; rintro e w' ⟨rfl, hw'⟩; obtain rfl : w1 = w' := hw'.symm)
          all_goals first
            | (go_ret2
               exact ⟨by rw [HN.out]; rfl, hb1⟩)
            | (exfalso; simp only [decide_eq_true_eq, decide_eq_false_iff_not] at *; omega)
      · obtain rfl : k = ds.length := by omega
        have HN : Hid (R = some (colV false ds)) := by
          have := hD.out
          rw [List.take_length] at this
          show R = _
          rw [HR.out, if_pos (by rw [List.all_eq_true]; exact this)]
        have hlt' : decide ((q : Int) < (l.length : Int)) = false := by rw [decide_eq_false_iff_not]; omega
        rw [List.take_length]
        clear hD
        go_wp2
        go_ret2
        exact ⟨by rw [HN.out]; rfl, hb1⟩
end Go.Proofs.YtfbfigjjnpamiaaGreatDoor.V
