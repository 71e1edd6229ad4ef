/- What is proved here: the contracts of value.days, isDay, Date and of the document's digitsAt and Date: the day that a value says, if there is one. -/
import Derived.Test.YtfbfigjjnpamiaaGreatDoorVNum
import Derived.Test.YtfbfigjjnpamiaaGreatDoorLkBlk
namespace Go.Proofs.YtfbfigjjnpamiaaGreatDoor.V
open Go.RowKit Go.Shelf Go.Proofs.YtfbfigjjnpamiaaGreatDoor.N Go.Proofs.YtfbfigjjnpamiaaGreatDoor.U Go.Proofs.YtfbfigjjnpamiaaGreatDoor.L

def leapN (y : Nat) : Bool := (decide (y % 4 = 0) && decide (y % 100 ≠ 0)) || decide (y % 400 = 0)
def daysN (y m : Nat) : Nat := if m = 4 ∨ m = 6 ∨ m = 9 ∨ m = 11 then 30 else if m = 2 then (if leapN y then 29 else 28) else 31
def isDayN (y m d : Nat) : Bool := decide (1 ≤ y) && decide (1 ≤ m) && decide (m ≤ 12) && decide (1 ≤ d) && decide (d ≤ daysN y m)
theorem ret_i64 {a b : Int} (h : a = b) : Ending.returned (.int .i64 a) = .returned (.int .i64 b) := by rw [h]
set_option maxRecDepth 100000 in
set_option maxHeartbeats 2000000 in
theorem days_calls (y m : Nat) (w : World) : Calls Tryz.prog 43 #[.int .i64 y, .int .i64 m] w fun e w' => e = .returned (.int .i64 (daysN y m : Nat)) ∧ w' = w := by
  have t4 : (y : Int).tmod 4 = ((y % 4 : Nat) : Int) := rfl
  have t100 : (y : Int).tmod 100 = ((y % 100 : Nat) : Int) := rfl
  have t400 : (y : Int).tmod 400 = ((y % 400 : Nat) : Int) := rfl
  go_enter Tryz.func43, Tryz.ntmps43
  go_wp2
  all_goals go_ret
  all_goals refine ⟨ret_i64 ?_, rfl⟩
  all_goals unfold daysN leapN
  all_goals simp only [beq_iff_eq, beq_eq_false_iff_ne, ne_eq, Bool.or_eq_true, Bool.and_eq_true, decide_eq_true_eq] at *
  all_goals repeat' split
  all_goals omega
theorem results_four {fn : Func} {t u v x : Tmp} (h : fn.results = #[.tmp t, .tmp u, .tmp v, .tmp x]) (tmps : Array Value) (P : Program) (w : World) :
    (results fn tmps).run P w = .ok (.tuple #[tmps.getD t undef, tmps.getD u undef, tmps.getD v undef, tmps.getD x undef]) w := by
  simp [results, h]
set_option maxRecDepth 100000 in
set_option maxHeartbeats 2000000 in
theorem isDay_calls (y m d : Nat) (w : World) : Calls Tryz.prog 28 #[.int .i64 y, .int .i64 m, .int .i64 d] w fun e w' => e = .returned (.bool (isDayN y m d)) ∧ w' = w := by
  have HD := hid_of (days_calls y m w)
  go_enter Tryz.func28, Tryz.ntmps28
  go_wp2_with (go_at_call 43; refine HD.out.mono ?_; rintro e w' ⟨rfl, hw'⟩; obtain rfl : w = w' := hw'.symm)
  all_goals go_ret
  all_goals refine ⟨N.ret_bool ?_, rfl⟩
  all_goals unfold isDayN
  all_goals generalize daysN y m = D at *
  all_goals first | omega | (rw [Bool.eq_iff_iff]; simp; omega)
/-- The day that a plain text says. -/
def dateB (l : List UInt8) : Option (Nat × Nat × Nat) :=
  if l.length = 10 ∧ l.getD 4 0 = 45 ∧ l.getD 7 0 = 45 then
    match numB (l.take 4), numB ((l.take 7).drop 5), numB (l.drop 8) with
    | some y, some m, some d => if isDayN y m d then some (y, m, d) else none
    | _, _, _ => none
  else none
def dateV (o : Option (Nat × Nat × Nat)) : Value := .tuple #[.int .i64 ((o.getD (0, 0, 0)).1 : Nat), .int .i64 ((o.getD (0, 0, 0)).2.1 : Nat), .int .i64 ((o.getD (0, 0, 0)).2.2 : Nat), .bool o.isSome]
theorem eq_dash (c : UInt8) : ((c.toNat : Int) != 45) = (c != 45) := by
  have : ∀ n : Fin 256, (((UInt8.ofNat n.val).toNat : Int) != 45) = (UInt8.ofNat n.val != 45) := by decide +kernel
  have h := this ⟨c.toNat, c.toNat_lt⟩
  simpa using h
set_option maxRecDepth 100000 in
set_option maxHeartbeats 4000000 in
/-- **Date.** -/
theorem Date_calls (bs : List UInt8) (w : World) (hT : Tb w) (hl : bs.length ≤ 10000000000) :
    Calls Tryz.prog 14 #[.string ⟨bs.toArray⟩] w fun e W' => e = .returned (dateV (dateB (clB bs))) ∧ Below w.heap.size w W' := by
  have HC := hid_of (clean_calls bs w hT hl)
  have hcl := clB_len bs
  obtain ⟨l, hL⟩ : ∃ l, clB bs = l := ⟨_, rfl⟩
  rw [hL] at HC hcl ⊢
  have hsz := byteArr_size l
  obtain ⟨R, hR⟩ : ∃ R, dateV (dateB l) = R := ⟨_, rfl⟩
  rw [hR]
  clear hL hT
  by_cases h10 : l.length = 10
  case' neg =>
    have HR : Hid (R = dateV none) := by show _ = _; rw [← hR]; unfold dateB; rw [if_neg (by omega)]
    have e10 : ((l.length : Int) != 10) = true := by rw [bne_iff_ne]; omega
    clear hR
    go_enter Tryz.func14, Tryz.ntmps14
    go_wp2_with (go_at_call 24; refine HC.out.mono ?_; rintro e w1 ⟨rfl, hb1⟩)
    refine bodyPost_ret (results_four rfl _ _ _) rfl ?_
    exact ⟨by rw [HR.out]; rfl, hb1⟩
  have e10 : ((l.length : Int) != 10) = false := by rw [bne_eq_false_iff_eq]; omega
  obtain ⟨c4, h4⟩ : ∃ c, l.getD 4 0 = c := ⟨_, rfl⟩
  obtain ⟨c7, h7⟩ : ∃ c, l.getD 7 0 = c := ⟨_, rfl⟩
  have i4 := L.byte_at l 4 c4 (by omega) h4 4 rfl
  have i7 := L.byte_at l 7 c7 (by omega) h7 7 rfl
  have d4 := eq_dash c4
  have d7 := eq_dash c7
  by_cases hd : c4 = 45 ∧ c7 = 45
  case' neg =>
    have HR : Hid (R = dateV none) := by show _ = _; rw [← hR]; unfold dateB; rw [if_neg (by rw [h4, h7]; intro h; exact hd h.2)]
    have hd2 : (c4 != 45) = true ∨ (c4 != 45) = false ∧ (c7 != 45) = true := by
      by_cases h : c4 = 45
      · exact .inr ⟨by rw [h]; rfl, by rw [bne_iff_ne]; exact fun e => hd ⟨h, e⟩⟩
      · exact .inl (by rw [bne_iff_ne]; exact h)
    clear hR hd h4 h7
    rcases hd2 with x4 | ⟨x4, x7⟩
    case' inl => rw [x4] at d4; clear x4 d7
    case' inr => rw [x4] at d4; rw [x7] at d7; clear x4 x7
    all_goals go_enter Tryz.func14, Tryz.ntmps14
    all_goals go_wp2_with (go_at_call 24; refine HC.out.mono ?_; rintro e w1 ⟨rfl, hb1⟩)
    all_goals refine bodyPost_ret (results_four rfl _ _ _) rfl ?_
    all_goals exact ⟨by rw [HR.out]; rfl, hb1⟩
  obtain ⟨rfl, rfl⟩ := hd
  have y1 := slice_h l 4 (by omega) 4 rfl
  have y2 := slice_lh l 5 7 (by omega) (by omega) 5 7 rfl rfl
  have y3 := slice_l l 8 (by omega) 8 rfl
  have HR : Hid (R = dateV (match numB (l.take 4), numB ((l.take 7).drop 5), numB (l.drop 8) with
    | some y, some m, some d => if isDayN y m d then some (y, m, d) else none
    | _, _, _ => none)) := by show _ = _; rw [← hR]; unfold dateB; rw [if_pos ⟨h10, h4, h7⟩]
  have HN1 := hid_of (fun W => number_calls (l.take 4) W (by rw [List.length_take]; omega))
  have HN2 := hid_of (fun W => number_calls ((l.take 7).drop 5) W (by rw [List.length_drop, List.length_take]; omega))
  have HN3 := hid_of (fun W => number_calls (l.drop 8) W (by rw [List.length_drop]; omega))
  obtain ⟨l1, hl1⟩ : ∃ x, l.take 4 = x := ⟨_, rfl⟩
  obtain ⟨l2, hl2⟩ : ∃ x, (l.take 7).drop 5 = x := ⟨_, rfl⟩
  obtain ⟨l3, hl3⟩ : ∃ x, l.drop 8 = x := ⟨_, rfl⟩
  rw [hl1] at y1 HR HN1
  rw [hl2] at y2 HR HN2
  rw [hl3] at y3 HR HN3
  clear hl1 hl2 hl3 hR h4 h7
  go_enter Tryz.func14, Tryz.ntmps14
  go_wp2_with fail
  (go_at_call 24; refine HC.out.mono ?_; rintro e w1 ⟨rfl, hb1⟩)
  have HB1 := hid_of hb1
  clear hb1 HC
  go_wp2_with fail
  (go_at_call 26; refine (HN1.out _).mono ?_; rintro e w2 ⟨rfl, hb2⟩)
  have HB2 := hid_of (HB1.out.trans (hb2.mono HB1.out.size))
  clear hb2 HN1 HB1
  go_wp2_with fail
  (go_at_call 26; refine (HN2.out _).mono ?_; rintro e w3 ⟨rfl, hb3⟩)
  have HB3 := hid_of (HB2.out.trans (hb3.mono HB2.out.size))
  clear hb3 HN2 HB2
  go_wp2_with fail
  (go_at_call 26; refine (HN3.out _).mono ?_; rintro e w4 ⟨rfl, hb4⟩)
  have HB4 := hid_of (HB3.out.trans (hb4.mono HB3.out.size))
  clear hb4 HN3 HB3
  cases n1 : numB l1
  case' some y =>
    cases n2 : numB l2
    case' some m =>
      cases n3 : numB l3
      case' some d =>
        have HI := hid_of (isDay_calls y m d w4)
        have HR2 : Hid (R = dateV (if isDayN y m d then some (y, m, d) else none)) := by show _ = _; rw [HR.out, n1, n2, n3]
        clear HR
        rename Hid (R = _) => HR
        cases hi : isDayN y m d
        all_goals rw [hi] at HI HR
  all_goals try rw [n1] at HR
  all_goals try rw [n2] at HR
  all_goals try rw [n3] at HR
  all_goals go_wp2_with (go_at_call 28; refine HI.out.mono ?_; rintro e w' ⟨rfl, hw'⟩; obtain rfl : w4 = w' := hw'.symm)
  all_goals refine bodyPost_ret (results_four rfl _ _ _) rfl ?_
  all_goals exact ⟨by rw [HR.out]; rfl, HB4.out⟩
end Go.Proofs.YtfbfigjjnpamiaaGreatDoor.V
