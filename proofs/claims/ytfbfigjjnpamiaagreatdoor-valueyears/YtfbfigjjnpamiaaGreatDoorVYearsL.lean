/- What is proved here: the statement ValueYears (any day of a year that is written is a day just if it follows the one ahead in its month) holds for any number, with no condition but what the card says of the listed tables. -/
import Derived.Test.YtfbfigjjnpamiaaGreatDoorCards
import Derived.Test.YtfbfigjjnpamiaaGreatDoorTie
import Derived.Test.YtfbfigjjnpamiaaGreatDoorBun1
import Derived.Test.YtfbfigjjnpamiaaGreatDoorVTabs
import Derived.Test.YtfbfigjjnpamiaaGreatDoorVTok
import Derived.Test.YtfbfigjjnpamiaaGreatDoorBun10
import Derived.Test.YtfbfigjjnpamiaaGreatDoorVRDate2
import Derived.ProofKit
import Derived.OpenShut
namespace Go.Proofs.YtfbfigjjnpamiaaGreatDoor.VYearsL
open Go.ChangeShapes Go.WideShapes Go.ChangeAt Go.RowKit U N L V

/-- The days of the first months. -/
def sumD (y : Nat) : Nat → Nat
  | 0 => 0
  | k + 1 => sumD y k + daysN y (k + 1)
theorem sum_all (y : Nat) : sumD y 12 = if leapN y then 366 else 365 := by
  cases h : leapN y <;> simp [sumD, daysN, h]
theorem days_le (y m : Nat) : 28 ≤ daysN y m ∧ daysN y m ≤ 31 := by
  unfold daysN
  repeat' split
  all_goals omega
theorem days_two (y q : Nat) : (q = 2 ∧ (daysN y q = 28 ∨ daysN y q = 29)) ∨ (q ≠ 2 ∧ (daysN y q = 30 ∨ daysN y q = 31)) := by
  by_cases h : q = 2
  · refine .inl ⟨h, ?_⟩
    subst h
    cases hl : leapN y <;> simp [daysN, hl]
  · refine .inr ⟨h, ?_⟩
    by_cases h4 : q = 4 ∨ q = 6 ∨ q = 9 ∨ q = 11
    · left; unfold daysN; rw [if_pos h4]
    · right; unfold daysN; rw [if_neg h4, if_neg h]
theorem sum_le (y : Nat) : ∀ k, sumD y k ≤ 31 * k
  | 0 => by simp [sumD]
  | k + 1 => by have := sum_le y k; have := (days_le y (k + 1)).2; simp only [sumD]; omega
theorem cat_text (a b : List UInt8) : (⟨a.toArray⟩ : ByteArray) ++ ⟨b.toArray⟩ = ⟨(a ++ b).toArray⟩ := by
  apply ByteArray.ext
  simp only [ByteArray.data_append]
  simp
theorem text_steps (y q p : Nat) : ∃ F1 A2 F2 A3 F3 G1 G2 G3 TX : List UInt8, fourL y = F1 ∧ fourL q = A2 ∧ A2.drop 2 = F2 ∧ fourL p = A3 ∧ A3.drop 2 = F3 ∧ dayT y q p = TX
    ∧ (⟨F1.toArray⟩ : ByteArray) ++ (⟨#[45]⟩ : ByteArray) = ⟨G1.toArray⟩ ∧ (⟨G1.toArray⟩ : ByteArray) ++ (⟨F2.toArray⟩ : ByteArray) = ⟨G2.toArray⟩ ∧ (⟨G2.toArray⟩ : ByteArray) ++ (⟨#[45]⟩ : ByteArray) = ⟨G3.toArray⟩ ∧ (⟨G3.toArray⟩ : ByteArray) ++ (⟨F3.toArray⟩ : ByteArray) = ⟨TX.toArray⟩
    ∧ (⟨F1.toArray⟩ : ByteArray).size = 4 ∧ (⟨A2.toArray⟩ : ByteArray).size = 4 ∧ (⟨A3.toArray⟩ : ByteArray).size = 4 ∧ (⟨F2.toArray⟩ : ByteArray).size = 2 ∧ (⟨F3.toArray⟩ : ByteArray).size = 2 ∧ (⟨G1.toArray⟩ : ByteArray).size = 5 ∧ (⟨G2.toArray⟩ : ByteArray).size = 7 ∧ (⟨G3.toArray⟩ : ByteArray).size = 8 ∧ (⟨TX.toArray⟩ : ByteArray).size = 10 := by
  refine ⟨_, _, _, _, _, fourL y ++ [45], fourL y ++ [45] ++ (fourL q).drop 2, fourL y ++ [45] ++ (fourL q).drop 2 ++ [45], _, rfl, rfl, rfl, rfl, rfl, rfl, cat_text _ [45], cat_text _ _, cat_text _ [45], cat_text _ _, ?_, ?_, ?_, ?_, ?_, ?_, ?_, ?_, ?_⟩
  all_goals rw [L.arr_size]
  all_goals simp [dayT, fourL]
set_option maxRecDepth 100000 in
set_option maxHeartbeats 8000000 in
theorem walk_on (w : World) (hT : Vt w) (x : Nat) : Calls Tryz.prog 6 #[.int .u64 x] w fun e w' => e = .returned (.bool true) ∧ Below w.heap.size w w' := by
  have mixed : Tryz.prog.follows .mixedOrders = true := by kernel_rfl
  have HT := hid_of hT.1
  have tx : (x : Int).tmod 9999 = ((x % 9999 : Nat) : Int) := rfl
  have hy9 : x % 9999 < 9999 := Nat.mod_lt _ (by decide)
  obtain ⟨z, hz⟩ : ∃ z, x % 9999 = z := ⟨_, rfl⟩
  rw [hz] at tx hy9
  obtain ⟨y, hy⟩ : ∃ y, y = z + 1 := ⟨_, rfl⟩
  have hy1 : 1 ≤ y := by omega
  have hy2 : y ≤ 9999 := by omega
  have HYZ : Hid ((z : Int) + 1 = (y : Int)) := by show _ = _; omega
  clear hz hT hy
  go_enter Tryz.func6, Tryz.ntmps6
  go_upto_region 4 with fail
  rw [HYZ.out]
  clear tx HYZ hy9
  go_loopw [4, 5, 6, 7, 8, 9, 10, 11, 12] (fun vs vm _ _ _ _ _ _ _ wr => ∃ k q : Nat, q ≤ k + 1 ∧ k + 1 ≤ q ∧ k ≤ 12 ∧ vs = .int .i64 ((sumD y k : Nat) : Int) ∧ vm = .int .i64 (q : Int) ∧ Hid (Below w.heap.size w wr)) (fun _ vm _ _ _ _ _ _ _ _ => 13 - (intOf vm).toNat)
  case atStart => exact ⟨0, 1, by omega, by omega, by omega, rfl, rfl, Below.refl _ _⟩
  case round =>
    obtain ⟨k, q, hq1, hq2, hk, rfl, rfl, hB⟩ := hrel
    have hsl := sum_le y k
    by_cases hlt : k < 12
    · have hle : decide ((q : Int) ≤ 12) = true := by rw [decide_eq_true_eq]; omega
      obtain ⟨D, hD⟩ : ∃ D, daysN y q = D := ⟨_, rfl⟩
      have HD := hid_of hD
      have hDl := days_le y q
      rw [hD] at hDl
      obtain ⟨hDl1, hDl2⟩ := hDl
      have HSU : Hid (sumD y (k + 1) = sumD y k + D) := by show _ = _; rw [← hD, show q = k + 1 by omega]; rfl
      have HDQ : Hid ((q = 2 ∧ (D = 28 ∨ D = 29)) ∨ (q ≠ 2 ∧ (D = 30 ∨ D = 31))) := by have := days_two y q; rw [hD] at this; exact this
      obtain ⟨S, hS⟩ : ∃ S, sumD y k = S := ⟨_, rfl⟩
      rw [hS] at hsl HSU ⊢
      clear hS hD
      go_wp2_with fail
      go_loopw [6, 7, 8, 9, 10, 11, 12] (fun vn vd _ _ _ _ _ wi => ∃ j p n : Nat, p ≤ j + 1 ∧ j + 1 ≤ p ∧ j ≤ 32 ∧ n ≤ j ∧ n ≤ D ∧ (j ≤ D → j ≤ n) ∧ (D ≤ j → D ≤ n) ∧ vn = .int .i64 (n : Int) ∧ vd = .int .i64 (p : Int) ∧ Hid (Below w.heap.size w wi)) (fun _ vd _ _ _ _ _ _ => 33 - (intOf vd).toNat)
      case atStart => exact ⟨0, 1, 0, by omega, by omega, by omega, by omega, by omega, by omega, by omega, rfl, rfl, hB⟩
      case round =>
        obtain ⟨j, p, n, hp1, hp2, hj, hn1, hn2, hn3, hn4, rfl, rfl, hBi⟩ := hrel
        by_cases hjl : j < 32
        · have hdl : decide ((p : Int) ≤ 32) = true := by rw [decide_eq_true_eq]; omega
          have DD : ∀ d os, Below wr.heap.size wr (Go.Sort.grow (redrawn wr d) os) := fun d os => below_regrown wr d os
          have q1 : ∀ d os, Calls Tryz.prog 18 #[.int .i64 (y : Int)] (Go.Sort.grow (redrawn wr d) os) fun e w'' => e = .returned (.string ⟨(fourL y).toArray⟩) ∧ ∃ p : Regrown, w'' = Go.Sort.grow (redrawn wr p.d) p.os := fun d os => Calls.regrown_of (four_calls y (by omega) _)
          have q2 : ∀ d os, Calls Tryz.prog 18 #[.int .i64 (q : Int)] (Go.Sort.grow (redrawn wr d) os) fun e w'' => e = .returned (.string ⟨(fourL q).toArray⟩) ∧ ∃ p : Regrown, w'' = Go.Sort.grow (redrawn wr p.d) p.os := fun d os => Calls.regrown_of (four_calls q (by omega) _)
          have q3 : ∀ d os, Calls Tryz.prog 18 #[.int .i64 (p : Int)] (Go.Sort.grow (redrawn wr d) os) fun e w'' => e = .returned (.string ⟨(fourL p).toArray⟩) ∧ ∃ p : Regrown, w'' = Go.Sort.grow (redrawn wr p.d) p.os := fun d os => Calls.regrown_of (four_calls p (by omega) _)
          have y2 := slice_l (fourL q) 2 (by simp [fourL]) 2 rfl
          have y3 := slice_l (fourL p) 2 (by simp [fourL]) 2 rfl
          have HDA : Hid (∀ W, Below w.heap.size w W → Calls Tryz.prog 14 #[.string ⟨(dayT y q p).toArray⟩] W fun e W' => e = .returned (dateV (if isDayN y q p then some (y, q, p) else none)) ∧ Below W.heap.size W W') := fun W h => by
            have hc := Date_calls (dayT y q p) W (HT.out.below h) (by simp [dayT, fourL])
            rw [date_day y q p (by omega) (by omega) (by omega)] at hc
            exact hc
          obtain ⟨F1, A2, F2, A3, F3, G1, G2, G3, TX, hF1, hA2, hF2, hA3, hF3, hTX, cc1, cc2, cc3, cc4, z1, z2, z3, z4, z5, z6, z7, z8, z9⟩ := text_steps y q p
          rw [hF1] at q1
          rw [hA2] at q2 y2
          rw [hA3] at q3 y3
          rw [hF2] at y2
          rw [hF3] at y3
          rw [hTX] at HDA
          clear hF1 hA2 hF2 hA3 hF3 hTX
          go_wp2_with fail
          refine wp_region_quiet_below mixed (by kernel_rfl) ?_
          repeat (go_big_quiet_step (first | with_reducible exact q1 _ _ | with_reducible exact q2 _ _ | with_reducible exact q3 _ _))
          refine wpQuiet_nil ?_
          intro _ hw'
          obtain ⟨⟨dq, osq⟩, rfl⟩ := hw'
          have hb2 := DD dq osq
          obtain ⟨W2, hW2⟩ : ∃ W2, Go.Sort.grow (redrawn wr dq) osq = W2 := ⟨_, rfl⟩
          simp only [hW2] at hb2 ⊢
          have HB2 := hid_of (hBi.out.trans (hb2.mono hBi.out.size))
          clear hW2 hb2 q1 q2 q3 DD hBi
          clear y2 y3 cc1 cc2 cc3 cc4 z1 z2 z3 z4 z5 z6 z7 z8 z9
          go_wp2_with fail
          (go_at_call 14; refine (HDA.out _ HB2.out).mono ?_; rintro e w3 ⟨rfl, h3⟩)
          have HB3 := hid_of (HB2.out.trans (h3.mono HB2.out.size))
          clear h3 HB2
          by_cases hpd : p ≤ D
          · rw [if_pos (isDay_yes (by omega) (by omega) (by omega) (by omega) (by rw [HD.out]; exact hpd))]
            have e1 : ((n : Int) != (p : Int) - 1) = false := by rw [bne_eq_false_iff_eq]; omega
            unfold dateV
            simp only [Option.getD_some, Option.isSome_some]
            go_wp2_with fail
            exact ⟨⟨j + 1, p + 1, n + 1, by omega, by omega, by omega, by omega, by omega, by omega, by omega, by go_num, by go_num, HB3⟩, by simp [intOf]; omega⟩
          · rw [if_neg (by rw [isDay_no (by rw [HD.out]; omega)]; decide)]
            unfold dateV
            simp only [Option.getD_none, Option.isSome_none]
            go_wp2_with fail
            exact ⟨⟨j + 1, p + 1, n, by omega, by omega, by omega, by omega, by omega, by omega, by omega, rfl, by go_num, HB3⟩, by simp [intOf]; omega⟩
        · obtain rfl : j = 32 := by omega
          obtain rfl : n = D := by omega
          have hdl : decide ((p : Int) ≤ 32) = false := by rw [decide_eq_false_iff_not]; omega
          rcases HDQ.out with ⟨hq, hd⟩ | ⟨hq, hd⟩
          · have f1 : ((q : Int) == 2) = true := by rw [beq_iff_eq]; omega
            have f2 : ((q : Int) != 2) = false := by rw [bne_eq_false_iff_eq]; omega
            have f3 : (((n : Int) != 28) = false) ∨ (((n : Int) != 28) = true ∧ ((n : Int) != 29) = false) := by simp only [bne_iff_ne, bne_eq_false_iff_eq]; omega
            clear hq hd
            rcases f3 with f3 | ⟨f3, f4⟩
            all_goals go_wp2_with fail
            all_goals exact ⟨⟨k + 1, q + 1, by omega, by omega, by omega, by rw [HSU.out]; go_num, by go_num, hBi⟩, by simp [intOf]; omega⟩
          · have f1 : ((q : Int) == 2) = false := by rw [beq_eq_false_iff_ne]; omega
            have f2 : ((q : Int) != 2) = true := by rw [bne_iff_ne]; omega
            have f3 : (((n : Int) != 30) = false) ∨ (((n : Int) != 30) = true ∧ ((n : Int) != 31) = false) := by simp only [bne_iff_ne, bne_eq_false_iff_eq]; omega
            clear hq hd
            rcases f3 with f3 | ⟨f3, f4⟩
            all_goals go_wp2_with fail
            all_goals exact ⟨⟨k + 1, q + 1, by omega, by omega, by omega, by rw [HSU.out]; go_num, by go_num, hBi⟩, by simp [intOf]; omega⟩
    · obtain rfl : k = 12 := by omega
      have hle : decide ((q : Int) ≤ 12) = false := by rw [decide_eq_false_iff_not]; omega
      have HL : Hid (Calls Tryz.prog 8 #[] wr fun e W' => e = .returned (.bool true) ∧ Below wr.heap.size wr W') := lives_calls wr (HT.out.below hB.out)
      have t4 : (y : Int).tmod 4 = ((y % 4 : Nat) : Int) := rfl
      have t100 : (y : Int).tmod 100 = ((y % 100 : Nat) : Int) := rfl
      have t400 : (y : Int).tmod 400 = ((y % 400 : Nat) : Int) := rfl
      have hyn : (y % 4 = 0 ∧ y % 100 ≠ 0) ∨ (y % 4 = 0 ∧ y % 100 = 0 ∧ y % 400 = 0) ∨ (y % 4 = 0 ∧ y % 100 = 0 ∧ y % 400 ≠ 0) ∨ y % 4 ≠ 0 := by omega
      have hsa := sum_all y
      rcases hyn with ⟨h1, h2⟩ | ⟨h1, h2, h3⟩ | ⟨h1, h2, h3⟩ | h1
      case' inl =>
        rw [show leapN y = true by unfold leapN; simp [h1, h2], if_pos rfl] at hsa
        have f1 : (((y % 4 : Nat) : Int) == 0) = true := by rw [beq_iff_eq]; omega
        have f2 : (((y % 100 : Nat) : Int) != 0) = true := by rw [bne_iff_ne]; omega
      case' inr.inl =>
        rw [show leapN y = true by unfold leapN; simp [h3], if_pos rfl] at hsa
        have f1 : (((y % 4 : Nat) : Int) == 0) = true := by rw [beq_iff_eq]; omega
        have f2 : (((y % 100 : Nat) : Int) != 0) = false := by rw [bne_eq_false_iff_eq]; omega
        have f3 : (((y % 400 : Nat) : Int) == 0) = true := by rw [beq_iff_eq]; omega
      case' inr.inr.inl =>
        rw [show leapN y = false by unfold leapN; simp [h2, h3], if_neg (by decide)] at hsa
        have f1 : (((y % 4 : Nat) : Int) == 0) = true := by rw [beq_iff_eq]; omega
        have f2 : (((y % 100 : Nat) : Int) != 0) = false := by rw [bne_eq_false_iff_eq]; omega
        have f3 : (((y % 400 : Nat) : Int) == 0) = false := by rw [beq_eq_false_iff_ne]; omega
      case' inr.inr.inr =>
        rw [show leapN y = false by unfold leapN; simp [h1]; omega, if_neg (by decide)] at hsa
        have f1 : (((y % 4 : Nat) : Int) == 0) = false := by rw [beq_eq_false_iff_ne]; omega
      all_goals rw [hsa]
      all_goals clear hsa hsl
      all_goals try clear h1
      all_goals try clear h2
      all_goals try clear h3
      all_goals generalize y % 400 = r1 at *
      all_goals generalize y % 4 = r2 at *
      all_goals generalize y % 100 = r3 at *
      all_goals go_wp2_with fail
      all_goals (go_at_call 8; refine HL.out.mono ?_; rintro e w5 ⟨rfl, h5⟩)
      all_goals go_wp2_with fail
      all_goals go_ret
      all_goals exact ⟨rfl, hB.out.trans (h5.mono hB.out.size)⟩
theorem walk (w : World) (hT : Vt w) (x : Int) (wx : (Lit.int .u64 x).wf = true) : Calls Tryz.prog 6 #[.int .u64 x] w fun e w' => e = .returned (.bool true) ∧ Below w.heap.size w w' := by
  have hx : 0 ≤ x ∧ x ≤ 18446744073709551615 := by have := wf_bounds wx; simpa [IntKind.min, IntKind.max, IntKind.signed, IntKind.bits] using this
  obtain ⟨n, rfl⟩ : ∃ n : Nat, x = n := ⟨x.toNat, by omega⟩
  exact walk_on w hT n

set_option maxRecDepth 100000 in
theorem contract (H : Type) (enc : TypeId × Value → H) (W : World) (base : Nat) (args : Array Value) (ds gs : List (DataW H)) (before : List MemPlace)
    (hval : ∀ (j : Nat) t v, Tryz.f6.params[j]? = some t → args[j]? = some v → Value.okWide Tryz.prog W .any base t v)
    (hW : DataW.Whole enc Tryz.prog Tryz.f6.params.toList Rows.valueYearsSpec.vars false W args.toList ds gs before) (hL : laidMetH Tryz.prog Rows.valueYearsRow.laid W) :
    Calls Tryz.prog 6 args W fun e W' => ∃ v, e = .returned v ∧ Rows.valueYearsSpec.post enc Tryz.prog Tryz.f6 false true false false W args v W' := by
  have hW' := hW
  have hlt := hW.lt
  obtain ⟨p, q, hA0, hV, rfl, hfz, hnd⟩ := hW
  have hA : DataW.TrodAll enc Tryz.prog W 0 (fun _ => true) true Tryz.f6.params.toList args.toList ds p := hA0
  rw [Tryz.params6] at hA hval
  obtain ⟨v0, vs0, d0, ds0, p0, q0, hargs, rfl, rfl, h0, r0⟩ := trodAll_cons hA
  obtain ⟨rfl, rfl, rfl⟩ := trodAll_nil r0
  obtain rfl : args = #[v0] := by cases args; simp_all
  obtain ⟨rfl, rfl⟩ := trodVars_none hV
  clear hA0
  simp only [List.append_nil] at hW' hlt
  have h0' := h0
  obtain ⟨x0, rfl, e0, -, w0⟩ := open_int Tryz.underlying34 (hval 0 34 v0 rfl rfl) h0
  refine (walk W (tabsV_of_laid hL) x0 w0).mono fun e W' ⟨he, hb⟩ => ?_
  subst he
  exact ⟨_, rfl, post_below hW' (fun _ _ _ => trodAll_cons_mk (shut_bool Tryz.underlying4 _) trodAll_mk0) (trodAll_cons_mk (stays (by kernel_rfl) (of_decide_eq_true (by kernel_rfl)) h0' hb (fun x hx => hlt x (by simp [hx]))) trodAll_mk0) rfl hb⟩

set_option maxRecDepth 100000 in
theorem laid_met (os : Os) : laidMet Tryz.prog Rows.valueYearsRow.laid ((withTabsV (World.holding Tryz.prog os ⟨#[], #[], []⟩)).forCall (fun _ _ => 0) ⟨#[], #[Value.int .u64 0], []⟩).memory :=
  laidMet_of_run' 8 (by kernel_rfl) (by kernel_rfl)
set_option maxRecDepth 100000 in
theorem reads (os : Os) {H : Type} (enc : TypeId × Value → H) : ∃ places, DataW.whole enc Tryz.prog ((withTabsV (World.holding Tryz.prog os ⟨#[], #[], []⟩)).forCall (fun _ _ => 0) ⟨#[], #[Value.int .u64 0], []⟩).memory Tryz.f6.params.toList Rows.valueYearsSpec.vars false #[Value.int .u64 0].toList 8 = some ([.lit (.int .u64 0)], [], places) :=
  ⟨[], by kernel_rfl⟩

set_option maxRecDepth 100000 in
theorem lifted (os : Os) (started : os.Started) (H : Type) (enc : TypeId × Value → H) (F : Stop.Interp) :
    ReturnsInHanded {} Tryz.checked os 6 .any ((OpenSpec.ofChange Rows.valueYearsSpec).preRow enc Tryz.prog Tryz.f6 Rows.valueYearsRow.domain false Rows.valueYearsRow.laid) (((OpenSpec.ofChange Rows.valueYearsSpec).at F).post enc Tryz.prog Tryz.f6 false true false false) := by
  obtain ⟨places, hx⟩ := reads os enc
  refine returnsInHanded_of_row (C := Tryz.checked) (s := OpenSpec.ofChange Rows.valueYearsSpec) own started (by kernel_rfl) Tryz.func6
    (witness_row_at (enc := enc) (C := Tryz.checked) false (withTabsV (World.holding Tryz.prog os ⟨#[], #[], []⟩)) #[Value.int .u64 0] rfl (by kernel_rfl) (by kernel_rfl) (by kernel_rfl)
      (OpenSpec.preRow_of_cond 8 hx (by kernel_rfl) (fun k hk => by cases hk) (by kernel_rfl) (laid_met os))) ?_
  intro W base args ds gs before hval hW _ _ _ hL _ _
  exact contract H enc W base args ds gs before hval hW hL

set_option maxRecDepth 100000 in
theorem said : Rows.ValueYearsSaid :=
  OpenClaim.holds_of_cond 6 Tryz.f6 rfl rfl rfl rfl rfl rfl rfl ⟨rfl, rfl, rfl, rfl, rfl⟩ rfl rfl rfl rfl rfl (by kernel_rfl) Tryz.func6 (by kernel_rfl)
    (of_decide_eq_true (by kernel_rfl)) (by unfold Func.isWrapper; first | (rw [if_pos (by decide +kernel)]; kernel_rfl) | (rw [if_neg (by decide +kernel)]; exact ⟨rfl, rfl⟩))
    (fun os started H enc _ F => by rw [OpenClaim.pre_eq_preRow]; exact lifted os started H enc F)

theorem plain (f : FuncId) (fn : Func) (hf : Tryz.pinned.checked.prog.funcNamed "sieve/sievelaw13.ValueYears" = some f) (hfn : Tryz.pinned.checked.prog.funcs[f]? = some fn) :
    false = Tryz.pinned.checked.prog.looks [] ∧ ∀ (j : Nat) t, fn.params[j]? = some t → Tryz.pinned.checked.prog.wantsStandIn t = false := by
  obtain rfl : f = 6 := Option.some.inj ((show Tryz.prog.funcNamed "sieve/sievelaw13.ValueYears" = some 6 by kernel_rfl).symm.trans hf) |>.symm
  obtain rfl : fn = Tryz.f6 := (Option.some.inj (Tryz.func6.symm.trans hfn)).symm
  refine ⟨by kernel_rfl, fun j t ht => ?_⟩
  rw [Tryz.params6] at ht
  have hm := Array.mem_of_getElem? ht
  simp only [List.mem_toArray, List.mem_cons, List.not_mem_nil, or_false] at hm
  subst hm
  · exact (show Tryz.prog.wantsStandIn 34 = false by kernel_rfl)

theorem card : Rows.ValueYearsCardSaid :=
  Claim7.holds_tied_plain_at .later [] _ _ _ _ said (fun _ h => by cases h) (by kernel_rfl) (fun _ h => by cases h) valueYears_row_tie rfl ⟨rfl, rfl⟩ (by kernel_rfl) rfl plain (by kernel_rfl)

end Go.Proofs.YtfbfigjjnpamiaaGreatDoor.VYearsL
