/- What is proved here: laws and contracts of VFour, VRDate, one behind the other (each says its own). -/
import Derived.Test.YtfbfigjjnpamiaaGreatDoorVDate
import Derived.Deep.Cut
/- What is proved here: the contract of the statement's own 'four': a number in four digits; and the day that such digits say. -/
namespace Go.Proofs.YtfbfigjjnpamiaaGreatDoor.V
open Go.RowKit Go.Shelf Go.Proofs.YtfbfigjjnpamiaaGreatDoor.N Go.Proofs.YtfbfigjjnpamiaaGreatDoor.U Go.Proofs.YtfbfigjjnpamiaaGreatDoor.L

def dgt (k : Nat) : UInt8 := UInt8.ofNat (48 + k % 10)
def fourL (n : Nat) : List UInt8 := [dgt (n / 1000), dgt (n / 100), dgt (n / 10), dgt n]
theorem dgt_nat (k : Nat) : (dgt k).toNat = 48 + k % 10 := by unfold dgt; simp; omega
theorem dgt_dig (k : Nat) : digC (dgt k) = true := by unfold digC; rw [dgt_nat]; simp; omega
set_option maxRecDepth 100000 in
set_option maxHeartbeats 2000000 in
theorem four_calls (n : Nat) (hn : n ≤ 9999) (w : World) : Calls Tryz.prog 18 #[.int .i64 n] w fun e w' => e = .returned (.string ⟨(fourL n).toArray⟩) ∧ Below w.heap.size w w' := by
  have t1 : (n : Int).tdiv 1000 = ((n / 1000 : Nat) : Int) := rfl
  have t2 : (n : Int).tdiv 100 = ((n / 100 : Nat) : Int) := rfl
  have t3 : (n : Int).tdiv 10 = ((n / 10 : Nat) : Int) := rfl
  have r1 : ((n / 1000 : Nat) : Int).tmod 10 = ((n / 1000 % 10 : Nat) : Int) := rfl
  have r2 : ((n / 100 : Nat) : Int).tmod 10 = ((n / 100 % 10 : Nat) : Int) := rfl
  have r3 : ((n / 10 : Nat) : Int).tmod 10 = ((n / 10 % 10 : Nat) : Int) := rfl
  have r4 : (n : Int).tmod 10 = ((n % 10 : Nat) : Int) := rfl
  go_enter Tryz.func18, Tryz.ntmps18
  go_upto_region 2 with fail
  have HK := Blk.new w #[.int .u8 (48 + (n : Int) / 1000 % 10), .int .u8 (48 + (n : Int) / 100 % 10), .int .u8 (48 + (n : Int) / 10 % 10), .int .u8 (48 + (n : Int) % 10)] 5
  have hb : Below w.heap.size w (w.alloc (.cells #[.int .u8 (48 + (n : Int) / 1000 % 10), .int .u8 (48 + (n : Int) / 100 % 10), .int .u8 (48 + (n : Int) / 10 % 10), .int .u8 (48 + (n : Int) % 10)] 5)) := (Below.refl _ w).alloc (Nat.le_refl _) _
  generalize w.alloc (.cells #[.int .u8 (48 + (n : Int) / 1000 % 10), .int .u8 (48 + (n : Int) / 100 % 10), .int .u8 (48 + (n : Int) / 10 % 10), .int .u8 (48 + (n : Int) % 10)] 5) = W at *
  have q0 : (48 + (n : Int) / 1000 % 10) = ((dgt (n / 1000)).toNat : Int) := by rw [dgt_nat]; omega
  have q1 : (48 + (n : Int) / 100 % 10) = ((dgt (n / 100)).toNat : Int) := by rw [dgt_nat]; omega
  have q2 : (48 + (n : Int) / 10 % 10) = ((dgt (n / 10)).toNat : Int) := by rw [dgt_nat]; omega
  have q3 : (48 + (n : Int) % 10) = ((dgt n).toNat : Int) := by rw [dgt_nat]; omega
  have hcv : (convert 47 9 (.slice (some ⟨w.heap.size, 0, none⟩) 4 4)).run Tryz.prog W = .ok (.string ⟨(fourL n).toArray⟩) W :=
    run_convert_bytes_back W _ _ 5 ⟨w.heap.size, 0, none⟩ 4 (fourL n) Tryz.underlying47 Tryz.underlying5 Tryz.underlying9 (fun j hj => by
      rw [add_none, Nat.zero_add, HK.cell j]
      have h4 : j < 4 := hj
      rcases (show j = 0 ∨ j = 1 ∨ j = 2 ∨ j = 3 by omega) with rfl | rfl | rfl | rfl
      · simp [fourL, q0]
      · simp [fourL, q1]
      · simp [fourL, q2]
      · simp [fourL, q3])
  clear HK q0 q1 q2 q3 t1 t2 t3 r1 r2 r3 r4
  go_wp2
  go_ret
  exact ⟨rfl, hb⟩
/-- A day as it is written. -/
def dayT (y m d : Nat) : List UInt8 := fourL y ++ [45] ++ (fourL m).drop 2 ++ [45] ++ (fourL d).drop 2
theorem dgt_pl (k : Nat) : plC (dgt k) = true := by unfold plC; rw [dgt_nat]; simp; omega
theorem dayT_pl (y m d : Nat) : clB (dayT y m d) = dayT y m d := (pl_ascii _ (fun c hc => by
  unfold dayT fourL at hc
  simp only [List.drop_succ_cons, List.drop_zero, List.cons_append, List.nil_append, List.mem_cons, List.not_mem_nil, or_false] at hc
  rcases hc with rfl | rfl | rfl | rfl | rfl | rfl | rfl | rfl | rfl | rfl
  all_goals first | exact dgt_pl _ | decide)).cl
theorem numB_four (n : Nat) (hn : n ≤ 9999) : numB (fourL n) = some n := by
  unfold numB
  rw [if_pos ⟨by simp [fourL], by simp [fourL], by rw [List.all_eq_true]; intro c hc; unfold fourL at hc; simp only [List.mem_cons, List.not_mem_nil, or_false] at hc; rcases hc with rfl | rfl | rfl | rfl <;> exact dgt_dig _⟩]
  congr 1
  simp only [fourL, numV, List.foldl, dgt_nat]
  omega
theorem numB_two (n : Nat) (hn : n ≤ 99) : numB ((fourL n).drop 2) = some n := by
  unfold numB
  rw [if_pos ⟨by simp [fourL], by simp [fourL], by rw [List.all_eq_true]; intro c hc; unfold fourL at hc; simp only [List.drop_succ_cons, List.drop_zero, List.mem_cons, List.not_mem_nil, or_false] at hc; rcases hc with rfl | rfl <;> exact dgt_dig _⟩]
  congr 1
  simp only [fourL, List.drop_succ_cons, List.drop_zero, numV, List.foldl, dgt_nat]
  omega
theorem date_day (y m d : Nat) (hy : y ≤ 9999) (hm : m ≤ 99) (hd : d ≤ 99) : dateB (clB (dayT y m d)) = if isDayN y m d then some (y, m, d) else none := by
  rw [dayT_pl]
  unfold dateB
  rw [if_pos ⟨by simp [dayT, fourL], by simp [dayT, fourL], by simp [dayT, fourL]⟩]
  have e1 : (dayT y m d).take 4 = fourL y := by simp [dayT, fourL]
  have e2 : ((dayT y m d).take 7).drop 5 = (fourL m).drop 2 := by simp [dayT, fourL]
  have e3 : (dayT y m d).drop 8 = (fourL d).drop 2 := by simp [dayT, fourL]
  rw [e1, e2, e3, numB_four y hy, numB_two m hm, numB_two d hd]
end Go.Proofs.YtfbfigjjnpamiaaGreatDoor.V

/- What is proved here: the contracts of the document's digitsAt and Date: the day that a value says, if there is one. -/
namespace Go.Proofs.YtfbfigjjnpamiaaGreatDoor.V
open Go.RowKit Go.Shelf Go.Proofs.YtfbfigjjnpamiaaGreatDoor.N Go.Proofs.YtfbfigjjnpamiaaGreatDoor.U Go.Proofs.YtfbfigjjnpamiaaGreatDoor.L

/-- The number that some digits at a place say. -/
def digsAt (l : List UInt8) (p n : Nat) : Option Nat := if p + n ≤ l.length ∧ ((l.drop p).take n).all digC = true then some (numV ((l.drop p).take n)) else none
theorem digsAt_numB (l : List UInt8) (p n : Nat) (h : p + n ≤ l.length) (h1 : 1 ≤ n) (h9 : n ≤ 9) : numB ((l.drop p).take n) = digsAt l p n := by
  have hl : ((l.drop p).take n).length = n := by simp; omega
  unfold numB digsAt
  rw [hl]
  by_cases hd : ((l.drop p).take n).all digC = true
  · rw [if_pos ⟨h1, h9, hd⟩, if_pos ⟨h, hd⟩]
  · rw [if_neg (fun x => hd x.2.2), if_neg (fun x => hd x.2)]
theorem date_digs (l : List UInt8) : dateB l = if l.length = 10 ∧ l.getD 4 0 = 45 ∧ l.getD 7 0 = 45 then
    (match digsAt l 0 4, digsAt l 5 2, digsAt l 8 2 with
    | some y, some m, some d => if isDayN y m d then some (y, m, d) else none
    | _, _, _ => none)
  else none := by
  unfold dateB
  by_cases h : l.length = 10 ∧ l.getD 4 0 = 45 ∧ l.getD 7 0 = 45
  · have e1 := digsAt_numB l 0 4 (by omega) (by omega) (by omega)
    have e2 := digsAt_numB l 5 2 (by omega) (by omega) (by omega)
    have e3 := digsAt_numB l 8 2 (by omega) (by omega) (by omega)
    rw [List.drop_zero] at e1
    rw [List.take_of_length_le (by simp; omega)] at e3
    rw [if_pos h, if_pos h, List.drop_take, e1, e2, e3]
    cases digsAt l 0 4 <;> cases digsAt l 5 2 <;> cases digsAt l 8 2 <;> rfl
  · rw [if_neg h, if_neg h]
set_option maxRecDepth 100000 in
set_option maxHeartbeats 4000000 in
theorem digitsAt_calls (l : List UInt8) (p n : Nat) (w : World) (hl : l.length ≤ 100000000000) (hp : p ≤ 100) (hn : n ≤ 9) (hn1 : 1 ≤ n) :
    Calls Tryz.prog 29 #[.string ⟨l.toArray⟩, .int .i64 p, .int .i64 n] w fun e w' => e = .returned (.tuple #[.int .i64 ((digsAt l p n).getD 0 : Nat), .bool (digsAt l p n).isSome]) ∧ w' = w := by
  have hsz := byteArr_size l
  go_enter Tryz.func29, Tryz.ntmps29
  go_wp2
  go_loopw [8, 9] (fun v i wr => ∃ k q : Nat, q ≤ p + k ∧ p + k ≤ q ∧ k ≤ n ∧ (p + k ≤ l.length ∨ k = 0) ∧ v = .int .i64 ((numV ((l.drop p).take k) : Nat) : Int) ∧ i = .int .i64 (q : Int) ∧ Hid (∀ c ∈ (l.drop p).take k, digC c = true) ∧ wr = w) (fun _ i _ => p + n - (intOf i).toNat)
  case atStart => exact ⟨0, p, by omega, by omega, by omega, .inr rfl, rfl, rfl, (fun c hc => absurd hc (by simp)), rfl⟩
  case round =>
    obtain ⟨k, q, hq1, hq2, hk, hpk, rfl, rfl, hD, hw⟩ := hrel
    obtain rfl : w = wr := hw.symm
    clear hw
    by_cases hlt : k < n
    · have hlt' : decide ((q : Int) < (p : Int) + (n : Int)) = true := by rw [decide_eq_true_eq]; omega
      by_cases hin : p + k < l.length
      · obtain ⟨c, hc⟩ : ∃ c, l.getD q 0 = c := ⟨_, rfl⟩
        have hix := L.byte_at l q c (by omega) hc (q : Int) rfl
        have hge : decide ((q : Int) ≥ (l.length : Int)) = false := by rw [decide_eq_false_iff_not]; omega
        have hnum := numV_lt ((l.drop p).take k) hD.out
        rw [show ((l.drop p).take k).length = k by simp; omega] at hnum
        have hp10 : 10 ^ k ≤ 10 ^ 9 := Nat.pow_le_pow_right (by decide) (by omega)
        have hp9 : 10 ^ 9 = 1000000000 := by decide
        have hts : (l.drop p).take (k + 1) = (l.drop p).take k ++ [c] := by
          rw [take_snoc (l.drop p) k (by simp; omega)]
          congr 2
          rw [← hc, show q = p + k by omega]
          simp [List.getD]
        cases hd : digC c with
        | true =>
          have hcr : 48 ≤ c.toNat ∧ c.toNat ≤ 57 := by unfold digC at hd; simpa using hd
          have HS : Hid (numV ((l.drop p).take (k + 1)) = 10 * numV ((l.drop p).take k) + (c.toNat - 48)) := by show _ = _; rw [hts, numV_snoc]
          have HD : Hid (∀ d ∈ (l.drop p).take (k + 1), digC d = true) := fun d hdm => by
            rw [hts] at hdm
            rcases List.mem_append.1 hdm with h | h
            · exact hD.out d h
            · simp at h; subst h; exact hd
          obtain ⟨m, hm⟩ : ∃ m, numV ((l.drop p).take k) = m := ⟨_, rfl⟩
          rw [hm] at hnum HS ⊢
          have hm9 : m < 1000000000 := by omega
          clear hc hm hnum hp10 hp9 hD hts hpk
          go_wp2_with (go_at_call 27; refine (rdigit_calls _ _).mono ?_; rintro e w' ⟨rfl, hw'⟩; have hx' := hw'.symm; subst hx')
          go_roundw
          case rel => exact ⟨k + 1, q + 1, by omega, by omega, by omega, .inl (by omega), by rw [HS.out]; go_num, by go_num, HD, by trivial⟩
          case measure => simp [intOf]; omega
        | false =>
          have HN : Hid (digsAt l p n = none) := by
            show _ = _
            unfold digsAt
            rw [if_neg]
            rintro ⟨_, h2⟩
            rw [List.all_eq_true] at h2
            have := h2 c (by
              have : c ∈ (l.drop p).take (k + 1) := by rw [hts]; simp
              exact (List.take_subset_take_left (l.drop p) (show k + 1 ≤ n by omega)) this)
            rw [hd] at this; cases this
          clear hc hnum hp10 hp9 hD hts hpk
          go_wp2_with (go_at_call 27; refine (rdigit_calls _ _).mono ?_; rintro e w' ⟨rfl, hw'⟩; have hx' := hw'.symm; subst hx')
          go_ret2
          exact ⟨by rw [HN.out]; rfl, rfl⟩
      · have HN : Hid (digsAt l p n = none) := by show _ = _; unfold digsAt; rw [if_neg (by omega)]
        have hge : decide ((q : Int) ≥ (l.length : Int)) = true := by rw [decide_eq_true_eq]; omega
        clear hD hpk
        go_wp2
        go_ret2
        exact ⟨by rw [HN.out]; rfl, rfl⟩
    · obtain rfl : k = n := by omega
      have hlt' : decide ((q : Int) < (p : Int) + (k : Int)) = false := by rw [decide_eq_false_iff_not]; omega
      by_cases hin : p + k ≤ l.length
      · have HN : Hid (digsAt l p k = some (numV ((l.drop p).take k))) := by show _ = _; unfold digsAt; rw [if_pos ⟨hin, by rw [List.all_eq_true]; exact hD.out⟩]
        clear hD hpk
        go_wp2
        go_ret2
        exact ⟨by rw [HN.out]; rfl, rfl⟩
      · have hk0 : k = 0 := by omega
        have HN : Hid (digsAt l p k = none) := by show _ = _; unfold digsAt; rw [if_neg (by omega)]
        exact absurd hk0 (by omega)
end Go.Proofs.YtfbfigjjnpamiaaGreatDoor.V
