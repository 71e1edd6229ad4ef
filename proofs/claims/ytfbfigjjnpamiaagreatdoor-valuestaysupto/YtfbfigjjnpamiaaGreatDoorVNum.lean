/- What is proved here: the contracts of value.isDigit, isBlank, isLetter, number and Number, and of the document's digit, blank, letter and Number: the number that one to nine digits say. -/
import Derived.Test.YtfbfigjjnpamiaaGreatDoorVClean
import Derived.Test.YtfbfigjjnpamiaaGreatDoorBun2
namespace Go.Proofs.YtfbfigjjnpamiaaGreatDoor.V
open Go.RowKit Go.Shelf Go.Proofs.YtfbfigjjnpamiaaGreatDoor.N Go.Proofs.YtfbfigjjnpamiaaGreatDoor.U Go.Proofs.YtfbfigjjnpamiaaGreatDoor.L

set_option maxRecDepth 100000 in
theorem isDigit_calls (r : Int) (w : World) : Calls Tryz.prog 42 #[.int .i32 r] w fun e w' => e = .returned (.bool (digitZ r)) ∧ w' = w := by
  go_enter Tryz.func42, Tryz.ntmps42
  go_wp2
  all_goals go_ret
  all_goals refine ⟨N.ret_bool ?_, rfl⟩
  all_goals unfold digitZ
  all_goals simp
  all_goals omega
set_option maxRecDepth 100000 in
theorem isBlank_calls (r : Int) (w : World) : Calls Tryz.prog 37 #[.int .i32 r] w fun e w' => e = .returned (.bool (blankZ r)) ∧ w' = w := by
  go_enter Tryz.func37, Tryz.ntmps37
  go_wp2
  all_goals go_ret
  all_goals refine ⟨N.ret_bool ?_, rfl⟩
  all_goals unfold blankZ
  all_goals first | omega | (rw [Bool.eq_iff_iff]; simp; omega)
set_option maxRecDepth 100000 in
theorem isLetter_calls (r : Int) (w : World) : Calls Tryz.prog 82 #[.int .i32 r] w fun e w' => e = .returned (.bool (letterZ r)) ∧ w' = w := by
  go_enter Tryz.func82, Tryz.ntmps82
  go_wp2
  all_goals go_ret
  all_goals refine ⟨N.ret_bool ?_, rfl⟩
  all_goals unfold letterZ
  all_goals first | omega | (rw [Bool.eq_iff_iff]; simp; omega)
set_option maxRecDepth 100000 in
theorem rdigit_calls (c : UInt8) (w : World) : Calls Tryz.prog 27 #[.int .u8 c.toNat] w fun e w' => e = .returned (.bool (digC c)) ∧ w' = w := by
  go_enter Tryz.func27, Tryz.ntmps27
  go_wp2
  all_goals go_ret
  all_goals refine ⟨N.ret_bool ?_, rfl⟩
  all_goals unfold digC
  all_goals first | omega | (rw [Bool.eq_iff_iff]; simp; omega)
theorem blankB_nat (c : UInt8) : blankB c = decide (c.toNat = 9 ∨ c.toNat = 10 ∨ c.toNat = 12 ∨ c.toNat = 32) := by
  have hu : ∀ n : Nat, n < 256 → ((c == UInt8.ofNat n) = true ↔ c.toNat = n) := fun n hn => by
    rw [beq_iff_eq]
    constructor
    · intro h; rw [h]; simp; omega
    · intro h; apply UInt8.toNat_inj.1; simp; omega
  rw [Bool.eq_iff_iff]
  unfold blankB
  rw [show (9 : UInt8) = UInt8.ofNat 9 from rfl, show (10 : UInt8) = UInt8.ofNat 10 from rfl, show (12 : UInt8) = UInt8.ofNat 12 from rfl, show (32 : UInt8) = UInt8.ofNat 32 from rfl]
  simp only [Bool.or_eq_true, decide_eq_true_eq, hu 9 (by omega), hu 10 (by omega), hu 12 (by omega), hu 32 (by omega)]
  omega
set_option maxRecDepth 100000 in
theorem rblank_calls (c : UInt8) (w : World) : Calls Tryz.prog 25 #[.int .u8 c.toNat] w fun e w' => e = .returned (.bool (blankB c)) ∧ w' = w := by
  go_enter Tryz.func25, Tryz.ntmps25
  go_wp2
  all_goals go_ret
  all_goals refine ⟨N.ret_bool ?_, rfl⟩
  all_goals rw [blankB_nat]
  all_goals first | omega | (rw [Bool.eq_iff_iff]; simp; omega)
theorem digC_Z (c : UInt8) : digitZ (c.toNat : Int) = digC c := by
  unfold digitZ digC
  rw [Bool.eq_iff_iff]
  simp
  omega
theorem digZ_high (r : Nat) (h : 128 ≤ r) : digitZ (r : Int) = false := by
  unfold digitZ
  rw [decide_eq_false_iff_not]
  omega
theorem take_snoc (l : List UInt8) (k : Nat) (h : k < l.length) : l.take (k + 1) = l.take k ++ [l.getD k 0] := by
  rw [List.take_succ_eq_append_getElem h]
  simp [List.getD, h]
theorem numB_bad (l : List UInt8) (k : Nat) (h : k < l.length) (hc : digC (l.getD k 0) = false) : numB l = none := by
  unfold numB
  rw [if_neg]
  rintro ⟨_, _, h3⟩
  rw [List.all_eq_true] at h3
  have := h3 (l.getD k 0) (by rw [List.getD_eq_getElem?_getD, List.getElem?_eq_getElem h]; exact List.getElem_mem h)
  rw [hc] at this
  cases this
theorem iterAt_grownV (w : World) (k : Nat) (s : ByteArray) (p : Nat) : w.grownBy (w.iterAt k s p) (some k) := by
  refine ⟨rfl, rfl, rfl, by simp [World.iterAt], fun j hj hne => ?_⟩
  have hjk : k ≠ j := fun e => hne (by rw [e])
  simp [World.iterAt, hjk]
theorem iterPos_ofV {w : World} {k : Nat} {s : ByteArray} {p : Nat} (h : w.heap[k]? = some (.stringIter s p)) : w.iterPos k = p := by unfold World.iterPos; rw [h]
set_option maxRecDepth 100000 in
set_option maxHeartbeats 4000000 in
/-- **number of any bytes.** -/
theorem number_calls (l : List UInt8) (w : World) (hl : l.length ≤ 100000000000) :
    Calls Tryz.prog 26 #[.string ⟨l.toArray⟩] w fun e W' => e = .returned (.tuple #[.int .i64 ((numB l).getD 0 : Nat), .bool (numB l).isSome]) ∧ Below w.heap.size w W' := by
  have hsz := byteArr_size l
  by_cases h0 : l.length < 1
  · have HN : Hid (numB l = none) := by show numB l = none; unfold numB; rw [if_neg (by omega)]
    have h0' : decide ((l.length : Int) < 1) = true := by rw [decide_eq_true_eq]; omega
    go_enter Tryz.func26, Tryz.ntmps26
    go_wp2
    go_ret2
    exact ⟨by rw [HN.out]; rfl, Below.refl _ _⟩
  by_cases h9 : 9 < l.length
  · have HN : Hid (numB l = none) := by show numB l = none; unfold numB; rw [if_neg (by omega)]
    have h0' : decide ((l.length : Int) < 1) = false := by rw [decide_eq_false_iff_not]; omega
    have h9' : decide ((l.length : Int) > 9) = true := by rw [decide_eq_true_eq]; omega
    go_enter Tryz.func26, Tryz.ntmps26
    go_wp2
    go_ret2
    exact ⟨by rw [HN.out]; rfl, Below.refl _ _⟩
  have h0' : decide ((l.length : Int) < 1) = false := by rw [decide_eq_false_iff_not]; omega
  have h9' : decide ((l.length : Int) > 9) = false := by rw [decide_eq_false_iff_not]; omega
  have hl0 : 1 ≤ l.length := by omega
  have hl9 : l.length ≤ 9 := by omega
  clear h0 h9 hl
  go_enter Tryz.func26, Tryz.ntmps26
  go_wp2
  go_loopw [4, 6] (fun n _ wr => ∃ k : Nat, k ≤ l.length ∧ n = .int .i64 ((numV (l.take k) : Nat) : Int) ∧ Hid (∀ c ∈ l.take k, digC c = true) ∧ wr.heap[w.heap.size]? = some (.stringIter ⟨l.toArray⟩ k) ∧ Below w.heap.size w wr ∧ w.heap.size < wr.heap.size) (fun _ _ wr => l.length - wr.iterPos w.heap.size)
  case atStart => exact ⟨0, by omega, rfl, (fun c hc => absurd hc (by simp)), World.iter_heap _ _ _, (Below.refl _ w).alloc (Nat.le_refl _) _, by simp [World.iter]⟩
  case round =>
    obtain ⟨k, hk, rfl, hD, hit, hB, hz⟩ := hrel
    by_cases hlt : k < l.length
    · obtain ⟨c, hc⟩ : ∃ c, l.getD k 0 = c := ⟨_, rfl⟩
      have hnum := numV_lt (l.take k) hD.out
      rw [List.length_take, Nat.min_eq_left hk] at hnum
      have hp10 : 10 ^ k ≤ 10 ^ 9 := Nat.pow_le_pow_right (by decide) (by omega)
      have hp9 : 10 ^ 9 = 1000000000 := by decide
      have hnx : ∀ ty, (Instr.next (.pointer (some ⟨w.heap.size, 0, none⟩)) true ty).run Tryz.prog wr = _ := fun ty => Lib.run_next_any_at wr w.heap.size ⟨l.toArray⟩ k ty hit (by rw [hsz]; exact hlt)
      cases hd : digC c with
      | true =>
        have hcr : 48 ≤ c.toNat ∧ c.toNat ≤ 57 := by unfold digC at hd; simpa using hd
        rw [dec_low l k c hc (by omega)] at hnx
        simp only at hnx
        have hitX := Lib.iterAt_heap wr w.heap.size ⟨l.toArray⟩ k (k + 1) hit
        have hgX := iterAt_grownV wr w.heap.size ⟨l.toArray⟩ (k + 1)
        have HIT : Hid (wr.heap[w.heap.size]? = some (.stringIter ⟨l.toArray⟩ k)) := hit
        obtain ⟨X, hX⟩ : ∃ X, wr.iterAt w.heap.size ⟨l.toArray⟩ (k + 1) = X := ⟨_, rfl⟩
        rw [hX] at hnx hitX hgX
        have hBX : Below w.heap.size w X := hB.grown hgX hB.size (fun j hj => by cases hj; exact Nat.le_refl _)
        have hzX := hgX.size
        have HZ := digC_Z c
        rw [hd] at HZ
        have HS : Hid (numV (l.take (k + 1)) = 10 * numV (l.take k) + (c.toNat - 48)) := by show _ = _; rw [take_snoc l k hlt, hc, numV_snoc]
        have HD : Hid (∀ d ∈ l.take (k + 1), digC d = true) := fun d hdm => by
          rw [take_snoc l k hlt, hc] at hdm
          rcases List.mem_append.1 hdm with h | h
          · exact hD.out d h
          · simp at h; subst h; exact hd
        have HITX : Hid (X.heap[w.heap.size]? = some (.stringIter ⟨l.toArray⟩ (k + 1))) := hitX
        obtain ⟨m, hm⟩ : ∃ m, numV (l.take k) = m := ⟨_, rfl⟩
        rw [hm] at hnum HS ⊢
        have hm9 : m < 1000000000 := by omega
        clear hX hit hitX hgX hc hd hm hnum hp10 hp9 hD
        go_wp2_with (go_at_call 42; refine (isDigit_calls _ _).mono ?_; rintro e w' ⟨rfl, hw'⟩; obtain rfl : X = w' := hw'.symm)
        go_roundw
        case rel => exact ⟨k + 1, by omega, by rw [HS.out]; go_num, HD, HITX.out, hBX, by omega⟩
        case measure => rw [iterPos_ofV HITX.out, iterPos_ofV HIT.out]; omega
      | false =>
        have HN : Hid (numB l = none) := numB_bad l k hlt (by rw [hc]; exact hd)
        obtain ⟨r, n, hdec, hr0, hz0⟩ : ∃ r n : Nat, Utf8.decode ⟨l.toArray⟩ k = (r, n) ∧ r ≤ 1114111 ∧ digitZ (r : Int) = false := by
          by_cases ha : c.toNat < 128
          · exact ⟨_, _, dec_low l k c hc ha, by omega, (digC_Z c).trans hd⟩
          · obtain ⟨r, n, h1, h2, h3⟩ := dec_high l k c hc hlt (by omega)
            exact ⟨r, n, h1, h3, digZ_high r h2⟩
        rw [hdec] at hnx
        simp only at hnx
        have hgX := iterAt_grownV wr w.heap.size ⟨l.toArray⟩ (k + n)
        obtain ⟨X, hX⟩ : ∃ X, wr.iterAt w.heap.size ⟨l.toArray⟩ (k + n) = X := ⟨_, rfl⟩
        rw [hX] at hnx hgX
        have hBX : Below w.heap.size w X := hB.grown hgX hB.size (fun j hj => by cases hj; exact Nat.le_refl _)
        clear hX hit hgX hc hd hdec hnum hp10 hp9 hD
        go_wp2_with (go_at_call 42; refine (isDigit_calls _ _).mono ?_; rintro e w' ⟨rfl, hw'⟩; obtain rfl : X = w' := hw'.symm)
        go_ret2
        exact ⟨by rw [HN.out]; rfl, hBX⟩
    · obtain rfl : k = l.length := by omega
      have hnx : ∀ ty, (Instr.next (.pointer (some ⟨w.heap.size, 0, none⟩)) true ty).run Tryz.prog wr = _ := fun ty => Lib.run_next_end_at wr w.heap.size ⟨l.toArray⟩ l.length ty hit (by rw [hsz]; exact hlt)
      have HN : Hid (numB l = some (numV l)) := by
        have := hD.out
        rw [List.take_length] at this
        show numB l = _
        unfold numB
        rw [if_pos ⟨hl0, hl9, by rw [List.all_eq_true]; exact this⟩]
      rw [List.take_length]
      clear hD
      go_wp2
      go_ret2
      exact ⟨by rw [HN.out]; rfl, hB⟩
set_option maxRecDepth 100000 in
set_option maxHeartbeats 1000000 in
/-- **Number.** -/
theorem Number_calls (bs : List UInt8) (w : World) (hT : Tb w) (hl : bs.length ≤ 10000000000) :
    Calls Tryz.prog 11 #[.string ⟨bs.toArray⟩] w fun e W' => e = .returned (.tuple #[.int .i64 ((numB (clB bs)).getD 0 : Nat), .bool (numB (clB bs)).isSome]) ∧ Below w.heap.size w W' := by
  have HC := hid_of (clean_calls bs w hT hl)
  have hcl := clB_len bs
  clear hT
  go_enter Tryz.func11, Tryz.ntmps11
  go_wp2_with fail
  go_at_call 24
  refine HC.out.mono ?_
  rintro e w1 ⟨rfl, hb1⟩
  go_wp2_with fail
  go_at_call 26
  refine (number_calls (clB bs) w1 (by omega)).mono ?_
  rintro e w2 ⟨rfl, hb2⟩
  go_wp2
  go_ret2
  exact ⟨rfl, hb1.trans (hb2.mono hb1.size)⟩
set_option maxRecDepth 100000 in
set_option maxHeartbeats 4000000 in
/-- **The document's Number: beside a false it may tell any number.** -/
theorem rNumber_calls (bs : List UInt8) (w : World) (hl : bs.length ≤ 10000000000) :
    Calls Tryz.prog 12 #[.string ⟨bs.toArray⟩] w fun e W' => e = .returned (.tuple #[.int .i64 ((numB (clB bs)).getD 0 : Nat), .bool (numB (clB bs)).isSome]) ∧ Below w.heap.size w W' := by
  have HC := hid_of (rclean_calls bs w (by omega))
  have hcl := clB_len bs
  obtain ⟨l, hL⟩ : ∃ l, clB bs = l := ⟨_, rfl⟩
  rw [hL] at HC hcl ⊢
  have hsz := byteArr_size l
  clear hL
  go_enter Tryz.func12, Tryz.ntmps12
  go_wp2_with (go_at_call 22; refine HC.out.mono ?_; rintro e w1 ⟨rfl, hb1⟩)
  clear HC
  go_loopw [5, 6] (fun n i wr => ∃ k : Nat, k ≤ l.length ∧ k ≤ 9 ∧ n = .int .i64 ((numV (l.take k) : Nat) : Int) ∧ i = .int .i64 k ∧ Hid (∀ c ∈ l.take k, digC c = true) ∧ wr = w1) (fun _ i _ => l.length - (intOf i).toNat)
  case atStart => exact ⟨0, by omega, by omega, rfl, rfl, (fun c hc => absurd hc (by simp)), rfl⟩
  case round =>
    obtain ⟨k, hk, hk9, rfl, rfl, hD, rfl⟩ := hrel
    by_cases hlt : k < l.length
    · obtain ⟨c, hc⟩ : ∃ c, l.getD k 0 = c := ⟨_, rfl⟩
      have hix : ∀ w, (Instr.index 9 (.string ⟨l.toArray⟩) (.int .i64 k)).run Tryz.prog w = .ok (.int .u8 c.toNat) w := fun w => L.byte_at l k c hlt hc k rfl w
      have hnum := numV_lt (l.take k) hD.out
      rw [List.length_take, Nat.min_eq_left hk] at hnum
      have hp10 : 10 ^ k ≤ 10 ^ 9 := Nat.pow_le_pow_right (by decide) (by omega)
      have hp9 : 10 ^ 9 = 1000000000 := by decide
      cases hd : digC c with
      | true =>
        have hcr : 48 ≤ c.toNat ∧ c.toNat ≤ 57 := by unfold digC at hd; simpa using hd
        by_cases h9 : k = 9
        · have HN : Hid (numB l = none) := by show numB l = none; unfold numB; rw [if_neg (by omega)]
          have e9 : ((k : Int) == 9) = true := by rw [h9]; rfl
          clear h9 hc hnum hp10 hp9 hD
          go_wp2_with (go_at_call 27; refine (rdigit_calls _ _).mono ?_; rintro e w' ⟨rfl, hw'⟩; have hx' := hw'.symm; subst hx')
          go_ret2
          exact ⟨by rw [HN.out]; rfl, hb1⟩
        · have e9 : ((k : Int) == 9) = false := by rw [beq_eq_false_iff_ne]; omega
          have HS : Hid (numV (l.take (k + 1)) = 10 * numV (l.take k) + (c.toNat - 48)) := by show _ = _; rw [take_snoc l k hlt, hc, numV_snoc]
          have HD : Hid (∀ d ∈ l.take (k + 1), digC d = true) := fun d hdm => by
            rw [take_snoc l k hlt, hc] at hdm
            rcases List.mem_append.1 hdm with h | h
            · exact hD.out d h
            · simp at h; subst h; exact hd
          obtain ⟨m, hm⟩ : ∃ m, numV (l.take k) = m := ⟨_, rfl⟩
          rw [hm] at hnum HS ⊢
          have hm9 : m < 1000000000 := by omega
          clear hc hm hnum hp10 hp9 hD
          go_wp2_with (go_at_call 27; refine (rdigit_calls _ _).mono ?_; rintro e w' ⟨rfl, hw'⟩; have hx' := hw'.symm; subst hx')
          go_roundw
          case rel => exact ⟨k + 1, by omega, by omega, by rw [HS.out]; go_num, by go_num, HD, by trivial⟩
          case measure => simp [intOf]; omega
      | false =>
        have HN : Hid (numB l = none) := numB_bad l k hlt (by rw [hc]; exact hd)
        clear hc hnum hp10 hp9 hD
        go_wp2_with (go_at_call 27; refine (rdigit_calls _ _).mono ?_; rintro e w' ⟨rfl, hw'⟩; have hx' := hw'.symm; subst hx')
        go_ret2
        exact ⟨by rw [HN.out]; rfl, hb1⟩
    · obtain rfl : k = l.length := by omega
      rw [List.take_length]
      by_cases h0 : l.length = 0
      · have HN : Hid (numB l = none) := by show numB l = none; unfold numB; rw [if_neg (by omega)]
        obtain rfl : l = [] := List.length_eq_zero_iff.1 h0
        clear hD
        go_wp2
        go_ret2
        exact ⟨by rw [HN.out]; rfl, hb1⟩
      · have HN : Hid (numB l = some (numV l)) := by
          have := hD.out
          rw [List.take_length] at this
          show numB l = _
          unfold numB
          rw [if_pos ⟨by omega, hk9, by rw [List.all_eq_true]; exact this⟩]
        have he : l.isEmpty = false := by cases l with | nil => exact absurd rfl h0 | cons _ _ => rfl
        clear hD
        go_wp2
        go_ret2
        exact ⟨by rw [HN.out]; rfl, hb1⟩
end Go.Proofs.YtfbfigjjnpamiaaGreatDoor.V
