/- What is proved here: the contracts of TagName and AttrName, of names and of sieveref04: whether a name may be written. -/
import Derived.Test.YtobbgmhpmoincaaNForms
namespace Go.Proofs.Ytobbgmhpmoincaa.N
open Go.RowKit

set_option maxRecDepth 100000 in
set_option maxHeartbeats 1000000 in
theorem tag_calls (s : ByteArray) (w : World) (hs : s.size ≤ 9223372036854775807) : Calls Try.prog 24 #[.string s] w fun e w' => e = .returned (.bool (tagN s.data.toList)) ∧ w' = w := by
  have hz := size_data s
  have HZ : Hid (s.data.toList.length = s.size) := hz
  have HT : Hid (tagN s.data.toList = (beginsN s.data.toList && s.data.toList.all plainB)) := rfl
  clear hz
  go_enter Try.func24, Try.ntmps24
  go_wp2_with fail
  refine (begins_calls _ _).mono ?_
  rintro e w' ⟨rfl, hw'⟩
  obtain rfl : w = w' := hw'.symm
  cases hb : beginsN s.data.toList with
  | false =>
    go_wp2
    all_goals go_ret
    exact ⟨ret_bool (by rw [HT.out, hb]; rfl), rfl⟩
  | true =>
    have h100 : s.size ≤ 100 := by have := HZ.out; simp [beginsN] at hb; omega
    go_wp2
    go_loopw [3, 9] (fun _ i wr => ∃ k : Nat, k ≤ s.size ∧ i = .int .i64 k ∧ wr = w ∧ Hid ((s.data.toList.take k).all plainB = true)) (fun _ i _ => s.size - (intOf i).toNat)
    case atStart => exact ⟨0, by omega, rfl, rfl, by simp [Hid]⟩
    case round =>
      obtain ⟨k, hk, rfl, rfl, hp⟩ := hrel
      by_cases hlt : k < s.size
      · obtain ⟨c, hcc⟩ : ∃ c, s.data.toList.getD k 0 = c := ⟨_, rfl⟩
        have hix : ∀ w, (Instr.index 9 (.string s) (.int .i64 k)).run Try.prog w = .ok (.int .u8 c.toNat) w := fun w => run_byte w _ s _ k k c Try.underlying9 rfl hlt hcc
        have HC : Hid (s.data.toList.getD k 0 = c) := hcc
        clear hcc
        cases hpc : plainB c with
        | true =>
          go_wp2_with (go_at_call 43; refine (nplain_calls _ _).mono ?_; rintro e w' ⟨rfl, hw'⟩; have hx' := hw'.symm; subst hx')
          go_roundw
          case rel => exact ⟨k + 1, by omega, by go_num, by trivial, all_take_succ _ _ k (by have := HZ.out; omega) hp.out (by rw [HC.out]; exact hpc)⟩
          case measure => simp [intOf]; omega
        | false =>
          go_wp2_with (go_at_call 43; refine (nplain_calls _ _).mono ?_; rintro e w' ⟨rfl, hw'⟩; have hx' := hw'.symm; subst hx')
          go_ret
          exact ⟨ret_bool (by rw [HT.out, all_not _ _ k (by have := HZ.out; omega) (by rw [HC.out]; exact hpc)]; simp), rfl⟩
      · obtain rfl : k = s.size := by omega
        go_wp2
        go_ret
        exact ⟨ret_bool (by have h := hp.out; rw [← HZ.out, List.take_length] at h; rw [HT.out, hb, h]; rfl), rfl⟩

set_option maxRecDepth 100000 in
set_option maxHeartbeats 1000000 in
theorem attr_calls (s : ByteArray) (w : World) (hs : s.size ≤ 9223372036854775807) : Calls Try.prog 26 #[.string s] w fun e w' => e = .returned (.bool (attrN s.data.toList)) ∧ w' = w := by
  have hz := size_data s
  have HZ : Hid (s.data.toList.length = s.size) := hz
  have HT : Hid (attrN s.data.toList = (beginsN s.data.toList && (s.data.toList.getD (s.data.toList.length - 1) 0 != 45) && s.data.toList.all fun c => smallB c || digB c || c == 45)) := rfl
  clear hz
  go_enter Try.func26, Try.ntmps26
  cases hb : beginsN s.data.toList with
  | false =>
    go_wp2_with (go_at_call 42; refine (begins_calls _ _).mono ?_; rintro e w' ⟨rfl, hw'⟩; have hx' := hw'.symm; subst hx')
    all_goals go_ret
    exact ⟨ret_bool (by rw [HT.out, hb]; rfl), rfl⟩
  | true =>
    have h100 : 1 ≤ s.size ∧ s.size ≤ 100 := by have := HZ.out; simp [beginsN] at hb; omega
    obtain ⟨d, hdd⟩ : ∃ d, s.data.toList.getD (s.size - 1) 0 = d := ⟨_, rfl⟩
    have hiy : ∀ w, (Instr.index 9 (.string s) (.int .i64 ((s.size : Int) - 1))).run Try.prog w = .ok (.int .u8 d.toNat) w := fun w => run_byte w _ s _ _ (s.size - 1) d Try.underlying9 (by omega) (by omega) hdd
    have HD : Hid (s.data.toList.getD (s.data.toList.length - 1) 0 = d) := by rw [HZ.out]; exact hdd
    clear hdd
    by_cases hd : d = 45
    · subst hd
      go_wp2_with (go_at_call 42; refine (begins_calls _ _).mono ?_; rintro e w' ⟨rfl, hw'⟩; have hx' := hw'.symm; subst hx')
      all_goals go_ret
      all_goals exact ⟨ret_bool (by rw [HT.out, HD.out]; simp), rfl⟩
    have hd' : ((d.toNat : Int) == 45) = false := by
      rw [beq_eq_false_iff_ne]; intro h; exact hd (UInt8.toNat_inj.1 (by rw [show (45 : UInt8).toNat = 45 from rfl]; omega))
    have HQ : Hid ((d != 45) = true) := by simpa [Hid] using hd
    clear hd
    go_wp2_with (go_at_call 42; refine (begins_calls _ _).mono ?_; rintro e w' ⟨rfl, hw'⟩; have hx' := hw'.symm; subst hx')
    clear hiy
    go_loopw [3, 17] (fun _ i wr => ∃ k : Nat, k ≤ s.size ∧ i = .int .i64 k ∧ wr = w ∧ Hid ((s.data.toList.take k).all (fun c => smallB c || digB c || c == 45) = true)) (fun _ i _ => s.size - (intOf i).toNat)
    case atStart => exact ⟨0, by omega, rfl, by trivial, by simp [Hid]⟩
    case round =>
      obtain ⟨k, hk, rfl, rfl, hp⟩ := hrel
      by_cases hlt : k < s.size
      · obtain ⟨c, hcc⟩ : ∃ c, s.data.toList.getD k 0 = c := ⟨_, rfl⟩
        have hix : ∀ w, (Instr.index 9 (.string s) (.int .i64 k)).run Try.prog w = .ok (.int .u8 c.toNat) w := fun w => run_byte w _ s _ k k c Try.underlying9 rfl hlt hcc
        have HC : Hid (s.data.toList.getD k 0 = c) := hcc
        clear hcc
        cases hpc : plainB c with
        | true =>
          go_wp2_with (go_at_call 43; refine (nplain_calls _ _).mono ?_; rintro e w' ⟨rfl, hw'⟩; have hx' := hw'.symm; subst hx')
          go_roundw
          case rel => exact ⟨k + 1, by omega, by go_num, by trivial, all_take_succ _ _ k (by have := HZ.out; omega) hp.out (by rw [HC.out]; show (plainB c || _) = true; rw [hpc]; rfl)⟩
          case measure => simp [intOf]; omega
        | false =>
          by_cases h45 : c = 45
          · have hc' : ((c.toNat : Int) != 45) = false := by subst h45; decide
            have HR : Hid ((c == 45) = true) := by show (c == 45) = true; subst h45; decide
            clear h45
            go_wp2_with (go_at_call 43; refine (nplain_calls _ _).mono ?_; rintro e w' ⟨rfl, hw'⟩; have hx' := hw'.symm; subst hx')
            go_roundw
            case rel => exact ⟨k + 1, by omega, by go_num, by trivial, all_take_succ _ _ k (by have := HZ.out; omega) hp.out (by rw [HC.out, HR.out, Bool.or_true])⟩
            case measure => simp [intOf]; omega
          · have hc' : ((c.toNat : Int) != 45) = true := by
              rw [bne_iff_ne]; intro h; exact h45 (UInt8.toNat_inj.1 (by rw [show (45 : UInt8).toNat = 45 from rfl]; omega))
            have HR : Hid ((c == 45) = false) := by simpa [Hid] using h45
            clear h45
            go_wp2_with (go_at_call 43; refine (nplain_calls _ _).mono ?_; rintro e w' ⟨rfl, hw'⟩; have hx' := hw'.symm; subst hx')
            go_ret
            exact ⟨ret_bool (by rw [HT.out, all_not _ _ k (by have := HZ.out; omega) (by rw [HC.out]; show (plainB c || _) = false; rw [hpc, HR.out]; rfl)]; simp), rfl⟩
      · obtain rfl : k = s.size := by omega
        go_wp2
        go_ret
        exact ⟨ret_bool (by have h := hp.out; rw [← HZ.out, List.take_length] at h; rw [HT.out, hb, HD.out, HQ.out, h]; rfl), rfl⟩

set_option maxRecDepth 100000 in
set_option maxHeartbeats 1000000 in
theorem rtag_calls (s : ByteArray) (w : World) (hs : s.size ≤ 9223372036854775807) : Calls Try.prog 25 #[.string s] w fun e w' => e = .returned (.bool (tagN s.data.toList)) ∧ w' = w := by
  have hz := size_data s
  have HZ : Hid (s.data.toList.length = s.size) := hz
  have HT : Hid (tagN s.data.toList = (beginsN s.data.toList && s.data.toList.all plainB)) := rfl
  go_enter Try.func25, Try.ntmps25
  by_cases h0 : s.size = 0
  · have HB : Hid (beginsN s.data.toList = false) := by simp [Hid, beginsN, hz, h0]
    clear hz
    go_wp2
    all_goals go_ret
    exact ⟨ret_bool (by rw [HT.out, HB.out]; rfl), rfl⟩
  by_cases h1 : 100 < s.size
  · have HB : Hid (beginsN s.data.toList = false) := by simp [Hid, beginsN, hz]; omega
    clear hz
    go_wp2
    all_goals go_ret
    exact ⟨ret_bool (by rw [HT.out, HB.out]; rfl), rfl⟩
  obtain ⟨d, hdd⟩ : ∃ d, s.data.toList.getD 0 0 = d := ⟨_, rfl⟩
  have hiy : ∀ w, (Instr.index 9 (.string s) (.int .i64 0)).run Try.prog w = .ok (.int .u8 d.toNat) w := fun w => run_byte w _ s _ 0 0 d Try.underlying9 rfl (by omega) hdd
  have HB : Hid (beginsN s.data.toList = smallB d) := by
    have : (1 ≤ s.size ∧ s.size ≤ 100) := by omega
    show beginsN _ = _
    unfold beginsN
    rw [hz, hdd, decide_eq_true this]; rfl
  clear hdd hz
  cases hd : smallB d with
  | false =>
    go_wp2_with (go_at_call 44; refine (small_calls _ _).mono ?_; rintro e w' ⟨rfl, hw'⟩; have hx' := hw'.symm; subst hx')
    all_goals go_ret
    exact ⟨ret_bool (by rw [HT.out, HB.out, hd]; rfl), rfl⟩
  | true =>
    go_wp2_with (go_at_call 44; refine (small_calls _ _).mono ?_; rintro e w' ⟨rfl, hw'⟩; have hx' := hw'.symm; subst hx')
    clear hiy
    go_loopw [3, 20] (fun _ i wr => ∃ k : Nat, k ≤ s.size ∧ i = .int .i64 k ∧ wr = w ∧ Hid ((s.data.toList.take k).all plainB = true)) (fun _ i _ => s.size - (intOf i).toNat)
    case atStart => exact ⟨0, by omega, rfl, by trivial, by simp [Hid]⟩
    case round =>
      obtain ⟨k, hk, rfl, rfl, hp⟩ := hrel
      by_cases hlt : k < s.size
      · obtain ⟨c, hcc⟩ : ∃ c, s.data.toList.getD k 0 = c := ⟨_, rfl⟩
        have hix : ∀ w, (Instr.index 9 (.string s) (.int .i64 k)).run Try.prog w = .ok (.int .u8 c.toNat) w := fun w => run_byte w _ s _ k k c Try.underlying9 rfl hlt hcc
        have HC : Hid (s.data.toList.getD k 0 = c) := hcc
        clear hcc
        cases hpc : smallB c with
        | true =>
          go_wp2_with (go_at_call 44; refine (small_calls _ _).mono ?_; rintro e w' ⟨rfl, hw'⟩; have hx' := hw'.symm; subst hx')
          go_roundw
          case rel => exact ⟨k + 1, by omega, by go_num, by trivial, all_take_succ _ _ k (by have := HZ.out; omega) hp.out (by rw [HC.out]; unfold plainB; rw [hpc]; rfl)⟩
          case measure => simp [intOf]; omega
        | false =>
          cases hpd : digB c with
          | true =>
            go_wp2_with (first
              | (go_at_call 44; refine (small_calls _ _).mono ?_; rintro e w' ⟨rfl, hw'⟩; have hx' := hw'.symm; subst hx')
              | (go_at_call 45; refine (rdig_calls _ _).mono ?_; rintro e w' ⟨rfl, hw'⟩; have hx' := hw'.symm; subst hx'))
            go_roundw
            case rel => exact ⟨k + 1, by omega, by go_num, by trivial, all_take_succ _ _ k (by have := HZ.out; omega) hp.out (by rw [HC.out]; unfold plainB; rw [hpc, hpd]; rfl)⟩
            case measure => simp [intOf]; omega
          | false =>
            go_wp2_with (first
              | (go_at_call 44; refine (small_calls _ _).mono ?_; rintro e w' ⟨rfl, hw'⟩; have hx' := hw'.symm; subst hx')
              | (go_at_call 45; refine (rdig_calls _ _).mono ?_; rintro e w' ⟨rfl, hw'⟩; have hx' := hw'.symm; subst hx'))
            go_ret
            exact ⟨ret_bool (by rw [HT.out, all_not _ _ k (by have := HZ.out; omega) (by rw [HC.out]; unfold plainB; rw [hpc, hpd]; rfl)]; simp), rfl⟩
      · obtain rfl : k = s.size := by omega
        go_wp2
        go_ret
        exact ⟨ret_bool (by have h := hp.out; rw [← HZ.out, List.take_length] at h; rw [HT.out, HB.out, hd, h]; rfl), rfl⟩

set_option maxRecDepth 100000 in
set_option maxHeartbeats 2000000 in
theorem rattr_calls (s : ByteArray) (w : World) (hs : s.size ≤ 9223372036854775807) : Calls Try.prog 27 #[.string s] w fun e w' => e = .returned (.bool (attrN s.data.toList)) ∧ w' = w := by
  have hz := size_data s
  have HZ : Hid (s.data.toList.length = s.size) := hz
  have HT : Hid (attrN s.data.toList = (beginsN s.data.toList && (s.data.toList.getD (s.data.toList.length - 1) 0 != 45) && s.data.toList.all fun c => smallB c || digB c || c == 45)) := rfl
  go_enter Try.func27, Try.ntmps27
  by_cases h0 : s.size = 0
  · have HB : Hid (beginsN s.data.toList = false) := by simp [Hid, beginsN, hz, h0]
    clear hz
    go_wp2
    all_goals go_ret
    exact ⟨ret_bool (by rw [HT.out, HB.out]; rfl), rfl⟩
  by_cases h1 : 100 < s.size
  · have HB : Hid (beginsN s.data.toList = false) := by simp [Hid, beginsN, hz]; omega
    clear hz
    go_wp2
    all_goals go_ret
    exact ⟨ret_bool (by rw [HT.out, HB.out]; rfl), rfl⟩
  obtain ⟨d, hdd⟩ : ∃ d, s.data.toList.getD 0 0 = d := ⟨_, rfl⟩
  have hiy : ∀ w, (Instr.index 9 (.string s) (.int .i64 0)).run Try.prog w = .ok (.int .u8 d.toNat) w := fun w => run_byte w _ s _ 0 0 d Try.underlying9 rfl (by omega) hdd
  have HB : Hid (beginsN s.data.toList = smallB d) := by
    have : (1 ≤ s.size ∧ s.size ≤ 100) := by omega
    show beginsN _ = _
    unfold beginsN
    rw [hz, hdd, decide_eq_true this]; rfl
  clear hdd hz
  obtain ⟨f, hff⟩ : ∃ f, s.data.toList.getD (s.size - 1) 0 = f := ⟨_, rfl⟩
  have hiz : ∀ w, (Instr.index 9 (.string s) (.int .i64 ((s.size : Int) - 1))).run Try.prog w = .ok (.int .u8 f.toNat) w := fun w => run_byte w _ s _ _ (s.size - 1) f Try.underlying9 (by omega) (by omega) hff
  have HD : Hid (s.data.toList.getD (s.data.toList.length - 1) 0 = f) := by rw [HZ.out]; exact hff
  clear hff
  cases hd : smallB d with
  | false =>
    go_wp2_with (go_at_call 44; refine (small_calls _ _).mono ?_; rintro e w' ⟨rfl, hw'⟩; have hx' := hw'.symm; subst hx')
    all_goals go_ret
    exact ⟨ret_bool (by rw [HT.out, HB.out, hd]; rfl), rfl⟩
  | true =>
    by_cases hf : f = 45
    · subst hf
      go_wp2_with (go_at_call 44; refine (small_calls _ _).mono ?_; rintro e w' ⟨rfl, hw'⟩; have hx' := hw'.symm; subst hx')
      all_goals go_ret
      all_goals exact ⟨ret_bool (by rw [HT.out, HD.out]; simp), rfl⟩
    have hf' : ((f.toNat : Int) == 45) = false := by
      rw [beq_eq_false_iff_ne]; intro h; exact hf (UInt8.toNat_inj.1 (by rw [show (45 : UInt8).toNat = 45 from rfl]; omega))
    have HQ : Hid ((f != 45) = true) := by simpa [Hid] using hf
    clear hf
    go_wp2_with (go_at_call 44; refine (small_calls _ _).mono ?_; rintro e w' ⟨rfl, hw'⟩; have hx' := hw'.symm; subst hx')
    clear hiy hiz
    go_loopw [3, 28] (fun _ i wr => ∃ k : Nat, k ≤ s.size ∧ i = .int .i64 k ∧ wr = w ∧ Hid ((s.data.toList.take k).all (fun c => smallB c || digB c || c == 45) = true)) (fun _ i _ => s.size - (intOf i).toNat)
    case atStart => exact ⟨0, by omega, rfl, by trivial, by simp [Hid]⟩
    case round =>
      obtain ⟨k, hk, rfl, rfl, hp⟩ := hrel
      by_cases hlt : k < s.size
      · obtain ⟨c, hcc⟩ : ∃ c, s.data.toList.getD k 0 = c := ⟨_, rfl⟩
        have hix : ∀ w, (Instr.index 9 (.string s) (.int .i64 k)).run Try.prog w = .ok (.int .u8 c.toNat) w := fun w => run_byte w _ s _ k k c Try.underlying9 rfl hlt hcc
        have HC : Hid (s.data.toList.getD k 0 = c) := hcc
        clear hcc
        cases hpc : smallB c with
        | true =>
          go_wp2_with (go_at_call 44; refine (small_calls _ _).mono ?_; rintro e w' ⟨rfl, hw'⟩; have hx' := hw'.symm; subst hx')
          go_roundw
          case rel => exact ⟨k + 1, by omega, by go_num, by trivial, all_take_succ _ _ k (by have := HZ.out; omega) hp.out (by rw [HC.out, hpc]; rfl)⟩
          case measure => simp [intOf]; omega
        | false =>
          cases hpd : digB c with
          | true =>
            go_wp2_with (first
              | (go_at_call 44; refine (small_calls _ _).mono ?_; rintro e w' ⟨rfl, hw'⟩; have hx' := hw'.symm; subst hx')
              | (go_at_call 45; refine (rdig_calls _ _).mono ?_; rintro e w' ⟨rfl, hw'⟩; have hx' := hw'.symm; subst hx'))
            go_roundw
            case rel => exact ⟨k + 1, by omega, by go_num, by trivial, all_take_succ _ _ k (by have := HZ.out; omega) hp.out (by rw [HC.out, hpc, hpd]; rfl)⟩
            case measure => simp [intOf]; omega
          | false =>
            by_cases h45 : c = 45
            · have hc' : ((c.toNat : Int) != 45) = false := by subst h45; decide
              have HR : Hid ((c == 45) = true) := by show (c == 45) = true; subst h45; decide
              clear h45
              go_wp2_with (first
                | (go_at_call 44; refine (small_calls _ _).mono ?_; rintro e w' ⟨rfl, hw'⟩; have hx' := hw'.symm; subst hx')
                | (go_at_call 45; refine (rdig_calls _ _).mono ?_; rintro e w' ⟨rfl, hw'⟩; have hx' := hw'.symm; subst hx'))
              go_roundw
              case rel => exact ⟨k + 1, by omega, by go_num, by trivial, all_take_succ _ _ k (by have := HZ.out; omega) hp.out (by rw [HC.out, HR.out, Bool.or_true])⟩
              case measure => simp [intOf]; omega
            · have hc' : ((c.toNat : Int) != 45) = true := by
                rw [bne_iff_ne]; intro h; exact h45 (UInt8.toNat_inj.1 (by rw [show (45 : UInt8).toNat = 45 from rfl]; omega))
              have HR : Hid ((c == 45) = false) := by simpa [Hid] using h45
              clear h45
              go_wp2_with (first
                | (go_at_call 44; refine (small_calls _ _).mono ?_; rintro e w' ⟨rfl, hw'⟩; have hx' := hw'.symm; subst hx')
                | (go_at_call 45; refine (rdig_calls _ _).mono ?_; rintro e w' ⟨rfl, hw'⟩; have hx' := hw'.symm; subst hx'))
              go_ret
              exact ⟨ret_bool (by rw [HT.out, all_not _ _ k (by have := HZ.out; omega) (by rw [HC.out, hpc, hpd, HR.out]; rfl)]; simp), rfl⟩
      · obtain rfl : k = s.size := by omega
        go_wp2
        go_ret
        exact ⟨ret_bool (by have h := hp.out; rw [← HZ.out, List.take_length] at h; rw [HT.out, HB.out, hd, HD.out, HQ.out, h]; rfl), rfl⟩

end Go.Proofs.Ytobbgmhpmoincaa.N
