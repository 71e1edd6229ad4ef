/- What is proved here: the contracts of TagName and AttrName, of names and of sieveref04: whether a name may be written. -/
import Derived.Test.YtdkcibafbdmajaaNForms
namespace Go.Proofs.Ytdkcibafbdmajaa.N
open Go.RowKit

set_option maxRecDepth 100000 in
set_option maxHeartbeats 1000000 in
theorem tag_calls (s : ByteArray) (w : World) (hs : s.size ≤ 9223372036854775807) : Calls Try.prog 53 #[.string s] w fun e w' => e = .returned (.bool (tagN s.data.toList)) ∧ w' = w := by
  have hz := size_data s
  have HZ : Hid (s.data.toList.length = s.size) := hz
  have HT : Hid (tagN s.data.toList = (beginsN s.data.toList && s.data.toList.all plainB)) := rfl
  clear hz
  go_enter Try.func53, Try.ntmps53
  go_wp2_with fail
  refine (begins_calls _ _).mono ?_
  rintro e w' ⟨rfl, hw'⟩
  obtain rfl : w = w' := hw'.symm
  cases hb : beginsN s.data.toList with
  | false =>
    go_wp2
    all_goals go_ret
    exact ⟨ret_bool (by rw [HT.out, hb]; rfl), rfl⟩
  | true =>
    have h100 : s.size ≤ 100 := by have := HZ.out; simp [beginsN] at hb; omega
    go_wp2
    go_loopw [3, 9] (fun _ i wr => ∃ k : Nat, k ≤ s.size ∧ i = .int .i64 k ∧ wr = w ∧ Hid ((s.data.toList.take k).all plainB = true)) (fun _ i _ => s.size - (intOf i).toNat)
    case atStart => exact ⟨0, by omega, rfl, rfl, by simp [Hid]⟩
    case round =>
      obtain ⟨k, hk, rfl, rfl, hp⟩ := hrel
      by_cases hlt : k < s.size
      · obtain ⟨c, hcc⟩ : ∃ c, s.data.toList.getD k 0 = c := ⟨_, rfl⟩
        have hix : ∀ w, (Instr.index 9 (.string s) (.int .i64 k)).run Try.prog w = .ok (.int .u8 c.toNat) w := fun w => run_byte w _ s _ k k c Try.underlying9 rfl hlt hcc
        have HC : Hid (s.data.toList.getD k 0 = c) := hcc
        clear hcc
        cases hpc : plainB c with
        | true =>
          go_wp2_with (go_at_call 73; refine (nplain_calls _ _).mono ?_; rintro e w' ⟨rfl, hw'⟩; have hx' := hw'.symm; subst hx')
          go_roundw
          case rel => exact ⟨k + 1, by omega, by go_num, by trivial, all_take_succ _ _ k (by have := HZ.out; omega) hp.out (by rw [HC.out]; exact hpc)⟩
          case measure => simp [intOf]; omega
        | false =>
          go_wp2_with (go_at_call 73; refine (nplain_calls _ _).mono ?_; rintro e w' ⟨rfl, hw'⟩; have hx' := hw'.symm; subst hx')
          go_ret
          exact ⟨ret_bool (by rw [HT.out, all_not _ _ k (by have := HZ.out; omega) (by rw [HC.out]; exact hpc)]; simp), rfl⟩
      · obtain rfl : k = s.size := by omega
        go_wp2
        go_ret
        exact ⟨ret_bool (by have h := hp.out; rw [← HZ.out, List.take_length] at h; rw [HT.out, hb, h]; rfl), rfl⟩

end Go.Proofs.Ytdkcibafbdmajaa.N
