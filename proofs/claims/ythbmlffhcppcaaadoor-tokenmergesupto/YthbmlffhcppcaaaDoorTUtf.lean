/- What is proved here: the contracts of isUtf and tagName of token, and of valid of sieveref07: whether a text is UTF-8, and whether it may be the name of a tag. -/
import Derived.Test.YthbmlffhcppcaaaDoorTAttrs
import Derived.Test.YthbmlffhcppcaaaDoorValid
import Derived.Test.YthbmlffhcppcaaaDoorRef
namespace Go.Proofs.YthbmlffhcppcaaaDoor.T
open Go.RowKit N

def utfB (l : List UInt8) : Bool := (U.pcs l).all U.Pc.ok

theorem byteArr_eta (s : ByteArray) : (⟨s.data.toList.toArray⟩ : ByteArray) = s := by cases s; simp
set_option maxRecDepth 100000 in
theorem conv_new (s : ByteArray) (w : World) : ∃ cap w', (convert 9 60 (.string s)).run Tryd.prog w = .ok (.slice (some ⟨w.heap.size, 0, none⟩) s.size cap) w' ∧ U.HasB w'.heap.size w' (.slice (some ⟨w.heap.size, 0, none⟩) s.size cap) s.data.toList ∧ Below w.heap.size w w' := by
  have h2 := Lib.run_convert_string_bytes (P := Tryd.prog) w 9 60 5 s Tryd.underlying9 Tryd.underlying60 Tryd.underlying5
  have hrow := U.bytesWorld_row w 5 s.data.toList
  rw [byteArr_eta] at hrow
  refine ⟨_, _, h2, U.RowB.hasB0 (size_data s).symm (by rw [← size_data s]; exact hrow) (grownCap_ge _ _ _ _) _ (by rw [Lib.bytesWorld_size]; omega), U.bytesWorld_below w 5 s⟩

set_option maxRecDepth 100000 in
theorem isUtf_calls (s : ByteArray) (w : World) (hs : s.size ≤ 140737488355328) : Calls Tryd.prog 45 #[.string s] w fun e w' => e = .returned (.bool (utfB s.data.toList)) ∧ Below w.heap.size w w' := by
  obtain ⟨cap, w', hc, hH, hb⟩ := conv_new s w
  have VC : Hid (Calls Tryd.prog 60 #[.slice (some ⟨w.heap.size, 0, none⟩) s.size cap] w' fun e w'' => e = .returned (.bool (utfB s.data.toList)) ∧ Below w'.heap.size w' w'') := U.valid_calls _ _ _ w' (by rw [size_data]; exact hs) hH
  clear hH
  go_enter Tryd.func45, Tryd.ntmps45
  go_wp2_with (go_at_call 60; refine VC.out.mono ?_; rintro e w2 ⟨rfl, hb2⟩)
  go_ret
  exact ⟨rfl, hb.trans (hb2.mono hb.size)⟩
set_option maxRecDepth 100000 in
theorem rutf_calls (s : ByteArray) (w : World) (hs : s.size ≤ 4398046511104) : Calls Tryd.prog 27 #[.string s] w fun e w' => e = .returned (.bool (utfB s.data.toList)) ∧ Below w.heap.size w w' := by
  obtain ⟨cap, w', hc, hH, hb⟩ := conv_new s w
  have VC : Hid (Calls Tryd.prog 46 #[.slice (some ⟨w.heap.size, 0, none⟩) s.size cap] w' fun e w'' => e = .returned (.bool (utfB s.data.toList)) ∧ Below w'.heap.size w' w'') := U.rvalid_calls _ _ _ w' (by rw [size_data]; exact hs) hH
  clear hH
  go_enter Tryd.func27, Tryd.ntmps27
  go_wp2_with (go_at_call 46; refine VC.out.mono ?_; rintro e w2 ⟨rfl, hb2⟩)
  go_ret
  exact ⟨rfl, hb.trans (hb2.mono hb.size)⟩

set_option maxRecDepth 100000 in
set_option maxHeartbeats 1000000 in
theorem tagName_calls (s : ByteArray) (w : World) (hs : s.size ≤ 9223372036854775807) : Calls Tryd.prog 43 #[.string s] w fun e w' => e = .returned (.bool (tagB s.data.toList)) ∧ w' = w := by
  have HZ : Hid (s.data.toList.length = s.size) := size_data s
  by_cases h0 : s.size = 0
  · have e0 : s = ByteArray.empty := by
      have : s.data.toList = [] := List.length_eq_zero_iff.1 (by rw [HZ.out]; exact h0)
      have h2 : s.data = #[] := by simpa using this
      cases s; simp at h2; subst h2; rfl
    subst e0
    go_enter Tryd.func43, Tryd.ntmps43
    go_wp2
    all_goals go_ret
    exact ⟨ret_bool rfl, rfl⟩
  · have e1 : s.toList.isEmpty = false := by
      rw [Lib.toList_data, List.isEmpty_eq_false_iff]
      intro h; rw [← List.length_eq_zero_iff, HZ.out] at h; exact h0 h
    obtain ⟨c, hcc⟩ : ∃ c, s.data.toList.getD 0 0 = c := ⟨_, rfl⟩
    have hix : ∀ w, (Instr.index 9 (.string s) (.int .i64 0)).run Tryd.prog w = .ok (.int .u8 c.toNat) w := fun w => run_byte w _ s _ 0 0 c Tryd.underlying9 rfl (by omega) hcc
    have HT : Hid (tagB s.data.toList = (smallB c && lastB s.data.toList)) := by
      show _ = _
      unfold tagB
      rw [hcc, HZ.out, decide_eq_true (by omega : 0 < s.size), Bool.true_and]
    clear hcc
    go_enter Tryd.func43, Tryd.ntmps43
    cases hc : smallB c with
    | true =>
      have hc' : 97 ≤ (c.toNat : Int) ∧ (c.toNat : Int) ≤ 122 := by simp [smallB] at hc; omega
      have q1 : decide ((97 : Int) ≤ (c.toNat : Int)) = true := by simpa using hc'.1
      have q2 : decide ((c.toNat : Int) ≤ 122) = true := by simpa using hc'.2
      go_wp2_with (go_at_call 58; refine (lasting_calls s _ hs).mono ?_; rintro e w' ⟨rfl, hw⟩; have hx' := hw.symm; subst hx')
      all_goals go_ret
      exact ⟨ret_bool (by rw [HT.out, hc]; rfl), rfl⟩
    | false =>
      have hc' : (c.toNat : Int) < 97 ∨ 122 < (c.toNat : Int) := by simp [smallB] at hc; omega
      rcases hc' with hc' | hc'
      · have q1 : decide ((97 : Int) ≤ (c.toNat : Int)) = false := by simpa using hc'
        go_wp2
        all_goals go_ret
        exact ⟨ret_bool (by rw [HT.out, hc]; rfl), rfl⟩
      · have q1 : decide ((97 : Int) ≤ (c.toNat : Int)) = true := by simp; omega
        have q2 : decide ((c.toNat : Int) ≤ 122) = false := by simpa using hc'
        go_wp2
        all_goals go_ret
        exact ⟨ret_bool (by rw [HT.out, hc]; rfl), rfl⟩
end Go.Proofs.YthbmlffhcppcaaaDoor.T
