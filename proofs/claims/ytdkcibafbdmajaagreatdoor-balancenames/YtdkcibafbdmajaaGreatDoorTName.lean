/- What is proved here: the contracts of lasting and tagName of token, and of stop and TagName's loop of sieveref07: which names a lexer reads whole. -/
import Derived.Test.YtdkcibafbdmajaaGreatDoorBun2
import Derived.Test.YtdkcibafbdmajaaGreatDoorBun1
import Derived.Test.YtdkcibafbdmajaaGreatDoorTShelf
namespace Go.Proofs.YtdkcibafbdmajaaGreatDoor.T
open Go.RowKit N

def endB (c : UInt8) : Bool := c == 9 || c == 10 || c == 12 || c == 32 || c == 47 || c == 62 || c == 0
def upB (c : UInt8) : Bool := decide (65 ≤ (c.toNat : Int) ∧ (c.toNat : Int) ≤ 90)
def stopB (c : UInt8) : Bool := upB c || endB c
def lastB (l : List UInt8) : Bool := l.all fun c => !stopB c

theorem ofNat_u8 (c : UInt8) : ((c.toNat : Int)).toNat.toUInt8 = c := by simp
theorem index_ends (c : UInt8) : decide (0 ≤ Lib.indexByte [9, 10, 12, 32, 47, 62, 0] c) = endB c := by
  have h : ∀ n : Fin 256, decide (0 ≤ Lib.indexByte [9, 10, 12, 32, 47, 62, 0] (UInt8.ofNat n.val)) = endB (UInt8.ofNat n.val) := by decide +kernel
  have := h ⟨c.toNat, c.toNat_lt⟩
  simpa using this
theorem ends_calls (c : UInt8) (w : World) : Calls Tryz.prog 56 #[.string ⟨#[9, 10, 12, 32, 47, 62, 0]⟩, .int .u8 c.toNat] w fun e w' => ∃ z : Int, decide (0 ≤ z) = endB c ∧ e = .returned (.int .i64 z) ∧ w = w' := by
  refine (Any.strings_IndexByte Tryz.lays137 ⟨#[9, 10, 12, 32, 47, 62, 0]⟩ (c.toNat : Int) w).mono ?_
  rintro e w' ⟨rfl, hw⟩
  exact ⟨_, index_ends c, by rw [ofNat_u8], hw.symm⟩

set_option maxRecDepth 100000 in
set_option maxHeartbeats 1000000 in
theorem lasting_calls (s : ByteArray) (w : World) (hs : s.size ≤ 9223372036854775807) : Calls Tryz.prog 37 #[.string s] w fun e w' => e = .returned (.bool (lastB s.data.toList)) ∧ w' = w := by
  have HZ : Hid (s.data.toList.length = s.size) := size_data s
  go_enter Tryz.func37, Tryz.ntmps37
  go_wp2
  go_loopw [3, 4, 7] (fun _ _ i wr => ∃ k : Nat, k ≤ s.size ∧ i = .int .i64 k ∧ wr = w ∧ Hid ((s.data.toList.take k).all (fun c => !stopB c) = true)) (fun _ _ i _ => s.size - (intOf i).toNat)
  case atStart => exact ⟨0, by omega, rfl, rfl, by simp [Hid]⟩
  case round =>
    obtain ⟨k, hk, rfl, rfl, hp⟩ := hrel
    by_cases hlt : k < s.size
    · obtain ⟨c, hcc⟩ : ∃ c, s.data.toList.getD k 0 = c := ⟨_, rfl⟩
      have hix : ∀ w, (Instr.index 9 (.string s) (.int .i64 k)).run Tryz.prog w = .ok (.int .u8 c.toNat) w := fun w => run_byte w _ s _ k k c Tryz.underlying9 rfl hlt hcc
      have HC : Hid (s.data.toList.getD k 0 = c) := hcc
      clear hcc
      have HN : Hid (∀ h : stopB c = false, (s.data.toList.take (k + 1)).all (fun c => !stopB c) = true) := fun h => all_take_succ _ _ k (by have := HZ.out; omega) hp.out (by rw [HC.out, h]; rfl)
      have HY : Hid (∀ h : stopB c = true, lastB s.data.toList = false) := fun h => all_not _ _ k (by have := HZ.out; omega) (by rw [HC.out, h]; rfl)
      clear hp
      cases hu : upB c with
      | true =>
        have hu' : 65 ≤ (c.toNat : Int) ∧ (c.toNat : Int) ≤ 90 := by simpa [upB] using hu
        have q1 : decide ((65 : Int) ≤ (c.toNat : Int)) = true := by simpa using hu'.1
        have q2 : decide ((c.toNat : Int) ≤ 90) = true := by simpa using hu'.2
        clear hu'
        go_wp2
        all_goals go_ret
        exact ⟨ret_bool (HY.out (by rw [stopB, hu]; rfl)).symm, rfl⟩
      | false =>
        have hu' : (c.toNat : Int) < 65 ∨ 90 < (c.toNat : Int) := by simp [upB] at hu; omega
        cases he : endB c with
        | true =>
          have HH := HY.out (by rw [stopB, hu, he]; rfl)
          rcases hu' with hu' | hu'
          · have q1 : decide ((65 : Int) ≤ (c.toNat : Int)) = false := by simpa using hu'
            clear hu' hu
            go_wp2_with (go_at_call 56; refine (ends_calls _ _).mono ?_; rintro e w' ⟨z, hz, rfl, rfl⟩; rw [he] at hz)
            all_goals go_ret
            exact ⟨ret_bool HH.symm, rfl⟩
          · have q1 : decide ((65 : Int) ≤ (c.toNat : Int)) = true := by simp; omega
            have q2 : decide ((c.toNat : Int) ≤ 90) = false := by simp; omega
            clear hu' hu
            go_wp2_with (go_at_call 56; refine (ends_calls _ _).mono ?_; rintro e w' ⟨z, hz, rfl, rfl⟩; rw [he] at hz)
            all_goals go_ret
            exact ⟨ret_bool HH.symm, rfl⟩
        | false =>
          have HH := HN.out (by rw [stopB, hu, he]; rfl)
          have HHH : Hid ((s.data.toList.take (k + 1)).all (fun c => !stopB c) = true) := HH
          clear HH
          rcases hu' with hu' | hu'
          · have q1 : decide ((65 : Int) ≤ (c.toNat : Int)) = false := by simpa using hu'
            clear hu' hu
            go_wp2_with (go_at_call 56; refine (ends_calls _ _).mono ?_; rintro e w' ⟨z, hz, rfl, rfl⟩; rw [he] at hz)
            go_roundw
            case rel => exact ⟨k + 1, by omega, by go_num, by trivial, HHH⟩
            case measure => simp [intOf]; omega
          · have q1 : decide ((65 : Int) ≤ (c.toNat : Int)) = true := by simp; omega
            have q2 : decide ((c.toNat : Int) ≤ 90) = false := by simp; omega
            clear hu' hu
            go_wp2_with (go_at_call 56; refine (ends_calls _ _).mono ?_; rintro e w' ⟨z, hz, rfl, rfl⟩; rw [he] at hz)
            go_roundw
            case rel => exact ⟨k + 1, by omega, by go_num, by trivial, HHH⟩
            case measure => simp [intOf]; omega
    · obtain rfl : k = s.size := by omega
      go_wp2
      go_ret
      exact ⟨ret_bool (by have h := hp.out; rw [← HZ.out, List.take_length] at h; exact h.symm), rfl⟩

def tagB (l : List UInt8) : Bool := decide (0 < l.length) && smallB (l.getD 0 0) && lastB l
end Go.Proofs.YtdkcibafbdmajaaGreatDoor.T
