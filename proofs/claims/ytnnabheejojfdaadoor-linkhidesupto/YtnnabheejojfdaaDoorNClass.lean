/- What is proved here: the contracts of Letter, Upper, Digit, Hex, Blank, Value and LowerRune, of names and of sieveref04: what they return for any rune. -/
import Derived.WalkKit
import Derived.Below
import Derived.Test.YtnnabheejojfdaaDoorProg
namespace Go.Proofs.YtnnabheejojfdaaDoor.N
open Go.RowKit

theorem ret_bool {a b : Bool} (h : a = b) : Ending.returned (.bool a) = .returned (.bool b) := by rw [h]
theorem ret_i32 {a b : Int} (h : a = b) : Ending.returned (.int .i32 a) = .returned (.int .i32 b) := by rw [h]
theorem ret_i64 {a b : Int} (h : a = b) : Ending.returned (.int .i64 a) = .returned (.int .i64 b) := by rw [h]

def upperZ (r : Int) : Bool := decide (65 ≤ r ∧ r ≤ 90)
def letterZ (r : Int) : Bool := decide ((65 ≤ r ∧ r ≤ 90) ∨ (97 ≤ r ∧ r ≤ 122))
def digitZ (r : Int) : Bool := decide (48 ≤ r ∧ r ≤ 57)
def blankZ (r : Int) : Bool := decide (r = 9 ∨ r = 10 ∨ r = 12 ∨ r = 32)
def valueZ (r : Int) : Int := if 48 ≤ r ∧ r ≤ 57 then r - 48 else if 65 ≤ r ∧ r ≤ 70 then r - 55 else if 97 ≤ r ∧ r ≤ 102 then r - 87 else -1
def lowZ (r : Int) : Int := if 65 ≤ r ∧ r ≤ 90 then r + 32 else r
theorem lowZ_upper (r : Int) (h : 65 ≤ r ∧ r ≤ 90) : lowZ r = r + 32 := by unfold lowZ; rw [if_pos h]

set_option maxRecDepth 100000 in
theorem upper_calls (r : Int) (w : World) : Calls Tryd.prog 75 #[.int .i32 r] w fun e w' => e = .returned (.bool (upperZ r)) ∧ w' = w := by
  go_enter Tryd.func75, Tryd.ntmps75
  go_wp2
  all_goals go_ret
  all_goals refine ⟨ret_bool ?_, rfl⟩
  all_goals unfold upperZ
  all_goals simp
  all_goals omega
set_option maxRecDepth 100000 in
theorem rupper_calls (r : Int) (w : World) : Calls Tryd.prog 93 #[.int .i32 r] w fun e w' => e = .returned (.bool (upperZ r)) ∧ w' = w := by
  go_enter Tryd.func93, Tryd.ntmps93
  go_wp2
  all_goals go_ret
  all_goals refine ⟨ret_bool ?_, rfl⟩
  all_goals unfold upperZ
  all_goals simp
  all_goals omega
set_option maxRecDepth 100000 in
theorem digit_calls (r : Int) (w : World) : Calls Tryd.prog 63 #[.int .i32 r] w fun e w' => e = .returned (.bool (digitZ r)) ∧ w' = w := by
  go_enter Tryd.func63, Tryd.ntmps63
  go_wp2
  all_goals go_ret
  all_goals refine ⟨ret_bool ?_, rfl⟩
  all_goals unfold digitZ
  all_goals simp
  all_goals omega
set_option maxRecDepth 100000 in
theorem rdigit_calls (r : Int) (w : World) : Calls Tryd.prog 94 #[.int .i32 r] w fun e w' => e = .returned (.bool (digitZ r)) ∧ w' = w := by
  go_enter Tryd.func94, Tryd.ntmps94
  go_wp2
  all_goals go_ret
  all_goals refine ⟨ret_bool ?_, rfl⟩
  all_goals unfold digitZ
  all_goals simp
  all_goals omega
set_option maxRecDepth 100000 in
theorem letter_calls (r : Int) (w : World) : Calls Tryd.prog 62 #[.int .i32 r] w fun e w' => e = .returned (.bool (letterZ r)) ∧ w' = w := by
  go_enter Tryd.func62, Tryd.ntmps62
  go_wp2_with (go_at_call 75; refine (upper_calls _ _).mono ?_; rintro e w' ⟨rfl, rfl⟩)
  all_goals go_ret
  all_goals refine ⟨ret_bool ?_, rfl⟩
  all_goals simp only [upperZ, letterZ, decide_eq_true_eq, decide_eq_false_iff_not] at *
  all_goals first | omega | (rw [Bool.eq_iff_iff]; simp; omega)
set_option maxRecDepth 100000 in
theorem rletter_calls (r : Int) (w : World) : Calls Tryd.prog 73 #[.int .i32 r] w fun e w' => e = .returned (.bool (letterZ r)) ∧ w' = w := by
  go_enter Tryd.func73, Tryd.ntmps73
  go_wp2_with (go_at_call 93; refine (rupper_calls _ _).mono ?_; rintro e w' ⟨rfl, rfl⟩)
  all_goals go_ret
  all_goals refine ⟨ret_bool ?_, rfl⟩
  all_goals simp only [upperZ, letterZ, decide_eq_true_eq] at *
  all_goals first | omega | (rw [Bool.eq_iff_iff]; simp; omega)
set_option maxRecDepth 100000 in
theorem lrune_calls (r : Int) (h0 : -2147483648 ≤ r) (h1 : r ≤ 2147483647) (w : World) : Calls Tryd.prog 53 #[.int .i32 r] w fun e w' => e = .returned (.int .i32 (lowZ r)) ∧ w' = w := by
  go_enter Tryd.func53, Tryd.ntmps53
  go_wp2_with (go_at_call 75; refine (upper_calls _ _).mono ?_; rintro e w' ⟨rfl, rfl⟩)
  all_goals go_ret
  all_goals refine ⟨ret_i32 ?_, rfl⟩
  all_goals simp only [upperZ, decide_eq_true_eq, decide_eq_false_iff_not] at *
  all_goals unfold lowZ
  all_goals repeat' split
  all_goals try simp only [wrap32]
  all_goals omega
set_option maxRecDepth 100000 in
theorem value_calls (r : Int) (h0 : -2147483648 ≤ r) (h1 : r ≤ 2147483647) (w : World) : Calls Tryd.prog 85 #[.int .i32 r] w fun e w' => e = .returned (.int .i64 (valueZ r)) ∧ w' = w := by
  go_enter Tryd.func85, Tryd.ntmps85
  go_wp2_with (first
    | (go_at_call 63; refine (digit_calls _ _).mono ?_; rintro e w' ⟨rfl, rfl⟩)
    | (go_at_call 53; refine (lrune_calls _ h0 h1 _).mono ?_; rintro e w' ⟨rfl, rfl⟩; rw [lowZ_upper r (by omega)]))
  all_goals go_ret
  all_goals refine ⟨ret_i64 ?_, rfl⟩
  all_goals simp only [digitZ, decide_eq_true_eq, decide_eq_false_iff_not] at *
  all_goals unfold valueZ
  all_goals repeat' split
  all_goals try simp only [wrap32, wrap64]
  all_goals omega
set_option maxRecDepth 100000 in
theorem hex_calls (r : Int) (h0 : -2147483648 ≤ r) (h1 : r ≤ 2147483647) (w : World) : Calls Tryd.prog 66 #[.int .i32 r] w fun e w' => e = .returned (.bool (decide (0 ≤ valueZ r))) ∧ w' = w := by
  go_enter Tryd.func66, Tryd.ntmps66
  go_wp2_with (go_at_call 85; refine (value_calls _ h0 h1 _).mono ?_; rintro e w' ⟨rfl, rfl⟩)
  all_goals go_ret
  all_goals exact ⟨rfl, rfl⟩
end Go.Proofs.YtnnabheejojfdaaDoor.N
