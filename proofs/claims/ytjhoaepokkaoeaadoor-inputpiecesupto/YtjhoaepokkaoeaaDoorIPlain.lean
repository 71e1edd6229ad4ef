/- What is proved here: the contracts of input.Plain and sieveref03.Plain (with ValidRune, isNonchar, Char): what they return for any rune, and that it is one and the same. -/
import Derived.WalkKit
import Derived.Below
import Derived.Laws.BitsAllLaws
import Derived.Test.YtjhoaepokkaoeaaDoorProg
namespace Go.Proofs.YtjhoaepokkaoeaaDoor.U
open Go.RowKit

/-- The rune that stands for a rune. -/
def plainZ (r : Int) : Int :=
  if r = 13 then 10 else if r = 9 ∨ r = 10 ∨ r = 12 then r
  else if r < 32 ∨ (127 ≤ r ∧ r ≤ 159) ∨ (55296 ≤ r ∧ r ≤ 57343) ∨ 1114111 < r ∨ (64976 ≤ r ∧ r ≤ 65007) ∨ 65534 ≤ r % 65536 then 65533 else r
theorem plainZ_idem (r : Int) : plainZ (plainZ r) = plainZ r := by
  unfold plainZ
  repeat' split
  all_goals omega

theorem ret_boolI {a b : Bool} (h : a = b) : Ending.returned (.bool a) = .returned (.bool b) := by rw [h]
theorem ret_i32I {a b : Int} (h : a = b) : Ending.returned (.int .i32 a) = .returned (.int .i32 b) := by rw [h]

def validZ (r : Int) : Bool := decide (0 ≤ r ∧ r < 55296 ∨ 57343 < r ∧ r ≤ 1114111)
set_option maxRecDepth 100000 in
theorem vrune_calls (r : Int) (w : World) : Calls Tryd.prog 59 #[.int .i32 r] w fun e w' => e = .returned (.bool (validZ r)) ∧ w' = w := by
  go_enter Tryd.func59, Tryd.ntmps59
  go_wp2
  all_goals go_ret
  all_goals refine ⟨ret_boolI ?_, rfl⟩
  all_goals unfold validZ
  all_goals simp
  all_goals omega

theorem mask16 (r : Int) (h0 : 0 ≤ r) (h1 : r ≤ 1114111) : bits .and .i32 r 65535 = r % 65536 := by
  obtain ⟨a, rfl⟩ := Int.eq_ofNat_of_zero_le h0
  show IntKind.i32.wrap ((BitVec.ofInt 32 (a : Int) &&& BitVec.ofInt 32 ((65535 : Nat) : Int)).toNat : Int) = _
  rw [BitVec.toNat_and, ofInt_u32 a (by omega), ofInt_u32 65535 (by omega), nat_mask16]
  simp [IntKind.wrap, IntKind.bits, IntKind.signed]
  omega
def noncharZ (r : Int) : Bool := decide ((64976 ≤ r ∧ r ≤ 65007) ∨ 65534 ≤ r % 65536)
set_option maxRecDepth 100000 in
theorem nonchar_calls (r : Int) (h0 : 0 ≤ r) (h1 : r ≤ 1114111) (w : World) : Calls Tryd.prog 60 #[.int .i32 r] w fun e w' => e = .returned (.bool (noncharZ r)) ∧ w' = w := by
  go_enter Tryd.func60, Tryd.ntmps60
  go_wp2
  all_goals go_ret
  all_goals refine ⟨ret_boolI ?_, rfl⟩
  all_goals unfold noncharZ
  all_goals rw [Bool.eq_iff_iff]
  all_goals simp [mask16 r h0 h1]
  all_goals omega

set_option maxRecDepth 100000 in
set_option maxHeartbeats 1000000 in
theorem plain_calls (r : Int) (h0 : -2147483648 ≤ r) (h1 : r ≤ 2147483647) (w : World) : Calls Tryd.prog 47 #[.int .i32 r] w fun e w' => e = .returned (.int .i32 (plainZ r)) ∧ w' = w := by
  go_enter Tryd.func47, Tryd.ntmps47
  go_wp2_with (first
    | (go_at_call 59; refine (vrune_calls _ _).mono ?_; rintro e w' ⟨rfl, rfl⟩)
    | (go_at_call 60; refine (nonchar_calls _ (by simp_all [validZ]; omega) (by simp_all [validZ]; omega) _).mono ?_; rintro e w' ⟨rfl, rfl⟩))
  all_goals go_ret
  all_goals refine ⟨ret_i32I ?_, rfl⟩
  all_goals simp only [validZ, noncharZ, decide_eq_true_eq, decide_eq_false_iff_not, beq_iff_eq, beq_eq_false_iff_ne, ne_eq, Bool.not_eq_true', Bool.not_eq_false'] at *
  all_goals unfold plainZ
  all_goals repeat' split
  all_goals omega

set_option maxRecDepth 100000 in
theorem rcharI_calls (r : Int) (w : World) : Calls Tryd.prog 54 #[.int .i32 r] w fun e w' => e = .returned (.bool (validZ r)) ∧ w' = w := by
  go_enter Tryd.func54, Tryd.ntmps54
  go_wp2
  all_goals go_ret
  all_goals refine ⟨ret_boolI ?_, rfl⟩
  all_goals unfold validZ
  all_goals rw [Bool.eq_iff_iff]
  all_goals simp
  all_goals omega

set_option maxRecDepth 100000 in
set_option maxHeartbeats 1000000 in
theorem rplain_calls (r : Int) (h0 : -2147483648 ≤ r) (h1 : r ≤ 2147483647) (w : World) : Calls Tryd.prog 42 #[.int .i32 r] w fun e w' => e = .returned (.int .i32 (plainZ r)) ∧ w' = w := by
  go_enter Tryd.func42, Tryd.ntmps42
  go_wp2_with (go_at_call 54; refine (rcharI_calls _ _).mono ?_; rintro e w' ⟨rfl, rfl⟩)
  all_goals go_ret
  all_goals refine ⟨ret_i32I ?_, rfl⟩
  all_goals simp only [validZ, decide_eq_true_eq, decide_eq_false_iff_not, beq_iff_eq, beq_eq_false_iff_ne, ne_eq, Bool.not_eq_true', Bool.not_eq_false'] at *
  all_goals unfold plainZ
  all_goals repeat' split
  all_goals omega

end Go.Proofs.YtjhoaepokkaoeaaDoor.U
