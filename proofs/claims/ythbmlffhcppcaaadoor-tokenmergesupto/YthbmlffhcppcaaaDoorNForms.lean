/- What is proved here: the contracts of plain, begins, TagName and AttrName of names, and of small, digit, TagName and AttrName of sieveref04: whether a name may be written. -/
import Derived.Test.YthbmlffhcppcaaaDoorNMath
import Derived.Test.YthbmlffhcppcaaaDoorNClass
namespace Go.Proofs.YthbmlffhcppcaaaDoor.N
open Go.RowKit

theorem at_data (s : ByteArray) (k : Nat) (h : k < s.size) : s[k] = s.data.toList.getD k 0 := by
  obtain ⟨⟨l⟩⟩ := s
  have : k < l.length := h
  simp [this]
  rfl
theorem size_data (s : ByteArray) : s.data.toList.length = s.size := (Lib.size_eq s).symm
/-- A byte of a text. -/
theorem run_byte {P : Program} (w : World) (t : TypeId) (s : ByteArray) (k : IntKind) (i : Int) (j : Nat) (c : UInt8) (h : P.underlying t = some .string) (hi : i = j) (hj : j < s.size) (hc : s.data.toList.getD j 0 = c) :
    (Instr.index t (.string s) (.int k i)).run P w = .ok (.int .u8 c.toNat) w := by
  subst hi
  rw [run_index_string w t s k j h, dif_pos ⟨by omega, by omega⟩, ← hc]
  have := at_data s j hj
  simp only [Int.toNat_natCast]
  rw [this]
theorem all_take_succ (l : List UInt8) (p : UInt8 → Bool) (k : Nat) (h : k < l.length) (h0 : (l.take k).all p = true) (h1 : p (l.getD k 0) = true) : (l.take (k + 1)).all p = true := by
  rw [List.take_succ_eq_append_getElem h, List.all_append, h0]
  simp [List.getD, h] at h1
  simp [h1]
theorem all_not (l : List UInt8) (p : UInt8 → Bool) (k : Nat) (h : k < l.length) (h1 : p (l.getD k 0) = false) : l.all p = false := by
  rw [List.all_eq_false]
  refine ⟨l[k], List.getElem_mem _, ?_⟩
  simp [List.getD, h] at h1
  simp [h1]

def plainB (c : UInt8) : Bool := smallB c || digB c
def beginsN (l : List UInt8) : Bool := decide (1 ≤ l.length ∧ l.length ≤ 100) && smallB (l.getD 0 0)
end Go.Proofs.YthbmlffhcppcaaaDoor.N
