/- What is proved here: the contracts of names.Sets and sieveref04.SetsOf: the numbers of the sets that have a name. -/
import Derived.Test.YtjgppdjbcmadcaaNMembers
namespace Go.Proofs.Ytjgppdjbcmadcaa.N
open Go.RowKit C

/-- The sets that have a name, those below k. -/
def setsTo (l : List UInt8) (k : Nat) : List Nat := (List.range k).filter fun j => decide (l ∈ SW j)
def setsOf (l : List UInt8) : List Nat := setsTo l 16
theorem setsTo_succ (l : List UInt8) (k : Nat) : setsTo l (k + 1) = setsTo l k ++ (if l ∈ SW k then [k] else []) := by
  unfold setsTo
  rw [List.range_succ, List.filter_append]
  congr 1
  by_cases h : l ∈ SW k <;> simp [h]
theorem setsTo_length (l : List UInt8) (k : Nat) : (setsTo l k).length ≤ k := by
  have := List.length_filter_le (fun j => decide (l ∈ SW j)) (List.range k)
  simpa [setsTo] using this
theorem mem_setsOf (l : List UInt8) (k : Nat) : k ∈ setsOf l ↔ k < 16 ∧ l ∈ SW k := by
  simp [setsOf, setsTo]
def nvs (l : List Nat) : List Value := l.map fun (k : Nat) => Value.int .i64 (k : Int)
theorem nvs_append (a b : List Nat) : nvs (a ++ b) = nvs a ++ nvs b := by simp [nvs]
theorem infoSet : (Try.prog.info? 22).map (fun i => (i.zero, i.size, i.bytes)) = some (some (.int .i64 0), 1, 8) := by kernel_rfl
theorem infoInt : (Try.prog.info? 3).map (fun i => (i.zero, i.size, i.bytes)) = some (some (.int .i64 0), 1, 8) := by kernel_rfl
theorem inZ_nat (k : Nat) (hk : k < 16) (l : List UInt8) : inZ (k : Int) l = decide (l ∈ SW k) := by
  unfold inZ
  rw [if_pos (by omega)]
  simp

end Go.Proofs.Ytjgppdjbcmadcaa.N
