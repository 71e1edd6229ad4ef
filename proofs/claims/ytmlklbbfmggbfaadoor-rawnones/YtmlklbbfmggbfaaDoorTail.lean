/- What is proved here: contracts of utf.Tail and utf.Width. -/
import Derived.Test.YtmlklbbfmggbfaaDoorIter
import Derived.Test.YtmlklbbfmggbfaaDoorBun1
namespace Go.Proofs.YtmlklbbfmggbfaaDoor.U
open Go.RowKit Go.Shelf

/-- How many bytes at the end may be a rune's beginning, looked for from a place on. -/
def tailF (bs : List UInt8) : Nat → Nat → Nat
  | 0, _ => 0
  | f + 1, k => if k < bs.length then (if nextOpen (bs.drop k) = true then nextN (bs.drop k) else tailF bs f (k + 1)) else 0
def tailN (bs : List UInt8) : Nat := tailF bs 3 (bs.length - 3)
theorem tailF_on {bs : List UInt8} {k m : Nat} (h : k < bs.length) (ho : nextOpen (bs.drop k) = false) (hm : bs.length ≤ k + m) : tailF bs m k = tailF bs (m - 1) (k + 1) := by
  obtain ⟨f, rfl⟩ : ∃ f, m = f + 1 := ⟨m - 1, by omega⟩
  conv => lhs; unfold tailF
  rw [if_pos h, if_neg (by simp [ho])]; rfl
theorem tailF_yes {bs : List UInt8} {k m : Nat} (h : k < bs.length) (ho : nextOpen (bs.drop k) = true) (hm : bs.length ≤ k + m) : tailF bs m k = nextN (bs.drop k) := by
  obtain ⟨f, rfl⟩ : ∃ f, m = f + 1 := ⟨m - 1, by omega⟩
  unfold tailF
  rw [if_pos h, if_pos ho]
theorem tailF_end {bs : List UInt8} {k m : Nat} (h : ¬ k < bs.length) : tailF bs m k = 0 := by
  cases m with
  | zero => rfl
  | succ m => unfold tailF; rw [if_neg h]
theorem ret_i64 {a b : Int} (h : a = b) : Ending.returned (.int .i64 a) = .returned (.int .i64 b) := by rw [h]

end Go.Proofs.YtmlklbbfmggbfaaDoor.U
