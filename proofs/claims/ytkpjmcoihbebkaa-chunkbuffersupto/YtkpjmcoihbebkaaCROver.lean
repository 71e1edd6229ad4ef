/- What is proved here: the contract of Over of a sieveref02.Source. -/
import Derived.Test.YtkpjmcoihbebkaaBun4
namespace Go.Proofs.Ytkpjmcoihbebkaa.C
open Go.RowKit

/-- The document's source in memory: at the step number i, behind so many of its bytes and of all. -/
def RSrc (base : Nat) (w : World) (g : Nat) (l : List (List UInt8 × Bool)) (i part told : Nat) : Prop :=
  ∃ v, Blk w g #[v, .int .i64 i, .int .i64 part, .int .i64 told] 47 ∧ g < base ∧ OwnS base 54 w v l
theorem RSrc.below {base : Nat} {w w' : World} {g : Nat} {l : List (List UInt8 × Bool)} {i part told : Nat} (h : RSrc base w g l i part told) (hb : Below w.heap.size w w') : RSrc base w' g l i part told := by
  obtain ⟨v, hB, h1, hO⟩ := h
  exact ⟨v, hB.below hb, h1, hO.below hb⟩

end Go.Proofs.Ytkpjmcoihbebkaa.C
