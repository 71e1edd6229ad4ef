/- What is proved here: the contract of bytes.Clone at any bytes. -/
import Derived.Lib.SliceRun
import Derived.Test.YtckhnkkmcgbabaaDoorLend
import Derived.Test.YtckhnkkmcgbabaaDoorSame
namespace Go.Proofs.YtckhnkkmcgbabaaDoor.U
open Go.RowKit Go.Shelf

/-- Bytes as values. -/
def bvs (bs : List UInt8) : List Value := bs.map fun c => Value.int .u8 (c.toNat : Int)
theorem bvs_length (bs : List UInt8) : (bvs bs).length = bs.length := by simp [bvs]
theorem bvs_get (bs : List UInt8) (j : Nat) (hj : j < bs.length) : (bvs bs)[j]? = some (.int .u8 (byteAt bs j)) := by simp [bvs, byteAt, hj]
theorem hasB_owns {w : World} {base : Nat} {e : TypeId} {v : Value} {bs : List UInt8} (h : w.ownsRow base e 1 v bs.length (bvs bs)) : HasB w.heap.size w v bs ∧ ∃ a len cap, v = .slice a len cap := by
  have hlt := h.lt
  rcases h.2 with ⟨rfl, h0⟩ | ⟨g, cap, cur, rfl, hb, hg, hcap, _, hsz, ht⟩
  · exact ⟨.inl ⟨List.length_eq_zero_iff.1 h0, none, 0, rfl⟩, _, _, _, rfl⟩
  · refine ⟨?_, _, _, _, rfl⟩
    by_cases hp : bs.length = 0
    · have e0 := List.length_eq_zero_iff.1 hp
      subst e0
      exact .inl ⟨rfl, some ⟨g, 0, none⟩, cap, rfl⟩
    refine .inr ⟨by omega, g, 0, cap, rfl, hcap, lt_of_block hg, fun j hj => ?_⟩
    rw [Nat.zero_add, h.cellAt j (by omega), bvs_get bs j hj]
theorem owns_empty (w : World) (e : TypeId) : (w.alloc (.cells #[] e)).ownsRow w.heap.size e 1 (.slice (some ⟨w.heap.size, 0, none⟩) 0 0) 0 [] :=
  ⟨rfl, .inr ⟨w.heap.size, 0, #[], rfl, Nat.le_refl _, World.alloc_heap_new w _, Nat.le_refl _, Nat.zero_le _, rfl, rfl⟩⟩

end Go.Proofs.YtckhnkkmcgbabaaDoor.U
