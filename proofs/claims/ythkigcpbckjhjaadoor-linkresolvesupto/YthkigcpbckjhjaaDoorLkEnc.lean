/- What is proved here: the document's Encode of layer 12. -/
import Derived.Lib.QuietBelow
import Derived.Lib.SlBytesConst
import Derived.Test.YthkigcpbckjhjaaDoorLkEncM
namespace Go.Proofs.YthkigcpbckjhjaaDoor.L
open Go.RowKit Go.Shelf Go.Proofs.YthkigcpbckjhjaaDoor.N Go.Proofs.YthkigcpbckjhjaaDoor.U

theorem mark_cells (w : World) (t : TypeId) : ∀ j, j < 9 → (w.alloc (.cells (marks.map fun c => Value.int .u8 (c.toNat : Int)).toArray t (9, 10))).cell? ⟨w.heap.size, j, none⟩ = some (.int .u8 ((marks.getD j 0).toNat : Int)) := fun j hj => by
  rw [cell_of_row _ _ _ _ _ _ (World.alloc_heap_new w _)]
  match j, hj with
  | 0, _ => rfl
  | 1, _ => rfl
  | 2, _ => rfl
  | 3, _ => rfl
  | 4, _ => rfl
  | 5, _ => rfl
  | 6, _ => rfl
  | 7, _ => rfl
  | 8, _ => rfl
  | (n + 9), h => exact absurd h (by omega)
theorem mark_step (c : UInt8) (j : Nat) (hj : j < 9) : (marks.take (j + 1)).contains c = ((marks.take j).contains c || c == marks.getD j 0) := by
  have hb : ∀ z : UInt8, (c == z) = decide (c = z) := fun z => by by_cases h : c = z <;> simp [h]
  match j, hj with
  | 0, _ => simp [marks, hb]
  | 1, _ => simp [marks, hb]
  | 2, _ => simp [marks, Bool.or_assoc, hb]
  | 3, _ => simp [marks, Bool.or_assoc, hb]
  | 4, _ => simp [marks, Bool.or_assoc, hb]
  | 5, _ => simp [marks, Bool.or_assoc, hb]
  | 6, _ => simp [marks, Bool.or_assoc, hb]
  | 7, _ => simp [marks, Bool.or_assoc, hb]
  | 8, _ => simp [marks, Bool.or_assoc, hb]
  | (n + 9), h => exact absurd h (by omega)
theorem enc_byte (c : UInt8) (h : c.toNat < 128) : enc (c.toNat : Int) = [c] := by
  have h1 : (0 : Int) ≤ (c.toNat : Int) := Int.natCast_nonneg _
  have h2 : (c.toNat : Int) < 128 := by omega
  rw [enc_one h1 h2, Int.toNat_natCast, UInt8.ofNat_toNat]
theorem enc_is (r : Int) (c : UInt8) (h : enc r = [c]) : Utf8.encode r = ⟨[c].toArray⟩ := by
  unfold enc at h
  exact bytes_ext h
theorem conv_byte (c : UInt8) (h : c.toNat < 128) : Utf8.encode (c.toNat : Int) = ⟨[c].toArray⟩ := enc_is _ c (enc_byte c h)
theorem cat_text (a b : List UInt8) : (⟨a.toArray⟩ : ByteArray) ++ ⟨b.toArray⟩ = ⟨(a ++ b).toArray⟩ := by
  apply ByteArray.ext
  rw [ByteArray.data_append]
  simp
theorem hex_slice (n : Nat) (h : n < 16) (i j : Int) (hi : i = n) (hj : j = n + 1) (w : World) : (Instr.slice 9 (.string ⟨#[48, 49, 50, 51, 52, 53, 54, 55, 56, 57, 65, 66, 67, 68, 69, 70]⟩) (some (.int .u8 i)) (some (.int .u8 j)) none).run Tryd.prog w = .ok (.string ⟨[hexD n].toArray⟩) w := by
  subst hi hj
  have e : (⟨#[48, 49, 50, 51, 52, 53, 54, 55, 56, 57, 65, 66, 67, 68, 69, 70]⟩ : ByteArray).extract n (n + 1) = ⟨[hexD n].toArray⟩ := by
    have : ∀ k : Fin 16, ((⟨#[48, 49, 50, 51, 52, 53, 54, 55, 56, 57, 65, 66, 67, 68, 69, 70]⟩ : ByteArray).extract k.val (k.val + 1)).data.toList = [hexD k.val] := by decide +kernel
    exact bytes_ext (this ⟨n, h⟩)
  have h1 : (n : Int) ≤ 16 := by omega
  have h2 : (n : Int) + 1 ≤ 16 := by omega
  have h3 : ((n : Int) + 1).toNat = n + 1 := by omega
  simp [Instr.slice, run_underlying Tryd.underlying9, Instr.sliceBounds, run_sliceBound, h2, h3, e, (by omega : (0 : Int) ≤ (n : Int) + 1), go_sem]

end Go.Proofs.YthkigcpbckjhjaaDoor.L
