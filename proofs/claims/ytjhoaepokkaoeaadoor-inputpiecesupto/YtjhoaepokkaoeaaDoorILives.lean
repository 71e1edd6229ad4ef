/- What is proved here: the examples that every statement of layer 3 asks for ('lives') hold. -/
import Derived.Lib.SlBytesConst
import Derived.Test.YtjhoaepokkaoeaaDoorIRead
namespace Go.Proofs.YtjhoaepokkaoeaaDoor.U
open Go.RowKit Go.Shelf

theorem cell_fresh (w : World) (C : Array Value) (t : TypeId) (fz : Nat × Nat) (j : Nat) : (w.alloc (.cells C t fz)).cell? ⟨w.heap.size, j, none⟩ = C[j]? := by
  have hn := World.alloc_heap_new w (.cells C t fz)
  simp only [World.cell?, hn]; rfl

theorem text_example : textOf (cellsOf [97, 13, 10, 98, 13, 99, 10]) = [97, 10, 98, 10, 99, 10] := by decide +kernel
theorem read_example : (cellsOf [97, 98]).length = 2 := by decide +kernel
theorem plain_example : plainZ 133 = 65533 ∧ plainZ 13 = 10 := by decide

set_option maxRecDepth 100000 in
set_option maxHeartbeats 2000000 in
theorem ilives_calls (w : World) (hT : Lib.Utf8Tabs (Tryd.lays32_ren.g 2) (Tryd.lays32_ren.g 3) w) :
    Calls Tryd.prog 30 #[] w fun e w' => e = .returned (.bool true) ∧ Below w.heap.size w w' := by
  have HT : Hid (Lib.Utf8Tabs (Tryd.lays32_ren.g 2) (Tryd.lays32_ren.g 3) w) := hT
  clear hT
  go_enter Tryd.func30, Tryd.ntmps30
  have hk := Lib.run_convert_bytes_const (P := Tryd.prog) w 22 5 #[.int .u8 97, .int .u8 13, .int .u8 10, .int .u8 98, .int .u8 13, .int .u8 99, .int .u8 10] 7 7 Tryd.underlying22 Tryd.underlying5
  go_wp2_with fail
  clear hk
  have hb0 := (Below.refl w.heap.size w).alloc (Nat.le_refl _) (.cells #[.int .u8 97, .int .u8 13, .int .u8 10, .int .u8 98, .int .u8 13, .int .u8 99, .int .u8 10] 5 (7, 8))
  refine (itext_calls _ [97, 13, 10, 98, 13, 99, 10] _ (by simp) (.inr ⟨by simp, w.heap.size, 0, 7, rfl, by simp, by simp, fun j hj => ?_⟩) (tabs_below HT.out hb0)).mono ?_
  · have : j = 0 ∨ j = 1 ∨ j = 2 ∨ j = 3 ∨ j = 4 ∨ j = 5 ∨ j = 6 := by simp at hj; omega
    rw [Nat.zero_add, cell_fresh]
    rcases this with rfl | rfl | rfl | rfl | rfl | rfl | rfl <;> simp [byteAt]
  rintro e w1 ⟨rfl, hb1⟩
  have hb1' : Below w.heap.size w w1 := hb0.trans (hb1.mono (by simp))
  rw [text_example]
  clear hb0 hb1
  have hk := Lib.run_convert_bytes_const (P := Tryd.prog) w1 22 5 #[.int .u8 97, .int .u8 98] 2 2 Tryd.underlying22 Tryd.underlying5
  go_wp2_with (go_at_call 47; refine (plain_calls _ (by omega) (by omega) _).mono ?_; rintro e w' ⟨rfl, hw'⟩; obtain rfl : w1 = w' := hw'.symm; (first | rw [plain_example.1] | rw [plain_example.2]))
  clear hk
  have hb2 := (Below.refl w1.heap.size w1).alloc (Nat.le_refl _) (.cells #[.int .u8 97, .int .u8 98] 5 (2, 3))
  refine (Read_calls _ [97, 98] _ (by simp) (.inr ⟨by simp, w1.heap.size, 0, 2, rfl, by simp, by simp, fun j hj => ?_⟩) (tabs_below (tabs_below HT.out hb1') hb2)).mono ?_
  · have : j = 0 ∨ j = 1 := by simp at hj; omega
    rw [Nat.zero_add, cell_fresh]
    rcases this with rfl | rfl <;> simp [byteAt]
  rintro e w3 ⟨u, rfl, hown, hb3⟩
  obtain ⟨a, cap, rfl⟩ := owns_slice hown
  have hb3' : Below w.heap.size w w3 := hb1'.trans ((hb2.trans (hb3.mono (by simp))).mono hb1'.size)
  rw [read_example]
  clear hb2 hb3 hown
  go_wp2
  go_ret
  exact ⟨rfl, hb3'⟩

end Go.Proofs.YtjhoaepokkaoeaaDoor.U
