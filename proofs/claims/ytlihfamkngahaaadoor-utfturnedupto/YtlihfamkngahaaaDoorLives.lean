/- What is proved here: the examples that every statement of layer 1 asks for ('lives') hold. -/
import Derived.Test.YtlihfamkngahaaaDoorRunes
import Derived.Test.YtlihfamkngahaaaDoorTail
namespace Go.Proofs.YtlihfamkngahaaaDoor.U
open Go.RowKit Go.Shelf

theorem runes_example : runes [97, 255, 226, 130, 98] = [97, 65533, 65533, 98] := by decide +kernel
theorem tail_example : tailN [226, 130] = 2 := by decide +kernel

set_option maxRecDepth 100000 in
set_option maxHeartbeats 2000000 in
theorem lives_calls (w : World) (hT : Lib.Utf8Tabs (Tryd.lays32_ren.g 2) (Tryd.lays32_ren.g 3) w) :
    Calls Tryd.prog 12 #[] w fun e w' => e = .returned (.bool true) ∧ Below w.heap.size w w' := by
  have HT : Hid (Lib.Utf8Tabs (Tryd.lays32_ren.g 2) (Tryd.lays32_ren.g 3) w) := hT
  clear hT
  go_enter Tryd.func12, Tryd.ntmps12
  go_wp2_with fail
  have hb0 := (Below.refl w.heap.size w).alloc (Nat.le_refl _) (.cells #[.int .u8 97, .int .u8 255, .int .u8 226, .int .u8 130, .int .u8 98] 5)
  refine (runes_calls _ 5 5 [97, 255, 226, 130, 98] _ (by simp) (.inr ⟨by simp, w.heap.size, 0, 5, rfl, by simp, by simp, fun j hj => ?_⟩) (tabs_below HT.out hb0)).mono ?_
  · have : j = 0 ∨ j = 1 ∨ j = 2 ∨ j = 3 ∨ j = 4 := by simp at hj; omega
    rcases this with rfl | rfl | rfl | rfl | rfl <;> simp [byteAt]
  rintro e w1 ⟨v, rfl, hown, hb1⟩
  rw [runes_example] at hown
  have hb1' : Below w.heap.size w w1 := hb0.trans (hb1.mono (by simp))
  have hv : HasI .i32 w1 v [97, 65533, 65533, 98] := hasI_owns (e := 21) (zs := [97, 65533, 65533, 98]) (by simpa using hown)
  clear hown hb0 hb1
  go_wp2_with fail
  have hb2 := (Below.refl w1.heap.size w1).alloc (Nat.le_refl _) (.cells #[.int .i32 97, .int .i32 65533, .int .i32 65533, .int .i32 98] 21)
  refine (same_calls _ _ [97, 65533, 65533, 98] [97, 65533, 65533, 98] _ (by simp) (hv.below hb2) (.inr ⟨by simp, w1.heap.size, 0, 4, rfl, by simp, fun j hj => ?_⟩)).mono ?_
  · have : j = 0 ∨ j = 1 ∨ j = 2 ∨ j = 3 := by simp at hj; omega
    rcases this with rfl | rfl | rfl | rfl <;> simp [zAt]
  rintro e w3 ⟨rfl, hb3⟩
  have hb3' : Below w.heap.size w w3 := hb1'.trans ((hb2.trans (hb3.mono (by simp))).mono hb1'.size)
  clear hb2 hb3 hv
  rw [show decide (([97, 65533, 65533, 98] : List Int) = [97, 65533, 65533, 98]) = true by decide]
  go_wp2_with fail
  have hb4 := (Below.refl w3.heap.size w3).alloc (Nat.le_refl _) (.cells #[.int .u8 226, .int .u8 130] 5)
  refine (tail_calls _ [226, 130] (w3.heap.size + 1) _ (by simp) (.inr ⟨by simp, w3.heap.size, 0, 2, rfl, by simp, by simp, fun j hj => ?_⟩) (tabs_below (tabs_below HT.out hb3') hb4)).mono ?_
  · have : j = 0 ∨ j = 1 := by simp at hj; omega
    rcases this with rfl | rfl <;> simp [byteAt]
  rintro e w5 ⟨rfl, hb5⟩
  have hb5' : Below w.heap.size w w5 := hb3'.trans ((hb4.trans (hb5.mono (by simp))).mono hb3'.size)
  rw [tail_example]
  clear hb4 hb5
  go_wp2_with (go_at_call 20; refine (width_max _).mono ?_; rintro e w' ⟨rfl, rfl⟩)
  go_ret
  exact ⟨rfl, hb5'⟩
end Go.Proofs.YtlihfamkngahaaaDoor.U
