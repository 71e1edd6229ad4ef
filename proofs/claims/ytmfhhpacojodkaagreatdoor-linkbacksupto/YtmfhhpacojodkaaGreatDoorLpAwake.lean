/- What is proved here: the examples of the document that every statement of layer 12 asks first, and the error's number. -/
import Derived.Test.YtmfhhpacojodkaaGreatDoorBun13
import Derived.Test.YtmfhhpacojodkaaGreatDoorLpDots
import Derived.Test.YtmfhhpacojodkaaGreatDoorRows
namespace Go.Proofs.YtmfhhpacojodkaaGreatDoor.L
open Go.RowKit Go.Shelf Go.Proofs.YtmfhhpacojodkaaGreatDoor.N Go.Proofs.YtmfhhpacojodkaaGreatDoor.U

theorem awake_scheme : schemeV (stripL [32, 74, 97, 86, 97, 9, 115, 99, 114, 105, 112, 116, 58, 120]) = .tuple #[.string ⟨#[106, 97, 118, 97, 115, 99, 114, 105, 112, 116]⟩, .bool true] := by
  have h1 : colonL (stripL [32, 74, 97, 86, 97, 9, 115, 99, 114, 105, 112, 116, 58, 120]) = some 10 := by decide +kernel
  have h2 : lower ((stripL [32, 74, 97, 86, 97, 9, 115, 99, 114, 105, 112, 116, 58, 120]).take 10) = [106, 97, 118, 97, 115, 99, 114, 105, 112, 116] := by decide +kernel
  unfold schemeV
  rw [h1]
  simp only
  rw [h2]
theorem awake_encode : encodeM (mendL [97, 32, 98, 37, 50, 103, 34, 195, 169]) = [97, 37, 50, 48, 98, 37, 50, 53, 50, 103, 37, 50, 50, 37, 67, 51, 37, 65, 57] := by decide +kernel
theorem awake_dots : dotsM (mendL [47, 97, 47, 98, 47, 99, 47, 46, 47, 46, 46, 47, 46, 46, 47, 103]) = [47, 97, 47, 103] := by decide +kernel
set_option maxRecDepth 100000 in
set_option maxHeartbeats 2000000 in
/-- **awake.** -/
theorem awake_calls (w : World) (hT : Tb w) : Calls Tryz.prog 16 #[] w fun e w' => e = .returned (.bool true) ∧ Below w.heap.size w w' := by
  have H1 : Hid (Calls Tryz.prog 41 #[.string ⟨#[32, 74, 97, 86, 97, 9, 115, 99, 114, 105, 112, 116, 58, 120]⟩] w fun e W' => e = .returned (.tuple #[.string ⟨#[106, 97, 118, 97, 115, 99, 114, 105, 112, 116]⟩, .bool true]) ∧ Below w.heap.size w W') := by
    have h := scheme_calls [32, 74, 97, 86, 97, 9, 115, 99, 114, 105, 112, 116, 58, 120] w hT (by decide)
    rw [awake_scheme] at h
    exact h
  have H2 : Hid (∀ W, Below w.heap.size w W → Calls Tryz.prog 42 #[.string ⟨#[97, 32, 98, 37, 50, 103, 34, 195, 169]⟩] W fun e W' => e = .returned (.string ⟨#[97, 37, 50, 48, 98, 37, 50, 53, 50, 103, 37, 50, 50, 37, 67, 51, 37, 65, 57]⟩) ∧ Below W.heap.size W W') := fun W hb => by
    have h := encode_calls [97, 32, 98, 37, 50, 103, 34, 195, 169] W (hT.below hb) (by decide)
    rw [awake_encode] at h
    exact h
  have H3 : Hid (∀ W, Below w.heap.size w W → Calls Tryz.prog 39 #[.string ⟨#[47, 97, 47, 98, 47, 99, 47, 46, 47, 46, 46, 47, 46, 46, 47, 103]⟩] W fun e W' => e = .returned (.string ⟨#[47, 97, 47, 103]⟩) ∧ Below W.heap.size W W') := fun W hb => by
    have h := dots_calls [47, 97, 47, 98, 47, 99, 47, 46, 47, 46, 46, 47, 46, 46, 47, 103] W (hT.below hb) (by decide)
    rw [awake_dots] at h
    exact h
  clear hT
  go_enter Tryz.func16, Tryz.ntmps16
  go_wp2_with fail
  (go_at_call 41; refine H1.out.mono ?_; rintro e w1 ⟨rfl, hb1⟩)
  go_wp2_with fail
  (go_at_call 42; refine (H2.out _ hb1).mono ?_; rintro e w2 ⟨rfl, hb2⟩)
  have hb12 := hb1.trans (hb2.mono hb1.size)
  go_wp2_with fail
  (go_at_call 39; refine (H3.out _ hb12).mono ?_; rintro e w3 ⟨rfl, hb3⟩)
  go_wp2_with fail
  go_ret
  exact ⟨rfl, hb12.trans (hb3.mono hb12.size)⟩
theorem bulk_str {H : Type} (b : List UInt8) : Rows.uptoBulk (H := H) (.lit (.string b)) = b.length + 1 := rfl
end Go.Proofs.YtmfhhpacojodkaaGreatDoor.L
