/- What is proved here: that the document's examples come out as it says (sievelaw10.awake). -/
import Derived.Test.YtmlklbbfmggbfaaDoorRWhole
import Derived.Test.YtmlklbbfmggbfaaDoorRRefM
import Derived.Test.YtmlklbbfmggbfaaDoorBun1
import Derived.Deep.RegionHeld3
namespace Go.Proofs.YtmlklbbfmggbfaaDoor.R
open Go.RowKit Go.Shelf Go.Proofs.YtmlklbbfmggbfaaDoor.U Go.Proofs.YtmlklbbfmggbfaaDoor.N

theorem bulk_str {H : Type} (l : List UInt8) : Rows.uptoBulk (H := H) (.lit (.string l)) = l.length + 1 := rfl
theorem arr_eta (s : ByteArray) : (⟨s.data.toList.toArray⟩ : ByteArray) = s := by cases s; simp
/-- The tables, and what strings.Contains asks for. -/
abbrev Tb (W : World) : Prop := Lib.Utf8Tabs (Tryd.lays32_ren.g 2) (Tryd.lays32_ren.g 3) W
theorem max_below {W W' : World} (h : MaxOk W) (hb : Below W.heap.size W W') : MaxOk W' := h.below hb
theorem ex1 : refR (zs [116, 105, 116, 108, 101]) (p0 [116, 105, 116, 108, 101]) (runesI [97, 60, 47, 98, 62, 60, 47, 84, 73, 84, 76, 69, 32, 120, 62, 99]) = some 5 := by decide +kernel
theorem ex1t : encs ((runesI [97, 60, 47, 98, 62, 60, 47, 84, 73, 84, 76, 69, 32, 120, 62, 99]).take 5) = [97, 60, 47, 98, 62] := by kernel_rfl
theorem ex1n : ∀ n, n ≤ 16 → (runesI (([97, 60, 47, 98, 62, 60, 47, 84, 73, 84, 76, 69, 32, 120, 62, 99] : List UInt8).take n)).length = 13 → n = 13 := by decide +kernel
theorem ex2 : refR (zs [115, 99, 114, 105, 112, 116]) (p0 [115, 99, 114, 105, 112, 116]) (runesI [60, 33, 45, 45, 62, 60, 115, 99, 114, 105, 112, 116, 62, 60, 47, 115, 99, 114, 105, 112, 116, 62]) = some 13 := by decide +kernel
theorem ex2t : encs ((runesI [60, 33, 45, 45, 62, 60, 115, 99, 114, 105, 112, 116, 62, 60, 47, 115, 99, 114, 105, 112, 116, 62]).take 13) = [60, 33, 45, 45, 62, 60, 115, 99, 114, 105, 112, 116, 62] := by kernel_rfl
theorem ex2n : ∀ n, n ≤ 22 → (runesI (([60, 33, 45, 45, 62, 60, 115, 99, 114, 105, 112, 116, 62, 60, 47, 115, 99, 114, 105, 112, 116, 62] : List UInt8).take n)).length = 22 → n = 22 := by decide +kernel
theorem ex1w (w : World) (hT : Tb w) (hm : MaxOk w) : Calls Tryd.prog 13 #[.string ⟨#[116, 105, 116, 108, 101]⟩, .string ⟨#[97, 60, 47, 98, 62, 60, 47, 84, 73, 84, 76, 69, 32, 120, 62, 99]⟩] w fun e w' => e = .returned (.tuple #[.string ⟨#[97, 60, 47, 98, 62]⟩, .int .i64 13, .bool true, .int .i64 0]) ∧ Below w.heap.size w w' := by
  have hw : whZ [116, 105, 116, 108, 101] ≠ 0 := by decide +kernel
  refine (whole_calls [116, 105, 116, 108, 101] hw [97, 60, 47, 98, 62, 60, 47, 84, 73, 84, 76, 69, 32, 120, 62, 99] w (by decide) hT hm).mono ?_
  rintro e w' ⟨t, n, ok, rfl, hW, hb⟩
  obtain ⟨rfl, rfl, h3, _, h5⟩ := whole_some (wh_ok _ hw) (p0_range _).1 (p0_range _).2 hW ex1
  obtain rfl := ex1n n h3 h5
  exact ⟨by rw [ex1t]; rfl, hb⟩
theorem ex2w (w : World) (hT : Tb w) (hm : MaxOk w) : Calls Tryd.prog 13 #[.string ⟨#[115, 99, 114, 105, 112, 116]⟩, .string ⟨#[60, 33, 45, 45, 62, 60, 115, 99, 114, 105, 112, 116, 62, 60, 47, 115, 99, 114, 105, 112, 116, 62]⟩] w fun e w' => e = .returned (.tuple #[.string ⟨#[60, 33, 45, 45, 62, 60, 115, 99, 114, 105, 112, 116, 62]⟩, .int .i64 22, .bool true, .int .i64 0]) ∧ Below w.heap.size w w' := by
  have hw : whZ [115, 99, 114, 105, 112, 116] ≠ 0 := by decide +kernel
  refine (whole_calls [115, 99, 114, 105, 112, 116] hw [60, 33, 45, 45, 62, 60, 115, 99, 114, 105, 112, 116, 62, 60, 47, 115, 99, 114, 105, 112, 116, 62] w (by decide) hT hm).mono ?_
  rintro e w' ⟨t, n, ok, rfl, hW, hb⟩
  obtain ⟨rfl, rfl, h3, _, h5⟩ := whole_some (wh_ok _ hw) (p0_range _).1 (p0_range _).2 hW ex2
  obtain rfl := ex2n n h3 h5
  exact ⟨by rw [ex2t]; rfl, hb⟩
set_option maxRecDepth 100000 in
set_option maxHeartbeats 1000000 in
theorem num_calls (x : Int) (w : World) (h0 : -9223372036854775808 ≤ x) (h1 : x ≤ 9223372036854775807) : Calls Tryd.prog 9 #[.int .i64 x] w fun e w' => e = .returned (.int .i64 x) ∧ w' = w := by
  have hwr : IntKind.i64.wrap x = x := by rw [IntKind.wrap_i64]; omega
  go_enter Tryd.func9, Tryd.ntmps9
  go_wp2
  go_ret
  exact ⟨rfl, rfl⟩
set_option maxRecDepth 100000 in
set_option maxHeartbeats 2000000 in
/-- **awake.** -/
theorem awake_calls (w : World) (hT : Tb w) (hm : MaxOk w) : Calls Tryd.prog 10 #[] w fun e w' => e = .returned (.bool true) ∧ Below w.heap.size w w' := by
  have H1 := hid_of (ex1w w hT hm)
  have H2 : Hid (∀ W, Below w.heap.size w W → _) := fun W hb => ex2w W (tabs_below hT hb) (max_below hm hb)
  clear hT hm
  go_enter Tryd.func10, Tryd.ntmps10
  go_wp2_with fail
  (go_at_call 13; refine H1.out.mono ?_; rintro e w1 ⟨rfl, hb1⟩)
  go_wp2_with fail
  (go_at_call 13; refine (H2.out _ hb1).mono ?_; rintro e w2 ⟨rfl, hb2⟩)
  have hB : Below w.heap.size w w2 := hb1.trans (hb2.mono hb1.size)
  go_wp2_with fail
  (go_at_call 9; refine (num_calls 0 _ (by decide) (by decide)).mono ?_; rintro e w3 ⟨rfl, h3⟩; obtain rfl : w2 = w3 := h3.symm)
  go_wp2_with fail
  (go_at_call 9; refine (num_calls 0 _ (by decide) (by decide)).mono ?_; rintro e w3 ⟨rfl, h3⟩; obtain rfl : w2 = w3 := h3.symm)
  go_wp2_with fail
  go_ret
  exact ⟨rfl, hB⟩
end Go.Proofs.YtmlklbbfmggbfaaDoor.R
