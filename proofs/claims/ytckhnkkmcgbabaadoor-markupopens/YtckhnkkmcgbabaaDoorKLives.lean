/- What is proved here: that the document's examples come out as it says (sievelaw09.lives). -/
import Derived.Test.YtckhnkkmcgbabaaDoorKWhole
import Derived.Test.YtckhnkkmcgbabaaDoorKTabs
import Derived.Deep.RegionHeld3
namespace Go.Proofs.YtckhnkkmcgbabaaDoor.K
open Go.RowKit Go.Shelf Go.Proofs.YtckhnkkmcgbabaaDoor.U

theorem bulk_str {H : Type} (l : List UInt8) : Rows.uptoBulk (H := H) (.lit (.string l)) = l.length + 1 := rfl
theorem size_data (s : ByteArray) : s.data.toList.length = s.size := (Lib.size_eq s).symm
theorem arr_eta (s : ByteArray) : (⟨s.data.toList.toArray⟩ : ByteArray) = s := by cases s; simp
theorem hasp_calls (bs p : List UInt8) (w : World) : Calls Tryd.prog 20 #[.string ⟨bs.toArray⟩, .string ⟨p.toArray⟩] w fun e w' => e = .returned (.bool (pfx p bs)) ∧ w' = w :=
  Any.strings_HasPrefix Tryd.lays99 ⟨bs.toArray⟩ ⟨p.toArray⟩ w
theorem fold_ascii (bs : List UInt8) (w : World) (hb : bs.length ≤ 100) (ha : ∀ b ∈ bs, b.toNat < 128) : Calls Tryd.prog 21 #[.string ⟨bs.toArray⟩, .string ⟨#[100, 111, 99, 116, 121, 112, 101]⟩] w fun e w' => e = .returned (.bool (Lib.equalFold bs [100, 111, 99, 116, 121, 112, 101])) ∧ w' = w :=
  Any.strings_EqualFold Tryd.lays164 ⟨bs.toArray⟩ ⟨#[100, 111, 99, 116, 121, 112, 101]⟩ w (by rw [byteArr_size]; omega)
    (fun j b h => ha b (List.mem_of_getElem? h)) (fun j b h => by
      have : b ∈ ([100, 111, 99, 116, 121, 112, 101] : List UInt8) := List.mem_of_getElem? h
      simp only [List.mem_cons, List.not_mem_nil, or_false] at this
      rcases this with rfl | rfl | rfl | rfl | rfl | rfl | rfl <;> decide)

set_option maxRecDepth 100000 in
set_option maxHeartbeats 2000000 in
theorem open_doc (w : World) : Calls Tryd.prog 8 #[.string ⟨#[68, 111, 99, 84, 121, 112, 101, 32, 104, 116, 109, 108]⟩] w fun e w' => e = .returned (.tuple #[.int .i64 1, .int .i64 7]) ∧ Below w.heap.size w w' := by
  have H1 : Hid (∀ w, Calls Tryd.prog 20 #[.string ⟨#[68, 111, 99, 84, 121, 112, 101, 32, 104, 116, 109, 108]⟩, .string ⟨#[45, 45]⟩] w fun e w' => e = .returned (.bool false) ∧ w' = w) := fun w => hasp_calls [68, 111, 99, 84, 121, 112, 101, 32, 104, 116, 109, 108] [45, 45] w
  have H2 : Hid (∀ w, Calls Tryd.prog 21 #[.string ⟨#[68, 111, 99, 84, 121, 112, 101]⟩, .string ⟨#[100, 111, 99, 116, 121, 112, 101]⟩] w fun e w' => e = .returned (.bool true) ∧ w' = w) := fun w => by
    have h := fold_ascii [68, 111, 99, 84, 121, 112, 101] w (by simp) (by decide)
    rw [show Lib.equalFold [68, 111, 99, 84, 121, 112, 101] [100, 111, 99, 116, 121, 112, 101] = true by decide] at h
    exact h
  have hsl := slice_h [68, 111, 99, 84, 121, 112, 101, 32, 104, 116, 109, 108] 7 (by simp) 7 rfl
  go_enter Tryd.func8, Tryd.ntmps8
  go_wp2_with (first
    | (go_at_call 20; refine (H1.out _).mono ?_; rintro e w1 ⟨rfl, rfl⟩)
    | (go_at_call 21; refine (H2.out _).mono ?_; rintro e w2 ⟨rfl, rfl⟩))
  all_goals go_ret2
  all_goals exact ⟨rfl, by first | exact Below.refl _ _ | exact (Below.refl _ _).drew⟩
theorem live_V : wV 0 [97, 45, 45, 33, 62, 98] = .tuple #[.string ⟨#[97]⟩, .int .i64 5, .bool true, .int .i64 0] := by
  have h1 : wText 0 [97, 45, 45, 33, 62, 98] = [97] := by decide
  have h2 : wN 0 [97, 45, 45, 33, 62, 98] = 5 := by decide
  have h3 : wC 0 [97, 45, 45, 33, 62, 98] = true := by decide
  have h4 : encs (runesI [97]) = [97] := by kernel_rfl
  unfold wV
  rw [h1, h2, h3, h4]
  rfl
set_option maxRecDepth 100000 in
set_option maxHeartbeats 2000000 in
/-- **lives.** -/
theorem lives_calls (w : World) (hT : Tb w) : Calls Tryd.prog 10 #[] w fun e w' => e = .returned (.bool true) ∧ Below w.heap.size w w' := by
  have H1 : Hid (Calls Tryd.prog 11 #[.int .i64 0, .string ⟨#[97, 45, 45, 33, 62, 98]⟩] w fun e w' => e = .returned (.tuple #[.string ⟨#[97]⟩, .int .i64 5, .bool true, .int .i64 0]) ∧ Below w.heap.size w w') := by
    have h := whole_calls 0 (by omega) (by omega) [97, 45, 45, 33, 62, 98] w (by simp) hT.1
    rw [live_V] at h
    exact h
  have H2 : Hid (∀ w, Calls Tryd.prog 8 #[.string ⟨#[68, 111, 99, 84, 121, 112, 101, 32, 104, 116, 109, 108]⟩] w fun e w' => e = .returned (.tuple #[.int .i64 1, .int .i64 7]) ∧ Below w.heap.size w w') := open_doc
  clear hT
  go_enter Tryd.func10, Tryd.ntmps10
  go_wp2_with (first
    | (go_at_call 11; refine H1.out.mono ?_; rintro e w1 ⟨rfl, hb1⟩)
    | (go_at_call 8; refine (H2.out _).mono ?_; rintro e w2 ⟨rfl, hb2⟩))
  all_goals go_ret
  all_goals exact ⟨rfl, hb1.trans (hb2.mono hb1.size)⟩
end Go.Proofs.YtckhnkkmcgbabaaDoor.K
