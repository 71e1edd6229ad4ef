/- What is proved here: the contracts of the document's own answer for layer 9: begins, ends, end, Whole; and of the document's Mend. -/
import Derived.Deep.RegionHeld3
import Derived.Test.YtckhnkkmcgbabaaDoorKAuto
import Derived.Test.YtckhnkkmcgbabaaDoorMend
import Derived.Test.YtckhnkkmcgbabaaDoorMathB
namespace Go.Proofs.YtckhnkkmcgbabaaDoor.K
open Go.RowKit Go.Shelf Go.Proofs.YtckhnkkmcgbabaaDoor.U

theorem pre_take (a b : List UInt8) : a.isPrefixOf b = (b.take a.length == a) := by
  rw [Bool.eq_iff_iff]
  simp only [List.isPrefixOf_iff_prefix, beq_iff_eq]
  constructor
  · rintro ⟨t, rfl⟩; simp
  · intro h
    refine ⟨b.drop a.length, ?_⟩
    conv => lhs; lhs; rw [← h]
    exact List.take_append_drop _ _
theorem toList_arr (bs : List UInt8) : (⟨bs.toArray⟩ : ByteArray).toList = bs := by rw [Lib.toList_data]
set_option maxRecDepth 100000 in
set_option maxHeartbeats 2000000 in
/-- **begins.** -/
theorem begins_calls (bs p : List UInt8) (w : World) (_hs : bs.length ≤ 1000000000) (hp : p.length ≤ 1000000000) :
    Calls Tryd.prog 38 #[.string ⟨bs.toArray⟩, .string ⟨p.toArray⟩] w fun e w' => e = .returned (.bool (pfx p bs)) ∧ Below w.heap.size w w' := by
  have hz1 := byteArr_size bs
  have hz2 := byteArr_size p
  by_cases hle : p.length ≤ bs.length
  · have hge : decide ((bs.length : Int) ≥ (p.length : Int)) = true := by rw [decide_eq_true_eq]; omega
    have hge2 : decide ((p.length : Int) ≤ (bs.length : Int)) = true := by rw [decide_eq_true_eq]; omega
    obtain ⟨Y, hY⟩ : ∃ Y : ByteArray, (⟨bs.toArray⟩ : ByteArray).extract 0 p.length = Y := ⟨_, rfl⟩
    have hsl0 : ∀ w, (Instr.slice 9 (.string ⟨bs.toArray⟩) none (some (.int .i64 p.length)) none).run Tryd.prog w = .ok (.string Y) w := fun w => by
      rw [run_slice_string_h w 9 ⟨bs.toArray⟩ Tryd.underlying9 .i64 p.length (by omega) (by rw [hz1]; omega), ← hY]; rfl
    obtain ⟨b, hb⟩ : ∃ b, (Y.toList == p) = b := ⟨_, rfl⟩
    have hbv : Hid (pfx p bs = b) := by
      show pfx p bs = b
      rw [← hb, ← hY, extract_take, toList_arr]
      exact pre_take p bs
    clear hY
    go_enter Tryd.func38, Tryd.ntmps38
    go_wp2
    all_goals go_ret
    all_goals exact ⟨by rw [hbv.out]; first | rfl | exact congrArg (fun x => Ending.returned (Value.bool x)) hb, by first | exact Below.refl _ _ | exact (Below.refl _ _).drew⟩
  · have hge : decide ((bs.length : Int) ≥ (p.length : Int)) = false := by rw [decide_eq_false_iff_not]; omega
    have hge2 : decide ((p.length : Int) ≤ (bs.length : Int)) = false := by rw [decide_eq_false_iff_not]; omega
    have hbv : Hid (pfx p bs = false) := by
      show pfx p bs = false
      unfold pfx
      rw [Bool.eq_false_iff]
      intro h
      rw [List.isPrefixOf_iff_prefix] at h
      have := h.length_le
      omega
    go_enter Tryd.func38, Tryd.ntmps38
    go_wp2
    all_goals go_ret
    all_goals exact ⟨by rw [hbv.out]; first | rfl | exact congrArg (fun x => Ending.returned (Value.bool x)) hb, by first | exact Below.refl _ _ | exact (Below.refl _ _).drew⟩
/-- Does a text end with another? -/
def sfx (p s : List UInt8) : Bool := decide (p.length ≤ s.length) && (s.drop (s.length - p.length) == p)
set_option maxRecDepth 100000 in
set_option maxHeartbeats 2000000 in
/-- **ends.** -/
theorem ends_calls (bs p : List UInt8) (w : World) (hs : bs.length ≤ 1000000000) (hp : p.length ≤ 1000000000) :
    Calls Tryd.prog 26 #[.string ⟨bs.toArray⟩, .string ⟨p.toArray⟩] w fun e w' => e = .returned (.bool (sfx p bs)) ∧ Below w.heap.size w w' := by
  have hz1 := byteArr_size bs
  have hz2 := byteArr_size p
  by_cases hle : p.length ≤ bs.length
  · have hge : decide ((bs.length : Int) ≥ (p.length : Int)) = true := by rw [decide_eq_true_eq]; omega
    have hge2 : decide ((p.length : Int) ≤ (bs.length : Int)) = true := by rw [decide_eq_true_eq]; omega
    obtain ⟨k, hk⟩ : ∃ k : Nat, k = bs.length - p.length := ⟨_, rfl⟩
    have hwr : IntKind.i64.wrap ((bs.length : Int) - (p.length : Int)) = (k : Int) := by rw [IntKind.wrap_i64]; omega
    have hwr2 : ((bs.length : Int) - (p.length : Int) + 9223372036854775808) % 18446744073709551616 - 9223372036854775808 = (k : Int) := by omega
    have hkl : (k : Int) ≤ (bs.length : Int) := by omega
    obtain ⟨Y, hY⟩ : ∃ Y : ByteArray, (⟨bs.toArray⟩ : ByteArray).extract k bs.length = Y := ⟨_, rfl⟩
    have hsl0 : ∀ w, (Instr.slice 9 (.string ⟨bs.toArray⟩) (some (.int .i64 k)) none none).run Tryd.prog w = .ok (.string Y) w := fun w => by
      rw [run_slice_string_l w 9 ⟨bs.toArray⟩ Tryd.underlying9 .i64 k (by omega) (by rw [hz1]; omega), hz1, ← hY]; rfl
    obtain ⟨b, hb⟩ : ∃ b, (Y.toList == p) = b := ⟨_, rfl⟩
    have hbv : Hid (sfx p bs = b) := by
      show sfx p bs = b
      rw [← hb, ← hY, extract_eq, toList_arr, hk]
      unfold sfx
      rw [show decide (p.length ≤ bs.length) = true from decide_eq_true hle, Bool.true_and]
    clear hY hk
    go_enter Tryd.func26, Tryd.ntmps26
    go_wp2
    all_goals go_ret
    all_goals exact ⟨by rw [hbv.out]; first | rfl | exact congrArg (fun x => Ending.returned (Value.bool x)) hb, by first | exact Below.refl _ _ | exact (Below.refl _ _).drew⟩
  · have hge : decide ((bs.length : Int) ≥ (p.length : Int)) = false := by rw [decide_eq_false_iff_not]; omega
    have hge2 : decide ((p.length : Int) ≤ (bs.length : Int)) = false := by rw [decide_eq_false_iff_not]; omega
    have hbv : Hid (sfx p bs = false) := by
      show sfx p bs = false
      unfold sfx
      rw [show decide (p.length ≤ bs.length) = false from decide_eq_false hle, Bool.false_and]
    go_enter Tryd.func26, Tryd.ntmps26
    go_wp2
    all_goals go_ret
    all_goals exact ⟨by rw [hbv.out]; first | rfl | exact congrArg (fun x => Ending.returned (Value.bool x)) hb, by first | exact Below.refl _ _ | exact (Below.refl _ _).drew⟩

set_option maxRecDepth 100000 in
set_option maxHeartbeats 2000000 in
/-- **sieveref01.Mend of any text.** -/
theorem rmend_calls (bs : List UInt8) (w : World) (hl : bs.length ≤ 274877906944) :
    Calls Tryd.prog 27 #[.string ⟨bs.toArray⟩] w fun e W' => e = .returned (.string ⟨(encs (runesI bs)).toArray⟩) ∧ Below w.heap.size w W' := by
  have hcv := Lib.run_convert_string_bytes (P := Tryd.prog) w 9 43 5 ⟨bs.toArray⟩ Tryd.underlying9 Tryd.underlying43 Tryd.underlying5
  rw [byteArr_size] at hcv
  have hbw := bytesWorld_below w 5 ⟨bs.toArray⟩
  have RC : Hid (∀ cap, bs.length ≤ cap → Calls Tryd.prog 39 #[.slice (some ⟨w.heap.size, 0, none⟩) bs.length cap] (Lib.bytesWorld w 5 ⟨bs.toArray⟩) fun e W' => ∃ a cap, e = .returned (.slice a (runesI bs).length cap) ∧ W'.ownsRow (Lib.bytesWorld w 5 ⟨bs.toArray⟩).heap.size 21 1 (.slice a (runesI bs).length cap) (runesI bs).length ((runesI bs).map (Value.int .i32)) ∧ Below (Lib.bytesWorld w 5 ⟨bs.toArray⟩).heap.size (Lib.bytesWorld w 5 ⟨bs.toArray⟩) W') :=
    fun cap hcap => rrunes_calls _ bs (w.heap.size + 1) _ (by omega) (RowB.hasB0 rfl (bytesWorld_row w 5 bs) hcap _ (Nat.lt_succ_self _))
  have HBW : Hid (Below w.heap.size w (Lib.bytesWorld w 5 ⟨bs.toArray⟩)) := hbw
  have hrle : (runesI bs).length ≤ bs.length := by rw [runesI_length]; exact pcs_length bs
  clear hbw
  go_enter Tryd.func27, Tryd.ntmps27
  go_wp2_with (first
    | (go_at_call 39
       refine (RC.out _ (grownCap_ge _ _ _ _)).mono ?_
       rintro e w2 ⟨al, cl, rfl, hown2, hb2⟩
       have hI : HasI .i32 w2 _ (runesI bs) := hasI_owns (e := 21) hown2)
    | (go_at_call 15
       refine (text_calls _ _ _ (by omega) hI).mono ?_
       rintro e w3 ⟨rfl, hb3⟩))
  go_ret
  exact ⟨rfl, (HBW.out.trans (hb2.mono HBW.out.size)).trans (hb3.mono (by have := HBW.out.size; have := hb2.size; omega))⟩
end Go.Proofs.YtckhnkkmcgbabaaDoor.K
