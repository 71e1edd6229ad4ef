/- What is proved here: the contract of utf.Mend: the text of the runes of a text's bytes. -/
import Derived.Deep.RegionWith
import Derived.Test.YtfbfigjjnpamiaaGreatDoorMathM
import Derived.Test.YtfbfigjjnpamiaaGreatDoorValid
namespace Go.Proofs.YtfbfigjjnpamiaaGreatDoor.U
open Go.RowKit Go.Shelf

theorem bytes_ext {a : ByteArray} {l : List UInt8} (h : a.data.toList = l) : a = ⟨l.toArray⟩ := by
  cases a with
  | mk d => simp only at h; rw [← h]
theorem extract_eq (bs : List UInt8) (k : Nat) : (⟨bs.toArray⟩ : ByteArray).extract k bs.length = ⟨(bs.drop k).toArray⟩ := bytes_ext (extract_drop bs k)
theorem extract_take (bs : List UInt8) (k : Nat) : (⟨bs.toArray⟩ : ByteArray).extract 0 k = ⟨(bs.take k).toArray⟩ := bytes_ext (by
  rw [ByteArray.data_extract, Array.toList_extract]; simp)
theorem fw_le (bs : List UInt8) : fw bs ≤ bs.length := fwF_le bs _ _
theorem runesI_map (bs : List UInt8) : ((runes bs).map fun r : Nat => Value.int .i32 (r : Int)) = (runesI bs).map (Value.int .i32) := by rw [runes_pcs]; simp [runesI]
theorem runes_len (bs : List UInt8) : (runes bs).length = (runesI bs).length := by rw [runes_pcs]; simp [runesI]

theorem mend_add (bs : List UInt8) (X : ByteArray) (hX : X = ⟨(bs.take (fw bs)).toArray⟩) (hl : (bs.length : Int) ≤ 35184372088832) {w : World} {v : Value} (h : (convert 66 9 v).run Tryz.prog w = .ok (.string ⟨(encs (runesI (bs.drop (fw bs)))).toArray⟩) w) :
    ∃ Y : ByteArray, Y = ⟨(encs (runesI (bs.drop (fw bs)))).toArray⟩ ∧ (convert 66 9 v).run Tryz.prog w = .ok (.string Y) w ∧ X.size + Y.size ≤ 9223372036854775807 := by
  refine ⟨_, rfl, h, ?_⟩
  subst hX
  have h1 := encs_length (runesI (bs.drop (fw bs)))
  have h2 := pcs_length (bs.drop (fw bs))
  rw [runesI_length] at h1
  rw [byteArr_size, byteArr_size, List.length_take]
  simp only [List.length_drop] at h2
  omega

set_option maxRecDepth 100000 in
set_option maxHeartbeats 4000000 in
theorem mend_calls (bs : List UInt8) (w : World) (hl : (bs.length : Int) ≤ 35184372088832) (hT : Lib.Utf8Tabs (Tryz.lays32_ren.g 2) (Tryz.lays32_ren.g 3) w) :
    Calls Tryz.prog 38 #[.string ⟨bs.toArray⟩] w fun e W' => e = .returned (.string ⟨(encs (runesI bs)).toArray⟩) ∧ Below w.heap.size w W' := by
  have HT : Hid (Lib.Utf8Tabs (Tryz.lays32_ren.g 2) (Tryz.lays32_ren.g 3) w) := hT
  have hsz := byteArr_size bs
  have hf := fw_le bs
  have e1 := extract_eq bs (fw bs)
  obtain ⟨X, hX⟩ : ∃ X : ByteArray, X = ⟨(bs.take (fw bs)).toArray⟩ := ⟨_, rfl⟩
  have e2 : (⟨bs.toArray⟩ : ByteArray).extract 0 (fw bs) = X := (extract_take bs (fw bs)).trans hX.symm
  have HX : Hid (X = ⟨(bs.take (fw bs)).toArray⟩) := hX
  clear hX
  have hcv : ∀ w, (convert 9 47 (.string ⟨(bs.drop (fw bs)).toArray⟩)).run Tryz.prog w = .ok (.slice (some ⟨w.heap.size, 0, none⟩) (bs.drop (fw bs)).length (grownCap w (bs.drop (fw bs)).length 0 5)) (Lib.bytesWorld w 5 ⟨(bs.drop (fw bs)).toArray⟩) := fun w => by
    have := Lib.run_convert_string_bytes (P := Tryz.prog) w 9 47 5 ⟨(bs.drop (fw bs)).toArray⟩ Tryz.underlying9 Tryz.underlying47 Tryz.underlying5
    rw [byteArr_size] at this
    exact this
  clear hT
  go_enter Tryz.func38, Tryz.ntmps38
  go_wp2_with (go_at_call 57; refine (firstWrong_calls bs _ (by omega)).mono ?_; rintro e w1 ⟨rfl, hb1⟩)
  have s1 := hb1.size
  have hbw : Below w.heap.size w (Lib.bytesWorld w1.drew 5 ⟨(bs.drop (fw bs)).toArray⟩) := hb1.drew.trans ((bytesWorld_below w1.drew _ _).mono s1)
  have RC : Hid (Calls Tryz.prog 58 #[.slice (some ⟨w1.heap.size, 0, none⟩) (bs.length - fw bs) (grownCap w1.drew (bs.length - fw bs) 0 5)] (Lib.bytesWorld w1.drew 5 ⟨(bs.drop (fw bs)).toArray⟩) fun e W' => ∃ v, e = .returned v ∧ W'.ownsRow (Lib.bytesWorld w1.drew 5 ⟨(bs.drop (fw bs)).toArray⟩).heap.size 21 1 v (runesI (bs.drop (fw bs))).length ((runesI (bs.drop (fw bs))).map (Value.int .i32)) ∧ Below (Lib.bytesWorld w1.drew 5 ⟨(bs.drop (fw bs)).toArray⟩).heap.size (Lib.bytesWorld w1.drew 5 ⟨(bs.drop (fw bs)).toArray⟩) W') := by
    have hrow := bytesWorld_row w1.drew 5 (bs.drop (fw bs))
    rw [List.length_drop] at hrow
    have h := runes_calls (some ⟨w1.heap.size, 0, none⟩) (bs.length - fw bs) (grownCap w1.drew (bs.length - fw bs) 0 5) (bs.drop (fw bs)) (Lib.bytesWorld w1.drew 5 ⟨(bs.drop (fw bs)).toArray⟩) (by simp; omega) (RowB.hasB0 (by simp) hrow (grownCap_ge _ _ _ _) _ (by rw [Lib.bytesWorld_size]; exact Nat.lt_succ_self _)) (tabs_below HT.out hbw)
    rw [runes_len, runesI_map] at h
    exact h
  have HBW : Hid (Below w.heap.size w (Lib.bytesWorld w1.drew 5 ⟨(bs.drop (fw bs)).toArray⟩)) := hbw
  clear hbw
  go_region_with (go_at_call 58; refine RC.out.mono ?_; rintro e w2 ⟨v, rfl, ho, hb2⟩; obtain ⟨ga, gc, rfl⟩ := owns_slice ho; obtain ⟨Y, hY, hcr, hbd⟩ := mend_add bs X HX.out hl (conv_runes (hasI_owns ho)); have HY : Hid (Y = ⟨(encs (runesI (bs.drop (fw bs)))).toArray⟩) := hY; clear hY)
  go_wp2
  go_ret
  refine ⟨?_, HBW.out.trans (hb2.mono HBW.out.size)⟩
  show Ending.returned (Value.string (X ++ Y)) = _
  rw [HX.out, HY.out]
  congr 2
  apply ByteArray.ext
  rw [ByteArray.data_append]
  apply Array.toList_inj.1
  have := mend_eq bs
  simpa using this

end Go.Proofs.YtfbfigjjnpamiaaGreatDoor.U
