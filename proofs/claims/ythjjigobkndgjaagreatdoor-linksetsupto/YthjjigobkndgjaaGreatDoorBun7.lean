/- What is proved here: laws and contracts of Valid, Mend, one behind the other (each says its own). -/
import Derived.Test.YthjjigobkndgjaaGreatDoorMathV
import Derived.Test.YthjjigobkndgjaaGreatDoorShelf2
import Derived.Test.YthjjigobkndgjaaGreatDoorEnc
import Derived.Test.YthjjigobkndgjaaGreatDoorBun4
import Derived.Laws.RangeAny
import Derived.Deep.RegionWith
import Derived.Test.YthjjigobkndgjaaGreatDoorBun6
/- What is proved here: contracts of utf.firstWrong, Valid and Mend: where the first wrong byte stands, whether there is none, and the text of the runes. -/
namespace Go.Proofs.YthjjigobkndgjaaGreatDoor.U
open Go.RowKit Go.Shelf

theorem byteArr_size (bs : List UInt8) : (⟨bs.toArray⟩ : ByteArray).size = bs.length := by simp [ByteArray.size]
theorem byteArr_get (bs : List UInt8) (j : Nat) : ((⟨bs.toArray⟩ : ByteArray).get! j).toNat = byteAt bs j := by
  show (bs.toArray[j]!).toNat = _
  unfold byteAt
  by_cases h : j < bs.length
  · rw [getElem!_pos bs.toArray j (by simpa using h)]; simp [h]
  · rw [getElem!_neg bs.toArray j (by simpa using h)]; simp [h]; rfl
theorem extract_drop (bs : List UInt8) (k : Nat) : ((⟨bs.toArray⟩ : ByteArray).extract k bs.length).data.toList = bs.drop k := by
  rw [ByteArray.data_extract, Array.toList_extract]
  simp [List.take_of_length_le]
theorem decode_drop (bs : List UInt8) (k : Nat) : Utf8.decode ⟨bs.toArray⟩ k = Lib.decodeN (bs.drop k).length (byteAt (bs.drop k) 0) (byteAt (bs.drop k) 1) (byteAt (bs.drop k) 2) (byteAt (bs.drop k) 3) := by
  rw [Lib.decode_at, byteArr_size]
  simp only [byteArr_get, byteAt_drop, List.length_drop, Nat.add_zero]
theorem hasPrefix_fffd (bs : List UInt8) : Lib.hasPrefix bs [239, 191, 189] = decide (3 ≤ bs.length ∧ byteAt bs 0 = 239 ∧ byteAt bs 1 = 191 ∧ byteAt bs 2 = 189) := by
  have hu : ∀ (a : UInt8) (n : Nat), n < 256 → ((UInt8.ofNat n == a) = true ↔ a.toNat = n) := fun a n hn => by
    rw [beq_iff_eq]
    constructor
    · intro h; rw [← h]; simp; omega
    · intro h; apply UInt8.toNat_inj.1; simp; omega
  rw [Bool.eq_iff_iff]
  unfold Lib.hasPrefix
  match bs with
  | [] => simp
  | [a] => simp [List.isPrefixOf]
  | [a, b] => simp [List.isPrefixOf]
  | a :: b :: c :: r =>
    have h1 := hu a 239 (by omega)
    have h2 := hu b 191 (by omega)
    have h3 := hu c 189 (by omega)
    simp only [List.isPrefixOf, Bool.and_eq_true, decide_eq_true_eq, Bool.and_true]
    rw [show ((239 : UInt8) == a) = (UInt8.ofNat 239 == a) from rfl, show ((191 : UInt8) == b) = (UInt8.ofNat 191 == b) from rfl, show ((189 : UInt8) == c) = (UInt8.ofNat 189 == c) from rfl, h1, h2, h3]
    simp [byteAt]

set_option maxRecDepth 100000 in
set_option maxHeartbeats 2000000 in
theorem firstWrong_calls (bs : List UInt8) (w : World) (hl : (bs.length : Int) ≤ 140737488355328) :
    Calls Tryz.prog 49 #[.string ⟨bs.toArray⟩] w fun e w' => e = .returned (.int .i64 (fw bs)) ∧ Below w.heap.size w w' := by
  have hsz := byteArr_size bs
  go_enter Tryz.func49, Tryz.ntmps49
  go_wp2
  go_loopw [] (fun w' => ∃ (k f : Nat), w' = w.iter ⟨bs.toArray⟩ k ∧ k ≤ bs.length ∧ bs.length < k + f ∧ Hid (fw bs = fwF bs f k)) (fun w' => bs.length - w'.iterPos w.heap.size)
  case atStart => exact ⟨0, bs.length + 1, rfl, by omega, by omega, rfl⟩
  case round =>
    obtain ⟨k, f, rfl, hk, hf, hs⟩ := hrel
    by_cases hlt : k < bs.length
    · have hd0 : 0 < (bs.drop k).length := by simp; omega
      obtain ⟨f', rfl⟩ : ∃ f', f = f' + 1 := ⟨f - 1, by omega⟩
      cases ha : nextAll (bs.drop k) with
      | true =>
        have hdec : Utf8.decode ⟨bs.toArray⟩ k = (runeOf (bs.drop k), nextN (bs.drop k)) := by rw [decode_drop]; exact decode_right _ hd0 ha
        have hnx : ∀ ty, (Instr.next (.pointer (some ⟨w.heap.size, 0, none⟩)) true ty).run Tryz.prog (w.iter ⟨bs.toArray⟩ k) = _ := fun ty => run_next_any w ⟨bs.toArray⟩ k ty (by rw [hsz]; exact hlt)
        rw [hdec] at hnx
        simp only at hnx
        have hs2 : Hid (fw bs = fwF bs f' (k + nextN (bs.drop k))) := hs.out.trans (fwF_on hlt ha)
        have hp1 := nextN_pos (bs.drop k)
        have hp2 := nextN_len (bs.drop k) hd0
        simp only [List.length_drop] at hp2
        by_cases hr : runeOf (bs.drop k) = 65533
        · obtain ⟨a, b, c, d⟩ := right_fffd _ hd0 ha hr
          have hq : ((runeOf (bs.drop k) : Int) == 65533) = true := by rw [hr]; rfl
          have PC : Hid (∀ w, Calls Tryz.prog 66 #[.string ((⟨bs.toArray⟩ : ByteArray).extract k bs.length), .string ⟨#[239, 191, 189]⟩] w fun e w' => e = .returned (.bool true) ∧ w' = w) := fun w => by
            have h := Any.strings_HasPrefix Tryz.lays99 ((⟨bs.toArray⟩ : ByteArray).extract k bs.length) ⟨#[239, 191, 189]⟩ w
            rw [extract_drop, show Lib.hasPrefix (bs.drop k) (⟨#[239, 191, 189]⟩ : ByteArray).data.toList = true by
              show Lib.hasPrefix (bs.drop k) [239, 191, 189] = true
              rw [hasPrefix_fffd]; simp only [decide_eq_true_eq]; exact ⟨d, a, b, c⟩] at h
            exact h
          clear hdec ha hr a b c d hs
          go_wp2_with (go_at_call 66; refine (PC.out _).mono ?_; rintro e w' ⟨rfl, rfl⟩)
          go_roundw
          case rel => exact ⟨k + nextN (bs.drop k), f', rfl, by omega, by omega, hs2⟩
          case measure => simp; omega
        · have hq : ((runeOf (bs.drop k) : Int) == 65533) = false := by simp; omega
          clear hdec ha hr hs
          go_wp2
          go_roundw
          case rel => exact ⟨k + nextN (bs.drop k), f', rfl, by omega, by omega, hs2⟩
          case measure => simp; omega
      | false =>
        have hdec : Utf8.decode ⟨bs.toArray⟩ k = (65533, 1) := by rw [decode_drop]; exact decode_wrong _ hd0 ha
        have hnx : ∀ ty, (Instr.next (.pointer (some ⟨w.heap.size, 0, none⟩)) true ty).run Tryz.prog (w.iter ⟨bs.toArray⟩ k) = _ := fun ty => run_next_any w ⟨bs.toArray⟩ k ty (by rw [hsz]; exact hlt)
        rw [hdec] at hnx
        simp only at hnx
        have hS : Hid (fw bs = k) := hs.out.trans (fwF_hit hlt ha)
        have PC : Hid (∀ w, Calls Tryz.prog 66 #[.string ((⟨bs.toArray⟩ : ByteArray).extract k bs.length), .string ⟨#[239, 191, 189]⟩] w fun e w' => e = .returned (.bool false) ∧ w' = w) := fun w => by
          have h := Any.strings_HasPrefix Tryz.lays99 ((⟨bs.toArray⟩ : ByteArray).extract k bs.length) ⟨#[239, 191, 189]⟩ w
          rw [extract_drop, show Lib.hasPrefix (bs.drop k) (⟨#[239, 191, 189]⟩ : ByteArray).data.toList = false by
            show Lib.hasPrefix (bs.drop k) [239, 191, 189] = false
            rw [hasPrefix_fffd]; simp only [decide_eq_false_iff_not]; rintro ⟨d, a, b, c⟩
            rw [fffd_right _ d a b c] at ha; cases ha] at h
          exact h
        clear hdec ha hs
        go_wp2_with (go_at_call 66; refine (PC.out _).mono ?_; rintro e w' ⟨rfl, rfl⟩)
        go_ret
        exact ⟨by rw [hS.out]; rfl, (Below.refl _ w).alloc (Nat.le_refl _) _⟩
    · have hnx : ∀ ty, (Instr.next (.pointer (some ⟨w.heap.size, 0, none⟩)) true ty).run Tryz.prog (w.iter ⟨bs.toArray⟩ k) = _ := fun ty => run_next_end w ⟨bs.toArray⟩ k ty (by rw [hsz]; exact hlt)
      have hS : Hid (fw bs = bs.length) := hs.out.trans (fwF_end hlt)
      go_wp2
      go_ret
      exact ⟨by rw [hS.out]; rfl, (Below.refl _ w).alloc (Nat.le_refl _) _⟩

end Go.Proofs.YthjjigobkndgjaaGreatDoor.U

/- What is proved here: the contract of utf.Mend: the text of the runes of a text's bytes. -/
namespace Go.Proofs.YthjjigobkndgjaaGreatDoor.U
open Go.RowKit Go.Shelf

theorem bytes_ext {a : ByteArray} {l : List UInt8} (h : a.data.toList = l) : a = ⟨l.toArray⟩ := by
  cases a with
  | mk d => simp only at h; rw [← h]
theorem extract_eq (bs : List UInt8) (k : Nat) : (⟨bs.toArray⟩ : ByteArray).extract k bs.length = ⟨(bs.drop k).toArray⟩ := bytes_ext (extract_drop bs k)
theorem extract_take (bs : List UInt8) (k : Nat) : (⟨bs.toArray⟩ : ByteArray).extract 0 k = ⟨(bs.take k).toArray⟩ := bytes_ext (by
  rw [ByteArray.data_extract, Array.toList_extract]; simp)
theorem fw_le (bs : List UInt8) : fw bs ≤ bs.length := fwF_le bs _ _
theorem runesI_map (bs : List UInt8) : ((runes bs).map fun r : Nat => Value.int .i32 (r : Int)) = (runesI bs).map (Value.int .i32) := by rw [runes_pcs]; simp [runesI]
theorem runes_len (bs : List UInt8) : (runes bs).length = (runesI bs).length := by rw [runes_pcs]; simp [runesI]

theorem mend_add (bs : List UInt8) (X : ByteArray) (hX : X = ⟨(bs.take (fw bs)).toArray⟩) (hl : (bs.length : Int) ≤ 35184372088832) {w : World} {v : Value} (h : (convert 69 9 v).run Tryz.prog w = .ok (.string ⟨(encs (runesI (bs.drop (fw bs)))).toArray⟩) w) :
    ∃ Y : ByteArray, Y = ⟨(encs (runesI (bs.drop (fw bs)))).toArray⟩ ∧ (convert 69 9 v).run Tryz.prog w = .ok (.string Y) w ∧ X.size + Y.size ≤ 9223372036854775807 := by
  refine ⟨_, rfl, h, ?_⟩
  subst hX
  have h1 := encs_length (runesI (bs.drop (fw bs)))
  have h2 := pcs_length (bs.drop (fw bs))
  rw [runesI_length] at h1
  rw [byteArr_size, byteArr_size, List.length_take]
  simp only [List.length_drop] at h2
  omega

set_option maxRecDepth 100000 in
set_option maxHeartbeats 4000000 in
theorem mend_calls (bs : List UInt8) (w : World) (hl : (bs.length : Int) ≤ 35184372088832) (hT : Lib.Utf8Tabs (Tryz.lays32_ren.g 2) (Tryz.lays32_ren.g 3) w) :
    Calls Tryz.prog 20 #[.string ⟨bs.toArray⟩] w fun e W' => e = .returned (.string ⟨(encs (runesI bs)).toArray⟩) ∧ Below w.heap.size w W' := by
  have HT : Hid (Lib.Utf8Tabs (Tryz.lays32_ren.g 2) (Tryz.lays32_ren.g 3) w) := hT
  have hsz := byteArr_size bs
  have hf := fw_le bs
  have e1 := extract_eq bs (fw bs)
  obtain ⟨X, hX⟩ : ∃ X : ByteArray, X = ⟨(bs.take (fw bs)).toArray⟩ := ⟨_, rfl⟩
  have e2 : (⟨bs.toArray⟩ : ByteArray).extract 0 (fw bs) = X := (extract_take bs (fw bs)).trans hX.symm
  have HX : Hid (X = ⟨(bs.take (fw bs)).toArray⟩) := hX
  clear hX
  have hcv : ∀ w, (convert 9 36 (.string ⟨(bs.drop (fw bs)).toArray⟩)).run Tryz.prog w = .ok (.slice (some ⟨w.heap.size, 0, none⟩) (bs.drop (fw bs)).length (grownCap w (bs.drop (fw bs)).length 0 5)) (Lib.bytesWorld w 5 ⟨(bs.drop (fw bs)).toArray⟩) := fun w => by
    have := Lib.run_convert_string_bytes (P := Tryz.prog) w 9 36 5 ⟨(bs.drop (fw bs)).toArray⟩ Tryz.underlying9 Tryz.underlying36 Tryz.underlying5
    rw [byteArr_size] at this
    exact this
  clear hT
  go_enter Tryz.func20, Tryz.ntmps20
  go_wp2_with (go_at_call 49; refine (firstWrong_calls bs _ (by omega)).mono ?_; rintro e w1 ⟨rfl, hb1⟩)
  have s1 := hb1.size
  have hbw : Below w.heap.size w (Lib.bytesWorld w1.drew 5 ⟨(bs.drop (fw bs)).toArray⟩) := hb1.drew.trans ((bytesWorld_below w1.drew _ _).mono s1)
  have RC : Hid (Calls Tryz.prog 50 #[.slice (some ⟨w1.heap.size, 0, none⟩) (bs.length - fw bs) (grownCap w1.drew (bs.length - fw bs) 0 5)] (Lib.bytesWorld w1.drew 5 ⟨(bs.drop (fw bs)).toArray⟩) fun e W' => ∃ v, e = .returned v ∧ W'.ownsRow (Lib.bytesWorld w1.drew 5 ⟨(bs.drop (fw bs)).toArray⟩).heap.size 21 1 v (runesI (bs.drop (fw bs))).length ((runesI (bs.drop (fw bs))).map (Value.int .i32)) ∧ Below (Lib.bytesWorld w1.drew 5 ⟨(bs.drop (fw bs)).toArray⟩).heap.size (Lib.bytesWorld w1.drew 5 ⟨(bs.drop (fw bs)).toArray⟩) W') := by
    have hrow := bytesWorld_row w1.drew 5 (bs.drop (fw bs))
    rw [List.length_drop] at hrow
    have h := runes_calls (some ⟨w1.heap.size, 0, none⟩) (bs.length - fw bs) (grownCap w1.drew (bs.length - fw bs) 0 5) (bs.drop (fw bs)) (Lib.bytesWorld w1.drew 5 ⟨(bs.drop (fw bs)).toArray⟩) (by simp; omega) (RowB.hasB0 (by simp) hrow (grownCap_ge _ _ _ _) _ (by rw [Lib.bytesWorld_size]; exact Nat.lt_succ_self _)) (tabs_below HT.out hbw)
    rw [runes_len, runesI_map] at h
    exact h
  have HBW : Hid (Below w.heap.size w (Lib.bytesWorld w1.drew 5 ⟨(bs.drop (fw bs)).toArray⟩)) := hbw
  clear hbw
  go_region_with (go_at_call 50; refine RC.out.mono ?_; rintro e w2 ⟨v, rfl, ho, hb2⟩; obtain ⟨ga, gc, rfl⟩ := owns_slice ho; obtain ⟨Y, hY, hcr, hbd⟩ := mend_add bs X HX.out hl (conv_runes (hasI_owns ho)); have HY : Hid (Y = ⟨(encs (runesI (bs.drop (fw bs)))).toArray⟩) := hY; clear hY)
  go_wp2
  go_ret
  refine ⟨?_, HBW.out.trans (hb2.mono HBW.out.size)⟩
  show Ending.returned (Value.string (X ++ Y)) = _
  rw [HX.out, HY.out]
  congr 2
  apply ByteArray.ext
  rw [ByteArray.data_append]
  apply Array.toList_inj.1
  have := mend_eq bs
  simpa using this

end Go.Proofs.YthjjigobkndgjaaGreatDoor.U
