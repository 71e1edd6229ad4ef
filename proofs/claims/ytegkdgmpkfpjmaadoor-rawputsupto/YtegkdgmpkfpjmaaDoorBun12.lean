/- What is proved here: laws and contracts of RUpTo, RPiece, Mend, one behind the other (each says its own). -/
import Derived.Test.YtegkdgmpkfpjmaaDoorBun5
import Derived.Test.YtegkdgmpkfpjmaaDoorRWMath
import Derived.Deep.RegionWith
import Derived.Test.YtegkdgmpkfpjmaaDoorBun4
import Derived.Test.YtegkdgmpkfpjmaaDoorValid
/- What is proved here: upToStop of package raw: a text up to its first sign that may end a tag. -/
namespace Go.Proofs.YtegkdgmpkfpjmaaDoor.R
open Go.RowKit Go.Shelf Go.Proofs.YtegkdgmpkfpjmaaDoor.U Go.Proofs.YtegkdgmpkfpjmaaDoor.N

theorem enters_stops : ∀ args w, (callFunc 49 args).run Tryd.prog w = .ok (.enter 49 args) w := enters_of Tryd.func49 (by kernel_rfl) rfl
theorem pred_stops (w : World) : PredGrows Tryd.prog 49 #[] (fun x => stopZ (x : Int)) w := fun W x _ _ => (stops_calls (x : Int) W).mono fun _ _ h => ⟨h.1, by rw [h.2]; exact Below.refl _ _⟩
theorem indexf_calls (bs : List UInt8) (w : World) :
    Calls Tryd.prog 69 #[.string ⟨bs.toArray⟩, .func (.func 49) #[] #[], .bool true] w fun e w' => e = .returned (.int .i64 (Lib.idxFunc (fun x => stopZ (x : Int)) true ⟨bs.toArray⟩)) ∧ Below w.heap.size w w' :=
  Any.strings_indexFunc_grows Tryd.lays315 49 #[] enters_stops (fun x => stopZ (x : Int)) true ⟨bs.toArray⟩ w (pred_stops w)
set_option maxRecDepth 100000 in
set_option maxHeartbeats 1000000 in
theorem index_calls (bs : List UInt8) (w : World) :
    Calls Tryd.prog 48 #[.string ⟨bs.toArray⟩, .func (.func 49) #[] #[]] w fun e w' => e = .returned (.int .i64 (Lib.idxFunc (fun x => stopZ (x : Int)) true ⟨bs.toArray⟩)) ∧ Below w.heap.size w w' := by
  have HI := indexf_calls bs w
  generalize Lib.idxFunc (fun x => stopZ (x : Int)) true ⟨bs.toArray⟩ = I at *
  have HI : Hid (Calls Tryd.prog 69 #[.string ⟨bs.toArray⟩, .func (.func 49) #[] #[], .bool true] w fun e w' => e = .returned (.int .i64 I) ∧ Below w.heap.size w w') := HI
  go_enter Tryd.func48, Tryd.ntmps48
  go_wp2_with fail
  (go_at_call 69; refine HI.out.mono ?_; rintro e w1 ⟨rfl, hb⟩)
  go_wp2_with fail
  go_ret
  exact ⟨rfl, hb⟩
theorem slice_h (bs : List UInt8) (k : Nat) (hk : k ≤ bs.length) (K : Int) (hK : K = k) (w : World) : (Instr.slice 9 (.string ⟨bs.toArray⟩) none (some (.int .i64 K)) none).run Tryd.prog w = .ok (.string ⟨(bs.take k).toArray⟩) w := by
  subst hK
  have hsz : (⟨bs.toArray⟩ : ByteArray).size = bs.length := by simp [ByteArray.size]
  rw [run_slice_string_h w 9 ⟨bs.toArray⟩ Tryd.underlying9 .i64 k (by omega) (by rw [hsz]; omega)]
  congr 2
  apply ByteArray.ext
  simp
set_option maxRecDepth 100000 in
set_option maxHeartbeats 2000000 in
/-- **upToStop.** -/
theorem upto_calls (bs : List UInt8) (w : World) (hs : bs.length ≤ 100000000) :
    Calls Tryd.prog 31 #[.string ⟨bs.toArray⟩] w fun e w' => e = .returned (.string ⟨(bs.take (upTo bs)).toArray⟩) ∧ Below w.heap.size w w' := by
  have hle := upTo_le bs
  have HI : Hid (Calls Tryd.prog 48 #[.string ⟨bs.toArray⟩, .func (.func 49) #[] #[]] w fun e w' => e = .returned (.int .i64 (Lib.idxFunc (fun x => stopZ (x : Int)) true ⟨bs.toArray⟩)) ∧ Below w.heap.size w w') := index_calls bs w
  rcases idx_upTo bs with ⟨h1, h2⟩ | ⟨h1, h2⟩
  · rw [h1] at HI
    rw [h2]
    clear h1 h2
    go_enter Tryd.func31, Tryd.ntmps31
    go_wp2_with fail
    (go_at_call 48; refine HI.out.mono ?_; rintro e w1 ⟨rfl, hb⟩)
    go_wp2_with fail
    go_ret
    exact ⟨rfl, hb⟩
  · rw [h1] at HI
    obtain ⟨n, hn⟩ : ∃ n, upTo bs = n + 1 := ⟨upTo bs - 1, by omega⟩
    rw [hn] at HI ⊢
    rw [show (((n + 1 : Nat) : Int) - 1) = (n : Int) by omega] at HI
    have hsl := slice_h bs (n + 1) (by omega) ((n : Int) + 1) (by omega)
    have hlt : decide ((n : Int) < 0) = false := by rw [decide_eq_false_iff_not]; omega
    have hwr : IntKind.i64.wrap ((n : Int) + 1) = (n : Int) + 1 := by rw [IntKind.wrap_i64]; omega
    clear h1 h2 hn
    go_enter Tryd.func31, Tryd.ntmps31
    go_wp2_with fail
    (go_at_call 48; refine HI.out.mono ?_; rintro e w1 ⟨rfl, hb⟩)
    go_wp2_with fail
    go_ret
    exact ⟨rfl, hb⟩
end Go.Proofs.YtegkdgmpkfpjmaaDoor.R

/- What is proved here: plain facts: reading a text up to each sign that may end a tag; what Whole answers, by the machine. -/
namespace Go.Proofs.YtegkdgmpkfpjmaaDoor.R
open Go.RowKit Go.Shelf Go.Proofs.YtegkdgmpkfpjmaaDoor.U Go.Proofs.YtegkdgmpkfpjmaaDoor.N

theorem cut_behind (X : List UInt8) (c : UInt8) (h : stopB c = true) : Cut (X ++ [c]) := fun Y => runesI_behind X Y c (stopB_low h)
/-- **What Whole answers**, by the machine: t the content's bytes, n how many bytes are told, ok whether the end tag has come. -/
def WholeIs (nm : List Int) (p : Nat) (bs t : List UInt8) (n : Nat) (ok : Bool) : Prop :=
  (ok = true ∧ n ≤ bs.length ∧ Cut (bs.take n) ∧ ∃ l1 r, runesI (bs.take n) = l1 ++ [r] ∧ ((s0 p).run nm l1).p ≠ 6 ∧ ((s0 p).run nm (l1 ++ [r])).p = 6 ∧ t = encs ((s0 p).run nm (l1 ++ [r])).o) ∨
  (ok = false ∧ n = bs.length ∧ ((s0 p).run nm (runesI bs)).p ≠ 6 ∧ t = encs (runesI bs))
/-- **One piece more.** -/
theorem piece_step (nm : List Int) (p : Nat) (h1 : 1 ≤ p) (h5 : p ≤ 5) (bs P : List UInt8) (k : Nat) (hk : k < bs.length) (hP : P = (bs.drop k).take (upTo (bs.drop k))) (hcut : Cut (bs.take k)) (h6 : ((s0 p).run nm (runesI (bs.take k))).p ≠ 6) :
    0 < P.length ∧ k + P.length ≤ bs.length ∧ bs.take (k + P.length) = bs.take k ++ P ∧ runesI (bs.take (k + P.length)) = runesI (bs.take k) ++ runesI P ∧
    (Cut (bs.take (k + P.length)) ∨ k + P.length = bs.length) ∧
    (((s0 p).run nm (runesI (bs.take (k + P.length)))).p = 6 → WholeIs nm p bs (encs ((s0 p).run nm (runesI (bs.take (k + P.length)))).o) (k + P.length) true) := by
  have hd : 0 < (bs.drop k).length := by simp; omega
  have hu := upTo_le (bs.drop k)
  have hu0 := upTo_pos (bs.drop k) hd
  have hPl : P.length = upTo (bs.drop k) := by rw [hP, List.length_take]; omega
  have hdl : (bs.drop k).length = bs.length - k := by simp
  have ht : bs.take (k + P.length) = bs.take k ++ P := by rw [hPl, List.take_add, ← hP]
  have hr : runesI (bs.take (k + P.length)) = runesI (bs.take k) ++ runesI P := by rw [ht]; exact hcut P
  have hkp : Ok nm ((s0 p).run nm (runesI (bs.take k))) := by
    rcases run_keeps nm (runesI (bs.take k)) (s0 p) (s0_ok nm h1 h5) with h | h
    · exact absurd h h6
    · exact h.1
  refine ⟨by omega, by omega, ht, hr, ?_, fun hc => ?_⟩
  · rcases upTo_cases (bs.drop k) with ⟨X, c, e1, e2, e3⟩ | ⟨e1, e2⟩
    · left
      rw [ht, hP, e1, ← List.append_assoc]
      exact cut_behind _ c e2
    · right; omega
  · rcases upTo_cases (bs.drop k) with ⟨X, c, e1, e2, e3⟩ | ⟨e1, e2⟩
    · have hlow := stopB_low e2
      have hRP : runesI P = runesI X ++ [(c.toNat : Int)] := by rw [hP, e1, runesI_append X [c] (.inr (by simpa [byteAt] using hlow)), runesI_ascii c [] hlow]; rfl
      left
      refine ⟨rfl, by omega, by rw [ht, hP, e1, ← List.append_assoc]; exact cut_behind _ c e2, runesI (bs.take k) ++ runesI X, (c.toNat : Int), by rw [hr, hRP, List.append_assoc], ?_, ?_, ?_⟩
      · rw [run_append]
        exact run_not nm _ _ hkp (runes_nostop X.length X (Nat.le_refl _) e3)
      · rw [List.append_assoc, ← hRP, ← hr]; exact hc
      · rw [List.append_assoc, ← hRP, ← hr]
    · exfalso
      rw [hr, run_append] at hc
      refine run_not nm _ _ hkp (runes_nostop P.length P (Nat.le_refl _) ?_) hc
      rw [hP]
      exact fun b hb => e2 b (List.mem_of_mem_take hb)
theorem whole_open (nm : List Int) (p : Nat) (bs : List UInt8) (h6 : ((s0 p).run nm (runesI bs)).p ≠ 6) : WholeIs nm p bs (encs (runesI bs)) bs.length false := .inr ⟨rfl, rfl, h6, rfl⟩
end Go.Proofs.YtegkdgmpkfpjmaaDoor.R

/- What is proved here: the contract of utf.Mend: the text of the runes of a text's bytes. -/
namespace Go.Proofs.YtegkdgmpkfpjmaaDoor.U
open Go.RowKit Go.Shelf

theorem bytes_ext {a : ByteArray} {l : List UInt8} (h : a.data.toList = l) : a = ⟨l.toArray⟩ := by
  cases a with
  | mk d => simp only at h; rw [← h]
theorem extract_eq (bs : List UInt8) (k : Nat) : (⟨bs.toArray⟩ : ByteArray).extract k bs.length = ⟨(bs.drop k).toArray⟩ := bytes_ext (extract_drop bs k)
theorem extract_take (bs : List UInt8) (k : Nat) : (⟨bs.toArray⟩ : ByteArray).extract 0 k = ⟨(bs.take k).toArray⟩ := bytes_ext (by
  rw [ByteArray.data_extract, Array.toList_extract]; simp)
theorem fw_le (bs : List UInt8) : fw bs ≤ bs.length := fwF_le bs _ _
theorem runesI_map (bs : List UInt8) : ((runes bs).map fun r : Nat => Value.int .i32 (r : Int)) = (runesI bs).map (Value.int .i32) := by rw [runes_pcs]; simp [runesI]
theorem runes_len (bs : List UInt8) : (runes bs).length = (runesI bs).length := by rw [runes_pcs]; simp [runesI]

theorem mend_add (bs : List UInt8) (X : ByteArray) (hX : X = ⟨(bs.take (fw bs)).toArray⟩) (hl : (bs.length : Int) ≤ 35184372088832) {w : World} {v : Value} (h : (convert 32 9 v).run Tryd.prog w = .ok (.string ⟨(encs (runesI (bs.drop (fw bs)))).toArray⟩) w) :
    ∃ Y : ByteArray, Y = ⟨(encs (runesI (bs.drop (fw bs)))).toArray⟩ ∧ (convert 32 9 v).run Tryd.prog w = .ok (.string Y) w ∧ X.size + Y.size ≤ 9223372036854775807 := by
  refine ⟨_, rfl, h, ?_⟩
  subst hX
  have h1 := encs_length (runesI (bs.drop (fw bs)))
  have h2 := pcs_length (bs.drop (fw bs))
  rw [runesI_length] at h1
  rw [byteArr_size, byteArr_size, List.length_take]
  simp only [List.length_drop] at h2
  omega

set_option maxRecDepth 100000 in
set_option maxHeartbeats 4000000 in
theorem mend_calls (bs : List UInt8) (w : World) (hl : (bs.length : Int) ≤ 35184372088832) (hT : Lib.Utf8Tabs (Tryd.lays32_ren.g 2) (Tryd.lays32_ren.g 3) w) :
    Calls Tryd.prog 32 #[.string ⟨bs.toArray⟩] w fun e W' => e = .returned (.string ⟨(encs (runesI bs)).toArray⟩) ∧ Below w.heap.size w W' := by
  have HT : Hid (Lib.Utf8Tabs (Tryd.lays32_ren.g 2) (Tryd.lays32_ren.g 3) w) := hT
  have hsz := byteArr_size bs
  have hf := fw_le bs
  have e1 := extract_eq bs (fw bs)
  obtain ⟨X, hX⟩ : ∃ X : ByteArray, X = ⟨(bs.take (fw bs)).toArray⟩ := ⟨_, rfl⟩
  have e2 : (⟨bs.toArray⟩ : ByteArray).extract 0 (fw bs) = X := (extract_take bs (fw bs)).trans hX.symm
  have HX : Hid (X = ⟨(bs.take (fw bs)).toArray⟩) := hX
  clear hX
  have hcv : ∀ w, (convert 9 34 (.string ⟨(bs.drop (fw bs)).toArray⟩)).run Tryd.prog w = .ok (.slice (some ⟨w.heap.size, 0, none⟩) (bs.drop (fw bs)).length (grownCap w (bs.drop (fw bs)).length 0 5)) (Lib.bytesWorld w 5 ⟨(bs.drop (fw bs)).toArray⟩) := fun w => by
    have := Lib.run_convert_string_bytes (P := Tryd.prog) w 9 34 5 ⟨(bs.drop (fw bs)).toArray⟩ Tryd.underlying9 Tryd.underlying34 Tryd.underlying5
    rw [byteArr_size] at this
    exact this
  clear hT
  go_enter Tryd.func32, Tryd.ntmps32
  go_wp2_with (go_at_call 50; refine (firstWrong_calls bs _ (by omega)).mono ?_; rintro e w1 ⟨rfl, hb1⟩)
  have s1 := hb1.size
  have hbw : Below w.heap.size w (Lib.bytesWorld w1.drew 5 ⟨(bs.drop (fw bs)).toArray⟩) := hb1.drew.trans ((bytesWorld_below w1.drew _ _).mono s1)
  have RC : Hid (Calls Tryd.prog 51 #[.slice (some ⟨w1.heap.size, 0, none⟩) (bs.length - fw bs) (grownCap w1.drew (bs.length - fw bs) 0 5)] (Lib.bytesWorld w1.drew 5 ⟨(bs.drop (fw bs)).toArray⟩) fun e W' => ∃ v, e = .returned v ∧ W'.ownsRow (Lib.bytesWorld w1.drew 5 ⟨(bs.drop (fw bs)).toArray⟩).heap.size 21 1 v (runesI (bs.drop (fw bs))).length ((runesI (bs.drop (fw bs))).map (Value.int .i32)) ∧ Below (Lib.bytesWorld w1.drew 5 ⟨(bs.drop (fw bs)).toArray⟩).heap.size (Lib.bytesWorld w1.drew 5 ⟨(bs.drop (fw bs)).toArray⟩) W') := by
    have hrow := bytesWorld_row w1.drew 5 (bs.drop (fw bs))
    rw [List.length_drop] at hrow
    have h := runes_calls (some ⟨w1.heap.size, 0, none⟩) (bs.length - fw bs) (grownCap w1.drew (bs.length - fw bs) 0 5) (bs.drop (fw bs)) (Lib.bytesWorld w1.drew 5 ⟨(bs.drop (fw bs)).toArray⟩) (by simp; omega) (RowB.hasB0 (by simp) hrow (grownCap_ge _ _ _ _) _ (by rw [Lib.bytesWorld_size]; exact Nat.lt_succ_self _)) (tabs_below HT.out hbw)
    rw [runes_len, runesI_map] at h
    exact h
  have HBW : Hid (Below w.heap.size w (Lib.bytesWorld w1.drew 5 ⟨(bs.drop (fw bs)).toArray⟩)) := hbw
  clear hbw
  go_region_with (go_at_call 51; refine RC.out.mono ?_; rintro e w2 ⟨v, rfl, ho, hb2⟩; obtain ⟨ga, gc, rfl⟩ := owns_slice ho; obtain ⟨Y, hY, hcr, hbd⟩ := mend_add bs X HX.out hl (conv_runes (hasI_owns ho)); have HY : Hid (Y = ⟨(encs (runesI (bs.drop (fw bs)))).toArray⟩) := hY; clear hY)
  go_wp2
  go_ret
  refine ⟨?_, HBW.out.trans (hb2.mono HBW.out.size)⟩
  show Ending.returned (Value.string (X ++ Y)) = _
  rw [HX.out, HY.out]
  congr 2
  apply ByteArray.ext
  rw [ByteArray.data_append]
  apply Array.toList_inj.1
  have := mend_eq bs
  simpa using this

end Go.Proofs.YtegkdgmpkfpjmaaDoor.U
