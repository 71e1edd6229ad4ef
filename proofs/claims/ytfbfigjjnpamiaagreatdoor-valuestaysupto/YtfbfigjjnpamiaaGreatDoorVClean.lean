/- What is proved here: the contracts of input.Clean and of the document's own Clean (sieveref03), of any text: the text of its runes, each made plain. -/
import Derived.Test.YtfbfigjjnpamiaaGreatDoorLpStrip
import Derived.Test.YtfbfigjjnpamiaaGreatDoorVMath
namespace Go.Proofs.YtfbfigjjnpamiaaGreatDoor.V
open Go.RowKit Go.Shelf Go.Proofs.YtfbfigjjnpamiaaGreatDoor.N Go.Proofs.YtfbfigjjnpamiaaGreatDoor.U Go.Proofs.YtfbfigjjnpamiaaGreatDoor.L

set_option maxRecDepth 100000 in
set_option maxHeartbeats 2000000 in
/-- **sieveref03.Clean of any text.** -/
theorem rclean_calls (bs : List UInt8) (w : World) (hl : bs.length ≤ 274877906944) :
    Calls Tryz.prog 22 #[.string ⟨bs.toArray⟩] w fun e W' => e = .returned (.string ⟨(clB bs).toArray⟩) ∧ Below w.heap.size w W' := by
  obtain ⟨i0, hi, hz0, hz1, hz2⟩ := info_parts info21
  have hcv := Lib.run_convert_string_bytes (P := Tryz.prog) w 9 47 5 ⟨bs.toArray⟩ Tryz.underlying9 Tryz.underlying47 Tryz.underlying5
  rw [byteArr_size] at hcv
  have hbw := bytesWorld_below w 5 ⟨bs.toArray⟩
  have hwz : (Lib.bytesWorld w 5 ⟨bs.toArray⟩).heap.size = w.heap.size + 1 := Lib.bytesWorld_size w 5 ⟨bs.toArray⟩
  have RC : Hid (∀ cap, bs.length ≤ cap → Calls Tryz.prog 34 #[.slice (some ⟨w.heap.size, 0, none⟩) bs.length cap] (Lib.bytesWorld w 5 ⟨bs.toArray⟩) fun e W' => ∃ a cap, e = .returned (.slice a (runesI bs).length cap) ∧ W'.ownsRow (Lib.bytesWorld w 5 ⟨bs.toArray⟩).heap.size 21 1 (.slice a (runesI bs).length cap) (runesI bs).length ((runesI bs).map (Value.int .i32)) ∧ Below (Lib.bytesWorld w 5 ⟨bs.toArray⟩).heap.size (Lib.bytesWorld w 5 ⟨bs.toArray⟩) W') :=
    fun cap hcap => rrunes_calls _ bs (w.heap.size + 1) _ (by omega) (RowB.hasB0 rfl (bytesWorld_row w 5 bs) hcap _ (Nat.lt_succ_self _))
  have HBW : Hid (Below w.heap.size w (Lib.bytesWorld w 5 ⟨bs.toArray⟩)) := hbw
  have HRL : Hid ((runesI bs).length = (pcs bs).length) := runesI_length bs
  have hrle : (runesI bs).length ≤ bs.length := by rw [runesI_length]; exact pcs_length bs
  clear hbw
  go_enter Tryz.func22, Tryz.ntmps22
  go_wp2_with (go_at_call 34; refine (RC.out _ (grownCap_ge _ _ _ _)).mono ?_; rintro e w2 ⟨al, cl, rfl, hown2, hb2⟩)
  clear hcv
  have s2 := hb2.size
  go_loopw [3, 10] (fun v i wr => ∃ k : Nat, k ≤ (runesI bs).length ∧ i = .int .i64 k ∧ wr.ownsRow w2.heap.size 21 1 v k ((((runesI bs).take k).map plainZ).map (Value.int .i32)) ∧ Below w2.heap.size w2 wr) (fun _ i _ => (runesI bs).length - (intOf i).toNat)
  case atStart => exact ⟨0, by omega, rfl, World.ownsRow_nil _ _ _ _, Below.refl _ _⟩
  case round =>
    obtain ⟨k, hk, rfl, hrow, hB⟩ := hrel
    by_cases hlt : k < (runesI bs).length
    · have hcell : ∃ g, al = some ⟨g, 0, none⟩ ∧ g < w2.heap.size ∧ w2.cell? ⟨g, k, none⟩ = some (.int .i32 (runesI bs)[k]) := by
        rcases hown2.2 with ⟨_, h0⟩ | ⟨g, cap', cur, hv, _, hg, _⟩
        · omega
        · cases hv
          refine ⟨g, rfl, lt_of_block hg, ?_⟩
          rw [hown2.cellAt k (by omega)]
          simp [hlt]
      obtain ⟨g, rfl, hg, c0⟩ := hcell
      have c0 := (hB.cell (p := ⟨g, k, none⟩) hg).trans c0
      have HG : Hid ((runesI bs).take (k + 1) = (runesI bs).take k ++ [(runesI bs)[k]]) := List.take_succ_eq_append_getElem hlt
      have hrb : ∃ n : Nat, (runesI bs)[k] = (n : Int) ∧ n < 1114112 := by
        have := (valid_iff _).1 (runesI_valid bs _ (List.getElem_mem hlt))
        exact ⟨((runesI bs)[k]).toNat, by omega, by omega⟩
      obtain ⟨n, hn, hn1⟩ := hrb
      rw [hn] at c0 HG
      have s1 := hB.size
      clear hn
      go_wp2_with (first | (go_at_call 35; refine (rplain_calls _ (by omega) (by omega) _).mono ?_; rintro e w' ⟨rfl, hw'⟩; obtain rfl : wr = w' := hw'.symm) | (at_builtin; refine wpList_append_own _ rfl _ _ 66 rfl w2.heap.size 21 i0 (.int .i32 0) 1 4 Tryz.underlying66 hi hz0 hz1 hz2 rfl (by decide) _ _ _ rfl (hrow.alloc _) ⟨wr.heap.size, 0, none⟩ 1 1 [.int .i32 (plainZ n)] rfl rfl (cell_one_at _ _ _ _ rfl) (by simp [Value.oneCell']) (by unfold maxLen; omega) (by omega) (by simp; omega) ?_; intro v' w4 hown' hgrow _))
      go_roundw
      case rel => exact ⟨k + 1, by omega, by go_num, by rw [HG.out]; simpa using hown', (hB.alloc (by omega) _).grown hgrow (by simp; omega) (fun j hj => (hrow.lt j hj).1)⟩
      case measure => simp [intOf]; omega
    · obtain rfl : k = (runesI bs).length := by omega
      rw [List.take_length] at hrow
      have hI : HasI .i32 wr _ ((runesI bs).map plainZ) := hasI_owns (e := 21) (by simpa using hrow)
      obtain ⟨ga, gc, hg⟩ := owns_slice hrow
      subst hg
      have s1 := hB.size
      go_wp2_with (go_at_call 36; refine (text_calls _ _ _ (by simp; omega) hI).mono ?_; rintro e w5 ⟨rfl, hb5⟩)
      go_ret
      exact ⟨rfl, ((HBW.out.trans (hb2.mono HBW.out.size)).trans (hB.mono (by have := HBW.out.size; omega))).trans (hb5.mono (by have := HBW.out.size; omega))⟩


theorem map_take (ts : List Int) (k : Nat) (h : k < ts.length) : encs ((ts.take (k + 1)).map plainZ) = encs ((ts.take k).map plainZ) ++ enc (plainZ ts[k]) := by
  rw [List.take_succ_eq_append_getElem h, List.map_append, encs_app]
  simp [encs_one]
theorem map_enc_le (ts : List Int) : (encs (ts.map plainZ)).length ≤ 4 * ts.length := by
  have h1 := encs_length (ts.map plainZ)
  simpa using h1
set_option maxRecDepth 100000 in
set_option maxHeartbeats 4000000 in
/-- **input.Clean of any text.** -/
theorem clean_calls (bs : List UInt8) (w : World) (hT : Tb w) (hl : bs.length ≤ 10000000000) :
    Calls Tryz.prog 24 #[.string ⟨bs.toArray⟩] w fun e W' => e = .returned (.string ⟨(clB bs).toArray⟩) ∧ Below w.heap.size w W' := by
  have HM : Hid (∀ W, Below w.heap.size w W → Calls Tryz.prog 38 #[.string ⟨bs.toArray⟩] W fun e W' => e = .returned (.string ⟨(encs (runesI bs)).toArray⟩) ∧ Below W.heap.size W W') := fun W hb => mend_calls bs W (by omega) (hT.below hb)
  have HS : Hid (clB bs = encs ((runesI bs).map plainZ)) := rfl
  have hTV := runesI_valid bs
  have htn : (runesI bs).length ≤ bs.length := by rw [runesI_length]; exact pcs_length bs
  obtain ⟨ts, hR⟩ : ∃ ts, runesI bs = ts := ⟨_, rfl⟩
  rw [hR] at HM HS hTV htn
  clear hT hR
  go_enter Tryz.func24, Tryz.ntmps24
  go_wp2_with fail
  have hb0 : Below w.heap.size w (w.alloc (.cells #[.pointer none, .slice none 0 0] 73)) := (Below.refl _ w).alloc (Nat.le_refl _) _
  (go_at_call 38; refine (HM.out _ hb0).mono ?_; rintro e w2 ⟨rfl, hb1⟩)
  have HI2 : Hid (Lib.IsBuilder 73 5 w.heap.size w.heap.size [] w2) := builder_below (builder_made w) hb1
  have HB2 : Hid (Below w.heap.size w w2) := hb0.trans (hb1.mono hb0.size)
  have z2 : w.heap.size < w2.heap.size := by have := hb1.size; simp at this; omega
  clear hb1 hb0
  go_wp2_with fail
  go_loopg [] ts.length (fun gf wx => ∃ k : Nat, k ≤ ts.length ∧ ts.length ≤ k + gf ∧ Hid (wx.heap[w2.heap.size]? = some (.stringIter ⟨(encs ts).toArray⟩ (encs (ts.take k)).length)) ∧ Hid (Lib.IsBuilder 73 5 w.heap.size w.heap.size (Lib.byteCells (encs ((ts.take k).map plainZ))) wx) ∧ Hid (Below w.heap.size w wx) ∧ w2.heap.size < wx.heap.size)
  case atStart => exact ⟨0, by omega, by omega, World.iter_heap w2 _ 0, builder_below HI2.out ((Below.refl _ w2).alloc (Nat.le_refl _) _), HB2.out.alloc HB2.out.size _, lt_of_block (World.iter_heap w2 _ 0)⟩
  case round =>
    obtain ⟨k, hk, hg, hit, hI, hB, hz⟩ := hrel
    by_cases hlt : k < ts.length
    · obtain ⟨g', rfl⟩ : ∃ g', gk = g' + 1 := ⟨gk - 1, by omega⟩
      obtain ⟨r, hr⟩ : ∃ r, ts[k] = r := ⟨_, rfl⟩
      have hvr : Utf8.valid r = true := by rw [← hr]; exact hTV _ (List.getElem_mem hlt)
      have hbr := (valid_iff r).1 hvr
      have hdec : Utf8.decode ⟨(encs ts).toArray⟩ (encs (ts.take k)).length = (r.toNat, (enc r).length) := by
        rw [split_enc ts k hlt, hr]; exact decode_enc _ r hvr _
      have hnx : ∀ ty, (Instr.next (.pointer (some ⟨w2.heap.size, 0, none⟩)) true ty).run Tryz.prog wr = _ := fun ty => Lib.run_next_any_at wr w2.heap.size ⟨(encs ts).toArray⟩ (encs (ts.take k)).length ty hit.out (by rw [arr_size]; exact enc_lt hlt)
      rw [hdec] at hnx
      simp only at hnx
      have hpos : (encs (ts.take k)).length + (enc r).length = (encs (ts.take (k + 1))).length := by rw [take_enc ts k hlt, hr, List.length_append]
      rw [hpos] at hnx
      have HI3 : Hid (Lib.IsBuilder 73 5 w.heap.size w.heap.size (Lib.byteCells (encs ((ts.take k).map plainZ))) (wr.iterAt w2.heap.size ⟨(encs ts).toArray⟩ (encs (ts.take (k + 1))).length)) := builder_iter hI.out hit.out _
      have HN3 : Hid ((wr.iterAt w2.heap.size ⟨(encs ts).toArray⟩ (encs (ts.take (k + 1))).length).heap[w2.heap.size]? = some (.stringIter ⟨(encs ts).toArray⟩ (encs (ts.take (k + 1))).length)) := Lib.iterAt_heap _ _ _ _ _ hit.out
      have HB3 : Hid (Below w.heap.size w (wr.iterAt w2.heap.size ⟨(encs ts).toArray⟩ (encs (ts.take (k + 1))).length)) := Lib.below_iterAt hB.out (by omega) _ _
      have z3 : (wr.iterAt w2.heap.size ⟨(encs ts).toArray⟩ (encs (ts.take (k + 1))).length).heap.size = wr.heap.size := Lib.iterAt_size _ _ _ _
      have hpo := plainZ_ok r hbr.1 hbr.2.1
      have HF : Hid (Lib.byteCells (encs ((ts.take (k + 1)).map plainZ)) = Lib.byteCells (encs ((ts.take k).map plainZ)) ++ Lib.runeCells (plainZ r)) := by
        have := map_take ts k hlt
        rw [hr] at this
        show _ = _
        rw [this, enc_shelf _ hpo, ← Lib.byteCells_encodeRune]
        simp [Lib.byteCells]
      have hfl := map_enc_le (ts.take k)
      rw [List.length_take] at hfl
      obtain ⟨W, hW⟩ : ∃ W, wr.iterAt w2.heap.size ⟨(encs ts).toArray⟩ (encs (ts.take (k + 1))).length = W := ⟨_, rfl⟩
      rw [hW] at hnx HI3 HN3 HB3 z3
      have z4 : w2.heap.size < W.heap.size := by omega
      clear hdec hit hI hB hpos hW z3 hr
      have hrn : (r.toNat : Int) = r := by omega
      rw [hrn] at hnx
      have HW := hid_of (writeRune_calls w.heap.size w.heap.size (Lib.byteCells (encs ((ts.take k).map plainZ))) (plainZ r) hpo W HI3.out (by rw [Lib.byteCells_length]; omega) (by omega))
      have HP := hid_of (plain_calls r (by omega) (by omega))
      clear hrn hvr hbr hpo
      go_wp2_with (first | (go_at_call 40; refine (HP.out _).mono ?_; rintro e w' ⟨rfl, hw'⟩; obtain rfl : W = w' := hw'.symm) | (go_at_call 39; refine HW.out.mono ?_; rintro e W' ⟨⟨vr, rfl⟩, hi', hk', ho'⟩))
      go_roundg g'
      case measure => omega
      case rel => exact ⟨k + 1, by omega, by omega, ho'.same _ _ HN3.out rfl, by rw [HF.out]; exact hi', HB3.out.trans hk'.1, by have := hk'.1.size; omega⟩
    · obtain rfl : k = ts.length := by omega
      have hnx : ∀ ty, (Instr.next (.pointer (some ⟨w2.heap.size, 0, none⟩)) true ty).run Tryz.prog wr = _ := fun ty => Lib.run_next_end_at wr w2.heap.size ⟨(encs ts).toArray⟩ (encs (ts.take ts.length)).length ty hit.out (by rw [arr_size, List.take_length]; omega)
      have HI3 : Hid (Lib.IsBuilder 73 5 w.heap.size w.heap.size (Lib.byteCells (clB bs)) wr) := by
        have := hI.out; rw [List.take_length] at this; show Lib.IsBuilder _ _ _ _ _ _; rw [HS.out]; exact this
      have HST := hid_of (bstring_calls w.heap.size w.heap.size (clB bs) wr HI3.out (by have := hB.out.size; omega))
      clear hI
      go_wp2_with (go_at_call 41; refine HST.out.mono ?_; rintro e W' ⟨rfl, hb'⟩)
      go_ret
      exact ⟨rfl, hB.out.trans hb'⟩
end Go.Proofs.YtfbfigjjnpamiaaGreatDoor.V
