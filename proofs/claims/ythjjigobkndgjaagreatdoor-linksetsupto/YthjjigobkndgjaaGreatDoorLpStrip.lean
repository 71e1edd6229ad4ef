/- What is proved here: the contracts of link.low and link.Strip: a link as a browser has it ahead of looking. -/
import Derived.Lib.OthersKept
import Derived.Test.YthjjigobkndgjaaGreatDoorLpTrim
import Derived.Test.YthjjigobkndgjaaGreatDoorBun10
import Derived.Test.YthjjigobkndgjaaGreatDoorBun7
namespace Go.Proofs.YthjjigobkndgjaaGreatDoor.L
open Go.RowKit Go.Shelf Go.Proofs.YthjjigobkndgjaaGreatDoor.N Go.Proofs.YthjjigobkndgjaaGreatDoor.U

/-- The tables of unicode/utf8 lie where they must. -/
abbrev Tb (w : World) : Prop := Lib.Utf8Tabs (Tryz.lays32_ren.g 2) (Tryz.lays32_ren.g 3) w
theorem Tb.below {w w' : World} (h : Tb w) (hb : Below w.heap.size w w') : Tb w' := tabs_below h hb
theorem tb237 {w : World} (h : Tb w) : Lib.Utf8Tabs (Tryz.lays237_ren.g 3) (Tryz.lays237_ren.g 4) w := h
theorem builder_iter {B b k : Nat} {bs : List Value} {w : World} {s : ByteArray} {pos : Nat} (h : Lib.IsBuilder 56 5 B b bs w) (hk : w.heap[k]? = some (.stringIter s pos)) (p' : Nat) : Lib.IsBuilder 56 5 B b bs (w.iterAt k s p') := by
  have one : ∀ p, Lib.BuilderAt 56 5 B b p bs w → Lib.BuilderAt 56 5 B b p bs (w.iterAt k s p') := fun p ⟨h1, v, hb, hown, hne⟩ => by
    refine ⟨h1, v, ?_, ?_, hne⟩
    · rw [Lib.iterAt_other _ _ _ _ _ (by rintro rfl; rw [hb] at hk; cases hk)]
      exact hb
    · refine hown.kept (row := some k) ⟨rfl, rfl, rfl, by rw [Lib.iterAt_size]; exact Nat.le_refl _, fun j _ hj => Lib.iterAt_other _ _ _ _ _ (fun e => hj (by rw [e]))⟩ ?_
      cases hv : v.ownBlock with
      | none => exact .inl rfl
      | some g =>
        refine .inr (fun e => ?_)
        obtain ⟨cs, fz, hc⟩ := row_cells hown hv
        cases e
        rw [hc] at hk; cases hk
  exact h.imp (one _) (one _)
theorem builder_below {B b : Nat} {bs : List Value} {w w' : World} (h : Lib.IsBuilder 56 5 B b bs w) (hb : Below w.heap.size w w') : Lib.IsBuilder 56 5 B b bs w' := by
  have one : ∀ p, Lib.BuilderAt 56 5 B b p bs w → Lib.BuilderAt 56 5 B b p bs w' := fun p ⟨h1, v, hbk, hown, hne⟩ =>
    ⟨h1, v, by rw [hb.block b (lt_of_block hbk)]; exact hbk, owns_below hown hb, hne⟩
  exact h.imp (one _) (one _)
theorem builder_made (w : World) : Lib.IsBuilder 56 5 w.heap.size w.heap.size [] (w.alloc (.cells #[.pointer none, .slice none 0 0] 56)) :=
  .inl ⟨Nat.le_refl _, .slice none 0 0, World.alloc_heap_new _ _, World.ownsRow_nil _ _ _ _, by simp [Value.ownBlock]⟩
theorem builderX : Builder.Extra Tryz.prog Tryz.lays169_ren := {
  sizeBuilder := by kernel_rfl
  liesBuilder := by kernel_rfl
  t5 := Tryz.underlying5
  a5 := Tryz.isAgg5
  z5 := Tryz.sizeOf5
  v5 := Tryz.zeroValue5
  infoByte := by kernel_rfl
  cellsByte := by kernel_rfl
  sizeByte := by kernel_rfl
  neB5 := by decide }
/-- **String of any builder.** -/
theorem bstring_calls (B b : Nat) (l : List UInt8) (w : World) (h : Lib.IsBuilder 56 5 B b (Lib.byteCells l) w) (hBw : B ≤ w.heap.size) :
    Calls Tryz.prog 29 #[.pointer (some ⟨b, 0, none⟩)] w fun e w' => e = .returned (.string ⟨l.toArray⟩) ∧ Below B w w' :=
  (Any.Builder_String_any_k Tryz.lays169 builderX B b l w (Lib.IsBuilderF.of h) hBw).mono fun _ _ ⟨h1, _, h2, _⟩ => ⟨h1, h2⟩
theorem low_calls (x : Nat) (_hx : x ≤ 1114111) (w : World) : Calls Tryz.prog 78 #[.int .i32 (x : Int)] w fun e w' => e = .returned (.bool (lowN x)) ∧ w' = w := by
  have hd : decide ((x : Int) ≤ 32) = lowN x := decide_eq_decide.2 (by omega)
  go_enter Tryz.func78, Tryz.ntmps78
  go_wp2
  go_ret
  exact ⟨by rw [← hd]; rfl, rfl⟩
/-- **TrimFunc by low.** -/
theorem trimLow_calls (rs : List Int) (hV : AllV rs) (w : World) (hT : Tb w) (hl : (encs rs).length ≤ 1000000000000) :
    Calls Tryz.prog 77 #[.string ⟨(encs rs).toArray⟩, .func (.func 78) #[] #[]] w fun e w' => e = .returned (.string ⟨(encs (trimR rs)).toArray⟩) ∧ Below w.heap.size w w' := by
  have h := Any.strings_TrimFunc_grows Tryz.lays237 78 #[] (enters_of Tryz.func78 (by kernel_rfl) rfl) lowN ⟨(encs rs).toArray⟩ w (by rw [arr_size]; omega) (tb237 hT)
    (fun W x hx _ => (low_calls x hx W).mono fun e w' ⟨h1, h2⟩ => ⟨h1, h2 ▸ Below.refl _ _⟩)
  rw [trim_enc lowN lowR low_eq rs hV] at h
  exact h
theorem take_enc (ts : List Int) (k : Nat) (h : k < ts.length) : encs (ts.take (k + 1)) = encs (ts.take k) ++ enc ts[k] := by
  rw [List.take_succ_eq_append_getElem h, encs_app, encs_one]
theorem split_enc (ts : List Int) (k : Nat) (h : k < ts.length) : encs ts = encs (ts.take k) ++ (enc ts[k] ++ encs (ts.drop (k + 1))) := by
  conv => lhs; rw [← List.take_append_drop k ts]
  rw [encs_app, List.drop_eq_getElem_cons h, encs_cons]
theorem enc_take_le (ts : List Int) (k : Nat) : (encs (ts.take k)).length ≤ (encs ts).length := by
  conv => rhs; rw [← List.take_append_drop k ts]
  rw [encs_app, List.length_append]; omega
theorem enc_lt {ts : List Int} {k : Nat} (h : k < ts.length) : (encs (ts.take k)).length < (encs ts).length := by
  rw [split_enc ts k h, List.length_append, List.length_append]
  have := enc_pos ts[k]
  omega
theorem filter_take (ts : List Int) (k : Nat) (h : k < ts.length) (q : Int → Bool) : encs ((ts.take (k + 1)).filter q) = encs ((ts.take k).filter q) ++ if q ts[k] then enc ts[k] else [] := by
  rw [List.take_succ_eq_append_getElem h, List.filter_append, encs_app]
  cases hq : q ts[k] <;> simp [hq, encs_nil, encs_one]
theorem filter_enc_le (ts : List Int) (q : Int → Bool) : (encs (ts.filter q)).length ≤ 4 * ts.length := by
  have h1 := encs_length (ts.filter q)
  have h2 := List.length_filter_le q ts
  omega
set_option maxRecDepth 100000 in
set_option maxHeartbeats 4000000 in
/-- **Strip.** -/
theorem strip_calls (bs : List UInt8) (w : World) (hT : Tb w) (hl : bs.length ≤ 10000000000) :
    Calls Tryz.prog 41 #[.string ⟨bs.toArray⟩] w fun e W' => e = .returned (.string ⟨(stripL bs).toArray⟩) ∧ Below w.heap.size w W' := by
  have HM : Hid (∀ W, Below w.heap.size w W → Calls Tryz.prog 20 #[.string ⟨bs.toArray⟩] W fun e W' => e = .returned (.string ⟨(encs (runesI bs)).toArray⟩) ∧ Below W.heap.size W W') := fun W hb => mend_calls bs W (by omega) (hT.below hb)
  have HS : Hid (stripL bs = encs (stripR (runesI bs))) := by show _ = _; unfold stripL mendL; exact strip_enc _ (runesI_valid bs)
  have hV := runesI_valid bs
  have hrl : (runesI bs).length ≤ bs.length := by rw [runesI_length]; exact pcs_length bs
  obtain ⟨rs, hR⟩ : ∃ rs, runesI bs = rs := ⟨_, rfl⟩
  rw [hR] at HM HS hV hrl
  have hel := encs_length rs
  have HT2 : Hid (∀ W, Below w.heap.size w W → Calls Tryz.prog 77 #[.string ⟨(encs rs).toArray⟩, .func (.func 78) #[] #[]] W fun e w' => e = .returned (.string ⟨(encs (trimR rs)).toArray⟩) ∧ Below W.heap.size W w') := fun W hb => trimLow_calls rs hV W (hT.below hb) (by omega)
  have hTV := trimR_valid hV
  have htl : (trimR rs).length ≤ rs.length := by
    unfold trimR
    have h2 := (List.dropWhile_sublist lowR (l := (rs.dropWhile lowR).reverse)).length_le
    have h3 := (List.dropWhile_sublist lowR (l := rs)).length_le
    simp only [List.length_reverse] at h2 ⊢
    omega
  have HS2 : Hid (stripL bs = encs ((trimR rs).filter fun z => !gapR z)) := HS.out
  clear HS hT
  obtain ⟨ts, hts⟩ : ∃ ts, trimR rs = ts := ⟨_, rfl⟩
  rw [hts] at HT2 hTV htl HS2
  have htn : ts.length ≤ 10000000000 := by omega
  clear hts hR htl hrl hel hl
  go_enter Tryz.func41, Tryz.ntmps41
  go_wp2_with fail
  have hb0 : Below w.heap.size w (w.alloc (.cells #[.pointer none, .slice none 0 0] 56)) := (Below.refl _ w).alloc (Nat.le_refl _) _
  (go_at_call 20; refine (HM.out _ hb0).mono ?_; rintro e w1 ⟨rfl, hb1⟩)
  have HI1 : Hid (Lib.IsBuilder 56 5 w.heap.size w.heap.size [] w1) := builder_below (builder_made w) hb1
  have hB1 : Below w.heap.size w w1 := hb0.trans (hb1.mono hb0.size)
  have z1 : w.heap.size < w1.heap.size := by have := hb1.size; simp at this; omega
  clear hb1 hb0
  go_wp2_with fail
  (go_at_call 77; refine (HT2.out _ hB1).mono ?_; rintro e w2 ⟨rfl, hb2⟩)
  have HI2 : Hid (Lib.IsBuilder 56 5 w.heap.size w.heap.size [] w2) := builder_below HI1.out hb2
  have HB2 : Hid (Below w.heap.size w w2) := hB1.trans (hb2.mono hB1.size)
  have z2 : w.heap.size < w2.heap.size := by have := hb2.size; omega
  clear hb2 hB1 HI1 z1
  go_wp2_with fail
  go_loopg [] ts.length (fun gf wx => ∃ k : Nat, k ≤ ts.length ∧ ts.length ≤ k + gf ∧ Hid (wx.heap[w2.heap.size]? = some (.stringIter ⟨(encs ts).toArray⟩ (encs (ts.take k)).length)) ∧ Hid (Lib.IsBuilder 56 5 w.heap.size w.heap.size (Lib.byteCells (encs ((ts.take k).filter fun z => !gapR z))) wx) ∧ Hid (Below w.heap.size w wx) ∧ w2.heap.size < wx.heap.size)
  case atStart => exact ⟨0, by omega, by omega, World.iter_heap w2 _ 0, builder_below HI2.out ((Below.refl _ w2).alloc (Nat.le_refl _) _), HB2.out.alloc HB2.out.size _, lt_of_block (World.iter_heap w2 _ 0)⟩
  case round =>
    obtain ⟨k, hk, hg, hit, hI, hB, hz⟩ := hrel
    by_cases hlt : k < ts.length
    · obtain ⟨g', rfl⟩ : ∃ g', gk = g' + 1 := ⟨gk - 1, by omega⟩
      obtain ⟨r, hr⟩ : ∃ r, ts[k] = r := ⟨_, rfl⟩
      have hvr : Utf8.valid r = true := by rw [← hr]; exact hTV _ (List.getElem_mem hlt)
      have hbr := (valid_iff r).1 hvr
      have hdec : Utf8.decode ⟨(encs ts).toArray⟩ (encs (ts.take k)).length = (r.toNat, (enc r).length) := by
        rw [split_enc ts k hlt, hr]; exact decode_enc _ r hvr _
      have hnx : ∀ ty, (Instr.next (.pointer (some ⟨w2.heap.size, 0, none⟩)) true ty).run Tryz.prog wr = _ := fun ty => Lib.run_next_any_at wr w2.heap.size ⟨(encs ts).toArray⟩ (encs (ts.take k)).length ty hit.out (by rw [arr_size]; exact enc_lt hlt)
      rw [hdec] at hnx
      simp only at hnx
      have hpos : (encs (ts.take k)).length + (enc r).length = (encs (ts.take (k + 1))).length := by rw [take_enc ts k hlt, hr, List.length_append]
      rw [hpos] at hnx
      have HI3 : Hid (Lib.IsBuilder 56 5 w.heap.size w.heap.size (Lib.byteCells (encs ((ts.take k).filter fun z => !gapR z))) (wr.iterAt w2.heap.size ⟨(encs ts).toArray⟩ (encs (ts.take (k + 1))).length)) := builder_iter hI.out hit.out _
      have HN3 : Hid ((wr.iterAt w2.heap.size ⟨(encs ts).toArray⟩ (encs (ts.take (k + 1))).length).heap[w2.heap.size]? = some (.stringIter ⟨(encs ts).toArray⟩ (encs (ts.take (k + 1))).length)) := Lib.iterAt_heap _ _ _ _ _ hit.out
      have HB3 : Hid (Below w.heap.size w (wr.iterAt w2.heap.size ⟨(encs ts).toArray⟩ (encs (ts.take (k + 1))).length)) := Lib.below_iterAt hB.out (by omega) _ _
      have z3 : (wr.iterAt w2.heap.size ⟨(encs ts).toArray⟩ (encs (ts.take (k + 1))).length).heap.size = wr.heap.size := Lib.iterAt_size _ _ _ _
      have HF : Hid (encs ((ts.take (k + 1)).filter fun z => !gapR z) = encs ((ts.take k).filter fun z => !gapR z) ++ if !gapR r then enc r else []) := by
        have := filter_take ts k hlt (fun z => !gapR z); rw [hr] at this; exact this
      have hfl := filter_enc_le (ts.take k) (fun z => !gapR z)
      rw [List.length_take] at hfl
      obtain ⟨W, hW⟩ : ∃ W, wr.iterAt w2.heap.size ⟨(encs ts).toArray⟩ (encs (ts.take (k + 1))).length = W := ⟨_, rfl⟩
      rw [hW] at hnx HI3 HN3 HB3 z3
      have z4 : w2.heap.size < W.heap.size := by omega
      clear hdec hit hI hB hpos hW z3 hr
      have hrn : (r.toNat : Int) = r := by omega
      rw [hrn] at hnx
      cases hgp : gapR r with
      | true =>
        have HF2 : Hid (encs ((ts.take (k + 1)).filter fun z => !gapR z) = encs ((ts.take k).filter fun z => !gapR z)) := by
          have := HF.out; rw [hgp] at this; show _ = _; simpa using this
        have h3 : r = 9 ∨ r = 10 ∨ r = 13 := by
          unfold gapR at hgp
          simp only [Bool.or_eq_true, beq_iff_eq] at hgp
          rcases hgp with (h | h) | h <;> simp [h]
        clear HF hgp hrn hvr
        rcases h3 with rfl | rfl | rfl
        all_goals
          go_wp2
          go_roundg g'
          case measure => omega
          case rel => exact ⟨k + 1, by omega, by omega, HN3, by rw [HF2.out]; exact HI3, HB3, z4⟩
      | false =>
        have n9 : (r == 9) = false := by unfold gapR at hgp; simp only [Bool.or_eq_false_iff] at hgp; exact hgp.1.1
        have n10 : (r == 10) = false := by unfold gapR at hgp; simp only [Bool.or_eq_false_iff] at hgp; exact hgp.1.2
        have n13 : (r == 13) = false := by unfold gapR at hgp; simp only [Bool.or_eq_false_iff] at hgp; exact hgp.2
        have HF2 : Hid (Lib.byteCells (encs ((ts.take (k + 1)).filter fun z => !gapR z)) = Lib.byteCells (encs ((ts.take k).filter fun z => !gapR z)) ++ Lib.runeCells r) := by
          have := HF.out; rw [hgp] at this
          show _ = _
          rw [this]
          simp only [Bool.not_false, if_true]
          rw [enc_shelf r hbr, ← Lib.byteCells_encodeRune]
          simp [Lib.byteCells]
        have HW := hid_of (writeRune_calls w.heap.size w.heap.size (Lib.byteCells (encs ((ts.take k).filter fun z => !gapR z))) r hbr W HI3.out (by rw [Lib.byteCells_length]; omega) (by omega))
        clear HF hgp hrn hvr hbr
        go_wp2_with (go_at_call 79; refine HW.out.mono ?_; rintro e W' ⟨⟨vr, rfl⟩, hi', hk', ho'⟩)
        go_roundg g'
        case measure => omega
        case rel => exact ⟨k + 1, by omega, by omega, ho'.same _ _ HN3.out rfl, by rw [HF2.out]; exact hi', HB3.out.trans hk'.1, by have := hk'.1.size; omega⟩
    · obtain rfl : k = ts.length := by omega
      have hnx : ∀ ty, (Instr.next (.pointer (some ⟨w2.heap.size, 0, none⟩)) true ty).run Tryz.prog wr = _ := fun ty => Lib.run_next_end_at wr w2.heap.size ⟨(encs ts).toArray⟩ (encs (ts.take ts.length)).length ty hit.out (by rw [arr_size, List.take_length]; omega)
      have HI3 : Hid (Lib.IsBuilder 56 5 w.heap.size w.heap.size (Lib.byteCells (stripL bs)) wr) := by
        have := hI.out; rw [List.take_length] at this; show Lib.IsBuilder _ _ _ _ _ _; rw [HS2.out]; exact this
      have HST := hid_of (bstring_calls w.heap.size w.heap.size (stripL bs) wr HI3.out (by have := hB.out.size; omega))
      clear hI
      go_wp2_with (go_at_call 29; refine HST.out.mono ?_; rintro e W' ⟨rfl, hb'⟩)
      go_ret
      exact ⟨rfl, hB.out.trans hb'⟩
end Go.Proofs.YthjjigobkndgjaaGreatDoor.L
