/- What is proved here: laws and contracts of LpStrip, LpColon, LpSch, one behind the other (each says its own). -/
import Derived.Lib.OthersKept
import Derived.Test.YtmfhhpacojodkaaGreatDoorLpTrim
import Derived.Test.YtmfhhpacojodkaaGreatDoorBun10
import Derived.Test.YtmfhhpacojodkaaGreatDoorBun5
import Derived.Test.YtmfhhpacojodkaaGreatDoorBun6
/- What is proved here: the contracts of link.low and link.Strip: a link as a browser has it ahead of looking. -/
namespace Go.Proofs.YtmfhhpacojodkaaGreatDoor.L
open Go.RowKit Go.Shelf Go.Proofs.YtmfhhpacojodkaaGreatDoor.N Go.Proofs.YtmfhhpacojodkaaGreatDoor.U

/-- The tables of unicode/utf8 lie where they must. -/
abbrev Tb (w : World) : Prop := Lib.Utf8Tabs (Tryz.lays32_ren.g 2) (Tryz.lays32_ren.g 3) w
theorem Tb.below {w w' : World} (h : Tb w) (hb : Below w.heap.size w w') : Tb w' := tabs_below h hb
theorem tb237 {w : World} (h : Tb w) : Lib.Utf8Tabs (Tryz.lays237_ren.g 3) (Tryz.lays237_ren.g 4) w := h
theorem builder_iter {B b k : Nat} {bs : List Value} {w : World} {s : ByteArray} {pos : Nat} (h : Lib.IsBuilder 57 5 B b bs w) (hk : w.heap[k]? = some (.stringIter s pos)) (p' : Nat) : Lib.IsBuilder 57 5 B b bs (w.iterAt k s p') := by
  have one : ∀ p, Lib.BuilderAt 57 5 B b p bs w → Lib.BuilderAt 57 5 B b p bs (w.iterAt k s p') := fun p ⟨h1, v, hb, hown, hne⟩ => by
    refine ⟨h1, v, ?_, ?_, hne⟩
    · rw [Lib.iterAt_other _ _ _ _ _ (by rintro rfl; rw [hb] at hk; cases hk)]
      exact hb
    · refine hown.kept (row := some k) ⟨rfl, rfl, rfl, by rw [Lib.iterAt_size]; exact Nat.le_refl _, fun j _ hj => Lib.iterAt_other _ _ _ _ _ (fun e => hj (by rw [e]))⟩ ?_
      cases hv : v.ownBlock with
      | none => exact .inl rfl
      | some g =>
        refine .inr (fun e => ?_)
        obtain ⟨cs, fz, hc⟩ := row_cells hown hv
        cases e
        rw [hc] at hk; cases hk
  exact h.imp (one _) (one _)
theorem builder_below {B b : Nat} {bs : List Value} {w w' : World} (h : Lib.IsBuilder 57 5 B b bs w) (hb : Below w.heap.size w w') : Lib.IsBuilder 57 5 B b bs w' := by
  have one : ∀ p, Lib.BuilderAt 57 5 B b p bs w → Lib.BuilderAt 57 5 B b p bs w' := fun p ⟨h1, v, hbk, hown, hne⟩ =>
    ⟨h1, v, by rw [hb.block b (lt_of_block hbk)]; exact hbk, owns_below hown hb, hne⟩
  exact h.imp (one _) (one _)
theorem builder_made (w : World) : Lib.IsBuilder 57 5 w.heap.size w.heap.size [] (w.alloc (.cells #[.pointer none, .slice none 0 0] 57)) :=
  .inl ⟨Nat.le_refl _, .slice none 0 0, World.alloc_heap_new _ _, World.ownsRow_nil _ _ _ _, by simp [Value.ownBlock]⟩
theorem builderX : Builder.Extra Tryz.prog Tryz.lays169_ren := {
  sizeBuilder := by kernel_rfl
  liesBuilder := by kernel_rfl
  t5 := Tryz.underlying5
  a5 := Tryz.isAgg5
  z5 := Tryz.sizeOf5
  v5 := Tryz.zeroValue5
  infoByte := by kernel_rfl
  cellsByte := by kernel_rfl
  sizeByte := by kernel_rfl
  neB5 := by decide }
/-- **String of any builder.** -/
theorem bstring_calls (B b : Nat) (l : List UInt8) (w : World) (h : Lib.IsBuilder 57 5 B b (Lib.byteCells l) w) (hBw : B ≤ w.heap.size) :
    Calls Tryz.prog 24 #[.pointer (some ⟨b, 0, none⟩)] w fun e w' => e = .returned (.string ⟨l.toArray⟩) ∧ Below B w w' :=
  (Any.Builder_String_any_k Tryz.lays169 builderX B b l w (Lib.IsBuilderF.of h) hBw).mono fun _ _ ⟨h1, _, h2, _⟩ => ⟨h1, h2⟩
theorem low_calls (x : Nat) (_hx : x ≤ 1114111) (w : World) : Calls Tryz.prog 65 #[.int .i32 (x : Int)] w fun e w' => e = .returned (.bool (lowN x)) ∧ w' = w := by
  have hd : decide ((x : Int) ≤ 32) = lowN x := decide_eq_decide.2 (by omega)
  go_enter Tryz.func65, Tryz.ntmps65
  go_wp2
  go_ret
  exact ⟨by rw [← hd]; rfl, rfl⟩
/-- **TrimFunc by low.** -/
theorem trimLow_calls (rs : List Int) (hV : AllV rs) (w : World) (hT : Tb w) (hl : (encs rs).length ≤ 1000000000000) :
    Calls Tryz.prog 64 #[.string ⟨(encs rs).toArray⟩, .func (.func 65) #[] #[]] w fun e w' => e = .returned (.string ⟨(encs (trimR rs)).toArray⟩) ∧ Below w.heap.size w w' := by
  have h := Any.strings_TrimFunc_grows Tryz.lays237 65 #[] (enters_of Tryz.func65 (by kernel_rfl) rfl) lowN ⟨(encs rs).toArray⟩ w (by rw [arr_size]; omega) (tb237 hT)
    (fun W x hx _ => (low_calls x hx W).mono fun e w' ⟨h1, h2⟩ => ⟨h1, h2 ▸ Below.refl _ _⟩)
  rw [trim_enc lowN lowR low_eq rs hV] at h
  exact h
theorem take_enc (ts : List Int) (k : Nat) (h : k < ts.length) : encs (ts.take (k + 1)) = encs (ts.take k) ++ enc ts[k] := by
  rw [List.take_succ_eq_append_getElem h, encs_app, encs_one]
theorem split_enc (ts : List Int) (k : Nat) (h : k < ts.length) : encs ts = encs (ts.take k) ++ (enc ts[k] ++ encs (ts.drop (k + 1))) := by
  conv => lhs; rw [← List.take_append_drop k ts]
  rw [encs_app, List.drop_eq_getElem_cons h, encs_cons]
theorem enc_take_le (ts : List Int) (k : Nat) : (encs (ts.take k)).length ≤ (encs ts).length := by
  conv => rhs; rw [← List.take_append_drop k ts]
  rw [encs_app, List.length_append]; omega
theorem enc_lt {ts : List Int} {k : Nat} (h : k < ts.length) : (encs (ts.take k)).length < (encs ts).length := by
  rw [split_enc ts k h, List.length_append, List.length_append]
  have := enc_pos ts[k]
  omega
theorem filter_take (ts : List Int) (k : Nat) (h : k < ts.length) (q : Int → Bool) : encs ((ts.take (k + 1)).filter q) = encs ((ts.take k).filter q) ++ if q ts[k] then enc ts[k] else [] := by
  rw [List.take_succ_eq_append_getElem h, List.filter_append, encs_app]
  cases hq : q ts[k] <;> simp [hq, encs_nil, encs_one]
theorem filter_enc_le (ts : List Int) (q : Int → Bool) : (encs (ts.filter q)).length ≤ 4 * ts.length := by
  have h1 := encs_length (ts.filter q)
  have h2 := List.length_filter_le q ts
  omega
set_option maxRecDepth 100000 in
set_option maxHeartbeats 4000000 in
/-- **Strip.** -/
theorem strip_calls (bs : List UInt8) (w : World) (hT : Tb w) (hl : bs.length ≤ 10000000000) :
    Calls Tryz.prog 32 #[.string ⟨bs.toArray⟩] w fun e W' => e = .returned (.string ⟨(stripL bs).toArray⟩) ∧ Below w.heap.size w W' := by
  have HM : Hid (∀ W, Below w.heap.size w W → Calls Tryz.prog 18 #[.string ⟨bs.toArray⟩] W fun e W' => e = .returned (.string ⟨(encs (runesI bs)).toArray⟩) ∧ Below W.heap.size W W') := fun W hb => mend_calls bs W (by omega) (hT.below hb)
  have HS : Hid (stripL bs = encs (stripR (runesI bs))) := by show _ = _; unfold stripL mendL; exact strip_enc _ (runesI_valid bs)
  have hV := runesI_valid bs
  have hrl : (runesI bs).length ≤ bs.length := by rw [runesI_length]; exact pcs_length bs
  obtain ⟨rs, hR⟩ : ∃ rs, runesI bs = rs := ⟨_, rfl⟩
  rw [hR] at HM HS hV hrl
  have hel := encs_length rs
  have HT2 : Hid (∀ W, Below w.heap.size w W → Calls Tryz.prog 64 #[.string ⟨(encs rs).toArray⟩, .func (.func 65) #[] #[]] W fun e w' => e = .returned (.string ⟨(encs (trimR rs)).toArray⟩) ∧ Below W.heap.size W w') := fun W hb => trimLow_calls rs hV W (hT.below hb) (by omega)
  have hTV := trimR_valid hV
  have htl : (trimR rs).length ≤ rs.length := by
    unfold trimR
    have h2 := (List.dropWhile_sublist lowR (l := (rs.dropWhile lowR).reverse)).length_le
    have h3 := (List.dropWhile_sublist lowR (l := rs)).length_le
    simp only [List.length_reverse] at h2 ⊢
    omega
  have HS2 : Hid (stripL bs = encs ((trimR rs).filter fun z => !gapR z)) := HS.out
  clear HS hT
  obtain ⟨ts, hts⟩ : ∃ ts, trimR rs = ts := ⟨_, rfl⟩
  rw [hts] at HT2 hTV htl HS2
  have htn : ts.length ≤ 10000000000 := by omega
  clear hts hR htl hrl hel hl
  go_enter Tryz.func32, Tryz.ntmps32
  go_wp2_with fail
  have hb0 : Below w.heap.size w (w.alloc (.cells #[.pointer none, .slice none 0 0] 57)) := (Below.refl _ w).alloc (Nat.le_refl _) _
  (go_at_call 18; refine (HM.out _ hb0).mono ?_; rintro e w1 ⟨rfl, hb1⟩)
  have HI1 : Hid (Lib.IsBuilder 57 5 w.heap.size w.heap.size [] w1) := builder_below (builder_made w) hb1
  have hB1 : Below w.heap.size w w1 := hb0.trans (hb1.mono hb0.size)
  have z1 : w.heap.size < w1.heap.size := by have := hb1.size; simp at this; omega
  clear hb1 hb0
  go_wp2_with fail
  (go_at_call 64; refine (HT2.out _ hB1).mono ?_; rintro e w2 ⟨rfl, hb2⟩)
  have HI2 : Hid (Lib.IsBuilder 57 5 w.heap.size w.heap.size [] w2) := builder_below HI1.out hb2
  have HB2 : Hid (Below w.heap.size w w2) := hB1.trans (hb2.mono hB1.size)
  have z2 : w.heap.size < w2.heap.size := by have := hb2.size; omega
  clear hb2 hB1 HI1 z1
  go_wp2_with fail
  go_loopg [] ts.length (fun gf wx => ∃ k : Nat, k ≤ ts.length ∧ ts.length ≤ k + gf ∧ Hid (wx.heap[w2.heap.size]? = some (.stringIter ⟨(encs ts).toArray⟩ (encs (ts.take k)).length)) ∧ Hid (Lib.IsBuilder 57 5 w.heap.size w.heap.size (Lib.byteCells (encs ((ts.take k).filter fun z => !gapR z))) wx) ∧ Hid (Below w.heap.size w wx) ∧ w2.heap.size < wx.heap.size)
  case atStart => exact ⟨0, by omega, by omega, World.iter_heap w2 _ 0, builder_below HI2.out ((Below.refl _ w2).alloc (Nat.le_refl _) _), HB2.out.alloc HB2.out.size _, lt_of_block (World.iter_heap w2 _ 0)⟩
  case round =>
    obtain ⟨k, hk, hg, hit, hI, hB, hz⟩ := hrel
    by_cases hlt : k < ts.length
    · obtain ⟨g', rfl⟩ : ∃ g', gk = g' + 1 := ⟨gk - 1, by omega⟩
      obtain ⟨r, hr⟩ : ∃ r, ts[k] = r := ⟨_, rfl⟩
      have hvr : Utf8.valid r = true := by rw [← hr]; exact hTV _ (List.getElem_mem hlt)
      have hbr := (valid_iff r).1 hvr
      have hdec : Utf8.decode ⟨(encs ts).toArray⟩ (encs (ts.take k)).length = (r.toNat, (enc r).length) := by
        rw [split_enc ts k hlt, hr]; exact decode_enc _ r hvr _
      have hnx : ∀ ty, (Instr.next (.pointer (some ⟨w2.heap.size, 0, none⟩)) true ty).run Tryz.prog wr = _ := fun ty => Lib.run_next_any_at wr w2.heap.size ⟨(encs ts).toArray⟩ (encs (ts.take k)).length ty hit.out (by rw [arr_size]; exact enc_lt hlt)
      rw [hdec] at hnx
      simp only at hnx
      have hpos : (encs (ts.take k)).length + (enc r).length = (encs (ts.take (k + 1))).length := by rw [take_enc ts k hlt, hr, List.length_append]
      rw [hpos] at hnx
      have HI3 : Hid (Lib.IsBuilder 57 5 w.heap.size w.heap.size (Lib.byteCells (encs ((ts.take k).filter fun z => !gapR z))) (wr.iterAt w2.heap.size ⟨(encs ts).toArray⟩ (encs (ts.take (k + 1))).length)) := builder_iter hI.out hit.out _
      have HN3 : Hid ((wr.iterAt w2.heap.size ⟨(encs ts).toArray⟩ (encs (ts.take (k + 1))).length).heap[w2.heap.size]? = some (.stringIter ⟨(encs ts).toArray⟩ (encs (ts.take (k + 1))).length)) := Lib.iterAt_heap _ _ _ _ _ hit.out
      have HB3 : Hid (Below w.heap.size w (wr.iterAt w2.heap.size ⟨(encs ts).toArray⟩ (encs (ts.take (k + 1))).length)) := Lib.below_iterAt hB.out (by omega) _ _
      have z3 : (wr.iterAt w2.heap.size ⟨(encs ts).toArray⟩ (encs (ts.take (k + 1))).length).heap.size = wr.heap.size := Lib.iterAt_size _ _ _ _
      have HF : Hid (encs ((ts.take (k + 1)).filter fun z => !gapR z) = encs ((ts.take k).filter fun z => !gapR z) ++ if !gapR r then enc r else []) := by
        have := filter_take ts k hlt (fun z => !gapR z); rw [hr] at this; exact this
      have hfl := filter_enc_le (ts.take k) (fun z => !gapR z)
      rw [List.length_take] at hfl
      obtain ⟨W, hW⟩ : ∃ W, wr.iterAt w2.heap.size ⟨(encs ts).toArray⟩ (encs (ts.take (k + 1))).length = W := ⟨_, rfl⟩
      rw [hW] at hnx HI3 HN3 HB3 z3
      have z4 : w2.heap.size < W.heap.size := by omega
      clear hdec hit hI hB hpos hW z3 hr
      have hrn : (r.toNat : Int) = r := by omega
      rw [hrn] at hnx
      cases hgp : gapR r with
      | true =>
        have HF2 : Hid (encs ((ts.take (k + 1)).filter fun z => !gapR z) = encs ((ts.take k).filter fun z => !gapR z)) := by
          have := HF.out; rw [hgp] at this; show _ = _; simpa using this
        have h3 : r = 9 ∨ r = 10 ∨ r = 13 := by
          unfold gapR at hgp
          simp only [Bool.or_eq_true, beq_iff_eq] at hgp
          rcases hgp with (h | h) | h <;> simp [h]
        clear HF hgp hrn hvr
        rcases h3 with rfl | rfl | rfl
        all_goals
          go_wp2
          go_roundg g'
          case measure => omega
          case rel => exact ⟨k + 1, by omega, by omega, HN3, by rw [HF2.out]; exact HI3, HB3, z4⟩
      | false =>
        have n9 : (r == 9) = false := by unfold gapR at hgp; simp only [Bool.or_eq_false_iff] at hgp; exact hgp.1.1
        have n10 : (r == 10) = false := by unfold gapR at hgp; simp only [Bool.or_eq_false_iff] at hgp; exact hgp.1.2
        have n13 : (r == 13) = false := by unfold gapR at hgp; simp only [Bool.or_eq_false_iff] at hgp; exact hgp.2
        have HF2 : Hid (Lib.byteCells (encs ((ts.take (k + 1)).filter fun z => !gapR z)) = Lib.byteCells (encs ((ts.take k).filter fun z => !gapR z)) ++ Lib.runeCells r) := by
          have := HF.out; rw [hgp] at this
          show _ = _
          rw [this]
          simp only [Bool.not_false, if_true]
          rw [enc_shelf r hbr, ← Lib.byteCells_encodeRune]
          simp [Lib.byteCells]
        have HW := hid_of (writeRune_calls w.heap.size w.heap.size (Lib.byteCells (encs ((ts.take k).filter fun z => !gapR z))) r hbr W HI3.out (by rw [Lib.byteCells_length]; omega) (by omega))
        clear HF hgp hrn hvr hbr
        go_wp2_with (go_at_call 66; refine HW.out.mono ?_; rintro e W' ⟨⟨vr, rfl⟩, hi', hk', ho'⟩)
        go_roundg g'
        case measure => omega
        case rel => exact ⟨k + 1, by omega, by omega, ho'.same _ _ HN3.out rfl, by rw [HF2.out]; exact hi', HB3.out.trans hk'.1, by have := hk'.1.size; omega⟩
    · obtain rfl : k = ts.length := by omega
      have hnx : ∀ ty, (Instr.next (.pointer (some ⟨w2.heap.size, 0, none⟩)) true ty).run Tryz.prog wr = _ := fun ty => Lib.run_next_end_at wr w2.heap.size ⟨(encs ts).toArray⟩ (encs (ts.take ts.length)).length ty hit.out (by rw [arr_size, List.take_length]; omega)
      have HI3 : Hid (Lib.IsBuilder 57 5 w.heap.size w.heap.size (Lib.byteCells (stripL bs)) wr) := by
        have := hI.out; rw [List.take_length] at this; show Lib.IsBuilder _ _ _ _ _ _; rw [HS2.out]; exact this
      have HST := hid_of (bstring_calls w.heap.size w.heap.size (stripL bs) wr HI3.out (by have := hB.out.size; omega))
      clear hI
      go_wp2_with (go_at_call 24; refine HST.out.mono ?_; rintro e W' ⟨rfl, hb'⟩)
      go_ret
      exact ⟨rfl, hB.out.trans hb'⟩
end Go.Proofs.YtmfhhpacojodkaaGreatDoor.L

/- What is proved here: the contracts of link.slash and link.colon: where a scheme ends. -/
namespace Go.Proofs.YtmfhhpacojodkaaGreatDoor.L
open Go.RowKit Go.Shelf Go.Proofs.YtmfhhpacojodkaaGreatDoor.N Go.Proofs.YtmfhhpacojodkaaGreatDoor.U

theorem inner_no {c : UInt8} (h : innerC c = true) : (c == 58) = false := by
  cases e : (c == 58) with
  | false => rfl
  | true =>
    have e' : c = 58 := by simpa using e
    subst e'
    exact absurd h (by decide)
theorem letter_inner {c : UInt8} (h : letterZ (c.toNat : Int) = true) : innerC c = true := by unfold innerC; rw [h]; rfl
/-- What the program's search ends with. -/
theorem colon_end (l : List UInt8) (k : Nat) (hP : ∀ j, j < k → innerC (l.getD j 0) = true) (hL : 0 < k → letterZ ((l.getD 0 0).toNat : Int) = true) (hk : k ≤ l.length)
    (hS : k = l.length ∨ (k < l.length ∧ (letterZ ((l.getD k 0).toNat : Int) = false ∧ (k = 0 ∨ innerC (l.getD k 0) = false)))) :
    colonZ l = if k = 0 ∨ k = l.length ∨ (l.getD k 0 == 58) = false then -1 else (k : Int) := by
  unfold colonZ
  by_cases h0 : k = 0
  · rw [if_pos (.inl h0)]
    have hn : colonL l = none := by
      unfold colonL
      rcases hS with h | ⟨_, h, _⟩
      · have : l = [] := List.length_eq_zero_iff.1 (by omega)
        rw [this]; rfl
      · rw [h0] at h; rw [h]; rfl
    rw [hn]
  · have hlet := hL (by omega)
    have hp : ∀ j, j < k → (l.getD j 0 == 58) = false ∧ innerC (l.getD j 0) = true := fun j hj => ⟨inner_no (hP j hj), hP j hj⟩
    have hcl : colonL l = colonF l := by unfold colonL; rw [hlet]; rfl
    rw [hcl]
    by_cases h1 : k = l.length
    · rw [if_pos (.inr (.inl h1)), colonF_all l (fun j hj => hp j (by omega))]
    · have hlt : k < l.length := by omega
      cases hc : (l.getD k 0 == 58) with
      | true => rw [if_neg (by simp; omega), colonF_at l k hlt hp hc]
      | false =>
        have hi : innerC (l.getD k 0) = false := by
          rcases hS with h | ⟨_, _, h | h⟩
          · omega
          · omega
          · exact h
        rw [if_pos (.inr (.inr rfl)), colonF_no l k hlt hp hc hi]
set_option maxRecDepth 100000 in
set_option maxHeartbeats 4000000 in
theorem pcolon_calls (l : List UInt8) (w : World) (hl : l.length ≤ 1000000000000) : Calls Tryz.prog 33 #[.string ⟨l.toArray⟩] w fun e w' => e = .returned (.int .i64 (colonZ l)) ∧ w' = w := by
  have sl := arr_size l
  go_enter Tryz.func33, Tryz.ntmps33
  go_wp2
  go_step3
  go_wp2
  go_step3
  go_wp2
  go_loopw [3] (fun vi wr => ∃ k : Nat, k ≤ l.length ∧ vi = .int .i64 k ∧ wr = w ∧ Hid (∀ j, j < k → innerC (l.getD j 0) = true) ∧ Hid (0 < k → letterZ ((l.getD 0 0).toNat : Int) = true)) (fun vi _ => l.length - (intOf vi).toNat)
  case atStart => exact ⟨0, by omega, rfl, by trivial, fun j hj => by omega, fun h => by omega⟩
  case round =>
    obtain ⟨k, hk, rfl, hwr, hP, hL⟩ := hrel
    obtain rfl : w = wr := hwr.symm
    clear hwr
    have HEND := hid_of (colon_end l k hP.out hL.out hk)
    by_cases hlt : k < l.length
    · obtain ⟨c, hc⟩ : ∃ c, l.getD k 0 = c := ⟨_, rfl⟩
      have hik := byte_at l k c hlt hc (k : Int) rfl
      have hcl := c.toNat_lt
      have hw : wrap32 (c.toNat : Int) = c.toNat := by unfold wrap32; omega
      have HLE := hid_of (letter_calls (c.toNat : Int) w)
      have HDI := hid_of (digit_calls (c.toNat : Int) w)
      rw [hc] at HEND
      have HC := hid_of hc
      clear hc
      cases hlet : letterZ (c.toNat : Int) with
      | true =>
        have HP2 : Hid (∀ j, j < k + 1 → innerC (l.getD j 0) = true) := fun j hj => by
          by_cases e : j = k
          · rw [e, HC.out]; exact letter_inner hlet
          · exact hP.out j (by omega)
        have HL2 : Hid (0 < k + 1 → letterZ ((l.getD 0 0).toNat : Int) = true) := fun _ => by
          by_cases e : k = 0
          · subst e; rw [HC.out]; exact hlet
          · exact hL.out (by omega)
        rw [hlet] at HLE
        clear hlet
        go_wp2_with (go_at_call 60; refine HLE.out.mono ?_; rintro e w' ⟨rfl, hx⟩; obtain rfl : w = w' := hx.symm)
        exact ⟨⟨k + 1, by omega, by go_num, by trivial, HP2, HL2⟩, by simp [intOf]; omega⟩
      | false =>
        have e43 : ((c.toNat : Int) == 43) = (c == 43) := eq_byte c 43
        have e45 : ((c.toNat : Int) == 45) = (c == 45) := eq_byte c 45
        have e46 : ((c.toNat : Int) == 46) = (c == 46) := eq_byte c 46
        have e58 : ((c.toNat : Int) != 58) = !(c == 58) := by rw [← eq_byte c 58]; rfl
        have HIN : Hid (innerC c = (digitZ c.toNat || c == 43 || c == 45 || c == 46)) := by
          show _ = _
          unfold innerC
          rw [hlet]
          rfl
        by_cases h0 : k = 0
        · have HZ : Hid (colonZ l = -1) := by
            show _ = _
            rw [HEND.out (.inr ⟨hlt, hlet, .inl h0⟩), if_pos (.inl h0)]
          have hkp : decide ((k : Int) > 0) = false := by simp; omega
          have hkp' : decide (0 < k) = false := by simp; omega
          have hk0 : ((k : Int) == 0) = true := by simp; omega
          rw [hlet] at HLE
          clear hlet HEND hP hL h0
          go_wp2_with (go_at_call 60; refine HLE.out.mono ?_; rintro e w' ⟨rfl, hx⟩; obtain rfl : w = w' := hx.symm)
          rw [Exit.noGoto_ret]
          go_ret
          exact ⟨by rw [HZ.out]; rfl, rfl⟩
        · have hkp : decide ((k : Int) > 0) = true := by simp; omega
          have hkp' : decide (0 < k) = true := by simp; omega
          have hk0 : ((k : Int) == 0) = false := by simp; omega
          have hkl : ((k : Int) == (l.length : Int)) = false := by simp; omega
          have HP2 : Hid (innerC c = true → ∀ j, j < k + 1 → innerC (l.getD j 0) = true) := fun h j hj => by
            by_cases e : j = k
            · rw [e, HC.out]; exact h
            · exact hP.out j (by omega)
          have HL2 : Hid (0 < k + 1 → letterZ ((l.getD 0 0).toNat : Int) = true) := fun _ => hL.out (by omega)
          have HZ : Hid (innerC c = false → colonZ l = if (c == 58) = false then -1 else (k : Int)) := fun h => by
            rw [HEND.out (.inr ⟨hlt, hlet, .inr h⟩)]
            have h1 : (k = 0 ∨ k = l.length ∨ (c == 58) = false) ↔ (c == 58) = false := ⟨fun h => by rcases h with h | h | h <;> first | omega | exact h, fun h => .inr (.inr h)⟩
            simp only [h1]
          rw [hlet] at HLE
          clear hlet HEND hP hL HC
          have hcs : (innerC c = true ∧ (digitZ c.toNat = true ∨ (digitZ c.toNat = false ∧ (c == 43) = true) ∨ (digitZ c.toNat = false ∧ (c == 43) = false ∧ (c == 45) = true) ∨ (digitZ c.toNat = false ∧ (c == 43) = false ∧ (c == 45) = false ∧ (c == 46) = true))) ∨ (innerC c = false ∧ digitZ c.toNat = false ∧ (c == 43) = false ∧ (c == 45) = false ∧ (c == 46) = false) := by
            rw [HIN.out]
            cases digitZ (c.toNat : Int) <;> cases (c == 43) <;> cases (c == 45) <;> cases (c == 46) <;> simp
          clear HIN
          rcases hcs with ⟨hin, hcs⟩ | ⟨hin, x1, x2, x3, x4⟩
          · have HB := hid_of (HP2.out hin)
            clear HZ HP2 hin e58
            rcases hcs with x1 | ⟨x1, x2⟩ | ⟨x1, x2, x3⟩ | ⟨x1, x2, x3, x4⟩
            all_goals
              rw [x1] at HDI
              clear x1
              try (rw [x2] at e43; clear x2)
              try (rw [x3] at e45; clear x3)
              try (rw [x4] at e46; clear x4)
              go_wp2_with (first
                | (go_at_call 60; refine HLE.out.mono ?_; rintro e w' ⟨rfl, hx⟩; obtain rfl : w = w' := hx.symm)
                | (go_at_call 61; refine HDI.out.mono ?_; rintro e w' ⟨rfl, hx⟩; obtain rfl : w = w' := hx.symm))
              exact ⟨⟨k + 1, by omega, by go_num, by trivial, HB, HL2⟩, by simp [intOf]; omega⟩
          · have HB := hid_of (HZ.out hin)
            rw [x1] at HDI
            rw [x2] at e43
            rw [x3] at e45
            rw [x4] at e46
            clear HZ HP2 hin x1 x2 x3 x4 HL2
            cases hb58 : (c == 58)
            all_goals
              rw [hb58] at e58 HB
              clear hb58
              go_wp2_with (first
                | (go_at_call 60; refine HLE.out.mono ?_; rintro e w' ⟨rfl, hx⟩; obtain rfl : w = w' := hx.symm)
                | (go_at_call 61; refine HDI.out.mono ?_; rintro e w' ⟨rfl, hx⟩; obtain rfl : w = w' := hx.symm))
              rw [Exit.noGoto_ret]
              go_ret
              exact ⟨by rw [HB.out]; rfl, rfl⟩
    · obtain rfl : k = l.length := by omega
      have HZ : Hid (colonZ l = -1) := by show _ = _; rw [HEND.out (.inl rfl), if_pos (.inr (.inl rfl))]
      clear HEND hP hL
      by_cases h0 : l.length = 0
      · have hk0 : ((l.length : Int) == 0) = true := by rw [h0]; rfl
        clear h0
        go_wp2
        rw [Exit.noGoto_ret]
        go_ret
        exact ⟨by rw [HZ.out]; rfl, rfl⟩
      · have hk0 : ((l.length : Int) == 0) = false := by simp; exact fun e => h0 (by rw [e]; rfl)
        have hk1 : ((l.length : Int) == (l.length : Int)) = true := by simp
        go_wp2
        rw [Exit.noGoto_ret]
        go_ret
        exact ⟨by rw [HZ.out]; rfl, rfl⟩
end Go.Proofs.YtmfhhpacojodkaaGreatDoor.L

/- What is proved here: the contracts of link.colon, link.Scheme, link.slash and link.Kind. -/
namespace Go.Proofs.YtmfhhpacojodkaaGreatDoor.L
open Go.RowKit Go.Shelf Go.Proofs.YtmfhhpacojodkaaGreatDoor.N Go.Proofs.YtmfhhpacojodkaaGreatDoor.U

set_option maxRecDepth 100000 in
set_option maxHeartbeats 2000000 in
/-- **Scheme.** -/
theorem scheme_calls (bs : List UInt8) (w : World) (hT : Tb w) (hl : bs.length ≤ 10000000000) : Calls Tryz.prog 41 #[.string ⟨bs.toArray⟩] w fun e W' => e = .returned (schemeV (stripL bs)) ∧ Below w.heap.size w W' := by
  have HS : Hid (Calls Tryz.prog 32 #[.string ⟨bs.toArray⟩] w fun e W' => e = .returned (.string ⟨(stripL bs).toArray⟩) ∧ Below w.heap.size w W') := strip_calls bs w hT hl
  have hsl := stripL_le bs
  clear hT
  obtain ⟨l, hL⟩ : ∃ l, stripL bs = l := ⟨_, rfl⟩
  rw [hL] at HS hsl ⊢
  clear hL
  have HC := hid_of (fun W => pcolon_calls l W (by omega))
  cases hc : colonL l with
  | none =>
    have hz : colonZ l = -1 := by unfold colonZ; rw [hc]
    have HV : Hid (schemeV l = .tuple #[.string ⟨#[]⟩, .bool false]) := by show _ = _; unfold schemeV; rw [hc]
    rw [hz] at HC
    clear hc hz
    go_enter Tryz.func41, Tryz.ntmps41
    go_wp2_with fail
    (go_at_call 32; refine HS.out.mono ?_; rintro e w1 ⟨rfl, hb1⟩)
    go_wp2_with fail
    (go_at_call 33; refine (HC.out _).mono ?_; rintro e w2 ⟨rfl, hx⟩; obtain rfl : w1 = w2 := hx.symm)
    go_wp2_with fail
    go_ret2
    exact ⟨by rw [HV.out]; rfl, hb1⟩
  | some n =>
    have hn := colonL_lt hc
    have hz : colonZ l = n := by unfold colonZ; rw [hc]
    have HV : Hid (schemeV l = .tuple #[.string ⟨(lower (l.take n)).toArray⟩, .bool true]) := by show _ = _; unfold schemeV; rw [hc]
    rw [hz] at HC
    have hd : decide ((n : Int) < 0) = false := by simp
    have hs := slice_h l n (by omega) (n : Int) rfl
    have HLO := hid_of (fun W => lower_calls ⟨(l.take n).toArray⟩ W (by rw [arr_size]; simp; omega))
    rw [arr_list] at HLO
    clear hc hz
    go_enter Tryz.func41, Tryz.ntmps41
    go_wp2_with fail
    (go_at_call 32; refine HS.out.mono ?_; rintro e w1 ⟨rfl, hb1⟩)
    go_wp2_with fail
    (go_at_call 33; refine (HC.out _).mono ?_; rintro e w2 ⟨rfl, hx⟩; obtain rfl : w1 = w2 := hx.symm)
    go_wp2_with fail
    (go_at_call 34; refine (HLO.out _).mono ?_; rintro e w3 ⟨rfl, hb3⟩)
    go_wp2_with fail
    go_ret2
    exact ⟨by rw [HV.out]; rfl, hb1.trans (hb3.mono hb1.size)⟩
end Go.Proofs.YtmfhhpacojodkaaGreatDoor.L
