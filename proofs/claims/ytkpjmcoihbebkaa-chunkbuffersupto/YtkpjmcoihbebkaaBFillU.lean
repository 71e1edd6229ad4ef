/- What is proved here: the contract of a buffer's fill, as Until calls it, with the path of its reads. (Written by wip/gen_b.py.) -/
import Derived.Test.YtkpjmcoihbebkaaCFillU
import Derived.Test.YtkpjmcoihbebkaaBun7
namespace Go.Proofs.Ytkpjmcoihbebkaa.CInv
open Go.RowKit C

/-- Until's question. -/
def okU (c : UInt8) (H : List UInt8) : Bool := decide (Lib.indexByte H c ≠ -1)
/-- How a fill ends, with its path. -/
def outB (ok : List UInt8 → Bool) (out : Int → List UInt8 → Nat → Nat → World → Prop) (size : Nat) (l : Scr) (H : List UInt8) (i p t : Nat) (E : Int) (H' : List UInt8) (i' p' : Nat) (W : World) : Prop :=
  out E H' i' p' W ∧ ∃ em' t', t' = t + (H'.length - H.length) ∧ Path ok size l (H, i, p, t, 0) (H', i', p', t', em') ∧ Fin ok size l (H', i', p', t', em') E

set_option maxRecDepth 100000 in
set_option maxHeartbeats 4000000 in
theorem fillUb_calls {base : Nat} (Q : Nat → Prop) (w : World) (b g : Nat) (Cc B : Nat) (c : UInt8) (l : Scr) (i p t : Nat) (size taken : Nat) (a : Option Addr) (cap : Nat) (H : List UInt8) (h : BufAt w b g size taken (.slice a H.length cap)) (hI : Inv l i p t) (hS : Src base w g (reach l) i p t) (hC : Boxed w Cc 5 (.int .u8 c.toNat)) (hB : Boxed w B 3 (.int .i64 0)) (hc : H.length ≤ cap)
    (hH : HeldSt w.heap.size (fun j => j ≠ g ∧ ¬ (fun j => j = Cc ∨ j = B) j ∧ j ≠ b ∧ Q j) w (.slice a H.length H.length) H) (hHB : HasB w.heap.size w (.slice a H.length H.length) H) (hgb : g < b) (hbC : b < Cc) (hbB : b < B) (hCB : Cc ≠ B) (hsz : H.length ≤ size) (hsize : size ≤ 16777216) (hbd : (bytesOf l).1.length ≤ 16777216) (hll : l.length ≤ 16777216) (hd : ∀ x ∈ l, x.1.length ≤ 100000000000000) :
    Calls Try.prog 30 #[.pointer (some ⟨b, 0, none⟩), .func (.func 35) #[] #[.pointer (some ⟨Cc, 0, none⟩), .pointer (some ⟨B, 0, none⟩)]] w fun e W' => ∃ E : Int, e = .returned (.int .i64 E) ∧ FillEndG (outB (okU c) (outU Cc B c size i l) size l H i p t) (fun j => j = Cc ∨ j = B) Q base b g w.heap.size size taken l w i t H E W' := by
  have c2 : w.cell? ⟨b, 2, none⟩ = some (.slice a H.length cap) := Blk.cell h 2
  have HST0 : Hid (FillG (bxU Cc B c) (fun j => j = Cc ∨ j = B) Q base b g w.heap.size size taken (.slice a H.length cap) l w i t H (.slice a H.length H.length) H [] 0 i p t w) :=
    ⟨hI, hS, h, hH, ⟨rfl, hC, hB⟩, Nat.le_refl _, by omega, by simp, hsz, by omega, KeepP.refl _ _⟩
  have HHB : Hid (HasB w.heap.size w (.slice a H.length H.length) H) := hHB
  have hc' : ((H.length : Nat) : Int) ≤ (cap : Int) := by omega
  have HBW2 : Hid (b < w.heap.size) := Blk.lt h
  have HCW : Hid (Cc < w.heap.size ∧ B < w.heap.size) := ⟨hC.lt, hB.lt⟩
  clear h hH hB hC hS hI hHB
  go_enter Try.func30, Try.ntmps30
  go_wp2
  go_step3
  go_wp2_with (go_at_call 38; refine (clip_calls w a H.length cap hc').mono ?_; rintro e w' ⟨rfl, hx⟩; obtain rfl : w = w' := hx.symm)
  go_step3
  go_wp2
  go_loopw [5, 6, 7, 8] (fun vh vp ve v8 wr => ∃ (H' S P : List UInt8) (ha pa : Option Addr) (hcp pc em i' p' t' : Nat), vh = .slice ha H'.length hcp ∧ vp = .slice pa P.length pc ∧ ve = .int .i64 em ∧ v8 = .int .i64 0 ∧ em ≤ 99 ∧ Hid (H' = S ++ P) ∧ Hid (HasB wr.heap.size wr vp P) ∧ Hid (FillG (bxU Cc B c) (fun j => j = Cc ∨ j = B) Q base b g w.heap.size size taken (.slice a H.length cap) l w i t H vh H' S em i' p' t' wr) ∧ Hid (Path (okU c) size l (H, i, p, t, 0) (H', i', p', t', em)))
    (fun _ _ _ _ wr => sizeS l l.length + (reach l).length - (intOf ((wr.cell? ⟨g, 2, none⟩).getD (.int .i64 0))).toNat - (intOf ((wr.cell? ⟨g, 4, none⟩).getD (.int .i64 0))).toNat)
  case atStart => exact ⟨H, [], H, a, a, H.length, H.length, 0, i, p, t, rfl, rfl, rfl, rfl, by omega, rfl, HHB, HST0, Path.refl⟩
  case round =>
    obtain ⟨H', S, P, ha, pa, hcp, pc, em, i', p', t', rfl, rfl, rfl, rfl, hem, hSP, hPB, hst, hpa⟩ := hrel
    have hroom := hst.out.room
    have HSPl : Hid (H'.length = S.length + P.length) := by show _ = _; rw [hSP.out, List.length_append]
    have hPl : P.length ≤ H'.length := by have := HSPl.out; omega
    have hSl : S.length ≤ H'.length := by have := HSPl.out; omega
    have HC5 : Hid (wr.cell? ⟨g, 2, none⟩ = some (.int .i64 i') ∧ wr.cell? ⟨g, 4, none⟩ = some (.int .i64 t')) := Src.cellAt hst.out.src
    have hbx := hst.out.box
    have hgC : g < Cc := by omega
    have hgB : g < B := by omega
    have UC := until1_calls wr Cc B c S.length _ P wr.heap.size hbx.2.1 hbx.2.2 hPB.out (by omega) (by omega)
    have STB : Hid (∀ z : Int, FillG (fun _ W => Boxed W Cc 5 (.int .u8 c.toNat) ∧ Boxed W B 3 (.int .i64 z)) (fun j => j = Cc ∨ j = B) Q base b g w.heap.size size taken (.slice a H.length cap) l w i t H (.slice ha H'.length hcp) H' H' em i' p' t' (wr.setCell ⟨B, 0, none⟩ (.int .i64 z))) := fun z => by
      obtain ⟨s1, s2, s3, s4, s5, s6, s7, s8, s9, s10, s11⟩ := hst.out
      have hg : wr.grownBy (wr.setCell ⟨B, 0, none⟩ (.int .i64 z)) (some B) := grown_set wr B 0 _
      have hkw := s11.size
      refine ⟨s1, Src.kept s2 hg (fun k e => by cases e; exact ⟨by omega, .inr (by omega)⟩), (hg.block b (Blk.lt s3) (by simp; omega)).trans s3, s4.kept hg (fun j e => ?_), ⟨s5.2.1.kept hg (by simp; exact hCB), ?_⟩, s6, s7, s8, s9, s10, s11.grown hg (fun j e => by cases e; exact .inr (.inl (.inr rfl)))⟩
      · cases e
        exact ⟨HCW.out.2, fun hx => hx.2.1 (.inr rfl)⟩
      · simpa using s5.2.2.set (.int .i64 z)
    have HIA : Hid (Lib.indexByte H' c = if Lib.indexByte P c = -1 then -1 else (S.length : Int) + Lib.indexByte P c) := by
      show _ = _
      rw [hSP.out]; exact index_app S P c hbx.1
    clear hbx
    by_cases hen : Lib.indexByte P c ≠ -1
    · have hge := Lib.indexByte_ge P c
      obtain ⟨o, ho⟩ : ∃ o : Nat, Lib.indexByte P c = o := ⟨(Lib.indexByte P c).toNat, by omega⟩
      obtain ⟨W1, hW1⟩ : ∃ W1, wr.setCell ⟨B, 0, none⟩ (.int .i64 ((S.length : Int) + (o + 1))) = W1 := ⟨_, rfl⟩
      have HST1 := STB.out ((S.length : Int) + (o + 1))
      rw [hW1] at HST1
      have CC : Hid (Calls Try.prog 35 #[.slice pa P.length pc, .pointer (some ⟨Cc, 0, none⟩), .pointer (some ⟨B, 0, none⟩)] wr fun e W' => e = .returned (.bool true) ∧ W1 = W') := UC.mono fun e W' h => by
        rcases h with ⟨h1, _⟩ | ⟨o', h1, h2, h3⟩
        · exact absurd h1 hen
        · obtain rfl : o' = o := by omega
          exact ⟨h2, hW1.symm.trans h3⟩
      have HST2 : Hid (FillG (fun _ W => Boxed W Cc 5 (.int .u8 c.toNat) ∧ Boxed W B 3 (.int .i64 ((S.length : Int) + (o + 1)))) (fun j => j = Cc ∨ j = B) Q base b g w.heap.size size taken (.slice a H.length cap) l w i t H (.slice ha H'.length hcp) H' H' em i' p' t' W1) := HST1
      have HIX : Hid (Lib.indexByte H' c = ((S.length + o : Nat) : Int)) := by show _ = _; rw [HIA.out, if_neg hen, ho]; omega
      have f2 : W1.frozen? ⟨b, 2, none⟩ = false := Blk.frozen HST2.out.buf 2
      have cb2 : W1.cell? ⟨b, 2, none⟩ = some (.slice a H.length cap) := Blk.cell HST2.out.buf 2
      clear UC STB hst hW1 hen ho hge HST1
      go_wp2_with (go_at_call 35; refine CC.out.mono ?_; rintro e w' ⟨rfl, hx⟩; obtain rfl : W1 = w' := hx)
      try rw [Exit.noGoto_ret]
      refine bodyPost_ret (v := .int .i64 0) (by simp [results, Try.results30, go_sem]) rfl ⟨0, rfl, ?_⟩
      have hl9 := HST2.out.len
      have hl8 := HST2.out.le
      refine HST2.out.close hgb HBW2.out (outB (okU c) (outU Cc B c size i l) size l H i p t) 0 ⟨.inl ⟨rfl, S.length + o, HIX.out, ?_⟩, em, t', by omega, hpa.out, .inl ⟨decide_eq_true (by show Lib.indexByte H' c ≠ -1; rw [HIX.out]; omega), rfl⟩⟩
      have hbx9 := HST2.out.box.2.kept (grown_set W1 b 2 (.slice ha H'.length hcp)) (by simp; omega)
      rw [show (((S.length + o : Nat) : Int) + 1) = (S.length : Int) + (o + 1) by omega]
      exact hbx9
    · have hen' : Lib.indexByte P c = -1 := by omega
      obtain ⟨W1, hW1⟩ : ∃ W1, wr.setCell ⟨B, 0, none⟩ (.int .i64 ((S.length : Int) + P.length)) = W1 := ⟨_, rfl⟩
      have CC : Hid (Calls Try.prog 35 #[.slice pa P.length pc, .pointer (some ⟨Cc, 0, none⟩), .pointer (some ⟨B, 0, none⟩)] wr fun e W' => e = .returned (.bool false) ∧ W1 = W') := UC.mono fun e W' h => by
        rcases h with ⟨_, h2, h3⟩ | ⟨o', h1, _⟩
        · exact ⟨h2, hW1.symm.trans h3⟩
        · omega
      have HST1 : Hid (FillG (bxU Cc B c) (fun j => j = Cc ∨ j = B) Q base b g w.heap.size size taken (.slice a H.length cap) l w i t H (.slice ha H'.length hcp) H' H' em i' p' t' W1) := by
        have h0 := STB.out ((S.length : Int) + P.length)
        rw [hW1] at h0
        obtain ⟨s1, s2, s3, s4, s5, s6, s7, s8, s9, s10, s11⟩ := h0
        refine ⟨s1, s2, s3, s4, ⟨by rw [HIA.out, if_pos hen'], s5.1, ?_⟩, s6, s7, s8, s9, s10, s11⟩
        rw [HSPl.out]
        simpa using s5.2
      clear UC STB hst hW1 hen hen'
      by_cases hfull : H'.length = size
      · have hne : ((H'.length : Int) == (size : Int)) = true := by simp; omega
        have cb1 : W1.cell? ⟨b, 1, none⟩ = some (.int .i64 size) := Blk.cell HST1.out.buf 1
        have f2 : W1.frozen? ⟨b, 2, none⟩ = false := Blk.frozen HST1.out.buf 2
        have cb2 : W1.cell? ⟨b, 2, none⟩ = some (.slice a H.length cap) := Blk.cell HST1.out.buf 2
        have HFU : Hid (H'.length = size) := hfull
        clear hfull
        go_wp2_with (go_at_call 35; refine CC.out.mono ?_; rintro e w' ⟨rfl, hx⟩; obtain rfl : W1 = w' := hx)
        try rw [Exit.noGoto_ret]
        refine bodyPost_ret (v := .int .i64 23) (by simp [results, Try.results30, go_sem]) rfl ⟨_, rfl, ?_⟩
        have hl9 := HST1.out.len
        have hl8 := HST1.out.le
        refine HST1.out.close hgb HBW2.out (outB (okU c) (outU Cc B c size i l) size l H i p t) _ ⟨.inr ⟨?_, ?_, .inr (.inr ⟨rfl, HFU.out⟩)⟩, em, t', by omega, hpa.out, .inr (.inl ⟨decide_eq_false (fun h => h HST1.out.box.1), HFU.out, rfl⟩)⟩
        · omega
        · have hbx9 := HST1.out.box
          exact bxU.kept hbx9 (grown_set _ b 2 _) (by simp; omega) (by simp; omega)
      · have cb1 : W1.cell? ⟨b, 1, none⟩ = some (.int .i64 size) := Blk.cell HST1.out.buf 1
        have cb0 : W1.cell? ⟨b, 0, none⟩ = some (.iface 24 (.pointer (some ⟨g, 0, none⟩))) := Blk.cell HST1.out.buf 0
        have hne : ((H'.length : Int) == (size : Int)) = false := by simp; omega
        obtain ⟨need', hnd⟩ : ∃ k : Nat, size - H'.length = k := ⟨_, rfl⟩
        have hn1 : 1 ≤ need' := by omega
        have hsub : (size : Int) - (H'.length : Int) = (need' : Int) := by omega
        have HSUB : Hid ((size : Int) - (H'.length : Int) = (need' : Int)) := hsub
        have hwr : IntKind.i64.wrap ((size : Int) - (H'.length : Int)) = (need' : Int) := by rw [IntKind.wrap_i64]; omega
        have RC : Hid (∀ W2, Below W1.heap.size W1 W2 → Calls Try.prog 57 #[.pointer (some ⟨g, 0, none⟩), .int .i64 need'] W2 fun e W' => ∃ d, e = .returned (.tuple #[d, .int .i64 (rdE l i' p')]) ∧ W'.ownsRow W2.heap.size 5 1 d (rdX l i' p' need').length (bvs (rdX l i' p' need')) ∧ Src base W' g (reach l) (rdN l i' p' need').1 (rdN l i' p' need').2 (t' + rdK l i' p' need') ∧ W2.grownBy W' (some g)) := fun W2 hb2 => by
          have hI := HST1.out.inv
          have hrl : (reach l).length ≤ l.length := by
            by_cases h0 : (reach l).length = 0
            · omega
            · obtain ⟨h', _⟩ := reach_get l ((reach l).length - 1) (by omega)
              omega
          have hR := cread_calls W2 g (reach l) i' p' t' need' (HST1.out.src.below hb2) hn1 hI.le hI.part_le (fun x hx => by
            obtain ⟨j, hj, rfl⟩ := List.mem_iff_getElem.1 hx
            obtain ⟨h', e⟩ := reach_get l j hj
            rw [← e]; exact hd _ (List.getElem_mem _)) (by have := told_le hI; omega) (by omega) (by omega)
          obtain ⟨q1, q2, q3, q4, q5⟩ := hI.same need'
          rw [q1, q2, q3, q4] at hR
          exact hR
        clear hsub hnd hfull
        have hmr := read_method
        go_wp2_with (go_at_call 35; refine CC.out.mono ?_; rintro e w' ⟨rfl, hx⟩; obtain rfl : W1 = w' := hx)
        go_region_held3 (fun w' => w'.cell? ⟨b, 0, none⟩ = some (.iface 24 (.pointer (some ⟨g, 0, none⟩))) ∧ w'.cell? ⟨b, 1, none⟩ = some (.int .i64 size)) (first | exact ⟨cb0, cb1⟩ | exact ⟨d0, d1⟩ | go_keep) (first
          | (go_at_call 57; refine (RC.out _ (Below.refl _ _).drew).mono ?_; rintro e w2 ⟨d, rfl, ho2, hS2, hg2⟩; have d0 : w2.cell? ⟨b, 0, none⟩ = some (.iface 24 (.pointer (some ⟨g, 0, none⟩))) := hg2.cell cb0 (by simp; omega); have d1 : w2.cell? ⟨b, 1, none⟩ = some (.int .i64 size) := hg2.cell cb1 (by simp; omega)))
        have hg2' : W1.grownBy w2 (some g) := ⟨hg2.os, hg2.tape, hg2.output, hg2.size, hg2.block⟩
        have hI1 := HST1.out.inv
        have hbl := HBW2.out
        have hsub2 := HSUB.out
        have hIN := hI1.step need'
        have hXK := rdX_length l i' p' need'
        have hpl1 : ∀ h : i' < l.length, p' ≤ l[i'].1.length := fun h => by
          rcases hI1.cases with ⟨h1, h2, e⟩ | ⟨h1, _⟩
          · rw [e]; exact hI1.part_le h1
          · omega
        have hGO := rd_goes l i' p' need' hn1 hpl1
        have hKle : rdK l i' p' need' ≤ need' := by unfold rdK; split <;> omega
        have hIle : i' ≤ (rdN l i' p' need').1 := by
          by_cases he : rdE l i' p' = 0
          · have := hGO he; omega
          · have := (rdE_stays l i' p' need' he).1; omega
        have held2 := HST1.out.held.kept hg2' (fun j e => by cases e; exact ⟨by omega, fun hx => hx.1 rfl⟩)
        have hkw := HST1.out.keep.size
        have z2 := hg2'.size
        obtain ⟨pa2, pc2, rfl⟩ := owns_slice ho2
        obtain ⟨xl, hxl⟩ : ∃ xl, (rdX l i' p' need').length = xl := ⟨_, rfl⟩
        obtain ⟨X, hX⟩ : ∃ X, rdX l i' p' need' = X := ⟨_, rfl⟩
        obtain ⟨H3, hH3⟩ : ∃ H3, H' ++ X = H3 := ⟨_, rfl⟩
        rw [hX] at ho2 hxl hXK
        have hl3 : H3.length = H'.length + rdK l i' p' need' := by rw [← hH3, List.length_append, hXK]
        have HB3 : Hid (H3 = H ++ ((bytesOf l).1.drop t).take (t' + rdK l i' p' need' - t)) := by
          show _ = _
          rw [← hH3, ← hX]
          exact fill_piece hI1 need' t H H' HST1.out.le HST1.out.bytes
        have HL1 := HST1.out.len
        have HLE1 := HST1.out.le
        have HEM := HST1.out.emp
        have HE2 : Hid (HeldLt w.heap.size W1.heap.size (fun j => j ≠ g ∧ ¬ (fun j => j = Cc ∨ j = B) j ∧ j ≠ b ∧ Q j) w2 (.slice ha H'.length hcp) H') := HST1.out.held.low.kept hg2' (fun j e => by cases e; exact ⟨by omega, fun hx => hx.1 rfl⟩)
        have HO2 : Hid (w2.ownsRow W1.drew.heap.size 5 1 (.slice pa2 xl pc2) X.length (bvs X)) := by rw [← hxl]; exact ho2
        have hst3 : ∀ (v3 : Value) (w3 : World) (em' : Nat), HeldSt w.heap.size (fun j => j ≠ g ∧ ¬ (fun j => j = Cc ∨ j = B) j ∧ j ≠ b ∧ Q j) w3 v3 H3 → (∃ row, w2.grownBy w3 row ∧ ∀ j, row = some j → w.heap.size ≤ j ∧ j < W1.heap.size) → i + em' ≤ (rdN l i' p' need').1 →
            FillG (bxU Cc B c) (fun j => j = Cc ∨ j = B) Q base b g w.heap.size size taken (.slice a H.length cap) l w i t H v3 H3 H' em' (rdN l i' p' need').1 (rdN l i' p' need').2 (t' + rdK l i' p' need') w3 ∧ HasB w3.heap.size w3 (.slice pa2 xl pc2) X := fun v3 w3 em' hh3 ⟨row, hgr, hrow⟩ hem' => by
          have b2 := (hg2'.block b (Blk.lt HST1.out.buf) (by simp; omega)).trans HST1.out.buf
          refine ⟨⟨hIN, Src.kept hS2 hgr (fun k e => by have := hrow k e; exact ⟨by omega, .inr (by omega)⟩), (hgr.block b (Blk.lt b2) (fun e => by have := hrow b e.symm; omega)).trans b2, hh3, ?_, by omega, by omega, HB3.out, by omega, hem', ?_⟩, ?_⟩
          · exact (HST1.out.box.kept hg2' (by simp; omega) (by simp; omega)).kept hgr (fun e => by have := hrow Cc e.symm; have := HCW.out; omega) (fun e => by have := hrow B e.symm; have := HCW.out; omega)
          · exact (HST1.out.keep.grown hg2' (fun j e => by cases e; exact .inl rfl)).grown hgr (fun j e => .inr (.inr (hrow j e).1))
          · have ho3 := World.ownsRow.kept HO2.out hgr (by
              rcases hv : (Value.slice pa2 xl pc2).ownBlock with _ | k
              · exact .inl rfl
              · right; intro e; have h1 := (hrow k e.symm).2; have h2 : W1.heap.size ≤ k := (World.ownsRow.lt HO2.out k hv).1; omega)
            rw [← hxl] at ho3 ⊢
            exact hasB_owns ho3
        have HST3 : Hid (∀ (v3 : Value) (w3 : World) (em' : Nat), HeldSt w.heap.size (fun j => j ≠ g ∧ ¬ (fun j => j = Cc ∨ j = B) j ∧ j ≠ b ∧ Q j) w3 v3 H3 → (∃ row, w2.grownBy w3 row ∧ ∀ j, row = some j → w.heap.size ≤ j ∧ j < W1.heap.size) → i + em' ≤ (rdN l i' p' need').1 →
            FillG (bxU Cc B c) (fun j => j = Cc ∨ j = B) Q base b g w.heap.size size taken (.slice a H.length cap) l w i t H v3 H3 H' em' (rdN l i' p' need').1 (rdN l i' p' need').2 (t' + rdK l i' p' need') w3 ∧ HasB w3.heap.size w3 (.slice pa2 xl pc2) X) := hst3
        have HH3 : Hid (H' ++ X = H3) := hH3
        have HXX : Hid (rdX l i' p' need' = X) := hX
        have sz1 : H'.length + X.length ≤ 100000000000000 := by omega
        have sz2 : w.heap.size ≤ w2.heap.size := by omega
        have HXK : Hid (X.length = rdK l i' p' need') := hXK
        have HL3 : Hid (H3.length = H'.length + rdK l i' p' need') := hl3
        have HXL : Hid (xl = X.length) := hxl.symm
        rw [hX, hxl]
        clear hst3 hH3 ho2 held2 hS2 hg2 d0 d1 cb0 cb1 hmr hXK hl3 HL1 hsub2 hwr hxl hX
        have hwe : IntKind.i64.wrap ((em : Int) + 1) = (em : Int) + 1 := by rw [IntKind.wrap_i64]; omega
        have HGO : Hid (rdE l i' p' = 0 → i' < (rdN l i' p' need').1 ∨ (i' = (rdN l i' p' need').1 ∧ 1 ≤ rdK l i' p' need')) := hGO
        have HIN : Hid (Inv l (rdN l i' p' need').1 (rdN l i' p' need').2 (t' + rdK l i' p' need')) := hIN
        have HK0 : Hid (rdE l i' p' ≠ 0 → rdK l i' p' need' = 0) := rdK_none l i' p' need'
        have HOKF : Hid ((okU c) H' = false) := decide_eq_false (fun h => h HST1.out.box.1)
        have HNF : Hid (H'.length ≠ size) := by show ¬ _; simp at hne; omega
        have HPA3 : Hid ((rdE l i' p' = 0 → ∀ em', em' = (if rdK l i' p' need' = 0 then em + 1 else 0) → Path (okU c) size l (H, i, p, t, 0) (H3, (rdN l i' p' need').1, (rdN l i' p' need').2, t' + rdK l i' p' need', em')) ∧ (rdE l i' p' ≠ 0 → H3 = H' ∧ Path (okU c) size l (H, i, p, t, 0) (H3, (rdN l i' p' need').1, (rdN l i' p' need').2, t' + rdK l i' p' need', em))) := by
          refine ⟨fun he em' hem' => ?_, fun he => ?_⟩
          · have hx := Path.more hpa.out (n := need') (by have := HSUB.out; omega) HOKF.out HNF.out (by omega) he em' hem'
            rw [HXX.out, HH3.out] at hx
            exact hx
          · have hk := rdK_none l i' p' need' he
            have hx0 : X = [] := List.length_eq_zero_iff.1 (by have := HXK.out; omega)
            have e3 : H3 = H' := by rw [← HH3.out, hx0, List.append_nil]
            refine ⟨e3, ?_⟩
            rw [(rdE_stays l i' p' need' he).1, (rdE_stays l i' p' need' he).2, hk, Nat.add_zero, e3]
            exact hpa.out
        clear hGO hIN hI1 hpl1 hg2'
        by_cases he : rdE l i' p' = 0
        · have hgo := HGO.out he
          rw [he]
          by_cases hx0 : xl = 0
          · have hX0 : X = [] := List.length_eq_zero_iff.1 (by have := HXL.out; omega)
            have HX0 : Hid (X = []) := hX0
            subst hx0
            have hgo' : i' < (rdN l i' p' need').1 := by have := HXK.out; rw [hX0] at this; simp at this; omega
            clear hX0
            by_cases hem1 : em = 99
            · subst hem1
              go_wp2_with (at_builtin; refine append_heldP rfl _ _ rfl w.heap.size (fun j => j ≠ g ∧ ¬ (fun j => j = Cc ∨ j = B) j ∧ j ≠ b ∧ Q j) (.slice ha H'.length hcp) H' rfl HE2.out (.slice pa2 0 pc2) X rfl _ HO2.out sz2 sz1 ?_; intro v3 w3 hh3 hgr3; rw [HH3.out] at hh3; have hst4 := HST3.out v3 w3 100 hh3 hgr3 (by omega); obtain ⟨a3, c3, rfl, _⟩ := hh3.slice; have cb2 : w3.cell? ⟨b, 2, none⟩ = some (.slice a H.length cap) := Blk.cell hst4.1.buf 2; have f2 : w3.frozen? ⟨b, 2, none⟩ = false := Blk.frozen hst4.1.buf 2; have HST4 : Hid (FillG (bxU Cc B c) (fun j => j = Cc ∨ j = B) Q base b g w.heap.size size taken (.slice a H.length cap) l w i t H (.slice a3 H3.length c3) H3 H' 100 (rdN l i' p' need').1 (rdN l i' p' need').2 (t' + rdK l i' p' need') w3) := hst4.1; have HPB4 : Hid (HasB w3.heap.size w3 (.slice pa2 0 pc2) X) := hst4.2; clear hst4 hh3 hgr3)
              try rw [Exit.noGoto_ret]
              refine bodyPost_ret (v := .int .i64 22) (by simp [results, Try.results30, go_sem]) rfl ⟨_, rfl, ?_⟩
              have hl9 := HST4.out.len
              have hl8 := HST4.out.le
              have e39 : H3 = H' := by rw [← HH3.out, HX0.out, List.append_nil]
              refine HST4.out.close hgb HBW2.out (outB (okU c) (outU Cc B c size i l) size l H i p t) _ ⟨.inr ⟨?_, ?_, .inr (.inl ⟨rfl, by omega⟩)⟩, 100, _, by omega, HPA3.out.1 he 100 (by rw [if_pos (by have := HXK.out; rw [HX0.out] at this; simpa using this.symm)]), .inr (.inr (.inl ⟨(by rw [e39]; exact HOKF.out), (by rw [e39]; exact HNF.out), rfl, rfl⟩))⟩
              · omega
              · have hbx9 := HST4.out.box
                rw [show H3 = H' by rw [← HH3.out, HX0.out, List.append_nil]]
                exact bxU.kept hbx9 (grown_set _ b 2 _) (by simp; omega) (by simp; omega)
            · have te : (((em : Int) + 1 == 100)) = false := by simp; omega
              go_wp2_with (at_builtin; refine append_heldP rfl _ _ rfl w.heap.size (fun j => j ≠ g ∧ ¬ (fun j => j = Cc ∨ j = B) j ∧ j ≠ b ∧ Q j) (.slice ha H'.length hcp) H' rfl HE2.out (.slice pa2 0 pc2) X rfl _ HO2.out sz2 sz1 ?_; intro v3 w3 hh3 hgr3; rw [HH3.out] at hh3; have hst4 := HST3.out v3 w3 (em + 1) hh3 hgr3 (by omega); obtain ⟨a3, c3, rfl, _⟩ := hh3.slice; have cb2 : w3.cell? ⟨b, 2, none⟩ = some (.slice a H.length cap) := Blk.cell hst4.1.buf 2; have f2 : w3.frozen? ⟨b, 2, none⟩ = false := Blk.frozen hst4.1.buf 2; have HST4 : Hid (FillG (bxU Cc B c) (fun j => j = Cc ∨ j = B) Q base b g w.heap.size size taken (.slice a H.length cap) l w i t H (.slice a3 H3.length c3) H3 H' (em + 1) (rdN l i' p' need').1 (rdN l i' p' need').2 (t' + rdK l i' p' need') w3) := hst4.1; have HPB4 : Hid (HasB w3.heap.size w3 (.slice pa2 0 pc2) X) := hst4.2; clear hst4 hh3 hgr3)
              go_roundw
              case rel => exact ⟨H3, H', X, a3, pa2, c3, pc2, em + 1, _, _, _, rfl, by rw [← HXL.out], by go_num, rfl, by omega, HH3.out.symm, HPB4, HST4, HPA3.out.1 he _ (by rw [if_pos (by have := HXK.out; rw [HX0.out] at this; simpa using this.symm)])⟩
              case measure =>
                have m1 := Src.cellAt HST4.out.src
                have m2 := HC5.out
                have m3 := HIN.out.bound
                have m4 := HIN.out.le
                rw [m1.1, m1.2, m2.1, m2.2]
                simp [intOf]
                omega
          · have tx : decide (0 < xl) = true := by simp; omega
            go_wp2_with (at_builtin; refine append_heldP rfl _ _ rfl w.heap.size (fun j => j ≠ g ∧ ¬ (fun j => j = Cc ∨ j = B) j ∧ j ≠ b ∧ Q j) (.slice ha H'.length hcp) H' rfl HE2.out (.slice pa2 xl pc2) X rfl _ HO2.out sz2 sz1 ?_; intro v3 w3 hh3 hgr3; rw [HH3.out] at hh3; have hst4 := HST3.out v3 w3 0 hh3 hgr3 (by omega); obtain ⟨a3, c3, rfl, _⟩ := hh3.slice; have cb2 : w3.cell? ⟨b, 2, none⟩ = some (.slice a H.length cap) := Blk.cell hst4.1.buf 2; have f2 : w3.frozen? ⟨b, 2, none⟩ = false := Blk.frozen hst4.1.buf 2; have HST4 : Hid (FillG (bxU Cc B c) (fun j => j = Cc ∨ j = B) Q base b g w.heap.size size taken (.slice a H.length cap) l w i t H (.slice a3 H3.length c3) H3 H' 0 (rdN l i' p' need').1 (rdN l i' p' need').2 (t' + rdK l i' p' need') w3) := hst4.1; have HPB4 : Hid (HasB w3.heap.size w3 (.slice pa2 xl pc2) X) := hst4.2; clear hst4 hh3 hgr3)
            go_roundw
            case rel => exact ⟨H3, H', X, a3, pa2, c3, pc2, 0, _, _, _, rfl, by rw [← HXL.out], rfl, rfl, by omega, HH3.out.symm, HPB4, HST4, HPA3.out.1 he _ (by rw [if_neg (by have := HXL.out; have := HXK.out; omega)])⟩
            case measure =>
              have m1 := Src.cellAt HST4.out.src
              have m2 := HC5.out
              have m3 := HIN.out.bound
              have m4 := HIN.out.le
              rw [m1.1, m1.2, m2.1, m2.2]
              simp [intOf]
              omega
        · have te : (rdE l i' p' != 0) = true := by simpa using he
          have HX0 : Hid (X = []) := List.length_eq_zero_iff.1 (by have := HXK.out; have := HK0.out he; omega)
          go_wp2_with (at_builtin; refine append_heldP rfl _ _ rfl w.heap.size (fun j => j ≠ g ∧ ¬ (fun j => j = Cc ∨ j = B) j ∧ j ≠ b ∧ Q j) (.slice ha H'.length hcp) H' rfl HE2.out (.slice pa2 xl pc2) X rfl _ HO2.out sz2 sz1 ?_; intro v3 w3 hh3 hgr3; rw [HH3.out] at hh3; have hst4 := HST3.out v3 w3 em hh3 hgr3 (by omega); obtain ⟨a3, c3, rfl, _⟩ := hh3.slice; have cb2 : w3.cell? ⟨b, 2, none⟩ = some (.slice a H.length cap) := Blk.cell hst4.1.buf 2; have f2 : w3.frozen? ⟨b, 2, none⟩ = false := Blk.frozen hst4.1.buf 2; have HST4 : Hid (FillG (bxU Cc B c) (fun j => j = Cc ∨ j = B) Q base b g w.heap.size size taken (.slice a H.length cap) l w i t H (.slice a3 H3.length c3) H3 H' em (rdN l i' p' need').1 (rdN l i' p' need').2 (t' + rdK l i' p' need') w3) := hst4.1; have HPB4 : Hid (HasB w3.heap.size w3 (.slice pa2 xl pc2) X) := hst4.2; clear hst4 hh3 hgr3)
          try rw [Exit.noGoto_ret]
          refine bodyPost_ret (v := .int .i64 (rdE l i' p')) (by simp [results, Try.results30, go_sem]) rfl ⟨_, rfl, ?_⟩
          have hl9 := HST4.out.len
          have hl8 := HST4.out.le
          have e39 : H3 = H' := by rw [← HH3.out, HX0.out, List.append_nil]
          refine HST4.out.close hgb HBW2.out (outB (okU c) (outU Cc B c size i l) size l H i p t) _ ⟨.inr ⟨?_, ?_, .inl (by rw [(rdE_stays l i' p' need' he).1, (rdE_stays l i' p' need' he).2])⟩, em, _, by omega, (HPA3.out.2 he).2, .inr (.inr (.inr ⟨(by rw [e39]; exact HOKF.out), (by rw [e39]; exact HNF.out), by show ¬ em = 100; omega, by show rdE l (rdN l i' p' need').1 (rdN l i' p' need').2 ≠ 0; rw [(rdE_stays l i' p' need' he).1, (rdE_stays l i' p' need' he).2]; exact he, by show _ = rdE l (rdN l i' p' need').1 (rdN l i' p' need').2; rw [(rdE_stays l i' p' need' he).1, (rdE_stays l i' p' need' he).2]⟩))⟩
          · omega
          · have hbx9 := HST4.out.box
            rw [show H3 = H' by rw [← HH3.out, HX0.out, List.append_nil]]
            exact bxU.kept hbx9 (grown_set _ b 2 _) (by simp; omega) (by simp; omega)
end Go.Proofs.Ytkpjmcoihbebkaa.CInv
