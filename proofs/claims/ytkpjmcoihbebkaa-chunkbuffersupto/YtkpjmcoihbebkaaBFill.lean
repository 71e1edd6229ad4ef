/- What is proved here: the contract of a buffer's fill, as Peek calls it, with the path of its reads. (Written by wip/gen_b.py.) -/
import Derived.Test.YtkpjmcoihbebkaaCFill
import Derived.Test.YtkpjmcoihbebkaaBun7
namespace Go.Proofs.Ytkpjmcoihbebkaa.CInv
open Go.RowKit C

/-- Peek's question. -/
def okP (need : Nat) (H : List UInt8) : Bool := decide (need ≤ H.length)
/-- What a fill leaves, with its path. -/
def FillEndP (Q : Nat → Prop) (base b g B s0 size taken need : Nat) (l : Scr) (w : World) (i p t : Nat) (H : List UInt8) (E : Int) (W : World) : Prop :=
  ∃ (H' : List UInt8) (hv' : Value) (i' p' t' em' : Nat), Inv l i' p' t' ∧ Src base W g (reach l) i' p' t' ∧ BufAt W b g size taken hv' ∧ HeldSt s0 (fun j => j ≠ g ∧ j ≠ B ∧ j ≠ b ∧ Q j) W hv' H' ∧ t ≤ t' ∧ H'.length = H.length + (t' - t) ∧ H' = H ++ ((bytesOf l).1.drop t).take (t' - t) ∧ H'.length ≤ size ∧ i ≤ i' ∧
    KeepP (fun j => j = g ∨ j = B ∨ j = b ∨ s0 ≤ j) w W ∧ Path (okP need) size l (H, i, p, t, 0) (H', i', p', t', em') ∧ Fin (okP need) size l (H', i', p', t', em') E
theorem FillSt.closeP {Q : Nat → Prop} {base b g B s0 size taken need : Nat} {hv : Value} {l : Scr} {w : World} {i p t : Nat} {H : List UInt8} {hv' : Value} {H' : List UInt8} {pl em i' p' t' : Nat} {W : World} (h : FillSt Q base b g B s0 size taken need hv l w i t H hv' H' pl em i' p' t' W) (hgb : g < b) (hb : b < s0) (E : Int) (em' : Nat)
    (ho : Path (okP need) size l (H, i, p, t, 0) (H', i', p', t', em') ∧ Fin (okP need) size l (H', i', p', t', em') E) : FillEndP Q base b g B s0 size taken need l w i p t H E (W.setCell ⟨b, 2, none⟩ hv') := by
  obtain ⟨s1, s2, s3, s4, s5, s6, s7, s8, s9, s10, s11⟩ := h
  have hg := grown_set W b 2 hv'
  refine ⟨H', hv', i', p', t', em', s1, Src.kept s2 hg (fun k e => by cases e; exact ⟨by omega, .inr (by omega)⟩), s3.set2 hv', s4.kept hg (fun j e => by cases e; exact ⟨hb, fun hx => hx.2.2.1 rfl⟩), s6, s7, s8, s9, by omega, ?_, ho⟩
  exact ⟨hg.os.trans s11.os, hg.tape.trans s11.tape, hg.output.trans s11.output, Nat.le_trans s11.size hg.size, fun k hk hp => (hg.block k (Nat.lt_of_lt_of_le hk s11.size) (fun e => by cases e; exact hp (.inr (.inr (.inl rfl))))).trans (s11.block k hk (fun hx => hp (by have hx' : k = g ∨ k = B ∨ s0 ≤ k := hx; show k = g ∨ k = B ∨ k = b ∨ s0 ≤ k; omega)))⟩

set_option maxRecDepth 100000 in
set_option maxHeartbeats 2000000 in
theorem fillP_calls {base : Nat} (Q : Nat → Prop) (w : World) (b g B : Nat) (l : Scr) (i p t : Nat) (size taken need : Nat) (a : Option Addr) (cap : Nat) (H : List UInt8) (h : BufAt w b g size taken (.slice a H.length cap)) (hI : Inv l i p t) (hS : Src base w g (reach l) i p t) (hB : Boxed w B 3 (.int .i64 need)) (hc : H.length ≤ cap)
    (hH : HeldSt w.heap.size (fun j => j ≠ g ∧ j ≠ B ∧ j ≠ b ∧ Q j) w (.slice a H.length H.length) H) (hgb : g < b) (hbB : b < B) (hsz : H.length ≤ size) (hsize : size ≤ 16777216) (hneed : need ≤ size) (hbd : (bytesOf l).1.length ≤ 16777216) (hll : l.length ≤ 16777216) (hd : ∀ x ∈ l, x.1.length ≤ 100000000000000) :
    Calls Try.prog 30 #[.pointer (some ⟨b, 0, none⟩), .func (.func 31) #[] #[.pointer (some ⟨B, 0, none⟩)]] w fun e W' => ∃ E : Int, e = .returned (.int .i64 E) ∧ FillEndP Q base b g B w.heap.size size taken need l w i p t H E W' := by
  have c2 : w.cell? ⟨b, 2, none⟩ = some (.slice a H.length cap) := Blk.cell h 2
  have hst0 : FillSt Q base b g B w.heap.size size taken need (.slice a H.length cap) l w i t H (.slice a H.length H.length) H H.length 0 i p t w :=
    ⟨hI, hS, h, hH, by have : (need : Int) - H.length + (H.length : Nat) = need := by omega
                       rw [this]; exact hB, Nat.le_refl _, by omega, by simp, hsz, by omega, KeepP.refl _ _⟩
  have HST0 : Hid (FillSt Q base b g B w.heap.size size taken need (.slice a H.length cap) l w i t H (.slice a H.length H.length) H H.length 0 i p t w) := hst0
  have hc' : ((H.length : Nat) : Int) ≤ (cap : Int) := by omega
  have HBW : Hid (B < w.heap.size) := hB.lt
  have HBW2 : Hid (b < w.heap.size) := Blk.lt h
  clear hst0 h hH hB hS hI
  go_enter Try.func30, Try.ntmps30
  go_wp2
  go_step3
  go_wp2_with (go_at_call 38; refine (clip_calls w a H.length cap hc').mono ?_; rintro e w' ⟨rfl, hx⟩; obtain rfl : w = w' := hx.symm)
  go_step3
  go_wp2
  go_loopw [5, 6, 7, 8] (fun vh vp ve v8 wr => ∃ (H' : List UInt8) (ha pa : Option Addr) (hcp pl pc em i' p' t' : Nat), vh = .slice ha H'.length hcp ∧ vp = .slice pa pl pc ∧ ve = .int .i64 em ∧ v8 = .int .i64 0 ∧ em ≤ 99 ∧ pl ≤ 16777216 ∧ Hid (FillSt Q base b g B w.heap.size size taken need (.slice a H.length cap) l w i t H vh H' pl em i' p' t' wr) ∧ Hid (Path (okP need) size l (H, i, p, t, 0) (H', i', p', t', em)))
    (fun _ _ _ _ wr => sizeS l l.length + (reach l).length - (intOf ((wr.cell? ⟨g, 2, none⟩).getD (.int .i64 0))).toNat - (intOf ((wr.cell? ⟨g, 4, none⟩).getD (.int .i64 0))).toNat)
  case atStart => exact ⟨H, a, a, H.length, H.length, H.length, 0, i, p, t, rfl, rfl, rfl, rfl, by omega, by omega, HST0, Path.refl⟩
  case round =>
    obtain ⟨H', ha, pa, hcp, pl, pc, em, i', p', t', rfl, rfl, rfl, rfl, hem, hpl, hst, hpa⟩ := hrel
    have hroom := hst.out.room
    have HC5 : Hid (wr.cell? ⟨g, 2, none⟩ = some (.int .i64 i') ∧ wr.cell? ⟨g, 4, none⟩ = some (.int .i64 t')) := Src.cellAt hst.out.src
    have hgB : g < B := by omega
    have hbx := hst.out.box
    have CC : Hid (Calls Try.prog 31 #[.slice pa pl pc, .pointer (some ⟨B, 0, none⟩)] wr fun e W' => e = .returned (.bool (decide (need ≤ H'.length))) ∧ W' = wr.setCell ⟨B, 0, none⟩ (.int .i64 ((need : Int) - H'.length))) := by
      refine (peek1_calls wr B _ pa pl pc hbx (by omega) (by omega) (by omega)).mono ?_
      rintro e W' ⟨rfl, rfl⟩
      rw [show (need : Int) - (H'.length : Int) + (pl : Int) - (pl : Int) = (need : Int) - H'.length by omega]
      refine ⟨?_, rfl⟩
      congr 2
      exact decide_eq_decide.2 (by omega)
    obtain ⟨W1, hW1⟩ : ∃ W1, wr.setCell ⟨B, 0, none⟩ (.int .i64 ((need : Int) - H'.length)) = W1 := ⟨_, rfl⟩
    have hst1 : FillSt Q base b g B w.heap.size size taken need (.slice a H.length cap) l w i t H (.slice ha H'.length hcp) H' 0 em i' p' t' W1 := by
      obtain ⟨s1, s2, s3, s4, s5, s6, s7, s8, s9, s10, s11⟩ := hst.out
      have hg : wr.grownBy W1 (some B) := by rw [← hW1]; exact grown_set wr B 0 _
      have hlt := s5.lt
      have hkw := s11.size
      refine ⟨s1, Src.kept s2 hg (fun k e => by cases e; exact ⟨by omega, .inr (by omega)⟩), (hg.block b (Blk.lt s3) (by simp; omega)).trans s3, s4.kept hg (fun j e => ?_), ?_, s6, s7, s8, s9, s10, s11.grown hg (fun j e => by cases e; exact .inr (.inl rfl))⟩
      · cases e
        exact ⟨HBW.out, fun hx => hx.2.1 rfl⟩
      · rw [← hW1]
        have := s5.set (.int .i64 ((need : Int) - H'.length))
        simpa using this
    have HST1 : Hid (FillSt Q base b g B w.heap.size size taken need (.slice a H.length cap) l w i t H (.slice ha H'.length hcp) H' 0 em i' p' t' W1) := hst1
    rw [hW1] at CC
    clear hst hbx hst1 hW1
    by_cases hen : need ≤ H'.length
    · rw [decide_eq_true hen] at CC
      have f2 : W1.frozen? ⟨b, 2, none⟩ = false := Blk.frozen HST1.out.buf 2
      have cb2 : W1.cell? ⟨b, 2, none⟩ = some (.slice a H.length cap) := Blk.cell HST1.out.buf 2
      go_wp2_with (go_at_call 31; refine CC.out.mono ?_; rintro e w' ⟨rfl, hx⟩; obtain rfl : W1 = w' := hx.symm)
      rw [Exit.noGoto_ret]
      refine bodyPost_ret (v := .int .i64 0) (by simp [results, Try.results30, go_sem]) rfl ⟨0, rfl, ?_⟩
      exact HST1.out.closeP hgb HBW2.out 0 em ⟨hpa.out, .inl ⟨decide_eq_true hen, rfl⟩⟩
    · rw [decide_eq_false hen] at CC
      have cb1 : W1.cell? ⟨b, 1, none⟩ = some (.int .i64 size) := Blk.cell HST1.out.buf 1
      have cb0 : W1.cell? ⟨b, 0, none⟩ = some (.iface 24 (.pointer (some ⟨g, 0, none⟩))) := Blk.cell HST1.out.buf 0
      have hne : ((H'.length : Int) == (size : Int)) = false := by simp; omega
      obtain ⟨need', hnd⟩ : ∃ k : Nat, size - H'.length = k := ⟨_, rfl⟩
      have hn1 : 1 ≤ need' := by omega
      have hsub : (size : Int) - (H'.length : Int) = (need' : Int) := by omega
      have HSUB : Hid ((size : Int) - (H'.length : Int) = (need' : Int)) := hsub
      have hwr : IntKind.i64.wrap ((size : Int) - (H'.length : Int)) = (need' : Int) := by rw [IntKind.wrap_i64]; omega
      have RC : Hid (∀ W2, Below W1.heap.size W1 W2 → Calls Try.prog 57 #[.pointer (some ⟨g, 0, none⟩), .int .i64 need'] W2 fun e W' => ∃ d, e = .returned (.tuple #[d, .int .i64 (rdE l i' p')]) ∧ W'.ownsRow W2.heap.size 5 1 d (rdX l i' p' need').length (bvs (rdX l i' p' need')) ∧ Src base W' g (reach l) (rdN l i' p' need').1 (rdN l i' p' need').2 (t' + rdK l i' p' need') ∧ W2.grownBy W' (some g)) := fun W2 hb2 => by
        have hI := HST1.out.inv
        have hrl : (reach l).length ≤ l.length := by
          by_cases h0 : (reach l).length = 0
          · omega
          · obtain ⟨h', _⟩ := reach_get l ((reach l).length - 1) (by omega)
            omega
        have hR := cread_calls W2 g (reach l) i' p' t' need' (HST1.out.src.below hb2) hn1 hI.le hI.part_le (fun x hx => by
          obtain ⟨j, hj, rfl⟩ := List.mem_iff_getElem.1 hx
          obtain ⟨h', e⟩ := reach_get l j hj
          rw [← e]; exact hd _ (List.getElem_mem _)) (by have := told_le hI; omega) (by omega) (by omega)
        obtain ⟨q1, q2, q3, q4, q5⟩ := hI.same need'
        rw [q1, q2, q3, q4] at hR
        exact hR
      clear hsub hnd
      have hmr := read_method
      go_wp2_with (go_at_call 31; refine CC.out.mono ?_; rintro e w' ⟨rfl, hx⟩; obtain rfl : W1 = w' := hx.symm)
      go_region_held3 (fun w' => w'.cell? ⟨b, 0, none⟩ = some (.iface 24 (.pointer (some ⟨g, 0, none⟩))) ∧ w'.cell? ⟨b, 1, none⟩ = some (.int .i64 size)) (first | exact ⟨cb0, cb1⟩ | exact ⟨d0, d1⟩ | go_keep) (first
        | (go_at_call 57; refine (RC.out _ (Below.refl _ _).drew).mono ?_; rintro e w2 ⟨d, rfl, ho2, hS2, hg2⟩; have d0 : w2.cell? ⟨b, 0, none⟩ = some (.iface 24 (.pointer (some ⟨g, 0, none⟩))) := hg2.cell cb0 (by simp; omega); have d1 : w2.cell? ⟨b, 1, none⟩ = some (.int .i64 size) := hg2.cell cb1 (by simp; omega)))
      have hg2' : W1.grownBy w2 (some g) := ⟨hg2.os, hg2.tape, hg2.output, hg2.size, hg2.block⟩
      have hI1 := HST1.out.inv
      have hbl := HBW2.out
      have hBl := HBW.out
      have hsub2 := HSUB.out
      have hIN := hI1.step need'
      have hXK := rdX_length l i' p' need'
      have hpl1 : ∀ h : i' < l.length, p' ≤ l[i'].1.length := fun h => by
        rcases hI1.cases with ⟨h1, h2, e⟩ | ⟨h1, _⟩
        · rw [e]; exact hI1.part_le h1
        · omega
      have hGO := rd_goes l i' p' need' hn1 hpl1
      have hKle : rdK l i' p' need' ≤ need' := by unfold rdK; split <;> omega
      have hIle : i' ≤ (rdN l i' p' need').1 := by
        by_cases he : rdE l i' p' = 0
        · have := hGO he; omega
        · have := (rdE_stays l i' p' need' he).1; omega
      have held2 := HST1.out.held.kept hg2' (fun j e => by cases e; exact ⟨by omega, fun hx => hx.1 rfl⟩)
      have hkw := HST1.out.keep.size
      have z2 := hg2'.size
      obtain ⟨pa2, pc2, rfl⟩ := owns_slice ho2
      obtain ⟨xl, hxl⟩ : ∃ xl, (rdX l i' p' need').length = xl := ⟨_, rfl⟩
      obtain ⟨H3, hH3⟩ : ∃ H3, H' ++ rdX l i' p' need' = H3 := ⟨_, rfl⟩
      have hl3 : H3.length = H'.length + rdK l i' p' need' := by rw [← hH3, List.length_append, hXK]
      have HB3 : Hid (H3 = H ++ ((bytesOf l).1.drop t).take (t' + rdK l i' p' need' - t)) := by
        show _ = _
        rw [← hH3]
        exact fill_piece hI1 need' t H H' HST1.out.le HST1.out.bytes
      have HL1 := HST1.out.len
      have HLE1 := HST1.out.le
      have HEM := HST1.out.emp
      have hst3 : ∀ (v3 : Value) (w3 : World) (em' : Nat), HeldSt w.heap.size (fun j => j ≠ g ∧ j ≠ B ∧ j ≠ b ∧ Q j) w3 v3 H3 → (∃ row, w2.grownBy w3 row ∧ ∀ j, row = some j → w.heap.size ≤ j) → i + em' ≤ (rdN l i' p' need').1 →
          FillSt Q base b g B w.heap.size size taken need (.slice a H.length cap) l w i t H v3 H3 xl em' (rdN l i' p' need').1 (rdN l i' p' need').2 (t' + rdK l i' p' need') w3 := fun v3 w3 em' hh3 ⟨row, hgr, hrow⟩ hem' => by
        have b2 := (hg2'.block b (Blk.lt HST1.out.buf) (by simp; omega)).trans HST1.out.buf
        have x2 := HST1.out.box.kept hg2' (by simp; omega)
        refine ⟨hIN, Src.kept hS2 hgr (fun k e => by have := hrow k e; exact ⟨by omega, .inr (by omega)⟩), (hgr.block b (Blk.lt b2) (fun e => by have := hrow b e.symm; omega)).trans b2, hh3, ?_, by omega, by omega, HB3.out, by omega, hem', ?_⟩
        · have x3 := x2.kept hgr (fun e => by have := hrow B e.symm; omega)
          rw [show (need : Int) - (H3.length : Int) + ((xl : Nat) : Int) = (need : Int) - (H'.length : Int) + ((0 : Nat) : Int) by omega]
          exact x3
        · exact (HST1.out.keep.grown hg2' (fun j e => by cases e; exact .inl rfl)).grown hgr (fun j e => .inr (.inr (hrow j e)))
      have HST3 : Hid (∀ (v3 : Value) (w3 : World) (em' : Nat), HeldSt w.heap.size (fun j => j ≠ g ∧ j ≠ B ∧ j ≠ b ∧ Q j) w3 v3 H3 → (∃ row, w2.grownBy w3 row ∧ ∀ j, row = some j → w.heap.size ≤ j) → i + em' ≤ (rdN l i' p' need').1 →
          FillSt Q base b g B w.heap.size size taken need (.slice a H.length cap) l w i t H v3 H3 xl em' (rdN l i' p' need').1 (rdN l i' p' need').2 (t' + rdK l i' p' need') w3) := hst3
      have HH3 : Hid (H' ++ rdX l i' p' need' = H3) := hH3
      have HO2 : Hid (w2.ownsRow W1.drew.heap.size 5 1 (.slice pa2 xl pc2) (rdX l i' p' need').length (bvs (rdX l i' p' need'))) := by rw [← hxl]; exact ho2
      have HE2 : Hid (HeldSt w.heap.size (fun j => j ≠ g ∧ j ≠ B ∧ j ≠ b ∧ Q j) w2 (.slice ha H'.length hcp) H') := held2
      have sz1 : H'.length + (rdX l i' p' need').length ≤ 100000000000000 := by omega
      have sz2 : w.heap.size ≤ w2.heap.size := by omega
      have HXK : Hid ((rdX l i' p' need').length = rdK l i' p' need') := hXK
      have HL3 : Hid (H3.length = H'.length + rdK l i' p' need') := hl3
      have HXL : Hid (xl = rdK l i' p' need') := by show xl = _; omega
      rw [hxl]
      clear hst3 hH3 ho2 held2 hS2 hg2 d0 d1 cb0 cb1 hmr hXK hl3 HL1 hsub2 hwr hxl
      have hwe : IntKind.i64.wrap ((em : Int) + 1) = (em : Int) + 1 := by rw [IntKind.wrap_i64]; omega
      have HGO : Hid (rdE l i' p' = 0 → i' < (rdN l i' p' need').1 ∨ (i' = (rdN l i' p' need').1 ∧ 1 ≤ rdK l i' p' need')) := hGO
      have HC4 : Hid (W1.cell? ⟨g, 2, none⟩ = some (.int .i64 i') ∧ W1.cell? ⟨g, 4, none⟩ = some (.int .i64 t')) := Src.cellAt HST1.out.src
      have HIN : Hid (Inv l (rdN l i' p' need').1 (rdN l i' p' need').2 (t' + rdK l i' p' need')) := hIN
      have HK0 : Hid (rdE l i' p' ≠ 0 → rdK l i' p' need' = 0) := rdK_none l i' p' need'
      have HOKF : Hid (okP need H' = false) := decide_eq_false hen
      have HNF : Hid (H'.length ≠ size) := by show ¬ _; omega
      have HPA3 : Hid ((rdE l i' p' = 0 → ∀ em', em' = (if rdK l i' p' need' = 0 then em + 1 else 0) → Path (okP need) size l (H, i, p, t, 0) (H3, (rdN l i' p' need').1, (rdN l i' p' need').2, t' + rdK l i' p' need', em')) ∧ (rdE l i' p' ≠ 0 → H3 = H' ∧ Path (okP need) size l (H, i, p, t, 0) (H3, (rdN l i' p' need').1, (rdN l i' p' need').2, t' + rdK l i' p' need', em))) := by
        refine ⟨fun he em' hem' => ?_, fun he => ?_⟩
        · have hx := Path.more hpa.out (n := need') (by have := HSUB.out; omega) HOKF.out HNF.out (by omega) he em' hem'
          rw [HH3.out] at hx
          exact hx
        · have hk := rdK_none l i' p' need' he
          have hx0 : rdX l i' p' need' = [] := List.length_eq_zero_iff.1 (by have := HXK.out; omega)
          have e3 : H3 = H' := by rw [← HH3.out, hx0, List.append_nil]
          refine ⟨e3, ?_⟩
          rw [(rdE_stays l i' p' need' he).1, (rdE_stays l i' p' need' he).2, hk, Nat.add_zero, e3]
          exact hpa.out
      clear hGO hIN hI1 hpl1 hg2'
      by_cases he : rdE l i' p' = 0
      · have hgo := HGO.out he
        rw [he]
        by_cases hx0 : xl = 0
        · subst hx0
          have hgo' : i' < (rdN l i' p' need').1 := by have := HXL.out; omega
          by_cases hem1 : em = 99
          · subst hem1
            go_wp2_with (at_builtin; refine append_held rfl _ _ rfl w.heap.size (fun j => j ≠ g ∧ j ≠ B ∧ j ≠ b ∧ Q j) (.slice ha H'.length hcp) H' rfl HE2.out (.slice pa2 0 pc2) (rdX l i' p' need') rfl _ HO2.out sz2 sz1 ?_; intro v3 w3 hh3 hgr3; rw [HH3.out] at hh3; have hst4 := HST3.out v3 w3 100 hh3 hgr3 (by omega); obtain ⟨a3, c3, rfl, _⟩ := hh3.slice; have cb2 : w3.cell? ⟨b, 2, none⟩ = some (.slice a H.length cap) := Blk.cell hst4.buf 2; have f2 : w3.frozen? ⟨b, 2, none⟩ = false := Blk.frozen hst4.buf 2; have HST4 : Hid (FillSt Q base b g B w.heap.size size taken need (.slice a H.length cap) l w i t H (.slice a3 H3.length c3) H3 0 (100) (rdN l i' p' need').1 (rdN l i' p' need').2 (t' + rdK l i' p' need') w3) := hst4; clear hst4 hh3 hgr3)
            rw [Exit.noGoto_ret]
            refine bodyPost_ret (v := .int .i64 22) (by simp [results, Try.results30, go_sem]) rfl ⟨_, rfl, ?_⟩
            have h1 := HL3.out
            have h2 := HXL.out
            exact HST4.out.closeP hgb HBW2.out _ 100 ⟨HPA3.out.1 he 100 (by rw [if_pos h2.symm]), .inr (.inr (.inl ⟨decide_eq_false (by show ¬ need ≤ H3.length; omega), by show ¬ H3.length = size; omega, rfl, rfl⟩))⟩
          · have te : (((em : Int) + 1 == 100)) = false := by simp; omega
            go_wp2_with (at_builtin; refine append_held rfl _ _ rfl w.heap.size (fun j => j ≠ g ∧ j ≠ B ∧ j ≠ b ∧ Q j) (.slice ha H'.length hcp) H' rfl HE2.out (.slice pa2 0 pc2) (rdX l i' p' need') rfl _ HO2.out sz2 sz1 ?_; intro v3 w3 hh3 hgr3; rw [HH3.out] at hh3; have hst4 := HST3.out v3 w3 (em + 1) hh3 hgr3 (by omega); obtain ⟨a3, c3, rfl, _⟩ := hh3.slice; have cb2 : w3.cell? ⟨b, 2, none⟩ = some (.slice a H.length cap) := Blk.cell hst4.buf 2; have f2 : w3.frozen? ⟨b, 2, none⟩ = false := Blk.frozen hst4.buf 2; have HST4 : Hid (FillSt Q base b g B w.heap.size size taken need (.slice a H.length cap) l w i t H (.slice a3 H3.length c3) H3 0 ((em + 1)) (rdN l i' p' need').1 (rdN l i' p' need').2 (t' + rdK l i' p' need') w3) := hst4; clear hst4 hh3 hgr3)
            go_roundw
            case rel => exact ⟨H3, a3, pa2, c3, 0, pc2, em + 1, _, _, _, rfl, rfl, by go_num, rfl, by omega, by omega, HST4, HPA3.out.1 he _ (by rw [if_pos HXL.out.symm])⟩
            case measure =>
              have m1 := Src.cellAt HST4.out.src
              have m2 := HC5.out
              have m3 := HIN.out.bound
              have m4 := HIN.out.le
              rw [m1.1, m1.2, m2.1, m2.2]
              simp [intOf]
              omega
        · have tx : decide (0 < xl) = true := by simp; omega
          have hxs : xl ≤ 16777216 := by have := HXL.out; have := HSUB.out; omega
          go_wp2_with (at_builtin; refine append_held rfl _ _ rfl w.heap.size (fun j => j ≠ g ∧ j ≠ B ∧ j ≠ b ∧ Q j) (.slice ha H'.length hcp) H' rfl HE2.out (.slice pa2 xl pc2) (rdX l i' p' need') rfl _ HO2.out sz2 sz1 ?_; intro v3 w3 hh3 hgr3; rw [HH3.out] at hh3; have hst4 := HST3.out v3 w3 0 hh3 hgr3 (by omega); obtain ⟨a3, c3, rfl, _⟩ := hh3.slice; have cb2 : w3.cell? ⟨b, 2, none⟩ = some (.slice a H.length cap) := Blk.cell hst4.buf 2; have f2 : w3.frozen? ⟨b, 2, none⟩ = false := Blk.frozen hst4.buf 2; have HST4 : Hid (FillSt Q base b g B w.heap.size size taken need (.slice a H.length cap) l w i t H (.slice a3 H3.length c3) H3 xl (0) (rdN l i' p' need').1 (rdN l i' p' need').2 (t' + rdK l i' p' need') w3) := hst4; clear hst4 hh3 hgr3)
          go_roundw
          case rel => exact ⟨H3, a3, pa2, c3, xl, pc2, 0, _, _, _, rfl, rfl, rfl, rfl, by omega, hxs, HST4, HPA3.out.1 he _ (by rw [if_neg (by have := HXL.out; omega)])⟩
          case measure =>
            have m1 := Src.cellAt HST4.out.src
            have m2 := HC5.out
            have m3 := HIN.out.bound
            have m4 := HIN.out.le
            rw [m1.1, m1.2, m2.1, m2.2]
            simp [intOf]
            omega
      · have te : (rdE l i' p' != 0) = true := by simpa using he
        go_wp2_with (at_builtin; refine append_held rfl _ _ rfl w.heap.size (fun j => j ≠ g ∧ j ≠ B ∧ j ≠ b ∧ Q j) (.slice ha H'.length hcp) H' rfl HE2.out (.slice pa2 xl pc2) (rdX l i' p' need') rfl _ HO2.out sz2 sz1 ?_; intro v3 w3 hh3 hgr3; rw [HH3.out] at hh3; have hst4 := HST3.out v3 w3 em hh3 hgr3 (by omega); obtain ⟨a3, c3, rfl, _⟩ := hh3.slice; have cb2 : w3.cell? ⟨b, 2, none⟩ = some (.slice a H.length cap) := Blk.cell hst4.buf 2; have f2 : w3.frozen? ⟨b, 2, none⟩ = false := Blk.frozen hst4.buf 2; have HST4 : Hid (FillSt Q base b g B w.heap.size size taken need (.slice a H.length cap) l w i t H (.slice a3 H3.length c3) H3 xl (em) (rdN l i' p' need').1 (rdN l i' p' need').2 (t' + rdK l i' p' need') w3) := hst4; clear hst4 hh3 hgr3)
        rw [Exit.noGoto_ret]
        refine bodyPost_ret (v := .int .i64 (rdE l i' p')) (by simp [results, Try.results30, go_sem]) rfl ⟨_, rfl, ?_⟩
        have h1 := HL3.out
        have h2 := HK0.out he
        refine HST4.out.closeP hgb HBW2.out _ em ⟨(HPA3.out.2 he).2, .inr (.inr (.inr ⟨decide_eq_false (by show ¬ need ≤ H3.length; omega), by show ¬ H3.length = size; omega, by show ¬ em = 100; omega, ?_, ?_⟩))⟩
        · show rdE l (rdN l i' p' need').1 (rdN l i' p' need').2 ≠ 0
          rw [(rdE_stays l i' p' need' he).1, (rdE_stays l i' p' need' he).2]; exact he
        · show _ = rdE l (rdN l i' p' need').1 (rdN l i' p' need').2
          rw [(rdE_stays l i' p' need' he).1, (rdE_stays l i' p' need' he).2]

end Go.Proofs.Ytkpjmcoihbebkaa.CInv
