/- What is proved here: the document's buffer: Rest, with the walk of its reads. -/
import Derived.Test.YtkpjmcoihbebkaaBRTake
import Derived.Test.YtkpjmcoihbebkaaBWalk
namespace Go.Proofs.Ytkpjmcoihbebkaa.CInv
open Go.RowKit C

/-- How a Rest ends. -/
def RREnd (v : Value) (base top rg rb size : Nat) (l : Scr) (H : List UInt8) (i p t taken : Nat) (hv : Value) (w : World) (e : Ending) (W : World) : Prop :=
  ∃ d hv' i' p' t' em A E0, e = .returned (.tuple #[d, .int .i64 (if E0 = 21 then 0 else E0)]) ∧ W.ownsRow w.heap.size 5 1 d A.length (bvs A) ∧ RB v base top rg rb size l [] i' p' t' (taken + A.length) hv' W ∧ Inv l i' p' t' ∧ KB rg rb hv w W ∧ Moved w hv hv' ∧ t ≤ t' ∧ A = H ++ ((bytesOf l).1.drop t).take (t' - t) ∧ Walk l (i, p, 0) (i', p', em) ∧ FinW l (i', p', em) E0
set_option maxRecDepth 100000 in
set_option maxHeartbeats 4000000 in
/-- **The document's Rest.** -/
theorem rrest_calls (v : Value) (base top rg rb size : Nat) (l : Scr) (H : List UInt8) (i p t taken : Nat) (hv : Value) (w : World) (h : RB v base top rg rb size l H i p t taken hv w) (hI : Inv l i p t) (hsz : H.length ≤ size) (hs1 : 1 ≤ size) (hsize : size ≤ 16777216) (hbd : (bytesOf l).1.length ≤ 16777216) (hll : l.length ≤ 16777216) (hd : ∀ x ∈ l, x.1.length ≤ 100000000000000) (hgb : rg < rb) (htb : top ≤ rb) (ht : taken + H.length = t) :
    Calls Try.prog 27 #[.pointer (some ⟨rb, 0, none⟩)] w (RREnd v base top rg rb size l H i p t taken hv w) := by
  have HR : Hid (RB v base top rg rb size l H i p t taken hv w) := h
  have HI : Hid (Inv l i p t) := hI
  have hrl := h.lt
  clear h hI
  go_enter Try.func27, Try.ntmps27
  go_wp2
  go_loopw [4, 5] (fun vo ve wr => ∃ (A Hc : List UInt8) (hv' : Value) (i' p' t' em : Nat), ve = .int .i64 em ∧ em ≤ 100 ∧ Hid (wr.ownsRow w.heap.size 5 1 vo A.length (bvs A)) ∧ Hid (RB v base top rg rb size l Hc i' p' t' (taken + A.length) hv' wr ∧ Inv l i' p' t' ∧ Hc.length ≤ size ∧ KB rg rb hv w wr ∧ Moved w hv hv' ∧ (∀ k, vo.ownBlock = some k → hv'.ownBlock ≠ some k)) ∧ Hid (t ≤ t' ∧ A ++ Hc = H ++ ((bytesOf l).1.drop t).take (t' - t) ∧ Walk l (i, p, 0) (i', p', em)))
    (fun _ _ wr => sizeS l l.length + l.length - (intOf ((wr.cell? ⟨rg, 1, none⟩).getD (.int .i64 0))).toNat - (intOf ((wr.cell? ⟨rg, 3, none⟩).getD (.int .i64 0))).toNat)
  case atStart => exact ⟨[], H, hv, i, p, t, 0, rfl, by omega, World.ownsRow_nil _ _ _ _, ⟨HR.out, HI.out, hsz, KeepP.refl _ _, Moved.refl _ _, fun k e => by cases e⟩, Nat.le_refl _, by simp, .refl⟩
  case round =>
    obtain ⟨A, Hc, hv', i1, p1, t1, em1, rfl, hem, hO, hst, hL⟩ := hrel
    obtain ⟨va, vc, rfl⟩ := C.owns_slice hO.out
    obtain ⟨ha, hc, rfl⟩ := C.owns_slice hst.out.1.row
    have cb2 : wr.cell? ⟨rb, 2, none⟩ = some (.slice ha Hc.length hc) := Blk.cell hst.out.1.buf 2
    have HC : Hid (wr.cell? ⟨rg, 1, none⟩ = some (.int .i64 i1) ∧ wr.cell? ⟨rg, 3, none⟩ = some (.int .i64 t1)) := ⟨Blk.cell hst.out.1.src.1.1 1, Blk.cell hst.out.1.src.1.1 3⟩
    have hte := told_le hst.out.2.1
    have htt := hL.out.1
    have hAl : A.length + Hc.length ≤ H.length + (t1 - t) := by
      have := congrArg List.length hL.out.2.1
      simp only [List.length_append, List.length_take, List.length_drop] at this
      omega
    obtain ⟨A3, hA3⟩ : ∃ A3, A ++ Hc = A3 := ⟨_, rfl⟩
    have HA3 : Hid (A ++ Hc = A3) := hA3
    have HA3l : Hid (A3.length = A.length + Hc.length) := by show _ = _; rw [← hA3, List.length_append]
    have TC : Hid (Calls Try.prog 34 #[.pointer (some ⟨rb, 0, none⟩), .int .i64 Hc.length] wr (RTk Hc.length v base top rg rb size l Hc i1 p1 t1 (taken + A.length) (.slice ha Hc.length hc) wr)) := rtake_calls v base top rg rb size Hc.length l Hc i1 p1 t1 (taken + A.length) _ wr hst.out.1 (Nat.le_refl _) (by omega) (by omega) hgb htb
    have hzw := hst.out.2.2.2.1.size
    clear hA3
    go_wp2_with fail
    (go_at_call 34; refine TC.out.mono ?_; rintro e w2 ⟨d2, hv2, rfl, ho2, q1, q2, q3⟩)
    rw [List.take_length] at ho2
    rw [List.drop_length] at q1
    have hz2 := q2.size
    have HO2 : Hid (w2.ownsRow w.heap.size 5 1 (.slice va A.length vc) A.length (bvs A)) := q2.owns hO.out (fun j hj hx => by
      have h1 := (hO.out.lt j hj).1
      rcases hx with e | e | e
      · omega
      · omega
      · exact hst.out.2.2.2.2.2 j hj e.symm)
    have HD2 : Hid (∀ k, (Value.slice va A.length vc).ownBlock = some k → hv2.ownBlock ≠ some k) := fun k hk e => by
      rcases q3 k e with e' | e'
      · exact hst.out.2.2.2.2.2 k hk e'
      · have := (hO.out.lt k hk).2; omega
    obtain ⟨da, dc, rfl⟩ := C.owns_slice ho2
    have HOD : Hid (w2.ownsRow wr.heap.size 5 1 (.slice da Hc.length dc) Hc.length (bvs Hc)) := ho2
    have HQ : Hid (RB v base top rg rb size l [] i1 p1 t1 (taken + A.length + Hc.length) hv2 w2 ∧ KB rg rb hv w w2 ∧ Moved w hv hv2) := ⟨q1, hst.out.2.2.2.1.trans hst.out.2.2.2.2.1 q2, hst.out.2.2.2.2.1.trans hzw q3⟩
    clear ho2 q1 q2 q3 cb2
    go_wp2_with (
      at_builtin
      refine append_ownB rfl _ _ rfl w.heap.size (.slice va A.length vc) A rfl HO2.out (.slice da Hc.length dc) Hc rfl _ HOD.out (by omega) (by omega) ?_
      intro v3 w3 ho3 hg3 hob
      rw [HA3.out] at ho3
      have hrow : ∀ j, (Value.slice va A.length vc).ownBlock = some j → w.heap.size ≤ j := fun j e => (World.ownsRow.lt HO2.out j e).1
      have hz3 := hg3.size
      have HD3 : Hid (∀ k, v3.ownBlock = some k → hv2.ownBlock ≠ some k) := fun k hk e => by
        rcases hob with h | h
        · exact HD2.out k (h.symm.trans hk) e
        · rw [hk] at h
          cases h
          have := (HQ.out.1.row.lt _ e).2
          omega
      have HR3 : Hid (RB v base top rg rb size l [] i1 p1 t1 (taken + A3.length) hv2 w3) := by
        refine ⟨RSu.kept HQ.out.1.src hg3 (fun k e => by have := hrow k e; exact ⟨by omega, .inr (by omega)⟩), ?_, ?_⟩
        · rw [show taken + A3.length = taken + A.length + Hc.length by have := HA3l.out; omega]
          exact (hg3.block rb HQ.out.1.lt (fun e => by have := hrow rb e.symm; omega)).trans HQ.out.1.buf
        · refine HQ.out.1.row.kept hg3 ?_
          cases hk : hv2.ownBlock with
          | none => exact .inl rfl
          | some k => exact .inr (fun e => HD2.out k (by first | exact e | exact e.symm) hk)
      have HK3 : Hid (KB rg rb hv w w3 ∧ Moved w hv hv2) := ⟨⟨hg3.os.trans HQ.out.2.1.os, hg3.tape.trans HQ.out.2.1.tape, hg3.output.trans HQ.out.2.1.output, by omega, fun k hk hn => (hg3.block k (by omega) (fun e => by have := hrow k e.symm; omega)).trans (HQ.out.2.1.block k hk hn)⟩, HQ.out.2.2⟩
      have HO3 : Hid (w3.ownsRow w.heap.size 5 1 v3 A3.length (bvs A3)) := ho3
      have FC : Hid (Calls Try.prog 33 #[.pointer (some ⟨rb, 0, none⟩), .int .i64 em1] w3 (RFill v base top rg rb size l [] i1 p1 t1 (taken + A3.length) em1 hv2 w3)) := rfill_calls v base top rg rb size l [] i1 p1 t1 (taken + A3.length) em1 hv2 w3 HR3.out hst.out.2.1 hem (by show 0 < size; omega) hsize hbd hll hd hgb htb
      clear ho3 hg3 hob hrow)
    (go_at_call 33; refine FC.out.mono ?_; rintro e w4 ⟨hv4, s4, E4, rfl, r1, r2, r3, r4⟩)
    obtain ⟨H4, i4, p4, t4, em4⟩ := s4
    have hz4 := r2.size
    have HO4 : Hid (w4.ownsRow w.heap.size 5 1 v3 A3.length (bvs A3)) := r2.owns HO3.out (fun j hj hx => by
      have h1 := (HO3.out.lt j hj).1
      rcases hx with e | e | e
      · omega
      · omega
      · exact HD3.out j hj e.symm)
    have HD4 : Hid (∀ k, v3.ownBlock = some k → hv4.ownBlock ≠ some k) := fun k hk e => by
      rcases r3 k e with e' | e'
      · exact HD3.out k hk e'
      · have := (HO3.out.lt k hk).2; omega
    have HC4 : Hid (w4.cell? ⟨rg, 1, none⟩ = some (.int .i64 i4) ∧ w4.cell? ⟨rg, 3, none⟩ = some (.int .i64 t4)) := ⟨Blk.cell r1.src.1.1 1, Blk.cell r1.src.1.1 3⟩
    have HK4 : Hid (KB rg rb hv w w4 ∧ Moved w hv hv4) := ⟨HK3.out.1.trans HK3.out.2 r2, HK3.out.2.trans (by omega) r3⟩
    have HE : Hid ((E4 ≠ 0 ∧ RREnd v base top rg rb size l H i p t taken hv w (.returned (.tuple #[v3, .int .i64 (if E4 = 21 then 0 else E4)])) w4) ∨ (E4 = 0 ∧ em4 ≤ 100 ∧ RB v base top rg rb size l H4 i4 p4 t4 (taken + A3.length) hv4 w4 ∧ Inv l i4 p4 t4 ∧ H4.length ≤ size ∧ t ≤ t4 ∧ A3 ++ H4 = H ++ ((bytesOf l).1.drop t).take (t4 - t) ∧ Walk l (i, p, 0) (i4, p4, em4) ∧ i1 + t1 < i4 + t4)) := by
      have hA : A3 = H ++ ((bytesOf l).1.drop t).take (t1 - t) := HA3.out.symm.trans hL.out.2.1
      rcases r4 with ⟨a1, a2, a3⟩ | ⟨a1, a2, a3, a4⟩ | ⟨a1, a2, a3, a4⟩
      · simp only [Prod.mk.injEq] at a3
        obtain ⟨rfl, rfl, rfl, rfl, rfl⟩ := a3
        exact .inl ⟨by omega, v3, hv4, i4, p4, t4, em4, A3, E4, rfl, HO4.out, r1, hst.out.2.1, HK4.out.1, HK4.out.2, htt, hA, hL.out.2.2, .inl ⟨a1, a2⟩⟩
      · simp only [Prod.mk.injEq] at a4
        obtain ⟨rfl, rfl, rfl, rfl, rfl⟩ := a4
        exact .inl ⟨by rw [a3]; exact a2, v3, hv4, i4, p4, t4, em4, A3, E4, rfl, HO4.out, r1, hst.out.2.1, HK4.out.1, HK4.out.2, htt, hA, hL.out.2.2, .inr ⟨a1, a2, a3⟩⟩
      · have hgo := rd_goes l i1 p1 (size - ([] : List UInt8).length) (by show 1 ≤ size - 0; omega) hst.out.2.1.part a2
        have hW := Walk.step (size - ([] : List UInt8).length) (by show 1 ≤ size - 0; omega) hL.out.2.2 ⟨a1, a2, hst.out.2.1.part⟩
        have hlen := nextFS_len size l ([], i1, p1, t1, em1) (Nat.zero_le _)
        have hst2 := hst.out.2.1.step (size - ([] : List UInt8).length)
        have hX := rdX_bytes hst.out.2.1 (size - ([] : List UInt8).length)
        rw [← a4] at hlen
        unfold nextFS at a4
        simp only [Prod.mk.injEq] at a4
        obtain ⟨e1, e2, e3, e4, e5⟩ := a4
        refine .inr ⟨a3, ?_, r1, ?_, hlen, ?_, ?_, ?_, ?_⟩
        · rw [e5]; split <;> omega
        · rw [e2, e3, e4]; exact hst2
        · rw [e4]; omega
        · rw [e1, List.nil_append, hX, hA, List.append_assoc]
          congr 1
          rw [show t4 - t = (t1 - t) + rdK l i1 p1 (size - ([] : List UInt8).length) by omega, List.take_add, List.drop_drop, show t + (t1 - t) = t1 by omega]
        · unfold nextWS at hW
          rw [e2, e3, e5]
          exact hW
        · rw [e2, e4]; omega
    clear r1 r2 r3 r4
    by_cases h0 : E4 = 0
    · have HN : Hid (em4 ≤ 100 ∧ RB v base top rg rb size l H4 i4 p4 t4 (taken + A3.length) hv4 w4 ∧ Inv l i4 p4 t4 ∧ H4.length ≤ size ∧ t ≤ t4 ∧ A3 ++ H4 = H ++ ((bytesOf l).1.drop t).take (t4 - t) ∧ Walk l (i, p, 0) (i4, p4, em4) ∧ i1 + t1 < i4 + t4) := by
        rcases HE.out with h | h
        · exact absurd h0 h.1
        · exact h.2
      clear HE
      subst h0
      have hb1 := HN.out.2.2.1.le_l
      have hb2 := HN.out.2.2.1.bound
      go_wp2_with fail
      go_roundw
      case rel =>
        obtain ⟨n1, n2, n3, n4, n5, n6, n7, n8⟩ := HN.out
        exact ⟨A3, H4, hv4, i4, p4, t4, em4, rfl, n1, HO4, ⟨n2, n3, n4, HK4.out.1, HK4.out.2, HD4.out⟩, n5, n6, n7⟩
      case measure =>
        rw [HC.out.1, HC.out.2, HC4.out.1, HC4.out.2]
        have h9 := HN.out.2.2.2.2.2.2.2
        simp only [intOf, Option.getD_some, Int.toNat_natCast]
        omega
    · have HF : Hid (RREnd v base top rg rb size l H i p t taken hv w (.returned (.tuple #[v3, .int .i64 (if E4 = 21 then 0 else E4)])) w4) := by
        rcases HE.out with h | h
        · exact h.2
        · exact absurd h.1 h0
      clear HE
      have t0 : (E4 != 0) = true := by simpa using h0
      by_cases h21 : E4 = 21
      · subst h21
        go_wp2_with fail
        go_ret2
        exact HF.out
      · have t21 : (E4 == 21) = false := by simpa using h21
        have HF2 : Hid (RREnd v base top rg rb size l H i p t taken hv w (.returned (.tuple #[v3, .int .i64 E4])) w4) := by
          have := HF.out
          rw [if_neg h21] at this
          exact this
        clear h21 h0
        go_wp2_with fail
        go_ret2
        exact HF2.out
end Go.Proofs.Ytkpjmcoihbebkaa.CInv
