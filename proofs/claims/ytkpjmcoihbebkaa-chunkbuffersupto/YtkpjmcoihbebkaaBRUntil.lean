/- What is proved here: the document's buffer: Until, with the path of its reads. -/
import Derived.Test.YtkpjmcoihbebkaaBRTake
import Derived.Test.YtkpjmcoihbebkaaBFillU
namespace Go.Proofs.Ytkpjmcoihbebkaa.CInv
open Go.RowKit C

/-- How many bytes an Until takes. -/
def untK (c : UInt8) (H : List UInt8) (E : Int) : Nat := if E = 0 then (Lib.indexByte H c + 1).toNat else if E = 23 then 0 else H.length
/-- How an Until ends. -/
def RUEnd (c : UInt8) (v : Value) (base top rg rb size : Nat) (l : Scr) (H : List UInt8) (i p t taken : Nat) (hv : Value) (w : World) (e : Ending) (W : World) : Prop :=
  ∃ d hv' s E k, e = .returned (.tuple #[d, .int .i64 E]) ∧ k = untK c s.1 E ∧ W.ownsRow w.heap.size 5 1 d (s.1.take k).length (bvs (s.1.take k)) ∧ RB v base top rg rb size l (s.1.drop k) s.2.1 s.2.2.1 s.2.2.2.1 (taken + k) hv' W ∧ Inv l s.2.1 s.2.2.1 s.2.2.2.1 ∧ s.1.length ≤ size ∧ KB rg rb hv w W ∧ Moved w hv hv' ∧ Path (okU c) size l (H, i, p, t, 0) s ∧ Fin (okU c) size l s E
theorem index_hit (H : List UInt8) (c : UInt8) (k : Nat) (hk : k < H.length) (h : Lib.indexByte (H.take k) c = -1) (hc : H[k] = c) : Lib.indexByte H c = k := by
  have := index_app (H.take k) (H.drop k) c h
  rw [List.take_append_drop, List.drop_eq_getElem_cons hk, hc] at this
  rw [this]
  simp [Lib.indexByte]
  omega
theorem index_miss (H : List UInt8) (c : UInt8) (k : Nat) (hk : k < H.length) (h : Lib.indexByte (H.take k) c = -1) (hc : H[k] ≠ c) : Lib.indexByte (H.take (k + 1)) c = -1 := by
  rw [List.take_succ_eq_append_getElem hk, index_app _ _ c h]
  have : (H[k] == c) = false := by simpa using hc
  simp [Lib.indexByte, this]
set_option maxRecDepth 100000 in
set_option maxHeartbeats 4000000 in
/-- **The document's Until.** -/
theorem runtil_calls (c : UInt8) (v : Value) (base top rg rb size : Nat) (l : Scr) (H : List UInt8) (i p t taken : Nat) (hv : Value) (w : World) (h : RB v base top rg rb size l H i p t taken hv w) (hI : Inv l i p t) (hsz : H.length ≤ size) (hsize : size ≤ 16777216) (hbd : (bytesOf l).1.length ≤ 16777216) (hll : l.length ≤ 16777216) (hd : ∀ x ∈ l, x.1.length ≤ 100000000000000) (hgb : rg < rb) (htb : top ≤ rb) (ht : taken ≤ 100000000) (hrd : ∀ i p, rdE l i p ≠ 23) :
    Calls Try.prog 25 #[.pointer (some ⟨rb, 0, none⟩), .int .u8 c.toNat] w (RUEnd c v base top rg rb size l H i p t taken hv w) := by
  have HR : Hid (RB v base top rg rb size l H i p t taken hv w) := h
  have HI : Hid (Inv l i p t) := hI
  clear h hI
  go_enter Try.func25, Try.ntmps25
  go_wp2
  go_loopw [6, 7, 8] (fun ve vE va wr => ∃ (s : FS) (E : Int) (hv' : Value) (at1 : Nat), ve = .int .i64 (s.2.2.2.2 : Nat) ∧ vE = .int .i64 E ∧ va = .int .i64 at1 ∧ at1 ≤ s.1.length ∧ s.2.2.2.2 ≤ 100 ∧ Hid (RB v base top rg rb size l s.1 s.2.1 s.2.2.1 s.2.2.2.1 taken hv' wr ∧ Inv l s.2.1 s.2.2.1 s.2.2.2.1 ∧ s.1.length ≤ size ∧ KB rg rb hv w wr ∧ Moved w hv hv' ∧ Path (okU c) size l (H, i, p, t, 0) s ∧ (E ≠ 0 → Fin (okU c) size l s E) ∧ Lib.indexByte (s.1.take at1) c = -1))
    (fun _ vE _ wr => 2 * (sizeS l l.length + l.length - (intOf ((wr.cell? ⟨rg, 1, none⟩).getD (.int .i64 0))).toNat - (intOf ((wr.cell? ⟨rg, 3, none⟩).getD (.int .i64 0))).toNat) + (if intOf vE = 0 then 1 else 0))
  case atStart => exact ⟨(H, i, p, t, 0), 0, hv, 0, rfl, rfl, rfl, by simp, by simp, HR.out, HI.out, hsz, KeepP.refl _ _, Moved.refl _ _, Path.refl, fun h => absurd rfl h, rfl⟩
  case round =>
    obtain ⟨s, E, hv', at1, rfl, rfl, rfl, hat, hem, hst⟩ := hrel
    obtain ⟨H1, i1, p1, t1, em1⟩ := s
    simp only at hem hst hat
    obtain ⟨ha, hc, rfl⟩ := C.owns_slice hst.out.1.row
    obtain ⟨W0, hW0⟩ : ∃ W0, wr = W0 := ⟨_, rfl⟩
    subst hW0
    have cb2 : wr.cell? ⟨rb, 2, none⟩ = some (.slice ha H1.length hc) := Blk.cell hst.out.1.buf 2
    have cb1 : wr.cell? ⟨rb, 1, none⟩ = some (.int .i64 size) := Blk.cell hst.out.1.buf 1
    have hl16 : H1.length ≤ 16777216 := by have := hst.out.2.2.1; omega
    have TC : Hid (∀ k, k ≤ H1.length → Calls Try.prog 34 #[.pointer (some ⟨rb, 0, none⟩), .int .i64 k] wr (RTk k v base top rg rb size l H1 i1 p1 t1 taken (.slice ha H1.length hc) wr)) := fun k hk => rtake_calls v base top rg rb size k l H1 i1 p1 t1 taken _ wr hst.out.1 hk hl16 ht hgb htb
    have FINI : Hid (∀ (k : Nat) (d : Value) (hv2 : Value) (W : World) (E' : Int), k = untK c H1 E' → Fin (okU c) size l (H1, i1, p1, t1, em1) E' → W.ownsRow wr.heap.size 5 1 d (H1.take k).length (bvs (H1.take k)) → RB v base top rg rb size l (H1.drop k) i1 p1 t1 (taken + k) hv2 W → KB rg rb (.slice ha H1.length hc) wr W → Moved wr (.slice ha H1.length hc) hv2 → RUEnd c v base top rg rb size l H i p t taken hv w (.returned (.tuple #[d, .int .i64 E'])) W) := fun k d hv2 W E' hk hf ho hr hkb hmv => by
      obtain ⟨q1, q2, q3, q4, q5, q6, _, _⟩ := hst.out
      have hzw := q4.size
      exact ⟨d, hv2, (H1, i1, p1, t1, em1), E', k, rfl, hk, ⟨ho.1, ho.2.imp id (fun ⟨g, cap, cur, e1, e2, e3⟩ => ⟨g, cap, cur, e1, by omega, e3⟩)⟩, hr, q2, q3, q4.trans q5 hkb, q5.trans hzw hmv, q6, hf⟩
    go_wp2_with fail
    generalize hWo : wr = Wo at *
    go_loopw [8] (fun va wx => wx = Wo ∧ ∃ k : Nat, k ≤ H1.length ∧ va = .int .i64 k ∧ Hid (Lib.indexByte (H1.take k) c = -1)) (fun va _ => H1.length - (intOf va).toNat)
    case atStart => exact ⟨rfl, at1, hat, rfl, hst.out.2.2.2.2.2.2.2⟩
    case round =>
      obtain ⟨hwx, k, hk, rfl, hix⟩ := hrel
      subst hwx
      by_cases hlt : k < H1.length
      · obtain ⟨g, rfl, hcell⟩ : ∃ g, ha = some ⟨g, 0, none⟩ ∧ wr.cell? ⟨g, k, none⟩ = some (.int .u8 H1[k].toNat) := by
          have hrow := hst.out.1.row
          rcases hrow.2 with ⟨e, e0⟩ | ⟨g, cap', cur, e, _⟩
          · omega
          · simp only [Value.slice.injEq] at e
            obtain ⟨rfl, _, _⟩ := e
            refine ⟨g, rfl, ?_⟩
            rw [hrow.cellAt k (by omega)]
            simp [bvs, hlt]
        have w1 : IntKind.i64.wrap ((k : Int) + 1) = ((k + 1 : Nat) : Int) := by rw [IntKind.wrap_i64]; omega
        have w2 : IntKind.i64.wrap (((k + 1 : Nat) : Int) - 1) = (k : Int) := by rw [IntKind.wrap_i64]; omega
        have l1 : decide ((k : Int) < (H1.length : Int)) = true := by rw [decide_eq_true_eq]; omega
        by_cases hcc : H1[k] = c
        · have tc : ((H1[k].toNat : Int) == (c.toNat : Int)) = true := by rw [hcc]; simp
          have HIT : Hid (Lib.indexByte H1 c = k) := index_hit H1 c k hlt hix.out hcc
          have TK : Hid (Calls Try.prog 34 #[.pointer (some ⟨rb, 0, none⟩), .int .i64 ((k : Int) + 1)] wr (RTk (k + 1) v base top rg rb size l H1 i1 p1 t1 taken (.slice (some ⟨g, 0, none⟩) H1.length hc) wr)) := by
            show Calls _ _ _ _ _
            rw [show ((k : Int) + 1) = ((k + 1 : Nat) : Int) by omega]
            exact TC.out (k + 1) (by omega)
          clear hcc
          go_wp2_with fail
          (go_at_call 34; refine TK.out.mono ?_; rintro e w2 ⟨d2, hv2, rfl, ho2, q1, q2, q3⟩)
          go_wp2_with fail
          go_ret2
          exact FINI.out (k + 1) d2 hv2 w2 0 (by unfold untK; rw [if_pos rfl, HIT.out]; omega) (.inl ⟨decide_eq_true (by show Lib.indexByte H1 c ≠ -1; rw [HIT.out]; omega), rfl⟩) ho2 q1 q2 q3
        · have tc : ((H1[k].toNat : Int) == (c.toNat : Int)) = false := by
            rw [beq_eq_false_iff_ne]; intro e; exact hcc (UInt8.toNat.inj (by omega))
          have HMI : Hid (Lib.indexByte (H1.take (k + 1)) c = -1) := index_miss H1 c k hlt hix.out hcc
          clear hcc
          go_wp2_with fail
          refine ⟨⟨trivial, k + 1, by omega, rfl, HMI⟩, ?_⟩
          simp only [intOf]
          omega
      · have hkk : k = H1.length := by omega
        subst hkk
        have l1 : decide ((H1.length : Int) < (H1.length : Int)) = false := by simp
        have HIX : Hid (Lib.indexByte H1 c = -1) := by
          have := hix.out
          rw [List.take_length] at this
          exact this
        have hof : okU c H1 = false := decide_eq_false (by simpa using HIX.out)
        have hbD : Below wr.heap.size wr wr.drew := (Below.refl _ wr).drew
        by_cases hfull : H1.length = size
        · have tf : ((H1.length : Int) == (size : Int)) = true := by rw [hfull]; simp
          have HF : Hid (Fin (okU c) size l (H1, i1, p1, t1, em1) 23) := .inr (.inl ⟨hof, hfull, rfl⟩)
          clear hfull
          go_wp2_with fail
          go_region_held3 (fun w' => w'.cell? ⟨rb, 1, none⟩ = some (.int .i64 size) ∧ w'.cell? ⟨rb, 2, none⟩ = some (.slice ha H1.length hc)) (first | exact ⟨cb1, cb2⟩ | go_keep) (fail)
          go_wp2_with fail
          go_ret2
          exact FINI.out 0 (.slice none 0 0) (.slice ha H1.length hc) _ 23 (by unfold untK; simp) HF.out ⟨by simp [bvs], .inl ⟨rfl, by simp⟩⟩ (hst.out.1.below hbD) (KB.below hbD) (Moved.refl _ _)
        · have tf : ((H1.length : Int) == (size : Int)) = false := by rw [beq_eq_false_iff_ne]; omega
          by_cases hE : E = 0
          · subst hE
            have FC : Hid (∀ W2, Below wr.heap.size wr W2 → Calls Try.prog 33 #[.pointer (some ⟨rb, 0, none⟩), .int .i64 em1] W2 (RFill v base top rg rb size l H1 i1 p1 t1 taken em1 (.slice ha H1.length hc) W2)) := fun W2 hb => rfill_calls v base top rg rb size l H1 i1 p1 t1 taken em1 _ W2 (hst.out.1.below hb) hst.out.2.1 hem (by have := hst.out.2.2.1; omega) hsize hbd hll hd hgb htb
            have HC : Hid (wr.cell? ⟨rg, 1, none⟩ = some (.int .i64 i1) ∧ wr.cell? ⟨rg, 3, none⟩ = some (.int .i64 t1)) := ⟨Blk.cell hst.out.1.src.1.1 1, Blk.cell hst.out.1.src.1.1 3⟩
            have hne1 : H1.length ≠ size := hfull
            clear hfull
            go_wp2_with fail
            go_region_held3 (fun w' => w'.cell? ⟨rb, 1, none⟩ = some (.int .i64 size) ∧ w'.cell? ⟨rb, 2, none⟩ = some (.slice ha H1.length hc)) (first | exact ⟨cb1, cb2⟩ | go_keep) (fail)
            go_wp2_with fail
            (go_at_call 33; refine (FC.out _ hbD).mono ?_; rintro e w2 ⟨hv2, s2, E2, rfl, r1, r2, r3, r4⟩)
            obtain ⟨H2, i2, p2, t2, em2⟩ := s2
            obtain ⟨q1, q2, q3, q4, q5, q6, _, _⟩ := hst.out
            have HC2 : Hid (w2.cell? ⟨rg, 1, none⟩ = some (.int .i64 i2) ∧ w2.cell? ⟨rg, 3, none⟩ = some (.int .i64 t2)) := ⟨Blk.cell r1.src.1.1 1, Blk.cell r1.src.1.1 3⟩
            have HN : Hid (em2 ≤ 100 ∧ Inv l i2 p2 t2 ∧ H2.length ≤ size ∧ Path (okU c) size l (H, i, p, t, 0) (H2, i2, p2, t2, em2) ∧ (E2 ≠ 0 → Fin (okU c) size l (H2, i2, p2, t2, em2) E2) ∧ ((E2 ≠ 0 ∧ i2 = i1 ∧ t2 = t1) ∨ (E2 = 0 ∧ i1 + t1 < i2 + t2)) ∧ ∃ X, H2 = H1 ++ X) := by
              rcases r4 with ⟨a1, a2, a3⟩ | ⟨a1, a2, a3, a4⟩ | ⟨a1, a2, a3, a4⟩
              · simp only [Prod.mk.injEq] at a3
                obtain ⟨rfl, rfl, rfl, rfl, rfl⟩ := a3
                exact ⟨hem, q2, q3, q6, fun _ => .inr (.inr (.inl ⟨hof, hne1, a1, a2⟩)), .inl ⟨by omega, rfl, rfl⟩, [], (List.append_nil _).symm⟩
              · simp only [Prod.mk.injEq] at a4
                obtain ⟨rfl, rfl, rfl, rfl, rfl⟩ := a4
                exact ⟨hem, q2, q3, q6, fun _ => .inr (.inr (.inr ⟨hof, hne1, a1, a2, a3⟩)), .inl ⟨by rw [a3]; exact a2, rfl, rfl⟩, [], (List.append_nil _).symm⟩
              · have hpl1 : ∀ h : i1 < l.length, p1 ≤ l[i1].1.length := fun h => by
                  rcases q2.cases with ⟨h1, h2, e⟩ | ⟨h1, _⟩
                  · rw [e]; exact q2.part_le h1
                  · omega
                have hgo := rd_goes l i1 p1 (size - H1.length) (by omega) hpl1 a2
                have hP := Path.step q6 ⟨hof, hne1, a1, a2⟩
                have hlen := nextFS_len size l (H1, i1, p1, t1, em1) q3
                rw [← a4] at hP hlen
                unfold nextFS at a4
                simp only [Prod.mk.injEq] at a4
                obtain ⟨e1, e2, e3, e4, e5⟩ := a4
                have hst2 := q2.step (size - H1.length)
                refine ⟨?_, ?_, hlen, hP, fun h => absurd a3 h, .inr ⟨a3, ?_⟩, _, e1⟩
                · rw [e5]; split <;> omega
                · rw [e2, e3, e4]; exact hst2
                · rw [e2, e4]; omega
            have hb1 := HN.out.2.1.le_l
            have hb2 := HN.out.2.1.bound
            have HRR : Hid (RB v base top rg rb size l H2 i2 p2 t2 taken hv2 w2 ∧ KB rg rb hv w w2 ∧ Moved w hv hv2) := ⟨r1, (q4.trans q5 (KB.below hbD)).trans q5 r2, q5.trans q4.size r3⟩
            have HTK : Hid (H1.length ≤ H2.length ∧ Lib.indexByte (H2.take H1.length) c = -1) := by
              obtain ⟨X, hX⟩ := HN.out.2.2.2.2.2.2
              subst hX
              exact ⟨by simp, by rw [List.take_left']; exact HIX.out; rfl⟩
            clear r1 r2 r3 r4 q1 q2 q3 q4 q5 q6 hne1
            go_wp2_with fail
            go_roundw
            case rel => exact ⟨(H2, i2, p2, t2, em2), E2, hv2, H1.length, rfl, rfl, rfl, HTK.out.1, HN.out.1, HRR.out.1, HN.out.2.1, HN.out.2.2.1, HRR.out.2.1, HRR.out.2.2, HN.out.2.2.2.1, HN.out.2.2.2.2.1, HTK.out.2⟩
            case measure =>
              rw [hWo, HC.out.1, HC.out.2, HC2.out.1, HC2.out.2]
              have h9 := HN.out.2.2.2.2.2.1
              simp only [intOf, Option.getD_some, Int.toNat_natCast]
              rcases h9 with ⟨e1, e2, e3⟩ | ⟨e1, e2⟩
              · rw [e2, e3]; simp [e1]
              · rw [e1]; simp; omega
          · have tE : (E != 0) = true := by simpa using hE
            have HF : Hid (Fin (okU c) size l (H1, i1, p1, t1, em1) E) := hst.out.2.2.2.2.2.2.1 hE
            have HK : Hid (H1.length = untK c H1 E) := by
              show _ = _
              have h23 : E ≠ 23 := by
                rcases HF.out with ⟨_, e⟩ | ⟨_, e, _⟩ | ⟨_, _, _, e⟩ | ⟨_, _, _, _, e⟩
                · exact absurd e hE
                · exact absurd e hfull
                · omega
                · rw [e]; exact hrd _ _
              unfold untK
              rw [if_neg hE, if_neg h23]
            have TK : Hid (Calls Try.prog 34 #[.pointer (some ⟨rb, 0, none⟩), .int .i64 H1.length] wr.drew (RTk H1.length v base top rg rb size l H1 i1 p1 t1 taken (.slice ha H1.length hc) wr.drew)) := rtake_calls v base top rg rb size H1.length l H1 i1 p1 t1 taken _ wr.drew (hst.out.1.below hbD) (Nat.le_refl _) hl16 ht hgb htb
            clear hE hfull
            go_wp2_with fail
            go_region_held3 (fun w' => w'.cell? ⟨rb, 1, none⟩ = some (.int .i64 size) ∧ w'.cell? ⟨rb, 2, none⟩ = some (.slice ha H1.length hc)) (first | exact ⟨cb1, cb2⟩ | go_keep) (fail)
            go_wp2_with fail
            (go_at_call 34; refine TK.out.mono ?_; rintro e w2 ⟨d2, hv2, rfl, ho2, q1, q2, q3⟩)
            go_wp2_with fail
            go_ret2
            exact FINI.out H1.length d2 hv2 w2 E HK.out HF.out ho2 q1 ((KB.below hbD).trans (Moved.refl _ _) q2) q3
end Go.Proofs.Ytkpjmcoihbebkaa.CInv
