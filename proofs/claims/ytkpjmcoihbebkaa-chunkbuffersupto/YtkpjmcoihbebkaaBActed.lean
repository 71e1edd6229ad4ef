/- What is proved here: the contract of acted of sievelaw02: one call of both buffers: Until, Rest, and what is no call. -/
import Derived.Test.YtkpjmcoihbebkaaBJoint
import Derived.Test.YtkpjmcoihbebkaaBun3
namespace Go.Proofs.Ytkpjmcoihbebkaa.CInv
open Go.RowKit C

theorem rdE_n23 (l : Scr) (i p : Nat) : rdE l i p ≠ 23 := by
  unfold rdE
  split
  · split <;> decide
  · decide
/-- What acted leaves. -/
def AEnd (sb g b : Nat) (v : Value) (base top rg rb size : Nat) (l : Scr) (w : World) (e : Ending) (W : World) : Prop :=
  e = .returned (.bool true) ∧ (∃ (H' : List UInt8) (i' p' t' taken' : Nat) (a : Option Addr) (cap : Nat) (hv' : Value), J sb g b v base top rg rb size l H' i' p' t' taken' a cap hv' W) ∧ KeepP (fun j => g ≤ j) w W
theorem KeepP.under {P : Nat → Prop} {A B C : World} (hb : Below A.heap.size A B) (h : KeepP P B C) : KeepP P A C :=
  ⟨h.os.trans hb.os, h.tape.trans hb.tape, h.output.trans hb.output, Nat.le_trans hb.size h.size, fun k hk hn => (h.block k (Nat.lt_of_lt_of_le hk hb.size) hn).trans (hb.block k hk)⟩
set_option maxRecDepth 100000 in
set_option maxHeartbeats 1000000 in
/-- What is no call. -/
theorem acted_none (sb g b : Nat) (v : Value) (base top rg rb size : Nat) (l : Scr) (H : List UInt8) (i p t taken : Nat) (a : Option Addr) (cap : Nat) (hv : Value) (w : World) (hJ : J sb g b v base top rg rb size l H i p t taken a cap hv w) (kd n : Int) (h0 : kd ≠ 0) (h1 : kd ≠ 1) (h2 : kd ≠ 2) (h3 : kd ≠ 3) :
    Calls Try.prog 11 #[.pointer (some ⟨b, 0, none⟩), .pointer (some ⟨rb, 0, none⟩), .agg #[.int .i64 kd, .int .i64 n]] w (AEnd sb g b v base top rg rb size l w) := by
  have t0 : (kd == 0) = false := by simpa using h0
  have t1 : (kd == 1) = false := by simpa using h1
  have t2 : (kd == 2) = false := by simpa using h2
  have t3 : (kd == 3) = false := by simpa using h3
  have HJ : Hid (∀ x, AEnd sb g b v base top rg rb size l w (.returned (.bool true)) (w.alloc (.cells #[.int .i64 kd, .int .i64 n] x))) := fun x => by
    have hb := (Below.refl _ w).alloc (Nat.le_refl _) (.cells #[.int .i64 kd, .int .i64 n] x)
    exact ⟨rfl, ⟨_, _, _, _, _, _, _, _, hJ.below hb⟩, KeepP.under hb (KeepP.refl _ _)⟩
  clear hJ h0 h1 h2 h3
  go_enter Try.func11, Try.ntmps11
  go_wp2_with fail
  go_ret
  exact HJ.out _
set_option maxRecDepth 100000 in
set_option maxHeartbeats 1000000 in
/-- **Rest of both.** -/
theorem acted_rest (sb g b : Nat) (v : Value) (base top rg rb size : Nat) (l : Scr) (H : List UInt8) (i p t taken : Nat) (a : Option Addr) (cap : Nat) (hv : Value) (w : World) (hJ : J sb g b v base top rg rb size l H i p t taken a cap hv w) (L : Lie g b base top rg rb size l) (n : Int) :
    Calls Try.prog 11 #[.pointer (some ⟨b, 0, none⟩), .pointer (some ⟨rb, 0, none⟩), .agg #[.int .i64 3, .int .i64 n]] w (AEnd sb g b v base top rg rb size l w) := by
  obtain ⟨W0, hW0⟩ : ∃ W0, w.alloc (.cells #[.int .i64 3, .int .i64 n] 43) = W0 := ⟨_, rfl⟩
  have hb0 : Below w.heap.size w W0 := by rw [← hW0]; exact (Below.refl _ w).alloc (Nat.le_refl _) _
  have hJ0 := hJ.below hb0
  have PC : Hid (Calls Try.prog 26 #[.pointer (some ⟨b, 0, none⟩)] W0 fun e W' => ∃ (E : Int) (d : Value) (A : List UInt8) (i' p' t' : Nat), e = .returned (.tuple #[d, .int .i64 E]) ∧ W'.ownsRow W0.heap.size 5 1 d A.length (bvs A) ∧ RestEndB sb b g W0.heap.size size taken l W0 i p t H E A i' p' t' W') := restb_calls (Nd base top rg rb hv) W0 b g l i p t size taken a cap H hJ0.buf hJ0.inv hJ0.src hJ0.held L.gb hJ0.room L.s1 L.size L.bytes L.steps L.each hJ0.told (rdE_n23 l)
  have HJ : Hid (J sb g b v base top rg rb size l H i p t taken a cap hv W0) := hJ0
  have HB0 : Hid (Below w.heap.size w W0) := hb0
  have HW0 : Hid (w.alloc (.cells #[.int .i64 3, .int .i64 n] 43) = W0) := hW0
  have HL : Hid (Lie g b base top rg rb size l) := L
  clear hJ hJ0 hb0 hW0 L
  go_enter Try.func11, Try.ntmps11
  go_wp2_with fail
  rw [HW0.out]
  (go_at_call 26; refine PC.out.mono ?_; rintro e W1 ⟨E, d, A, i1, p1, t1, rfl, hod, a2, cap2, E0, f1, f2, f3, f4, f5, f6, f7, f8, ⟨em, f9, f10⟩, hE⟩)
  have HE : Hid (E = if E0 = 21 then 0 else E0) := hE
  have HP : Hid (Inv l i1 p1 t1 ∧ Src sb W1 g (reach l) i1 p1 t1 ∧ BufAt W1 b g size (taken + A.length : Nat) (.slice a2 0 cap2) ∧ t ≤ t1 ∧ A = H ++ ((bytesOf l).1.drop t).take (t1 - t) ∧ KeepP (fun j => j = g ∨ j = b ∨ W0.heap.size ≤ j) W0 W1 ∧ Walk l (i, p, 0) (i1, p1, em) ∧ FinW l (i1, p1, em) E0 ∧ A.length = H.length + (t1 - t)) := ⟨f1, f2, f3, f4, f6, f8, f9, f10, f5⟩
  have HOD : Hid (W1.ownsRow W0.heap.size 5 1 d A.length (bvs A)) := hod
  have DC : Hid (Calls Try.prog 27 #[.pointer (some ⟨rb, 0, none⟩)] W1 (RREnd v base top rg rb size l H i p t taken hv W1)) := rrest_calls v base top rg rb size l H i p t taken hv W1 (HJ.out.prog HL.out f8) HJ.out.inv HJ.out.room HL.out.s1 HL.out.size HL.out.bytes HL.out.steps HL.out.each HL.out.gr HL.out.tb HJ.out.told
  clear f1 f2 f3 f4 f5 f6 f7 f8 f9 f10 hod hE
  go_wp2_with fail
  (go_at_call 27; refine DC.out.mono ?_; rintro e W2 ⟨d2, hv2, i2, p2, t2, em2, A2, E2, he, ho2, r1, r2, r3, r4, r5, r6, r7, r8⟩)
  obtain ⟨f1, f2, f3, f4, f6, f8, f9, f10, f5⟩ := HP.out
  obtain ⟨e1, e2⟩ := Walk.one f9 r7 f10 r8
  rw [← e2, ← HE.out] at he
  subst he
  simp only [Prod.mk.injEq] at e1
  obtain ⟨rfl, rfl, rfl⟩ := e1
  obtain rfl : t1 = t2 := by rw [f1.told, r2.told]
  obtain rfl : A = A2 := by rw [f6, r6]
  have hld := HJ.out.doc.lt
  have HO2 : Hid (W2.ownsRow W0.heap.size 5 1 d A.length (bvs A)) := r3.owns HOD.out (fun k e hx => by
    have h1 := (HOD.out.lt k e).1
    have h2 := HL.out.gr
    rcases hx with e' | e' | e'
    · omega
    · omega
    · have := (HJ.out.doc.row.lt k e'.symm).2; omega)
  have AC : Hid (Calls Try.prog 20 #[d, .int .i64 E, d2, .int .i64 E] W2 fun r W' => r = .returned (.bool true) ∧ W2.grownBy W' d.ownBlock) := by
    have h9 := alike_calls A A d d2 E E W0.heap.size _ W2 (by have := told_le f1; have := HL.out.bytes; have := HJ.out.room; have := HL.out.size; omega) HO2.out (hasB_owns ho2)
    simp only [decide_true, Bool.and_self] at h9
    exact h9
  have FIN : Hid (∀ W3, W2.grownBy W3 d.ownBlock → AEnd sb g b v base top rg rb size l w (.returned (.bool true)) W3) := fun W3 hg => by
    have h9 := HJ.out.step HL.out f1 f2 f3 (H' := []) (hp := .slice a2 0 cap2) ⟨a2, cap2, rfl, Nat.zero_le _, fun _ => rfl, fun ad _ j u hu => by simp [bvs] at hu⟩ (Nat.zero_le _) (by have := HJ.out.told; show taken + A.length + 0 = t1; omega) f8 (HOD.out.lt) r3 r4 r1 hg
    exact ⟨rfl, h9.1, KeepP.under HB0.out h9.2⟩
  clear f1 f2 f3 f4 f5 f6 f8 f9 f10 r1 r2 r3 r4 r5 r6 r7 r8 ho2 e2 HE
  go_wp2_with fail
  (go_at_call 20; refine AC.out.mono ?_; rintro e W3 ⟨rfl, hg3⟩)
  go_wp2_with fail
  go_ret
  exact FIN.out W3 hg3
end Go.Proofs.Ytkpjmcoihbebkaa.CInv
