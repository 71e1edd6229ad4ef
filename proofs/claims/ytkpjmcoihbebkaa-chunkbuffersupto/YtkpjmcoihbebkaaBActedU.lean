/- What is proved here: the contract of acted of sievelaw02: Until of both buffers. -/
import Derived.Test.YtkpjmcoihbebkaaBActed
namespace Go.Proofs.Ytkpjmcoihbebkaa.CInv
open Go.RowKit C

set_option maxRecDepth 100000 in
set_option maxHeartbeats 1000000 in
/-- **Until of both.** -/
theorem acted_until (sb g b : Nat) (v : Value) (base top rg rb size : Nat) (l : Scr) (H : List UInt8) (i p t taken : Nat) (a : Option Addr) (cap : Nat) (hv : Value) (w : World) (hJ : J sb g b v base top rg rb size l H i p t taken a cap hv w) (L : Lie g b base top rg rb size l) (n : Int) :
    Calls Try.prog 11 #[.pointer (some ⟨b, 0, none⟩), .pointer (some ⟨rb, 0, none⟩), .agg #[.int .i64 2, .int .i64 n]] w (AEnd sb g b v base top rg rb size l w) := by
  obtain ⟨W0, hW0⟩ : ∃ W0, w.alloc (.cells #[.int .i64 2, .int .i64 n] 43) = W0 := ⟨_, rfl⟩
  have hb0 : Below w.heap.size w W0 := by rw [← hW0]; exact (Below.refl _ w).alloc (Nat.le_refl _) _
  have z0 : W0.heap.size = w.heap.size + 1 := by rw [← hW0]; simp
  have c1 : W0.cell? ⟨w.heap.size, 1, none⟩ = some (.int .i64 n) := by rw [← hW0, cell_new]; rfl
  have hJ0 := hJ.below hb0
  have hblt := Blk.lt hJ.buf
  have hglt : g < w.heap.size := by have := L.gb; omega
  have hdlt := hJ.doc.lt
  have htk : taken ≤ 100000000 := by have := told_le hJ.inv; have := hJ.told; have := L.bytes; omega
  obtain ⟨c, hc⟩ : ∃ c : UInt8, IntKind.u8.wrap n = (c.toNat : Int) := ⟨UInt8.ofNat (n % 256).toNat, by
    have h1 : IntKind.u8.wrap n = n % 256 := by simp [IntKind.wrap, IntKind.signed, IntKind.bits]
    rw [h1, UInt8.toNat_ofNat']
    omega⟩
  have PC : Hid (Calls Try.prog 24 #[.pointer (some ⟨b, 0, none⟩), .int .u8 c.toNat] W0 fun e W' => ∃ (E : Int) (d : Value) (H' : List UInt8) (k i' p' t' : Nat), e = .returned (.tuple #[d, .int .i64 E]) ∧ W'.ownsRow W0.heap.size 5 1 d (H'.take k).length (bvs (H'.take k)) ∧ UntilEndB d (Nd base top rg rb hv) sb b g W0.heap.size size taken c l W0 i p t H E H' k i' p' t' W') := untilb_calls (Nd base top rg rb hv) W0 (hJ0.new L) b g c l i p t size taken a cap H hJ0.buf hJ0.inv hJ0.src hJ0.held hJ0.cap L.gb hJ0.room L.size L.bytes L.steps L.each htk (rdE_n23 l)
  have HJ : Hid (J sb g b v base top rg rb size l H i p t taken a cap hv W0) := hJ0
  have HB0 : Hid (Below w.heap.size w W0) := hb0
  have HW0 : Hid (w.alloc (.cells #[.int .i64 2, .int .i64 n] 43) = W0) := hW0
  have HL : Hid (Lie g b base top rg rb size l) := L
  clear hJ hJ0 hb0 hW0 L
  go_enter Try.func11, Try.ntmps11
  go_wp2_with fail
  rw [HW0.out]
  (go_at_call 24; refine PC.out.mono ?_; rintro e W1 ⟨E, d, H1, k, i1, p1, t1, rfl, hod, hp, f1, f2, f3, f4, f5, f6, f7, f8, f9, f10, hku, em, f11, f12⟩)
  have HP : Hid (Inv l i1 p1 t1 ∧ Src sb W1 g (reach l) i1 p1 t1 ∧ BufAt W1 b g size (taken + k : Nat) hp ∧ HasP (fun j => j ≠ g ∧ j ≠ b ∧ Nd base top rg rb hv j ∧ some j ≠ d.ownBlock) W1 hp (H1.drop k) ∧ t ≤ t1 ∧ H1.length = H.length + (t1 - t) ∧ H1.length ≤ size ∧ KeepP (fun j => j = g ∨ j = b ∨ W0.heap.size ≤ j) W0 W1 ∧ k = untK c H1 E ∧ Path (okU c) size l (H, i, p, t, 0) (H1, i1, p1, t1, em) ∧ Fin (okU c) size l (H1, i1, p1, t1, em) E) := ⟨f1, f2, f3, f4, f5, f6, f8, f10, hku, f11, f12⟩
  have HOD : Hid (W1.ownsRow W0.heap.size 5 1 d (H1.take k).length (bvs (H1.take k))) := hod
  have c2 : W1.cell? ⟨w.heap.size, 1, none⟩ = some (.int .i64 n) := by
    rw [World.cell?_of_block (w := W0) (f10.block w.heap.size (by omega) (by show ¬ (_ ∨ _ ∨ _); omega))]; exact c1
  have DC : Hid (Calls Try.prog 25 #[.pointer (some ⟨rb, 0, none⟩), .int .u8 c.toNat] W1 (RUEnd c v base top rg rb size l H i p t taken hv W1)) := runtil_calls c v base top rg rb size l H i p t taken hv W1 (HJ.out.prog HL.out f10) HJ.out.inv HJ.out.room HL.out.size HL.out.bytes HL.out.steps HL.out.each HL.out.gr HL.out.tb htk (rdE_n23 l)
  clear f1 f2 f3 f4 f5 f6 f7 f8 f9 f10 f11 f12 hku hod
  go_wp2_with fail
  (go_at_call 25; refine DC.out.mono ?_; rintro e W2 ⟨d2, hv2, s2, E2, k2, he, hk2, ho2, r1, r2, r3, r4, r5, r6, r7⟩)
  obtain ⟨f1, f2, f3, f4, f5, f6, f8, f10, hku, f11, f12⟩ := HP.out
  obtain ⟨e1, e2⟩ := Path.one f11 r6 f12 r7
  subst e1
  subst e2
  simp only at hk2 ho2 r1 r2 r3
  obtain rfl : k = k2 := hku.trans hk2.symm
  subst he
  have hld := HJ.out.doc.lt
  have HO2 : Hid (W2.ownsRow W0.heap.size 5 1 d (H1.take k).length (bvs (H1.take k))) := r4.owns HOD.out (fun k e hx => by
    have h1 := (HOD.out.lt k e).1
    have h2 := HL.out.gr
    rcases hx with e' | e' | e'
    · omega
    · omega
    · have := (HJ.out.doc.row.lt k e'.symm).2; omega)
  have AC : Hid (Calls Try.prog 20 #[d, .int .i64 E, d2, .int .i64 E] W2 fun r W' => r = .returned (.bool true) ∧ W2.grownBy W' d.ownBlock) := by
    have h9 := alike_calls (H1.take k) (H1.take k) d d2 E E W0.heap.size _ W2 (by have := HL.out.size; have : (H1.take k).length ≤ H1.length := List.length_take_le' _ _; omega) HO2.out (hasB_owns ho2)
    simp only [decide_true, Bool.and_self] at h9
    exact h9
  have hkH : k ≤ H1.length := by
    rw [hku]
    unfold untK
    split
    · rename_i h
      by_cases hx : Lib.indexByte H1 c = -1
      · rw [hx]; simp
      · have hge := Lib.indexByte_ge H1 c
        obtain ⟨o, ho⟩ : ∃ o : Nat, Lib.indexByte H1 c = o := ⟨(Lib.indexByte H1 c).toNat, by omega⟩
        have := index_lt H1 c o ho
        rw [ho]; omega
    · split <;> omega
  have FIN : Hid (∀ W3, W2.grownBy W3 d.ownBlock → AEnd sb g b v base top rg rb size l w (.returned (.bool true)) W3) := fun W3 hg => by
    have h9 := HJ.out.step HL.out f1 f2 f3 f4 (by rw [List.length_drop]; omega) (by have := HJ.out.told; rw [List.length_drop]; omega) f10 (HOD.out.lt) r4 r5 r1 hg
    exact ⟨rfl, h9.1, KeepP.under HB0.out h9.2⟩
  clear f1 f2 f3 f4 f5 f6 f8 f10 f11 f12 hku r1 r2 r3 r4 r5 r6 r7 ho2 hk2
  go_wp2_with fail
  (go_at_call 20; refine AC.out.mono ?_; rintro e W3 ⟨rfl, hg3⟩)
  go_wp2_with fail
  go_ret
  exact FIN.out W3 hg3
end Go.Proofs.Ytkpjmcoihbebkaa.CInv
