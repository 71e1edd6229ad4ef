/- What is proved here: the contract of acted of sievelaw02: Peek of both buffers. -/
import Derived.Test.YtkpjmcoihbebkaaBActed
namespace Go.Proofs.Ytkpjmcoihbebkaa.CInv
open Go.RowKit C

set_option maxRecDepth 100000 in
set_option maxHeartbeats 1000000 in
/-- Peek of what cannot be. -/
theorem peekx_calls (w : World) (b g size : Nat) (taken : Int) (hv : Value) (n : Int) (h : BufAt w b g size taken hv) (hn : n < 0 ∨ (size : Int) < n) :
    Calls Try.prog 19 #[.pointer (some ⟨b, 0, none⟩), .int .i64 n] w fun e W' => e = .returned (.tuple #[.slice none 0 0, .int .i64 1]) ∧ W' = w := by
  have HB : Hid (BufAt w b g size taken hv) := h
  have c1 : w.cell? ⟨b, 1, none⟩ = some (.int .i64 size) := Blk.cell h 1
  have hlt := Blk.lt h
  clear h
  go_enter Try.func19, Try.ntmps19
  by_cases h0 : n < 0
  · have d1 : decide (n < 0) = true := by simpa using h0
    clear h0 hn
    go_wp2_with (go_at_call 28; refine (bMade_calls _ _ _ _ _ _ HB.out).mono ?_; rintro e w' ⟨rfl, hx⟩; obtain rfl : w = w' := hx.symm)
    go_ret2
    exact ⟨rfl, rfl⟩
  · have d1 : decide (n < 0) = false := by simpa using h0
    have d2 : decide ((size : Int) < n) = true := by simp; omega
    clear h0 hn
    go_wp2_with (go_at_call 28; refine (bMade_calls _ _ _ _ _ _ HB.out).mono ?_; rintro e w' ⟨rfl, hx⟩; obtain rfl : w = w' := hx.symm)
    go_ret2
    exact ⟨rfl, rfl⟩
set_option maxRecDepth 100000 in
set_option maxHeartbeats 1000000 in
/-- Take of what cannot be. -/
theorem takex_calls (w : World) (b g size : Nat) (taken : Int) (hv : Value) (n : Int) (h : BufAt w b g size taken hv) (hn : n < 0 ∨ (size : Int) < n) :
    Calls Try.prog 21 #[.pointer (some ⟨b, 0, none⟩), .int .i64 n] w fun e W' => e = .returned (.tuple #[.slice none 0 0, .int .i64 1]) ∧ W' = w := by
  have PC : Hid (Calls Try.prog 19 #[.pointer (some ⟨b, 0, none⟩), .int .i64 n] w fun e W' => e = .returned (.tuple #[.slice none 0 0, .int .i64 1]) ∧ W' = w) := peekx_calls w b g size taken hv n h hn
  clear h hn
  go_enter Try.func21, Try.ntmps21
  go_wp2_with (go_at_call 19; refine PC.out.mono ?_; rintro e w' ⟨rfl, hx⟩; obtain rfl : w = w' := hx.symm)
  go_ret2
  exact ⟨rfl, rfl⟩
set_option maxRecDepth 100000 in
set_option maxHeartbeats 1000000 in
/-- **Peek of both.** -/
theorem acted_peek (sb g b : Nat) (v : Value) (base top rg rb size : Nat) (l : Scr) (H : List UInt8) (i p t taken : Nat) (a : Option Addr) (cap : Nat) (hv : Value) (w : World) (hJ : J sb g b v base top rg rb size l H i p t taken a cap hv w) (L : Lie g b base top rg rb size l) (need : Nat) (hneed : need ≤ size) :
    Calls Try.prog 11 #[.pointer (some ⟨b, 0, none⟩), .pointer (some ⟨rb, 0, none⟩), .agg #[.int .i64 0, .int .i64 need]] w (AEnd sb g b v base top rg rb size l w) := by
  obtain ⟨W0, hW0⟩ : ∃ W0, w.alloc (.cells #[.int .i64 0, .int .i64 need] 43) = W0 := ⟨_, rfl⟩
  have hb0 : Below w.heap.size w W0 := by rw [← hW0]; exact (Below.refl _ w).alloc (Nat.le_refl _) _
  have z0 : W0.heap.size = w.heap.size + 1 := by rw [← hW0]; simp
  have c0 : W0.cell? ⟨w.heap.size, 0, none⟩ = some (.int .i64 0) := by rw [← hW0, cell_new]; rfl
  have c1 : W0.cell? ⟨w.heap.size, 1, none⟩ = some (.int .i64 need) := by rw [← hW0, cell_new]; rfl
  have hJ0 := hJ.below hb0
  have hblt := Blk.lt hJ.buf
  have hglt : g < w.heap.size := by have := L.gb; omega
  have hdlt := hJ.doc.lt
  have hrglt : rg < w.heap.size := by have := L.gr; omega
  have PC : Hid (Calls Try.prog 19 #[.pointer (some ⟨b, 0, none⟩), .int .i64 need] W0 fun e W' => ∃ (E : Int) (d : Value) (H' : List UInt8) (i' p' t' : Nat), e = .returned (.tuple #[d, .int .i64 E]) ∧ W'.ownsRow W0.heap.size 5 1 d (H'.take need).length (bvs (H'.take need)) ∧ PeekEndB d (Nd base top rg rb hv) sb b g W0.heap.size size taken need l W0 i p t H E H' i' p' t' W') := peekb_calls (Nd base top rg rb hv) W0 (hJ0.new L) b g l i p t size taken need a cap H hJ0.buf hJ0.inv hJ0.src hJ0.held hJ0.cap L.gb hJ0.room L.size hneed L.bytes L.steps L.each
  have HJ : Hid (J sb g b v base top rg rb size l H i p t taken a cap hv W0) := hJ0
  have HRW : Hid (∀ k, hv.ownBlock = some k → k < w.heap.size) := fun k e => (hJ.doc.row.lt k e).2
  have HB0 : Hid (Below w.heap.size w W0) := hb0
  have HW0 : Hid (w.alloc (.cells #[.int .i64 0, .int .i64 need] 43) = W0) := hW0
  have HL : Hid (Lie g b base top rg rb size l) := L
  clear hJ hJ0 hb0 hW0 L
  go_enter Try.func11, Try.ntmps11
  go_wp2_with fail
  rw [HW0.out]
  (go_at_call 19; refine PC.out.mono ?_; rintro e W1 ⟨E, d, H1, i1, p1, t1, rfl, hod, hp, f1, f2, f3, f4, f5, f6, f7, f8, f9, f10, em, f11, f12⟩)
  have HP : Hid (Inv l i1 p1 t1 ∧ Src sb W1 g (reach l) i1 p1 t1 ∧ BufAt W1 b g size taken hp ∧ HasP (fun j => j ≠ g ∧ j ≠ b ∧ Nd base top rg rb hv j ∧ some j ≠ d.ownBlock) W1 hp H1 ∧ t ≤ t1 ∧ H1.length = H.length + (t1 - t) ∧ H1.length ≤ size ∧ KeepP (fun j => j = g ∨ j = b ∨ W0.heap.size ≤ j) W0 W1 ∧ Path (okP need) size l (H, i, p, t, 0) (H1, i1, p1, t1, em) ∧ Fin (okP need) size l (H1, i1, p1, t1, em) E) := ⟨f1, f2, f3, f4, f5, f6, f8, f10, f11, f12⟩
  have HOD : Hid (W1.ownsRow W0.heap.size 5 1 d (H1.take need).length (bvs (H1.take need))) := hod
  have bk : W1.heap[w.heap.size]? = W0.heap[w.heap.size]? := f10.block w.heap.size (by omega) (by show ¬ (_ ∨ _ ∨ _); omega)
  have d0 : W1.cell? ⟨w.heap.size, 0, none⟩ = some (.int .i64 0) := by rw [World.cell?_of_block (w := W0) bk]; exact c0
  have d1 : W1.cell? ⟨w.heap.size, 1, none⟩ = some (.int .i64 need) := by rw [World.cell?_of_block (w := W0) bk]; exact c1
  have hR1 := HJ.out.prog HL.out f10
  have d2 : W1.cell? ⟨rb, 1, none⟩ = some (.int .i64 size) := Blk.cell hR1.buf 1
  have hz1 := f10.size
  have DC : Hid (Calls Try.prog 22 #[.pointer (some ⟨rb, 0, none⟩), .int .i64 need] W1.drew (RPEnd need v base top rg rb size l H i p t taken hv W1.drew)) := rpeek_calls v base top rg rb size need l H i p t taken hv W1.drew (hR1.below (Below.refl _ W1).drew) HJ.out.inv HJ.out.room hneed HL.out.size HL.out.bytes HL.out.steps HL.out.each HL.out.gr HL.out.tb
  have l1 : decide ((need : Int) < 0) = false := by simp
  have l2 : decide ((size : Int) < (need : Int)) = false := by simp; omega
  have l3 : decide ((need : Int) > (size : Int)) = false := by simp; omega
  clear f1 f2 f3 f4 f5 f6 f7 f8 f9 f10 f11 f12 hod hR1 bk
  go_wp2_with fail
  go_region_held3 (fun w' => w'.cell? ⟨w.heap.size, 1, none⟩ = some (.int .i64 need) ∧ w'.cell? ⟨rb, 1, none⟩ = some (.int .i64 size)) (first | exact ⟨d1, d2⟩ | go_keep) (fail)
  have g1 : W1.drew.cell? ⟨w.heap.size, 1, none⟩ = some (.int .i64 need) := d1
  have g0 : W1.drew.cell? ⟨w.heap.size, 0, none⟩ = some (.int .i64 0) := d0
  go_wp2_with fail
  (go_at_call 22; refine DC.out.mono ?_; rintro e W2 ⟨d2, hv2, s2, E2, bd, he, ho2, _, _, r1, r2, r3, r4', r5, r6, r7⟩)
  have r4 : KB rg rb hv W1 W2 := KB.trans (KB.below (Below.refl _ W1).drew) (Moved.refl _ _) r4'
  clear r4'
  obtain ⟨f1, f2, f3, f4, f5, f6, f8, f10, f11, f12⟩ := HP.out
  obtain ⟨e1, e2⟩ := Path.one f11 r6 f12 r7
  subst e1
  subst e2
  simp only at ho2 r1 r2 r3
  subst he
  have bk2 : W2.heap[w.heap.size]? = W1.heap[w.heap.size]? := r4.block w.heap.size (by omega) (fun hx => by
    rcases hx with e' | e' | e'
    · omega
    · omega
    · have := HRW.out _ e'.symm; omega)
  have d3 : W2.cell? ⟨w.heap.size, 0, none⟩ = some (.int .i64 0) := by rw [World.cell?_of_block (w := W1) bk2]; exact d0
  have HO2 : Hid (W2.ownsRow W0.heap.size 5 1 d (H1.take need).length (bvs (H1.take need))) := r4.owns HOD.out (fun k e hx => by
    have h1 := (HOD.out.lt k e).1
    rcases hx with e' | e' | e'
    · omega
    · omega
    · have := HRW.out k e'.symm; omega)
  have AC : Hid (Calls Try.prog 20 #[d, .int .i64 E, d2, .int .i64 E] W2 fun r W' => r = .returned (.bool true) ∧ W2.grownBy W' d.ownBlock) := by
    have h9 := alike_calls (H1.take need) (H1.take need) d d2 E E W0.heap.size _ W2 (by have := HL.out.size; have : (H1.take need).length ≤ H1.length := List.length_take_le' _ _; omega) HO2.out (hasB_owns ho2)
    simp only [decide_true, Bool.and_self] at h9
    exact h9
  have FIN : Hid (∀ W3, W2.grownBy W3 d.ownBlock → AEnd sb g b v base top rg rb size l w (.returned (.bool true)) W3) := fun W3 hg => by
    have h9 := HJ.out.step HL.out f1 f2 f3 f4 f8 (by have := HJ.out.told; omega) f10 (HOD.out.lt) r4 r5 r1 hg
    exact ⟨rfl, h9.1, KeepP.under HB0.out h9.2⟩
  clear f1 f2 f3 f4 f5 f6 f8 f10 f11 f12 r1 r2 r3 r4 r5 r6 r7 ho2 bk2
  go_wp2_with fail
  (go_at_call 20; refine AC.out.mono ?_; rintro e W3 ⟨rfl, hg3⟩)
  go_wp2_with fail
  go_ret
  exact FIN.out W3 hg3
end Go.Proofs.Ytkpjmcoihbebkaa.CInv
