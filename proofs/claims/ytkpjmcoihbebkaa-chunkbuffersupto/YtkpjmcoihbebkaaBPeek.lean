/- What is proved here: the contract of a buffer's Peek, with the path of its reads. (Written by wip/gen_b.py.) -/
import Derived.Test.YtkpjmcoihbebkaaCPeek
import Derived.Test.YtkpjmcoihbebkaaBFill
namespace Go.Proofs.Ytkpjmcoihbebkaa.CInv
open Go.RowKit C

/-- What a Peek leaves. -/
def PeekEndB (d : Value) (Q : Nat → Prop) (base b g s0 size taken need : Nat) (l : Scr) (w : World) (i p t : Nat) (H : List UInt8) (E : Int) (H' : List UInt8) (i' p' t' : Nat) (W : World) : Prop :=
  ∃ (hv' : Value), Inv l i' p' t' ∧ Src base W g (reach l) i' p' t' ∧ BufAt W b g size taken hv' ∧ HasP (fun j => j ≠ g ∧ j ≠ b ∧ Q j ∧ some j ≠ d.ownBlock) W hv' H' ∧ t ≤ t' ∧ H'.length = H.length + (t' - t) ∧ H' = H ++ ((bytesOf l).1.drop t).take (t' - t) ∧ H'.length ≤ size ∧ i ≤ i' ∧
    KeepP (fun j => j = g ∨ j = b ∨ s0 ≤ j) w W ∧ (∃ em', Path (okP need) size l (H, i, p, t, 0) (H', i', p', t', em') ∧ Fin (okP need) size l (H', i', p', t', em') E)

set_option maxRecDepth 100000 in
set_option maxHeartbeats 2000000 in
/-- **Peek.** -/
theorem peekb_calls {base : Nat} (Q : Nat → Prop) (w : World) (hQ : ∀ j, w.heap.size ≤ j → Q j) (b g : Nat) (l : Scr) (i p t : Nat) (size taken need : Nat) (a : Option Addr) (cap : Nat) (H : List UInt8) (h : BufAt w b g size taken (.slice a H.length cap)) (hI : Inv l i p t) (hS : Src base w g (reach l) i p t) (hP : HasP (fun j => j ≠ g ∧ j ≠ b ∧ Q j) w (.slice a H.length cap) H) (hc : H.length ≤ cap)
    (hgb : g < b) (hsz : H.length ≤ size) (hsize : size ≤ 16777216) (hneed : need ≤ size) (hbd : (bytesOf l).1.length ≤ 16777216) (hll : l.length ≤ 16777216) (hd : ∀ x ∈ l, x.1.length ≤ 100000000000000) :
    Calls Try.prog 19 #[.pointer (some ⟨b, 0, none⟩), .int .i64 need] w fun e W' => ∃ (E : Int) (d : Value) (H' : List UInt8) (i' p' t' : Nat), e = .returned (.tuple #[d, .int .i64 E]) ∧ W'.ownsRow w.heap.size 5 1 d (H'.take need).length (bvs (H'.take need)) ∧ PeekEndB d Q base b g w.heap.size size taken need l w i p t H E H' i' p' t' W' := by
  have HB : Hid (BufAt w b g size taken (.slice a H.length cap)) := h
  have c1 : w.cell? ⟨b, 1, none⟩ = some (.int .i64 size) := Blk.cell h 1
  have hblt := Blk.lt h
  have hbA := (Below.refl w.heap.size w).alloc (Nat.le_refl _) (.cells #[.int .i64 need] 3)
  have FC : Hid (Calls Try.prog 30 #[.pointer (some ⟨b, 0, none⟩), .func (.func 31) #[] #[.pointer (some ⟨w.heap.size, 0, none⟩)]] (w.alloc (.cells #[.int .i64 need] 3)) fun e W' => ∃ E : Int, e = .returned (.int .i64 E) ∧ FillEndP Q base b g w.heap.size (w.alloc (.cells #[.int .i64 need] 3)).heap.size size taken need l (w.alloc (.cells #[.int .i64 need] 3)) i p t H E W') :=
    fillP_calls Q _ b g w.heap.size l i p t size taken need a cap H (h.below hbA) hI (hS.below hbA) (Boxed.new w 3 _) hc (hP.held hbA (fun j hj hx => ⟨hx.1, by omega, hx.2⟩)) hgb hblt hsz hsize hneed hbd hll hd
  have d1 : decide ((need : Int) < 0) = false := by simp
  have d2 : decide ((size : Int) < (need : Int)) = false := by simp; omega
  have d3 : decide (size < need) = false := by simp; omega
  clear h hI hS hP
  go_enter Try.func19, Try.ntmps19
  go_wp2_with (first
    | (go_at_call 28; refine (bMade_calls _ _ _ _ _ _ HB.out).mono ?_; rintro e w' ⟨rfl, hx⟩; obtain rfl : w = w' := hx.symm)
    | (go_at_call 30; refine FC.out.mono ?_; rintro e W1 ⟨E, rfl, hfe⟩))
  obtain ⟨H', hv', i', p', t', em', f1, f2, f3, f4, f5, f6, f7, f8, f9, f10, f11, f12⟩ := hfe
  obtain ⟨a1, cap1, rfl, hc1⟩ := f4.slice
  simp only [World.size_alloc] at f4 f10
  have hP1 : HasP (fun j => j ≠ g ∧ j ≠ b ∧ Q j) W1 (.slice a1 H'.length cap1) H' := HasP.of_held f4 (fun j hj => ⟨hj.1, hj.2.2⟩) (fun j hj => ⟨by omega, by omega, hQ j (by omega)⟩)
  obtain ⟨k, hk⟩ : ∃ k, min need H'.length = k := ⟨_, rfl⟩
  have hkI : min (need : Int) (H'.length : Int) = (k : Int) := by omega
  have hks := slice_to a1 H'.length cap1 k _ hkI (by omega)
  have HTK : Hid (H'.take k = H'.take need) := by
    show _ = _
    rw [← hk, List.take_eq_take_iff]
    omega
  have cb2 : W1.cell? ⟨b, 2, none⟩ = some (.slice a1 H'.length cap1) := Blk.cell f3 2
  have hkw : w.heap.size + 1 ≤ W1.heap.size := by have := f10.size; simp at this; omega
  have CL : Hid (Calls Try.prog 29 #[.slice a1 k cap1] W1.drew fun e W' => ∃ v, e = .returned v ∧ W'.ownsRow W1.heap.size 5 1 v (H'.take k).length (bvs (H'.take k)) ∧ Below W1.heap.size W1 W') := by
    refine (clone_calls _ (H'.take k) W1.heap.size W1.drew (by simp; omega) ((hP1.take k cap1 (by omega) (by omega)).below (Below.refl _ _).drew)).mono ?_
    rintro e W' ⟨v, h1, h2, h3⟩
    exact ⟨v, h1, h2, (Below.refl _ _).drew.trans h3⟩
  have HF : Hid (Inv l i' p' t' ∧ Src base W1 g (reach l) i' p' t' ∧ BufAt W1 b g size taken (.slice a1 H'.length cap1) ∧ HasP (fun j => j ≠ g ∧ j ≠ b ∧ Q j) W1 (.slice a1 H'.length cap1) H' ∧ KeepP (fun j => j = g ∨ j = w.heap.size ∨ j = b ∨ w.heap.size + 1 ≤ j) (w.alloc (.cells #[.int .i64 need] 3)) W1) := ⟨f1, f2, f3, hP1, f10⟩
  have HF2 : Hid (t ≤ t' ∧ H'.length = H.length + (t' - t) ∧ H' = H ++ ((bytesOf l).1.drop t).take (t' - t) ∧ H'.length ≤ size ∧ i ≤ i' ∧ (∃ em', Path (okP need) size l (H, i, p, t, 0) (H', i', p', t', em') ∧ Fin (okP need) size l (H', i', p', t', em') E)) := ⟨f5, f6, f7, f8, f9, em', f11, f12⟩
  clear f1 f2 f3 f4 f5 f6 f7 f8 f9 f10 f11 f12 hP1 hk hkI
  go_region_held3 (fun w' => w'.cell? ⟨b, 2, none⟩ = some (.slice a1 H'.length cap1)) (first | exact cb2 | exact cb3 | go_keep) (first
    | (go_at_call 29; refine CL.out.mono ?_; rintro e W2 ⟨d, rfl, hod, hb2⟩; have cb3 : W2.cell? ⟨b, 2, none⟩ = some (.slice a1 H'.length cap1) := (hb2.cell (p := ⟨b, 2, none⟩) (by show b < W1.heap.size; omega)).trans cb2))
  go_wp2
  go_ret2
  obtain ⟨f1, f2, f3, f4, f10⟩ := HF.out
  obtain ⟨f5, f6, f7, f8, f9, f11⟩ := HF2.out
  rw [HTK.out] at hod
  refine ⟨E, d, H', i', p', t', rfl, ⟨hod.1, hod.2.imp id (fun ⟨g, cap, cur, e1, e2, e3⟩ => ⟨g, cap, cur, e1, by omega, e3⟩)⟩, _, f1, f2.below hb2, f3.below hb2, ?_, f5, f6, f7, f8, f9, ?_, f11⟩
  · obtain ⟨a2, cap2, e, ec, e1, e2⟩ := f4
    exact ⟨a2, cap2, e, ec, e1, fun ad e' j u hu => ⟨(hb2.cell (cell_lt (e2 ad e' j u hu).1)).trans (e2 ad e' j u hu).1, (e2 ad e' j u hu).2.1, (e2 ad e' j u hu).2.2.1, (e2 ad e' j u hu).2.2.2, fun e9 => by have h8 := (hod.lt _ e9.symm).1; have h9 := cell_lt (e2 ad e' j u hu).1; omega⟩⟩
  · have k1 : KeepP (fun j => j = g ∨ j = b ∨ w.heap.size ≤ j) w W1 := ⟨f10.os, f10.tape, f10.output, by omega, fun j hj hx => (f10.block j (by simp; omega) (fun hx' => hx (by have hx2 : j = g ∨ j = w.heap.size ∨ j = b ∨ w.heap.size + 1 ≤ j := hx'; show j = g ∨ j = b ∨ w.heap.size ≤ j; omega))).trans (Below.heap_alloc _ _ _ hj)⟩
    exact k1.grown (grown_below (row := none) hb2) (fun _ e => by cases e)

end Go.Proofs.Ytkpjmcoihbebkaa.CInv
