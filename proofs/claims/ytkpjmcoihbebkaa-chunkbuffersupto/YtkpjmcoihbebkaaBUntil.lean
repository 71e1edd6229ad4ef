/- What is proved here: the contract of a buffer's Until, with the path of its reads. (Written by wip/gen_rest.py.) -/
import Derived.Test.YtkpjmcoihbebkaaBun7
import Derived.Test.YtkpjmcoihbebkaaBRUntil
namespace Go.Proofs.Ytkpjmcoihbebkaa.CInv
open Go.RowKit C

theorem HasP.than {P P' : Nat → Prop} {W : World} {v : Value} {H : List UInt8} (h : HasP P W v H) (hp : ∀ j, P j → j < W.heap.size → P' j) : HasP P' W v H := by
  obtain ⟨a2, cap2, e, ec, e1, e2⟩ := h
  exact ⟨a2, cap2, e, ec, e1, fun ad e' j u hu => ⟨(e2 ad e' j u hu).1, hp _ (e2 ad e' j u hu).2 (cell_lt (e2 ad e' j u hu).1)⟩⟩
/-- What an Until leaves: k bytes were taken. -/
def UntilEndB (d : Value) (Q : Nat → Prop) (base b g s0 size taken : Nat) (c : UInt8) (l : Scr) (w : World) (i p t : Nat) (H : List UInt8) (E : Int) (H' : List UInt8) (k i' p' t' : Nat) (W : World) : Prop :=
  ∃ (hv' : Value), Inv l i' p' t' ∧ Src base W g (reach l) i' p' t' ∧ BufAt W b g size (taken + k : Nat) hv' ∧ HasP (fun j => j ≠ g ∧ j ≠ b ∧ Q j ∧ some j ≠ d.ownBlock) W hv' (H'.drop k) ∧ t ≤ t' ∧ H'.length = H.length + (t' - t) ∧ H' = H ++ ((bytesOf l).1.drop t).take (t' - t) ∧ H'.length ≤ size ∧ i ≤ i' ∧
    KeepP (fun j => j = g ∨ j = b ∨ s0 ≤ j) w W ∧ k = untK c H' E ∧ ∃ em, Path (okU c) size l (H, i, p, t, 0) (H', i', p', t', em) ∧ Fin (okU c) size l (H', i', p', t', em) E

set_option maxRecDepth 100000 in
set_option maxHeartbeats 4000000 in
/-- **Until.** -/
theorem untilb_calls {base : Nat} (Q : Nat → Prop) (w : World) (hQ : ∀ j, w.heap.size ≤ j → Q j) (b g : Nat) (c : UInt8) (l : Scr) (i p t : Nat) (size taken : Nat) (a : Option Addr) (cap : Nat) (H : List UInt8) (h : BufAt w b g size taken (.slice a H.length cap)) (hI : Inv l i p t) (hS : Src base w g (reach l) i p t) (hP : HasP (fun j => j ≠ g ∧ j ≠ b ∧ Q j) w (.slice a H.length cap) H) (hc : H.length ≤ cap)
    (hgb : g < b) (hsz : H.length ≤ size) (hsize : size ≤ 16777216) (hbd : (bytesOf l).1.length ≤ 16777216) (hll : l.length ≤ 16777216) (hd : ∀ x ∈ l, x.1.length ≤ 100000000000000) (ht : taken ≤ 100000000) (hrd : ∀ i p, rdE l i p ≠ 23) :
    Calls Try.prog 24 #[.pointer (some ⟨b, 0, none⟩), .int .u8 c.toNat] w fun e W' => ∃ (E : Int) (d : Value) (H' : List UInt8) (k i' p' t' : Nat), e = .returned (.tuple #[d, .int .i64 E]) ∧ W'.ownsRow w.heap.size 5 1 d (H'.take k).length (bvs (H'.take k)) ∧ UntilEndB d Q base b g w.heap.size size taken c l w i p t H E H' k i' p' t' W' := by
  have HB : Hid (BufAt w b g size taken (.slice a H.length cap)) := h
  have hblt := Blk.lt h
  obtain ⟨W0, hW0⟩ : ∃ W0, w.alloc (.cells #[.int .u8 c.toNat] 5) = W0 := ⟨_, rfl⟩
  obtain ⟨W1, hW1⟩ : ∃ W1, W0.alloc (.cells #[.int .i64 0] 3) = W1 := ⟨_, rfl⟩
  have z0 : W0.heap.size = w.heap.size + 1 := by rw [← hW0]; simp
  have z1 : W1.heap.size = w.heap.size + 2 := by rw [← hW1]; simp; omega
  have b0 : Below w.heap.size w W0 := by rw [← hW0]; exact (Below.refl _ w).alloc (Nat.le_refl _) _
  have b1 : Below W0.heap.size W0 W1 := by rw [← hW1]; exact (Below.refl _ W0).alloc (Nat.le_refl _) _
  have bb : Below w.heap.size w W1 := b0.trans (b1.mono b0.size)
  have xC : Boxed W1 w.heap.size 5 (.int .u8 c.toNat) := by
    have h0 : Boxed W0 w.heap.size 5 (.int .u8 c.toNat) := by rw [← hW0]; exact Boxed.new w _ _
    rw [← hW1]; exact h0.alloc _
  have xB : Boxed W1 (w.heap.size + 1) 3 (.int .i64 0) := by rw [← hW1, ← z0]; exact Boxed.new W0 _ _
  have hHB : HasB W1.heap.size W1 (.slice a H.length H.length) H := by
    have := (hP.take H.length H.length (Nat.le_refl _) (Nat.le_refl _))
    rw [List.take_length] at this
    exact (this.below bb).mono (by omega)
  have FC : Hid (Calls Try.prog 30 #[.pointer (some ⟨b, 0, none⟩), .func (.func 35) #[] #[.pointer (some ⟨w.heap.size, 0, none⟩), .pointer (some ⟨w.heap.size + 1, 0, none⟩)]] W1 fun e W' => ∃ E : Int, e = .returned (.int .i64 E) ∧ FillEndG (outB (okU c) (outU w.heap.size (w.heap.size + 1) c size i l) size l H i p t) (fun j => j = w.heap.size ∨ j = w.heap.size + 1) Q base b g W1.heap.size size taken l W1 i t H E W') :=
    fillUb_calls Q W1 b g w.heap.size (w.heap.size + 1) c l i p t size taken a cap H (h.below bb) hI (hS.below bb) xC xB hc (hP.held bb (fun j hj hx => ⟨hx.1, (fun e => by rcases e with e | e <;> omega), hx.2⟩)) hHB hgb hblt (by omega) (by omega) hsz hsize hbd hll hd
  have HW1 : Hid ((w.alloc (.cells #[.int .u8 c.toNat] 5)).alloc (.cells #[.int .i64 0] 3) = W1) := by rw [hW0]; exact hW1
  have HBm : Hid (BufAt W0 b g size taken (.slice a H.length cap)) := h.below b0
  have HW0 : Hid (w.alloc (.cells #[.int .u8 c.toNat] 5) = W0) := hW0
  have HBB : Hid (Below w.heap.size w W1) := bb
  clear h hI hS hP xC xB hHB hW0 hW1 b0 b1 bb z0
  go_enter Try.func24, Try.ntmps24
  go_wp2_with fail
  rw [HW0.out]
  refine (bMade_calls _ _ _ _ _ _ HBm.out).mono ?_
  rintro e w' ⟨rfl, hx⟩
  obtain rfl : W0 = w' := hx.symm
  rw [← HW0.out]
  go_wp2_with fail
  rw [HW1.out]
  refine FC.out.mono ?_
  rintro e W2 ⟨E, rfl, H', hv', i', p', t', f1, f2, f3, f4, f5, f6, f7, f8, f9, f10, f11⟩
  obtain ⟨a1, cap1, rfl, hc1⟩ := f4.slice
  have hkw := f10.size
  have hP1 : HasP (fun j => j ≠ g ∧ j ≠ b ∧ Q j) W2 (.slice a1 H'.length cap1) H' := HasP.of_held f4 (fun j hj => ⟨hj.1, hj.2.2⟩) (fun j hj => ⟨by omega, by omega, hQ j (by omega)⟩)
  have k1 : KeepP (fun j => j = g ∨ j = b ∨ w.heap.size ≤ j) w W2 := ⟨f10.os.trans HBB.out.os, f10.tape.trans HBB.out.tape, f10.output.trans HBB.out.output, by have := HBB.out.size; omega, fun j hj hx => (f10.block j (by omega) (fun hx' => hx (by
    rcases hx' with e | e | e | e
    · exact .inl e
    · exact .inr (.inr (by rcases e with e | e <;> omega))
    · exact .inr (.inl e)
    · exact .inr (.inr (by omega))))).trans (HBB.out.block j hj)⟩
  have HF : Hid (Inv l i' p' t' ∧ Src base W2 g (reach l) i' p' t' ∧ BufAt W2 b g size taken (.slice a1 H'.length cap1) ∧ HasP (fun j => j ≠ g ∧ j ≠ b ∧ Q j) W2 (.slice a1 H'.length cap1) H' ∧ KeepP (fun j => j = g ∨ j = b ∨ w.heap.size ≤ j) w W2) := ⟨f1, f2, f3, hP1, k1⟩
  have HF2 : Hid (t ≤ t' ∧ H'.length = H.length + (t' - t) ∧ H' = H ++ ((bytesOf l).1.drop t).take (t' - t) ∧ H'.length ≤ size ∧ i ≤ i') := ⟨f5, f6, f7, f8, f9⟩
  have cb2 : W2.cell? ⟨b, 2, none⟩ = some (.slice a1 H'.length cap1) := Blk.cell f3 2
  have hW2 : w.heap.size + 2 ≤ W2.heap.size := by omega
  have HW2 : Hid (w.heap.size + 2 ≤ W2.heap.size) := hW2
  have HPF : Hid (∃ em, Path (okU c) size l (H, i, p, t, 0) (H', i', p', t', em) ∧ Fin (okU c) size l (H', i', p', t', em) E) := by
    obtain ⟨em, t9, e9, h1, h2⟩ := f11.2
    obtain rfl : t9 = t' := by omega
    exact ⟨em, h1, h2⟩
  by_cases hE : E = 23
  · have HOUT : Hid (H'.length = size) := by
      show _ = _
      rcases f11.1 with ⟨e, _⟩ | ⟨_, _, e | e | e⟩
      · omega
      · exact absurd (e.symm.trans hE) (hrd _ _)
      · omega
      · exact e.2
    subst hE
    clear f1 f2 f3 f4 f5 f6 f7 f8 f9 f10 f11 hP1 k1
    go_wp2
    go_ret2
    obtain ⟨f1, f2, f3, f4, f10⟩ := HF.out
    obtain ⟨f5, f6, f7, f8, f9⟩ := HF2.out
    exact ⟨23, .slice none 0 0, H', 0, i', p', t', rfl, by rw [List.take_zero]; exact World.ownsRow_nil _ _ _ _, _, f1, f2, by simpa using f3, by rw [List.drop_zero]; exact HasP.than f4 (fun j hj _ => ⟨hj.1, hj.2.1, hj.2.2, fun e => by cases e⟩), f5, f6, f7, f8, f9, f10, by simp [untK], HPF.out⟩
  · obtain ⟨k, hkH, hbx, hout⟩ : ∃ k : Nat, k ≤ H'.length ∧ Boxed W2 (w.heap.size + 1) 3 (.int .i64 k) ∧ ((E = 0 ∧ 1 ≤ k ∧ k ≤ H'.length ∧ Lib.indexByte H' c = (k : Int) - 1) ∨ (E ≠ 0 ∧ E ≠ 23 ∧ k = H'.length ∧ Lib.indexByte H' c = -1 ∧ (E = rdE l i' p' ∨ (E = 22 ∧ i + 100 ≤ i')))) := by
      rcases f11.1 with ⟨e, k0, hk0, hb0⟩ | ⟨e0, hb0, e⟩
      · have := index_lt H' c k0 hk0
        exact ⟨k0 + 1, by omega, by simpa using hb0, .inl ⟨e, by omega, by omega, by rw [hk0]; omega⟩⟩
      · refine ⟨H'.length, Nat.le_refl _, hb0.2.2, .inr ⟨e0, hE, rfl, hb0.1, ?_⟩⟩
        rcases e with e | e | e
        · exact .inl e
        · exact .inr e
        · exact absurd e.1 hE
    have HOUT : Hid ((E = 0 ∧ 1 ≤ k ∧ k ≤ H'.length ∧ Lib.indexByte H' c = (k : Int) - 1) ∨ (E ≠ 0 ∧ E ≠ 23 ∧ k = H'.length ∧ Lib.indexByte H' c = -1 ∧ (E = rdE l i' p' ∨ (E = 22 ∧ i + 100 ≤ i')))) := hout
    have HKU : Hid (k = untK c H' E) := by
      show _ = _
      unfold untK
      rcases hout with ⟨e, _, _, e2⟩ | ⟨e, e1, e2, _⟩
      · rw [if_pos e, e2]; omega
      · rw [if_neg e, if_neg e1]; exact e2
    have tE : (E == 23) = false := by simpa using hE
    have cB := hbx.cell
    have HBX : Hid (Boxed W2 (w.heap.size + 1) 3 (.int .i64 k)) := hbx
    have hks := slice_to a1 H'.length cap1 k (k : Int) rfl (by omega)
    have CL : Hid (Calls Try.prog 29 #[.slice a1 k cap1] W2.drew fun e W' => ∃ v, e = .returned v ∧ W'.ownsRow W2.heap.size 5 1 v (H'.take k).length (bvs (H'.take k)) ∧ Below W2.heap.size W2 W') := by
      refine (clone_calls _ (H'.take k) W2.heap.size W2.drew (by simp; omega) ((hP1.take k cap1 hkH (by omega)).below (Below.refl _ _).drew)).mono ?_
      rintro e W' ⟨v, h1, h2, h3⟩
      exact ⟨v, h1, h2, (Below.refl _ _).drew.trans h3⟩
    have hH16 : H'.length ≤ 16777216 := by omega
    clear f1 f2 f3 f4 f5 f6 f7 f8 f9 f10 f11 hP1 k1 hout hbx hE
    go_wp2_with fail
    go_region_held3 (fun w' => w'.cell? ⟨b, 2, none⟩ = some (.slice a1 H'.length cap1) ∧ w'.cell? ⟨w.heap.size + 1, 0, none⟩ = some (.int .i64 k)) (first | exact ⟨cb3, cB3⟩ | exact ⟨cb2, cB⟩ | go_keep) (first
      | (go_at_call 29; refine CL.out.mono ?_; rintro e W3 ⟨d, rfl, hod, hb3⟩; have cb3 : W3.cell? ⟨b, 2, none⟩ = some (.slice a1 H'.length cap1) := (hb3.cell (p := ⟨b, 2, none⟩) (by show b < W2.heap.size; omega)).trans cb2; have cB3 : W3.cell? ⟨w.heap.size + 1, 0, none⟩ = some (.int .i64 k) := (hb3.cell (p := ⟨w.heap.size + 1, 0, none⟩) (by show w.heap.size + 1 < W2.heap.size; omega)).trans cB))
    have DC : Hid (Calls Try.prog 32 #[.pointer (some ⟨b, 0, none⟩), .int .i64 k] W3 fun e W' => (∃ v, e = .returned v) ∧ ∃ a' cap', BufAt W' b g size (taken + k : Nat) (.slice a' (H'.length - k) cap') ∧ (k < H'.length → k < cap1 → a' = a1.map (fun x => x.add k) ∧ cap' = cap1 - k) ∧ W3.grownBy W' (some b)) :=
      drop_calls W3 b g size taken a1 H'.length cap1 k (HF.out.2.2.1.below hb3) hkH ht (by omega)
    obtain ⟨da, dc, rfl⟩ := owns_slice hod
    have HOD : Hid (W3.ownsRow W2.heap.size 5 1 (.slice da k dc) (H'.take k).length (bvs (H'.take k))) := by
      rw [show Value.slice da (H'.take k).length dc = Value.slice da k dc by rw [List.length_take, Nat.min_eq_left hkH]] at hod
      exact hod
    have HB3 : Hid (Below W2.heap.size W2 W3) := hb3
    clear hod hb3 cb2 cB
    go_wp2_with (go_at_call 32; refine DC.out.mono ?_; rintro e W4 ⟨⟨v, rfl⟩, a2, cap2, hb2, hx2, hg2⟩)
    go_ret2
    obtain ⟨f1, f2, f3, f4, f10⟩ := HF.out
    obtain ⟨f5, f6, f7, f8, f9⟩ := HF2.out
    have g3 := grown_below (row := none) HB3.out
    have f4n : HasP (fun j => j ≠ g ∧ j ≠ b ∧ Q j ∧ some j ≠ (Value.slice da k dc).ownBlock) W2 (.slice a1 H'.length cap1) H' := HasP.than f4 (fun j hj hlt => ⟨hj.1, hj.2.1, hj.2.2, fun e => by have := (HOD.out.lt j e.symm).1; omega⟩)
    have f4' := (f4n.below g3 (fun j e => by cases e)).below hg2 (fun j e => by cases e; exact fun hx => hx.2.1 rfl)
    have s3 := HB3.out.size
    refine ⟨E, _, H', k, i', p', t', rfl, ?_, _, f1, Src.kept (f2.below HB3.out) hg2 (fun j e => by cases e; exact ⟨by omega, .inr (by omega)⟩), hb2, ?_, f5, f6, f7, f8, f9, ?_, HKU.out, HPF.out⟩
    · have h9 : W4.ownsRow W2.heap.size 5 1 (.slice da k dc) (H'.take k).length (bvs (H'.take k)) := own_kept HOD.out hg2 (fun j e => by cases e; have := HW2.out; omega)
      have h8 : w.heap.size ≤ W2.heap.size := by have := HW2.out; omega
      exact owns_mono h9 h8
    · refine f4'.drop hkH hx2 ?_ (fun h _ => by omega)
      by_cases hlt : k < H'.length
      · have := (hx2 hlt (by omega)).2; omega
      · omega
    · have k3 := f10.grown g3 (fun j e => by cases e)
      exact ⟨hg2.os.trans k3.os, hg2.tape.trans k3.tape, hg2.output.trans k3.output, Nat.le_trans k3.size hg2.size, fun j hj hx => (hg2.block j (Nat.lt_of_lt_of_le hj k3.size) (fun e => by cases e; exact hx (.inr (.inl rfl)))).trans (k3.block j hj hx)⟩
end Go.Proofs.Ytkpjmcoihbebkaa.CInv
