/- What is proved here: the contract of a buffer's Take, with the path of its reads. (Written by wip/gen_b.py.) -/
import Derived.Test.YtkpjmcoihbebkaaBun7
import Derived.Test.YtkpjmcoihbebkaaBPeek
namespace Go.Proofs.Ytkpjmcoihbebkaa.CInv
open Go.RowKit C

/-- What a Take leaves: k bytes were taken. -/
def TakeEndB (d : Value) (Q : Nat → Prop) (base b g s0 size taken need : Nat) (l : Scr) (w : World) (i p t : Nat) (H : List UInt8) (E : Int) (H' : List UInt8) (i' p' t' : Nat) (W : World) : Prop :=
  ∃ (hv' : Value), Inv l i' p' t' ∧ Src base W g (reach l) i' p' t' ∧ BufAt W b g size (taken + (H'.take need).length : Nat) hv' ∧ HasP (fun j => j ≠ g ∧ j ≠ b ∧ Q j ∧ some j ≠ d.ownBlock) W hv' (H'.drop need) ∧ t ≤ t' ∧ H'.length = H.length + (t' - t) ∧ H' = H ++ ((bytesOf l).1.drop t).take (t' - t) ∧ H'.length ≤ size ∧ i ≤ i' ∧
    KeepP (fun j => j = g ∨ j = b ∨ s0 ≤ j) w W ∧ (∃ em', Path (okP need) size l (H, i, p, t, 0) (H', i', p', t', em') ∧ Fin (okP need) size l (H', i', p', t', em') E)

set_option maxRecDepth 100000 in
set_option maxHeartbeats 2000000 in
/-- **Take.** -/
theorem takeb_calls {base : Nat} (Q : Nat → Prop) (w : World) (hQ : ∀ j, w.heap.size ≤ j → Q j) (b g : Nat) (l : Scr) (i p t : Nat) (size taken need : Nat) (a : Option Addr) (cap : Nat) (H : List UInt8) (h : BufAt w b g size taken (.slice a H.length cap)) (hI : Inv l i p t) (hS : Src base w g (reach l) i p t) (hP : HasP (fun j => j ≠ g ∧ j ≠ b ∧ Q j) w (.slice a H.length cap) H) (hc : H.length ≤ cap)
    (hgb : g < b) (hsz : H.length ≤ size) (hsize : size ≤ 16777216) (hneed : need ≤ size) (hbd : (bytesOf l).1.length ≤ 16777216) (hll : l.length ≤ 16777216) (hd : ∀ x ∈ l, x.1.length ≤ 100000000000000) (ht : taken ≤ 100000000) :
    Calls Try.prog 21 #[.pointer (some ⟨b, 0, none⟩), .int .i64 need] w fun e W' => ∃ (E : Int) (d : Value) (H' : List UInt8) (i' p' t' : Nat), e = .returned (.tuple #[d, .int .i64 E]) ∧ W'.ownsRow w.heap.size 5 1 d (H'.take need).length (bvs (H'.take need)) ∧ TakeEndB d Q base b g w.heap.size size taken need l w i p t H E H' i' p' t' W' := by
  have hblt := Blk.lt h
  go_enter Try.func21, Try.ntmps21
  go_wp2_with fail
  refine (peekb_calls Q w hQ b g l i p t size taken need a cap H h hI hS hP hc hgb hsz hsize hneed hbd hll hd).mono ?_
  rintro e W1 ⟨E, d, H', i', p', t', rfl, hod, hv', f1, f2, f3, f4, f5, f6, f7, f8, f9, f10, f11⟩
  obtain ⟨a1, cap1, rfl, hc1, _⟩ := id f4
  have hkw := f10.size
  have hkl : (H'.take need).length ≤ H'.length := by simp; omega
  obtain ⟨k, hk⟩ : ∃ k, (H'.take need).length = k := ⟨_, rfl⟩
  have hdk : H'.drop k = H'.drop need := by
    rw [← hk, List.length_take]
    by_cases hle : need ≤ H'.length
    · rw [Nat.min_eq_left hle]
    · rw [Nat.min_eq_right (by omega), List.drop_length, List.drop_eq_nil_of_le (by omega)]
  obtain ⟨da, dc, hdv⟩ := owns_slice hod
  subst hdv
  have HOD : Hid (W1.ownsRow w.heap.size 5 1 (.slice da k dc) (H'.take need).length (bvs (H'.take need))) := by rw [← hk]; exact hod
  have HF : Hid (Inv l i' p' t' ∧ Src base W1 g (reach l) i' p' t' ∧ BufAt W1 b g size taken (.slice a1 H'.length cap1) ∧ HasP (fun j => j ≠ g ∧ j ≠ b ∧ Q j ∧ some j ≠ (Value.slice da k dc).ownBlock) W1 (.slice a1 H'.length cap1) H' ∧ KeepP (fun j => j = g ∨ j = b ∨ w.heap.size ≤ j) w W1) := ⟨f1, f2, f3, by rw [← hk]; exact f4, f10⟩
  have HF2 : Hid (t ≤ t' ∧ H'.length = H.length + (t' - t) ∧ H' = H ++ ((bytesOf l).1.drop t).take (t' - t) ∧ H'.length ≤ size ∧ i ≤ i' ∧ (∃ em', Path (okP need) size l (H, i, p, t, 0) (H', i', p', t', em') ∧ Fin (okP need) size l (H', i', p', t', em') E)) := ⟨f5, f6, f7, f8, f9, f11⟩
  have HK : Hid ((H'.take need).length = k) := hk
  have HDK : Hid (H'.drop k = H'.drop need) := hdk
  rw [hk]
  have hkb : k ≤ H'.length := by omega
  clear f1 f2 f3 f4 f5 f6 f7 f8 f9 f10 f11 hod hk hdk hkl h hI hS hP
  by_cases hk0 : k = 0
  · subst hk0
    go_wp2
    go_ret2
    obtain ⟨f1, f2, f3, f4, f10⟩ := HF.out
    obtain ⟨f5, f6, f7, f8, f9, f11⟩ := HF2.out
    have hD := HDK.out
    rw [List.drop_zero] at hD
    exact ⟨E, _, H', i', p', t', rfl, HOD.out, _, f1, f2, by rw [HK.out]; exact f3, by rw [← hD]; exact f4, f5, f6, f7, f8, f9, f10, f11⟩
  · have tk : decide (0 < k) = true := by simp; omega
    have DC : Hid (Calls Try.prog 32 #[.pointer (some ⟨b, 0, none⟩), .int .i64 k] W1 fun e W' => (∃ v, e = .returned v) ∧ ∃ a' cap', BufAt W' b g size (taken + k : Nat) (.slice a' (H'.length - k) cap') ∧ (k < H'.length → k < cap1 → a' = a1.map (fun x => x.add k) ∧ cap' = cap1 - k) ∧ W1.grownBy W' (some b)) :=
      drop_calls W1 b g size taken a1 H'.length cap1 k HF.out.2.2.1 hkb ht (by have := HF2.out.2.2.2.1; omega)
    go_wp2_with (go_at_call 32; refine DC.out.mono ?_; rintro e W2 ⟨⟨v, rfl⟩, a2, cap2, hb2, hx2, hg2⟩)
    go_ret2
    obtain ⟨f1, f2, f3, f4, f10⟩ := HF.out
    obtain ⟨f5, f6, f7, f8, f9, f11⟩ := HF2.out
    have f4' := f4.below hg2 (fun j e => by cases e; exact fun hx => hx.2.1 rfl)
    refine ⟨E, _, H', i', p', t', rfl, ?_, _, f1, Src.kept f2 hg2 (fun j e => by cases e; exact ⟨by omega, .inr (by omega)⟩), by rw [HK.out]; exact hb2, ?_, f5, f6, f7, f8, f9, ?_, f11⟩
    · exact own_kept HOD.out hg2 (fun j e => by cases e; omega)
    · rw [← HDK.out]
      refine f4'.drop hkb hx2 ?_ (fun h _ => by omega)
      by_cases hlt : k < H'.length
      · have := (hx2 hlt (by omega)).2; omega
      · omega
    · exact ⟨hg2.os.trans f10.os, hg2.tape.trans f10.tape, hg2.output.trans f10.output, Nat.le_trans f10.size hg2.size, fun j hj hx => (hg2.block j (Nat.lt_of_lt_of_le hj f10.size) (fun e => by cases e; exact hx (.inr (.inl rfl)))).trans (f10.block j hj hx)⟩

end Go.Proofs.Ytkpjmcoihbebkaa.CInv
