/- What is proved here: what a buffer holds between calls, and the contract of its Peek. -/
import Derived.Test.YtkpjmcoihbebkaaCFill
namespace Go.Proofs.Ytkpjmcoihbebkaa.CInv
open Go.RowKit C

/-- Bytes in memory, in blocks that P allows. -/
def HasP (P : Nat → Prop) (W : World) (v : Value) (H : List UInt8) : Prop :=
  ∃ a cap, v = .slice a H.length cap ∧ H.length ≤ cap ∧ (a = none → H.length = 0) ∧ ∀ ad, a = some ad → ∀ j u, (bvs H)[j]? = some u → W.cell? (ad.add j) = some u ∧ P (ad.add j).block
theorem HasP.of_held {s0 : Nat} {P Q : Nat → Prop} {W : World} {v : Value} {H : List UInt8} (h : HeldSt s0 P W v H) (h1 : ∀ j, P j → Q j) (h2 : ∀ j, s0 ≤ j → Q j) : HasP Q W v H := by
  rcases h with ⟨a, rfl, e1, e2⟩ | h
  · exact ⟨a, _, rfl, Nat.le_refl _, e1, fun ad e j u hu => ⟨(e2 ad e j u hu).1, h1 _ (e2 ad e j u hu).2.2⟩⟩
  · have h' := h
    rcases h.2 with ⟨rfl, e0⟩ | ⟨g, cap, cur, rfl, hb, hg, hc, _⟩
    · exact ⟨none, 0, by rw [e0], by omega, fun _ => e0, fun ad e => by cases e⟩
    · refine ⟨_, cap, rfl, hc, (fun e => by cases e), fun ad e j u hu => ?_⟩
      cases e
      have hj : j < (bvs H).length := (List.getElem?_eq_some_iff.1 hu).1
      rw [bvs_length] at hj
      rw [add_none, Nat.zero_add]
      exact ⟨by rw [h'.cellAt j (by omega)]; exact hu, h2 _ hb⟩
theorem HasP.held {P Q : Nat → Prop} {W W' : World} {a : Option Addr} {cap : Nat} {H : List UInt8} (h : HasP P W (.slice a H.length cap) H) (hb : Below W.heap.size W W') (hq : ∀ j, j < W.heap.size → P j → Q j) : HeldSt W'.heap.size Q W' (.slice a H.length H.length) H := by
  obtain ⟨a', cap', e, _, e1, e2⟩ := h
  cases e
  refine .inl ⟨a, rfl, e1, fun ad e j u hu => ?_⟩
  obtain ⟨c1, c2⟩ := e2 ad e j u hu
  have hlt := cell_lt c1
  exact ⟨(hb.cell hlt).trans c1, Nat.lt_of_lt_of_le hlt hb.size, hq _ hlt c2⟩
theorem addr_add (ad : Addr) (m j : Nat) : (ad.add m).add j = ad.add (m + j) := by
  by_cases hm : m = 0
  · subst hm; simp [Addr.add]
  · by_cases hj : j = 0
    · subst hj; simp [Addr.add]
    · simp [Addr.add, hm, hj, Nat.add_assoc]
/-- What is left behind the first n. -/
theorem HasP.drop {P : Nat → Prop} {W : World} {a a' : Option Addr} {cap cap' n : Nat} {H : List UInt8} (h : HasP P W (.slice a H.length cap) H) (hn : n ≤ H.length) (hx : n < H.length → n < cap → a' = a.map (fun x => x.add n) ∧ cap' = cap - n) (hc : H.length - n ≤ cap') (ha : n = H.length → a' = none → H.length - n = 0) : HasP P W (.slice a' (H.length - n) cap') (H.drop n) := by
  obtain ⟨a0, cap0, e, ec, e1, e2⟩ := h
  cases e
  have hl : (H.drop n).length = H.length - n := by simp
  refine ⟨a', cap', by rw [hl], by omega, fun e => ?_, fun ad e j u hu => ?_⟩
  · by_cases hlt : n < H.length
    · obtain ⟨ea, _⟩ := hx hlt (by omega)
      rw [e] at ea
      cases a with
      | none => have := e1 rfl; omega
      | some x => cases ea
    · omega
  · have hj : j < (bvs (H.drop n)).length := (List.getElem?_eq_some_iff.1 hu).1
    rw [bvs_length, hl] at hj
    obtain ⟨ea, _⟩ := hx (by omega) (by omega)
    rw [e] at ea
    cases a with
    | none => cases ea
    | some x =>
      cases ea
      have hu' : (bvs H)[n + j]? = some u := by
        rw [← hu]
        simp [bvs, List.getElem?_drop]
      rw [addr_add]
      exact e2 x rfl (n + j) u hu'

/-- The first k of them, as any call may read them. -/
theorem HasP.take {P : Nat → Prop} {W : World} {a : Option Addr} {cap : Nat} {H : List UInt8} (h : HasP P W (.slice a H.length cap) H) (k cap' : Nat) (hk : k ≤ H.length) (hc : k ≤ cap') : HasB W.heap.size W (.slice a k cap') (H.take k) := by
  obtain ⟨a0, cap0, e, ec, e1, e2⟩ := h
  cases e
  have hl : (H.take k).length = k := by simp; omega
  by_cases h0 : k = 0
  · subst h0; exact .inl ⟨by simp, _, _, rfl⟩
  · cases a with
    | none => have := e1 rfl; omega
    | some ad =>
      obtain ⟨b, off, spot⟩ := ad
      have hb : ∀ j, j < H.length → (bvs H)[j]? = some (.int .u8 (byteAt H j)) := fun j hj => bvs_get H j hj
      have hsp : spot = none := by
        have := (e2 _ rfl 0 _ (hb 0 (by omega))).1
        cases spot with
        | none => rfl
        | some s => simp [World.cell?, Addr.add] at this; split at this <;> cases this
      subst hsp
      refine .inr ⟨by omega, b, off, cap', by rw [hl], by omega, ?_, fun j hj => ?_⟩
      · have := cell_lt (e2 _ rfl 0 _ (hb 0 (by omega))).1
        simpa [Addr.add] using this
      · rw [hl] at hj
        have := (e2 _ rfl j _ (hb j (by omega))).1
        rw [add_none] at this
        rw [this]
        congr 3
        simp [byteAt, List.getElem?_take_of_lt hj]
theorem addr_zero (x : Addr) : x.add 0 = x := by simp [Addr.add]
theorem slice_to (xa : Option Addr) (len xc k : Nat) (z : Int) (hz : z = (k : Int)) (h1 : (k : Int) ≤ (xc : Int)) : ∀ w, (Instr.slice 39 (.slice xa len xc) none (some (.int .i64 z)) none).run Try.prog w = .ok (.slice xa k xc) w := by
  intro w
  subst hz
  have h0 : (0 : Int) ≤ (k : Int) := by omega
  have hs : (sizeOf (Try.prog.elem 39)).run Try.prog w = .ok 1 w := by kernel_rfl
  rw [run_slice_h w _ _ _ _ (by kernel_rfl) _ _ h0 h1, hs]
  cases xa <;> simp [Result.andThen, sliced, addr_zero]
/-- What a Peek leaves. -/
def PeekEnd (Q : Nat → Prop) (base b g s0 size taken need : Nat) (l : Scr) (w : World) (i t : Nat) (H : List UInt8) (E : Int) (H' : List UInt8) (i' p' t' : Nat) (W : World) : Prop :=
  ∃ (hv' : Value), Inv l i' p' t' ∧ Src base W g (reach l) i' p' t' ∧ BufAt W b g size taken hv' ∧ HasP (fun j => j ≠ g ∧ j ≠ b ∧ Q j) W hv' H' ∧ t ≤ t' ∧ H'.length = H.length + (t' - t) ∧ H' = H ++ ((bytesOf l).1.drop t).take (t' - t) ∧ H'.length ≤ size ∧ i ≤ i' ∧
    KeepP (fun j => j = g ∨ j = b ∨ s0 ≤ j) w W ∧ ((E = 0 ∧ need ≤ H'.length) ∨ (E = rdE l i' p' ∧ E ≠ 0 ∧ H'.length < need) ∨ (E = 22 ∧ H'.length < need ∧ i + 100 ≤ i'))

set_option maxRecDepth 100000 in
set_option maxHeartbeats 2000000 in
/-- **Peek.** -/
theorem peek_calls {base : Nat} (Q : Nat → Prop) (w : World) (hQ : ∀ j, w.heap.size ≤ j → Q j) (b g : Nat) (l : Scr) (i p t : Nat) (size taken need : Nat) (a : Option Addr) (cap : Nat) (H : List UInt8) (h : BufAt w b g size taken (.slice a H.length cap)) (hI : Inv l i p t) (hS : Src base w g (reach l) i p t) (hP : HasP (fun j => j ≠ g ∧ j ≠ b ∧ Q j) w (.slice a H.length cap) H) (hc : H.length ≤ cap)
    (hgb : g < b) (hsz : H.length ≤ size) (hsize : size ≤ 16777216) (hneed : need ≤ size) (hbd : (bytesOf l).1.length ≤ 16777216) (hll : l.length ≤ 16777216) (hd : ∀ x ∈ l, x.1.length ≤ 100000000000000) :
    Calls Try.prog 19 #[.pointer (some ⟨b, 0, none⟩), .int .i64 need] w fun e W' => ∃ (E : Int) (d : Value) (H' : List UInt8) (i' p' t' : Nat), e = .returned (.tuple #[d, .int .i64 E]) ∧ W'.ownsRow w.heap.size 5 1 d (H'.take need).length (bvs (H'.take need)) ∧ PeekEnd Q base b g w.heap.size size taken need l w i t H E H' i' p' t' W' := by
  have HB : Hid (BufAt w b g size taken (.slice a H.length cap)) := h
  have c1 : w.cell? ⟨b, 1, none⟩ = some (.int .i64 size) := Blk.cell h 1
  have hblt := Blk.lt h
  have hbA := (Below.refl w.heap.size w).alloc (Nat.le_refl _) (.cells #[.int .i64 need] 3)
  have FC : Hid (Calls Try.prog 30 #[.pointer (some ⟨b, 0, none⟩), .func (.func 31) #[] #[.pointer (some ⟨w.heap.size, 0, none⟩)]] (w.alloc (.cells #[.int .i64 need] 3)) fun e W' => ∃ E : Int, e = .returned (.int .i64 E) ∧ FillEnd Q base b g w.heap.size (w.alloc (.cells #[.int .i64 need] 3)).heap.size size taken need l (w.alloc (.cells #[.int .i64 need] 3)) i t H E W') :=
    fill_calls Q _ b g w.heap.size l i p t size taken need a cap H (h.below hbA) hI (hS.below hbA) (Boxed.new w 3 _) hc (hP.held hbA (fun j hj hx => ⟨hx.1, by omega, hx.2⟩)) hgb hblt hsz hsize hneed hbd hll hd
  have d1 : decide ((need : Int) < 0) = false := by simp
  have d2 : decide ((size : Int) < (need : Int)) = false := by simp; omega
  have d3 : decide (size < need) = false := by simp; omega
  clear h hI hS hP
  go_enter Try.func19, Try.ntmps19
  go_wp2_with (first
    | (go_at_call 28; refine (bMade_calls _ _ _ _ _ _ HB.out).mono ?_; rintro e w' ⟨rfl, hx⟩; obtain rfl : w = w' := hx.symm)
    | (go_at_call 30; refine FC.out.mono ?_; rintro e W1 ⟨E, rfl, hfe⟩))
  obtain ⟨H', hv', i', p', t', f1, f2, f3, f4, f5, f6, f7, f8, f9, f10, f11⟩ := hfe
  obtain ⟨a1, cap1, rfl, hc1⟩ := f4.slice
  simp only [World.size_alloc] at f4 f10
  have hP1 : HasP (fun j => j ≠ g ∧ j ≠ b ∧ Q j) W1 (.slice a1 H'.length cap1) H' := HasP.of_held f4 (fun j hj => ⟨hj.1, hj.2.2⟩) (fun j hj => ⟨by omega, by omega, hQ j (by omega)⟩)
  obtain ⟨k, hk⟩ : ∃ k, min need H'.length = k := ⟨_, rfl⟩
  have hkI : min (need : Int) (H'.length : Int) = (k : Int) := by omega
  have hks := slice_to a1 H'.length cap1 k _ hkI (by omega)
  have HTK : Hid (H'.take k = H'.take need) := by
    show _ = _
    rw [← hk, List.take_eq_take_iff]
    omega
  have cb2 : W1.cell? ⟨b, 2, none⟩ = some (.slice a1 H'.length cap1) := Blk.cell f3 2
  have hkw : w.heap.size + 1 ≤ W1.heap.size := by have := f10.size; simp at this; omega
  have CL : Hid (Calls Try.prog 29 #[.slice a1 k cap1] W1.drew fun e W' => ∃ v, e = .returned v ∧ W'.ownsRow W1.heap.size 5 1 v (H'.take k).length (bvs (H'.take k)) ∧ Below W1.heap.size W1 W') := by
    refine (clone_calls _ (H'.take k) W1.heap.size W1.drew (by simp; omega) ((hP1.take k cap1 (by omega) (by omega)).below (Below.refl _ _).drew)).mono ?_
    rintro e W' ⟨v, h1, h2, h3⟩
    exact ⟨v, h1, h2, (Below.refl _ _).drew.trans h3⟩
  have HF : Hid (Inv l i' p' t' ∧ Src base W1 g (reach l) i' p' t' ∧ BufAt W1 b g size taken (.slice a1 H'.length cap1) ∧ HasP (fun j => j ≠ g ∧ j ≠ b ∧ Q j) W1 (.slice a1 H'.length cap1) H' ∧ KeepP (fun j => j = g ∨ j = w.heap.size ∨ j = b ∨ w.heap.size + 1 ≤ j) (w.alloc (.cells #[.int .i64 need] 3)) W1) := ⟨f1, f2, f3, hP1, f10⟩
  have HF2 : Hid (t ≤ t' ∧ H'.length = H.length + (t' - t) ∧ H' = H ++ ((bytesOf l).1.drop t).take (t' - t) ∧ H'.length ≤ size ∧ i ≤ i' ∧ ((E = 0 ∧ need ≤ H'.length) ∨ (E = rdE l i' p' ∧ E ≠ 0 ∧ H'.length < need) ∨ (E = 22 ∧ H'.length < need ∧ i + 100 ≤ i'))) := ⟨f5, f6, f7, f8, f9, f11⟩
  clear f1 f2 f3 f4 f5 f6 f7 f8 f9 f10 f11 hP1 hk hkI
  go_region_held3 (fun w' => w'.cell? ⟨b, 2, none⟩ = some (.slice a1 H'.length cap1)) (first | exact cb2 | exact cb3 | go_keep) (first
    | (go_at_call 29; refine CL.out.mono ?_; rintro e W2 ⟨d, rfl, hod, hb2⟩; have cb3 : W2.cell? ⟨b, 2, none⟩ = some (.slice a1 H'.length cap1) := (hb2.cell (p := ⟨b, 2, none⟩) (by show b < W1.heap.size; omega)).trans cb2))
  go_wp2
  go_ret2
  obtain ⟨f1, f2, f3, f4, f10⟩ := HF.out
  obtain ⟨f5, f6, f7, f8, f9, f11⟩ := HF2.out
  rw [HTK.out] at hod
  refine ⟨E, d, H', i', p', t', rfl, ⟨hod.1, hod.2.imp id (fun ⟨g, cap, cur, e1, e2, e3⟩ => ⟨g, cap, cur, e1, by omega, e3⟩)⟩, _, f1, f2.below hb2, f3.below hb2, ?_, f5, f6, f7, f8, f9, ?_, f11⟩
  · obtain ⟨a2, cap2, e, ec, e1, e2⟩ := f4
    exact ⟨a2, cap2, e, ec, e1, fun ad e' j u hu => ⟨(hb2.cell (cell_lt (e2 ad e' j u hu).1)).trans (e2 ad e' j u hu).1, (e2 ad e' j u hu).2⟩⟩
  · have k1 : KeepP (fun j => j = g ∨ j = b ∨ w.heap.size ≤ j) w W1 := ⟨f10.os, f10.tape, f10.output, by omega, fun j hj hx => (f10.block j (by simp; omega) (fun hx' => hx (by have hx2 : j = g ∨ j = w.heap.size ∨ j = b ∨ w.heap.size + 1 ≤ j := hx'; show j = g ∨ j = b ∨ w.heap.size ≤ j; omega))).trans (Below.heap_alloc _ _ _ hj)⟩
    exact k1.grown (grown_below (row := none) hb2) (fun _ e => by cases e)

end Go.Proofs.Ytkpjmcoihbebkaa.CInv
