/- What is proved here: laws and contracts of CTake, BPath, one behind the other (each says its own). -/
import Derived.Test.YtkpjmcoihbebkaaCPeek
import Derived.Test.YtkpjmcoihbebkaaCSt
import Derived.Test.YtkpjmcoihbebkaaCInv
/- What is proved here: the contract of a buffer's Take: the first bytes of what it holds behind a fill are told and taken. -/
namespace Go.Proofs.Ytkpjmcoihbebkaa.CInv
open Go.RowKit C

theorem HasP.below {P : Nat → Prop} {W W' : World} {v : Value} {H : List UInt8} (h : HasP P W v H) {row : Option Nat} (hg : W.grownBy W' row) (hr : ∀ j, row = some j → ¬ P j) : HasP P W' v H := by
  obtain ⟨a2, cap2, e, ec, e1, e2⟩ := h
  refine ⟨a2, cap2, e, ec, e1, fun ad e' j u hu => ?_⟩
  obtain ⟨c1, c2⟩ := e2 ad e' j u hu
  refine ⟨?_, c2⟩
  rw [World.cell?_of_block (w := W) (hg.block _ (cell_lt c1) (fun e'' => hr _ e''.symm c2))]
  exact c1
/-- What a Take leaves: k bytes were taken. -/
def TakeEnd (Q : Nat → Prop) (base b g s0 size taken need : Nat) (l : Scr) (w : World) (i t : Nat) (H : List UInt8) (E : Int) (H' : List UInt8) (i' p' t' : Nat) (W : World) : Prop :=
  ∃ (hv' : Value), Inv l i' p' t' ∧ Src base W g (reach l) i' p' t' ∧ BufAt W b g size (taken + (H'.take need).length : Nat) hv' ∧ HasP (fun j => j ≠ g ∧ j ≠ b ∧ Q j) W hv' (H'.drop need) ∧ t ≤ t' ∧ H'.length = H.length + (t' - t) ∧ H' = H ++ ((bytesOf l).1.drop t).take (t' - t) ∧ H'.length ≤ size ∧ i ≤ i' ∧
    KeepP (fun j => j = g ∨ j = b ∨ s0 ≤ j) w W ∧ ((E = 0 ∧ need ≤ H'.length) ∨ (E = rdE l i' p' ∧ E ≠ 0 ∧ H'.length < need) ∨ (E = 22 ∧ H'.length < need ∧ i + 100 ≤ i'))

set_option maxRecDepth 100000 in
set_option maxHeartbeats 2000000 in
/-- **Take.** -/
theorem take_calls {base : Nat} (Q : Nat → Prop) (w : World) (hQ : ∀ j, w.heap.size ≤ j → Q j) (b g : Nat) (l : Scr) (i p t : Nat) (size taken need : Nat) (a : Option Addr) (cap : Nat) (H : List UInt8) (h : BufAt w b g size taken (.slice a H.length cap)) (hI : Inv l i p t) (hS : Src base w g (reach l) i p t) (hP : HasP (fun j => j ≠ g ∧ j ≠ b ∧ Q j) w (.slice a H.length cap) H) (hc : H.length ≤ cap)
    (hgb : g < b) (hsz : H.length ≤ size) (hsize : size ≤ 16777216) (hneed : need ≤ size) (hbd : (bytesOf l).1.length ≤ 16777216) (hll : l.length ≤ 16777216) (hd : ∀ x ∈ l, x.1.length ≤ 100000000000000) (ht : taken ≤ 100000000) :
    Calls Try.prog 21 #[.pointer (some ⟨b, 0, none⟩), .int .i64 need] w fun e W' => ∃ (E : Int) (d : Value) (H' : List UInt8) (i' p' t' : Nat), e = .returned (.tuple #[d, .int .i64 E]) ∧ W'.ownsRow w.heap.size 5 1 d (H'.take need).length (bvs (H'.take need)) ∧ TakeEnd Q base b g w.heap.size size taken need l w i t H E H' i' p' t' W' := by
  have hblt := Blk.lt h
  go_enter Try.func21, Try.ntmps21
  go_wp2_with fail
  refine (peek_calls Q w hQ b g l i p t size taken need a cap H h hI hS hP hc hgb hsz hsize hneed hbd hll hd).mono ?_
  rintro e W1 ⟨E, d, H', i', p', t', rfl, hod, hv', f1, f2, f3, f4, f5, f6, f7, f8, f9, f10, f11⟩
  obtain ⟨a1, cap1, rfl, hc1, _⟩ := id f4
  have hkw := f10.size
  have hkl : (H'.take need).length ≤ H'.length := by simp; omega
  obtain ⟨k, hk⟩ : ∃ k, (H'.take need).length = k := ⟨_, rfl⟩
  have hdk : H'.drop k = H'.drop need := by
    rw [← hk, List.length_take]
    by_cases hle : need ≤ H'.length
    · rw [Nat.min_eq_left hle]
    · rw [Nat.min_eq_right (by omega), List.drop_length, List.drop_eq_nil_of_le (by omega)]
  obtain ⟨da, dc, hdv⟩ := owns_slice hod
  subst hdv
  have HOD : Hid (W1.ownsRow w.heap.size 5 1 (.slice da k dc) (H'.take need).length (bvs (H'.take need))) := by rw [← hk]; exact hod
  have HF : Hid (Inv l i' p' t' ∧ Src base W1 g (reach l) i' p' t' ∧ BufAt W1 b g size taken (.slice a1 H'.length cap1) ∧ HasP (fun j => j ≠ g ∧ j ≠ b ∧ Q j) W1 (.slice a1 H'.length cap1) H' ∧ KeepP (fun j => j = g ∨ j = b ∨ w.heap.size ≤ j) w W1) := ⟨f1, f2, f3, f4, f10⟩
  have HF2 : Hid (t ≤ t' ∧ H'.length = H.length + (t' - t) ∧ H' = H ++ ((bytesOf l).1.drop t).take (t' - t) ∧ H'.length ≤ size ∧ i ≤ i' ∧ ((E = 0 ∧ need ≤ H'.length) ∨ (E = rdE l i' p' ∧ E ≠ 0 ∧ H'.length < need) ∨ (E = 22 ∧ H'.length < need ∧ i + 100 ≤ i'))) := ⟨f5, f6, f7, f8, f9, f11⟩
  have HK : Hid ((H'.take need).length = k) := hk
  have HDK : Hid (H'.drop k = H'.drop need) := hdk
  rw [hk]
  have hkb : k ≤ H'.length := by omega
  clear f1 f2 f3 f4 f5 f6 f7 f8 f9 f10 f11 hod hk hdk hkl h hI hS hP
  by_cases hk0 : k = 0
  · subst hk0
    go_wp2
    go_ret2
    obtain ⟨f1, f2, f3, f4, f10⟩ := HF.out
    obtain ⟨f5, f6, f7, f8, f9, f11⟩ := HF2.out
    have hD := HDK.out
    rw [List.drop_zero] at hD
    exact ⟨E, _, H', i', p', t', rfl, HOD.out, _, f1, f2, by rw [HK.out]; exact f3, by rw [← hD]; exact f4, f5, f6, f7, f8, f9, f10, f11⟩
  · have tk : decide (0 < k) = true := by simp; omega
    have DC : Hid (Calls Try.prog 32 #[.pointer (some ⟨b, 0, none⟩), .int .i64 k] W1 fun e W' => (∃ v, e = .returned v) ∧ ∃ a' cap', BufAt W' b g size (taken + k : Nat) (.slice a' (H'.length - k) cap') ∧ (k < H'.length → k < cap1 → a' = a1.map (fun x => x.add k) ∧ cap' = cap1 - k) ∧ W1.grownBy W' (some b)) :=
      drop_calls W1 b g size taken a1 H'.length cap1 k HF.out.2.2.1 hkb ht (by have := HF2.out.2.2.2.1; omega)
    go_wp2_with (go_at_call 32; refine DC.out.mono ?_; rintro e W2 ⟨⟨v, rfl⟩, a2, cap2, hb2, hx2, hg2⟩)
    go_ret2
    obtain ⟨f1, f2, f3, f4, f10⟩ := HF.out
    obtain ⟨f5, f6, f7, f8, f9, f11⟩ := HF2.out
    have f4' := f4.below hg2 (fun j e => by cases e; exact fun hx => hx.2.1 rfl)
    refine ⟨E, _, H', i', p', t', rfl, ?_, _, f1, Src.kept f2 hg2 (fun j e => by cases e; exact ⟨by omega, .inr (by omega)⟩), by rw [HK.out]; exact hb2, ?_, f5, f6, f7, f8, f9, ?_, f11⟩
    · exact own_kept HOD.out hg2 (fun j e => by cases e; omega)
    · rw [← HDK.out]
      refine f4'.drop hkb hx2 ?_ (fun h _ => by omega)
      by_cases hlt : k < H'.length
      · have := (hx2 hlt (by omega)).2; omega
      · omega
    · exact ⟨hg2.os.trans f10.os, hg2.tape.trans f10.tape, hg2.output.trans f10.output, Nat.le_trans f10.size hg2.size, fun j hj hx => (hg2.block j (Nat.lt_of_lt_of_le hj f10.size) (fun e => by cases e; exact hx (.inr (.inl rfl)))).trans (f10.block j hj hx)⟩

end Go.Proofs.Ytkpjmcoihbebkaa.CInv

/- What is proved here: plain facts: the reads of a fill, one behind the other, as a path through what is held, where the source stands and how many reads told nothing; that it ends in one way alone. -/
namespace Go.Proofs.Ytkpjmcoihbebkaa.CInv
open Go.RowKit C

/-- What is held, where the source stands (step, part, told), how many reads told nothing. -/
abbrev FS := List UInt8 × Nat × Nat × Nat × Nat
/-- One read more. -/
def nextFS (size : Nat) (l : Scr) (s : FS) : FS :=
  (s.1 ++ rdX l s.2.1 s.2.2.1 (size - s.1.length), (rdN l s.2.1 s.2.2.1 (size - s.1.length)).1, (rdN l s.2.1 s.2.2.1 (size - s.1.length)).2, s.2.2.2.1 + rdK l s.2.1 s.2.2.1 (size - s.1.length), if rdK l s.2.1 s.2.2.1 (size - s.1.length) = 0 then s.2.2.2.2 + 1 else 0)
/-- May one read more be made? -/
def Goes (ok : List UInt8 → Bool) (size : Nat) (l : Scr) (s : FS) : Prop := ok s.1 = false ∧ s.1.length ≠ size ∧ s.2.2.2.2 ≠ 100 ∧ rdE l s.2.1 s.2.2.1 = 0
inductive Path (ok : List UInt8 → Bool) (size : Nat) (l : Scr) (s : FS) : FS → Prop
  | refl : Path ok size l s s
  | step {a : FS} : Path ok size l s a → Goes ok size l a → Path ok size l s (nextFS size l a)
/-- How a fill ends. -/
def Fin (ok : List UInt8 → Bool) (size : Nat) (l : Scr) (s : FS) (E : Int) : Prop :=
  (ok s.1 = true ∧ E = 0) ∨ (ok s.1 = false ∧ s.1.length = size ∧ E = 23) ∨ (ok s.1 = false ∧ s.1.length ≠ size ∧ s.2.2.2.2 = 100 ∧ E = 22) ∨ (ok s.1 = false ∧ s.1.length ≠ size ∧ s.2.2.2.2 ≠ 100 ∧ rdE l s.2.1 s.2.2.1 ≠ 0 ∧ E = rdE l s.2.1 s.2.2.1)
theorem Fin.not {ok : List UInt8 → Bool} {size : Nat} {l : Scr} {s : FS} {E : Int} (h : Fin ok size l s E) : ¬ Goes ok size l s := by
  rintro ⟨g1, g2, g3, g4⟩
  rcases h with ⟨h, _⟩ | ⟨_, h, _⟩ | ⟨_, _, h, _⟩ | ⟨_, _, _, h, _⟩
  · rw [g1] at h; cases h
  · exact g2 h
  · exact g3 h
  · exact h g4
theorem Fin.one {ok : List UInt8 → Bool} {size : Nat} {l : Scr} {s : FS} {E E' : Int} (h : Fin ok size l s E) (h' : Fin ok size l s E') : E = E' := by
  rcases h with ⟨h1, e⟩ | ⟨h1, h2, e⟩ | ⟨h1, h2, h3, e⟩ | ⟨h1, h2, h3, h4, e⟩ <;> rcases h' with ⟨k1, f⟩ | ⟨k1, k2, f⟩ | ⟨k1, k2, k3, f⟩ | ⟨k1, k2, k3, k4, f⟩ <;> first
    | (rw [e, f]; done)
    | (exfalso; rw [h1] at k1; cases k1; done)
    | (exfalso; exact k2 h2)
    | (exfalso; exact h2 k2)
    | (exfalso; exact k3 h3)
    | (exfalso; exact h3 k3)
theorem Path.trans {ok : List UInt8 → Bool} {size : Nat} {l : Scr} {a b c : FS} (h : Path ok size l a b) (h' : Path ok size l b c) : Path ok size l a c := by
  induction h' with
  | refl => exact h
  | step _ g ih => exact .step ih g
theorem Path.head {ok : List UInt8 → Bool} {size : Nat} {l : Scr} {a b : FS} (h : Path ok size l a b) : a = b ∨ (Goes ok size l a ∧ Path ok size l (nextFS size l a) b) := by
  induction h with
  | refl => exact .inl rfl
  | step h g ih =>
    rcases ih with rfl | ⟨g', h'⟩
    · exact .inr ⟨g, .refl⟩
    · exact .inr ⟨g', .step h' g⟩
theorem Path.both {ok : List UInt8 → Bool} {size : Nat} {l : Scr} {s a b : FS} (h : Path ok size l s a) (h' : Path ok size l s b) : Path ok size l a b ∨ Path ok size l b a := by
  induction h with
  | refl => exact .inl h'
  | step h g ih =>
    rcases ih with k | k
    · rcases k.head with e | ⟨_, k'⟩
      · rw [← e]; exact .inr (.step .refl g)
      · exact .inl k'
    · exact .inr (.step k g)
/-- **A fill ends in one way alone.** -/
theorem Path.one {ok : List UInt8 → Bool} {size : Nat} {l : Scr} {s a b : FS} {E E' : Int} (h : Path ok size l s a) (h' : Path ok size l s b) (f : Fin ok size l a E) (f' : Fin ok size l b E') : a = b ∧ E = E' := by
  have : a = b := by
    rcases h.both h' with k | k
    · rcases k.head with e | ⟨g, _⟩
      · exact e
      · exact absurd g f.not
    · rcases k.head with e | ⟨g, _⟩
      · exact e.symm
      · exact absurd g f'.not
  subst this
  exact ⟨rfl, f.one f'⟩
/-- One read more, by its parts. -/
theorem Path.more {ok : List UInt8 → Bool} {size : Nat} {l : Scr} {s : FS} {H : List UInt8} {i p t em n : Nat} (h : Path ok size l s (H, i, p, t, em)) (hn : size - H.length = n) (h1 : ok H = false) (h2 : H.length ≠ size) (h3 : em ≠ 100) (h4 : rdE l i p = 0) (em' : Nat) (he : em' = if rdK l i p n = 0 then em + 1 else 0) :
    Path ok size l s (H ++ rdX l i p n, (rdN l i p n).1, (rdN l i p n).2, t + rdK l i p n, em') := by
  subst hn he
  exact .step (a := (H, i, p, t, em)) h ⟨h1, h2, h3, h4⟩
end Go.Proofs.Ytkpjmcoihbebkaa.CInv
