/- What is proved here: the contract of acted of sievelaw02: Take of both buffers; acted, of any act. -/
import Derived.Test.YtkpjmcoihbebkaaBActedT
namespace Go.Proofs.Ytkpjmcoihbebkaa.CInv
open Go.RowKit C

theorem KeepP.wide {P P' : Nat → Prop} {A B : World} (h : KeepP P A B) (hp : ∀ k, k < A.heap.size → P k → P' k) : KeepP P' A B := ⟨h.os, h.tape, h.output, h.size, fun k hk hn => h.block k hk (fun hx => hn (hp k hk hx))⟩
theorem KeepP.chain {P : Nat → Prop} {Q : Nat → Prop} {A B C : World} (h : KeepP P A B) (h' : KeepP Q B C) (hq : ∀ k, k < A.heap.size → Q k → P k) : KeepP P A C :=
  ⟨h'.os.trans h.os, h'.tape.trans h.tape, h'.output.trans h.output, Nat.le_trans h.size h'.size, fun k hk hn => (h'.block k (Nat.lt_of_lt_of_le hk h.size) (fun hx => hn (hq k hk hx))).trans (h.block k hk hn)⟩
set_option maxRecDepth 100000 in
set_option maxHeartbeats 1000000 in
/-- **Take of both.** -/
theorem acted_take (sb g b : Nat) (v : Value) (base top rg rb size : Nat) (l : Scr) (H : List UInt8) (i p t taken : Nat) (a : Option Addr) (cap : Nat) (hv : Value) (w : World) (hJ : J sb g b v base top rg rb size l H i p t taken a cap hv w) (L : Lie g b base top rg rb size l) (need : Nat) (hneed : need ≤ size) :
    Calls Try.prog 11 #[.pointer (some ⟨b, 0, none⟩), .pointer (some ⟨rb, 0, none⟩), .agg #[.int .i64 1, .int .i64 need]] w (AEnd sb g b v base top rg rb size l w) := by
  obtain ⟨W0, hW0⟩ : ∃ W0, w.alloc (.cells #[.int .i64 1, .int .i64 need] 43) = W0 := ⟨_, rfl⟩
  have hb0 : Below w.heap.size w W0 := by rw [← hW0]; exact (Below.refl _ w).alloc (Nat.le_refl _) _
  have z0 : W0.heap.size = w.heap.size + 1 := by rw [← hW0]; simp
  have c0 : W0.cell? ⟨w.heap.size, 0, none⟩ = some (.int .i64 1) := by rw [← hW0, cell_new]; rfl
  have c1 : W0.cell? ⟨w.heap.size, 1, none⟩ = some (.int .i64 need) := by rw [← hW0, cell_new]; rfl
  have hJ0 := hJ.below hb0
  have hblt := Blk.lt hJ.buf
  have hglt : g < w.heap.size := by have := L.gb; omega
  have hdlt := hJ.doc.lt
  have hrglt : rg < w.heap.size := by have := L.gr; omega
  have hgb := L.gb
  have htk : taken ≤ 100000000 := by have := told_le hJ.inv; have := hJ.told; have := L.bytes; omega
  have PC : Hid (Calls Try.prog 19 #[.pointer (some ⟨b, 0, none⟩), .int .i64 need] W0 fun e W' => ∃ (E : Int) (d : Value) (H' : List UInt8) (i' p' t' : Nat), e = .returned (.tuple #[d, .int .i64 E]) ∧ W'.ownsRow W0.heap.size 5 1 d (H'.take need).length (bvs (H'.take need)) ∧ PeekEndB d (Nd base top rg rb hv) sb b g W0.heap.size size taken need l W0 i p t H E H' i' p' t' W') := peekb_calls (Nd base top rg rb hv) W0 (hJ0.new L) b g l i p t size taken need a cap H hJ0.buf hJ0.inv hJ0.src hJ0.held hJ0.cap L.gb hJ0.room L.size hneed L.bytes L.steps L.each
  have HJ : Hid (J sb g b v base top rg rb size l H i p t taken a cap hv W0) := hJ0
  have HRW : Hid (∀ k, hv.ownBlock = some k → k < w.heap.size) := fun k e => (hJ.doc.row.lt k e).2
  have HB0 : Hid (Below w.heap.size w W0) := hb0
  have HW0 : Hid (w.alloc (.cells #[.int .i64 1, .int .i64 need] 43) = W0) := hW0
  have HL : Hid (Lie g b base top rg rb size l) := L
  clear hJ hJ0 hb0 hW0 L
  go_enter Try.func11, Try.ntmps11
  go_wp2_with fail
  rw [HW0.out]
  (go_at_call 19; refine PC.out.mono ?_; rintro e W1 ⟨E, d, H1, i1, p1, t1, rfl, hod, hp, f1, f2, f3, f4, f5, f6, f7, f8, f9, f10, em, f11, f12⟩)
  obtain ⟨a1, cap1, rfl, hc1, _⟩ := id f4
  have hz1 := f10.size
  have AC1 : Hid (Calls Try.prog 20 #[d, .int .i64 E, .slice none 0 0, .int .i64 0] W1 fun r W' => (∃ x, r = .returned (.bool x)) ∧ W1.grownBy W' d.ownBlock) := by
    have h9 := alike_calls (H1.take need) [] d (.slice none 0 0) E 0 W0.heap.size 0 W1 (by have := HL.out.size; have : (H1.take need).length ≤ H1.length := List.length_take_le' _ _; omega) hod (.inl ⟨rfl, none, 0, rfl⟩)
    refine h9.mono ?_
    rintro r W' ⟨h1, h2⟩
    exact ⟨⟨_, h1⟩, h2⟩
  have bk : W1.heap[w.heap.size]? = W0.heap[w.heap.size]? := f10.block w.heap.size (by omega) (by show ¬ (_ ∨ _ ∨ _); omega)
  have d0 : W1.cell? ⟨w.heap.size, 0, none⟩ = some (.int .i64 1) := by rw [World.cell?_of_block (w := W0) bk]; exact c0
  have d1 : W1.cell? ⟨w.heap.size, 1, none⟩ = some (.int .i64 need) := by rw [World.cell?_of_block (w := W0) bk]; exact c1
  have HP : Hid (Inv l i1 p1 t1 ∧ Src sb W1 g (reach l) i1 p1 t1 ∧ BufAt W1 b g size taken (.slice a1 H1.length cap1) ∧ HasP (fun j => j ≠ g ∧ j ≠ b ∧ Nd base top rg rb hv j ∧ some j ≠ d.ownBlock) W1 (.slice a1 H1.length cap1) H1 ∧ t ≤ t1 ∧ H1.length = H.length + (t1 - t) ∧ H1.length ≤ size ∧ KeepP (fun j => j = g ∨ j = b ∨ W0.heap.size ≤ j) W0 W1 ∧ Path (okP need) size l (H, i, p, t, 0) (H1, i1, p1, t1, em) ∧ Fin (okP need) size l (H1, i1, p1, t1, em) E) := ⟨f1, f2, f3, f4, f5, f6, f8, f10, f11, f12⟩
  have HOD : Hid (∀ k, d.ownBlock = some k → W0.heap.size ≤ k) := fun k e => (hod.lt k e).1
  clear f1 f2 f3 f4 f5 f6 f7 f8 f9 f10 f11 f12 hod bk
  go_wp2_with fail
  (go_at_call 20; refine AC1.out.mono ?_; rintro e W2 ⟨⟨x, rfl⟩, hg2⟩)
  have hz2 := hg2.size
  have bk2 : W2.heap[w.heap.size]? = W1.heap[w.heap.size]? := hg2.block w.heap.size (by omega) (fun e => by have := HOD.out _ e.symm; omega)
  have e0 : W2.cell? ⟨w.heap.size, 0, none⟩ = some (.int .i64 1) := by rw [World.cell?_of_block (w := W1) bk2]; exact d0
  have e1 : W2.cell? ⟨w.heap.size, 1, none⟩ = some (.int .i64 need) := by rw [World.cell?_of_block (w := W1) bk2]; exact d1
  have HP2 : Hid (Src sb W2 g (reach l) i1 p1 t1 ∧ BufAt W2 b g size taken (.slice a1 H1.length cap1) ∧ HasP (fun j => j ≠ g ∧ j ≠ b ∧ Nd base top rg rb hv j) W2 (.slice a1 H1.length cap1) H1 ∧ KeepP (fun j => j = g ∨ j = b ∨ W0.heap.size ≤ j) W0 W2) := by
    obtain ⟨f1, f2, f3, f4, f5, f6, f8, f10, f11, f12⟩ := HP.out
    refine ⟨Src.kept f2 hg2 (fun k e => ⟨by have := HOD.out k e; omega, .inr (by have := HOD.out k e; omega)⟩), (hg2.block b (by omega) (fun e => by have := HOD.out b e.symm; omega)).trans f3, HasP.than (HasP.below f4 hg2 (fun j e hx => hx.2.2.2 e.symm)) (fun j hj _ => ⟨hj.1, hj.2.1, hj.2.2.1⟩), f10.grown hg2 (fun j e => .inr (.inr (HOD.out j e)))⟩
  have TC : Hid (Calls Try.prog 21 #[.pointer (some ⟨b, 0, none⟩), .int .i64 need] W2 fun e W' => ∃ (E : Int) (d : Value) (H' : List UInt8) (i' p' t' : Nat), e = .returned (.tuple #[d, .int .i64 E]) ∧ W'.ownsRow W2.heap.size 5 1 d (H'.take need).length (bvs (H'.take need)) ∧ TakeEndB d (Nd base top rg rb hv) sb b g W2.heap.size size taken need l W2 i1 p1 t1 H1 E H' i' p' t' W') := takeb_calls (Nd base top rg rb hv) W2 (fun j hj => HJ.out.new HL.out j (by omega)) b g l i1 p1 t1 size taken need a1 cap1 H1 HP2.out.2.1 HP.out.1 HP2.out.1 HP2.out.2.2.1 hc1 hgb HP.out.2.2.2.2.2.2.1 HL.out.size hneed HL.out.bytes HL.out.steps HL.out.each htk
  clear hg2 bk2 d0 d1
  go_wp2_with fail
  (go_at_call 21; refine TC.out.mono ?_; rintro e W3 ⟨E3, d3, H3, i3, p3, t3, rfl, hod, hp, f1, f2, f3, f4, f5, f6, f7, f8, f9, f10, em3, f11, f12⟩)
  have hz3 := f10.size
  have k03 : KeepP (fun j => j = g ∨ j = b ∨ W0.heap.size ≤ j) W0 W3 := KeepP.chain HP2.out.2.2.2 f10 (fun k hk hx => by
    have hx' : k = g ∨ k = b ∨ W2.heap.size ≤ k := hx
    show k = g ∨ k = b ∨ W0.heap.size ≤ k
    omega)
  have HT : Hid (Inv l i3 p3 t3 ∧ Src sb W3 g (reach l) i3 p3 t3 ∧ BufAt W3 b g size (taken + (H3.take need).length : Nat) hp ∧ HasP (fun j => j ≠ g ∧ j ≠ b ∧ Nd base top rg rb hv j ∧ some j ≠ d3.ownBlock) W3 hp (H3.drop need) ∧ t1 ≤ t3 ∧ H3.length = H1.length + (t3 - t1) ∧ H3.length ≤ size ∧ KeepP (fun j => j = g ∨ j = b ∨ W0.heap.size ≤ j) W0 W3 ∧ Path (okP need) size l (H1, i1, p1, t1, 0) (H3, i3, p3, t3, em3) ∧ Fin (okP need) size l (H3, i3, p3, t3, em3) E3) := ⟨f1, f2, f3, f4, f5, f6, f8, k03, f11, f12⟩
  have HOD3 : Hid (W3.ownsRow W2.heap.size 5 1 d3 (H3.take need).length (bvs (H3.take need))) := hod
  have bk3 : W3.heap[w.heap.size]? = W2.heap[w.heap.size]? := f10.block w.heap.size (by omega) (by show ¬ (_ ∨ _ ∨ _); omega)
  have g0 : W3.cell? ⟨w.heap.size, 0, none⟩ = some (.int .i64 1) := by rw [World.cell?_of_block (w := W2) bk3]; exact e0
  have g1 : W3.cell? ⟨w.heap.size, 1, none⟩ = some (.int .i64 need) := by rw [World.cell?_of_block (w := W2) bk3]; exact e1
  have hR3 := HJ.out.prog HL.out k03
  have g2 : W3.cell? ⟨rb, 1, none⟩ = some (.int .i64 size) := Blk.cell hR3.buf 1
  have DC : Hid (Calls Try.prog 22 #[.pointer (some ⟨rb, 0, none⟩), .int .i64 need] W3.drew (RPEnd need v base top rg rb size l H i p t taken hv W3.drew)) := rpeek_calls v base top rg rb size need l H i p t taken hv W3.drew (hR3.below (Below.refl _ W3).drew) HJ.out.inv HJ.out.room hneed HL.out.size HL.out.bytes HL.out.steps HL.out.each HL.out.gr HL.out.tb
  have l1 : decide ((need : Int) < 0) = false := by simp
  have l2 : decide ((size : Int) < (need : Int)) = false := by simp; omega
  have l3 : decide ((need : Int) > (size : Int)) = false := by simp; omega
  clear f1 f2 f3 f4 f5 f6 f7 f8 f9 f10 f11 f12 hod hR3 bk3 k03 e0 e1
  go_wp2_with fail
  go_region_held3 (fun w' => w'.cell? ⟨w.heap.size, 1, none⟩ = some (.int .i64 need) ∧ w'.cell? ⟨rb, 1, none⟩ = some (.int .i64 size)) (first | exact ⟨g1, g2⟩ | go_keep) (fail)
  have q1 : W3.drew.cell? ⟨w.heap.size, 1, none⟩ = some (.int .i64 need) := g1
  have q0 : W3.drew.cell? ⟨w.heap.size, 0, none⟩ = some (.int .i64 1) := g0
  go_wp2_with fail
  (go_at_call 22; refine DC.out.mono ?_; rintro e W4 ⟨d4, hv4, s4, E4, bd, he, ho4, _, _, r1, r2, r3, r4', r5, r6, r7⟩)
  have r4 : KB rg rb hv W3 W4 := KB.trans (KB.below (Below.refl _ W3).drew) (Moved.refl _ _) r4'
  obtain ⟨e1, e2⟩ := Path.one HP.out.2.2.2.2.2.2.2.2.1 r6 HP.out.2.2.2.2.2.2.2.2.2 r7
  subst e1
  subst e2
  simp only at r1 r2 r3
  subst he
  have bk4 : W4.heap[w.heap.size]? = W3.heap[w.heap.size]? := r4.block w.heap.size (by omega) (fun hx => by
    rcases hx with e' | e' | e'
    · omega
    · omega
    · have := HRW.out _ e'.symm; omega)
  have u0 : W4.cell? ⟨w.heap.size, 0, none⟩ = some (.int .i64 1) := by rw [World.cell?_of_block (w := W3) bk4]; exact g0
  have u1 : W4.cell? ⟨w.heap.size, 1, none⟩ = some (.int .i64 need) := by rw [World.cell?_of_block (w := W3) bk4]; exact g1
  have HR4 : Hid (KB rg rb hv W3 W4 ∧ Moved W3 hv hv4) := ⟨r4, r5⟩
  have hz4 := r4.size
  have DT : Hid (Calls Try.prog 23 #[.pointer (some ⟨rb, 0, none⟩), .int .i64 need] W4 (RTEnd need v base top rg rb size l H1 i1 p1 t1 taken hv4 W4)) := rTake_calls v base top rg rb size need l H1 i1 p1 t1 taken hv4 W4 r1 r2 r3 hneed HL.out.size HL.out.bytes HL.out.steps HL.out.each HL.out.gr HL.out.tb htk
  clear r1 r2 r3 r4 r4' r5 r6 r7 ho4 bk4 g0 g1 q0 q1
  go_wp2_with fail
  (go_at_call 23; refine DT.out.mono ?_; rintro e W5 ⟨d5, hv5, s5, E5, he, ho5, r1, r2, r3, r4, r5, r6, r7⟩)
  obtain ⟨f1, f2, f3, f4, f5, f6, f8, f10, f11, f12⟩ := HT.out
  obtain ⟨e1, e2⟩ := Path.one f11 r6 f12 r7
  subst e1
  subst e2
  simp only at r1 r2 r3 ho5
  subst he
  have k35 : KB rg rb hv W3 W5 := HR4.out.1.trans HR4.out.2 r4
  have m35 : Moved W3 hv hv5 := HR4.out.2.trans hz4 r5
  have HO5 : Hid (W5.ownsRow W2.heap.size 5 1 d3 (H3.take need).length (bvs (H3.take need))) := k35.owns HOD3.out (fun k e hx => by
    have h1 := (HOD3.out.lt k e).1
    rcases hx with e' | e' | e'
    · omega
    · omega
    · have := HRW.out k e'.symm; omega)
  have AC : Hid (Calls Try.prog 20 #[d3, .int .i64 E3, d5, .int .i64 E3] W5 fun r W' => r = .returned (.bool true) ∧ W5.grownBy W' d3.ownBlock) := by
    have h9 := alike_calls (H3.take need) (H3.take need) d3 d5 E3 E3 W2.heap.size _ W5 (by have := HL.out.size; have : (H3.take need).length ≤ H3.length := List.length_take_le' _ _; omega) HO5.out (hasB_owns ho5)
    simp only [decide_true, Bool.and_self] at h9
    exact h9
  have FIN : Hid (∀ W6, W5.grownBy W6 d3.ownBlock → AEnd sb g b v base top rg rb size l w (.returned (.bool true)) W6) := fun W6 hg => by
    have hl1 := HP.out.2.2.2.2.2.1
    have hl2 := HP.out.2.2.2.2.1
    have h9 := HJ.out.step HL.out f1 f2 f3 f4 (by rw [List.length_drop]; omega) (by have := HJ.out.told; rw [List.length_drop, List.length_take]; omega) f10 (fun k e => ⟨by have := (HOD3.out.lt k e).1; omega, (HOD3.out.lt k e).2⟩) k35 m35 r1 hg
    exact ⟨rfl, h9.1, KeepP.under HB0.out h9.2⟩
  clear f1 f2 f3 f4 f5 f6 f8 f10 f11 f12 r1 r2 r3 r4 r5 r6 r7 ho5 k35 m35
  go_wp2_with fail
  (go_at_call 20; refine AC.out.mono ?_; rintro e W6 ⟨rfl, hg6⟩)
  go_wp2_with fail
  go_ret
  exact FIN.out W6 hg6
/-- **acted, of any act.** -/
theorem acted_calls (sb g b : Nat) (v : Value) (base top rg rb size : Nat) (l : Scr) (H : List UInt8) (i p t taken : Nat) (a : Option Addr) (cap : Nat) (hv : Value) (w : World) (hJ : J sb g b v base top rg rb size l H i p t taken a cap hv w) (L : Lie g b base top rg rb size l) (kd n : Int) :
    Calls Try.prog 11 #[.pointer (some ⟨b, 0, none⟩), .pointer (some ⟨rb, 0, none⟩), .agg #[.int .i64 kd, .int .i64 n]] w (AEnd sb g b v base top rg rb size l w) := by
  by_cases h0 : kd = 0
  · subst h0
    by_cases hn : n < 0 ∨ (size : Int) < n
    · exact acted_peekx _ _ _ _ _ _ _ _ _ _ _ _ _ _ _ _ _ _ _ hJ n hn
    · obtain ⟨need, rfl⟩ : ∃ need : Nat, n = (need : Int) := ⟨n.toNat, by omega⟩
      exact acted_peek _ _ _ _ _ _ _ _ _ _ _ _ _ _ _ _ _ _ _ hJ L need (by omega)
  by_cases h1 : kd = 1
  · subst h1
    by_cases hn : n < 0 ∨ (size : Int) < n
    · exact acted_takex _ _ _ _ _ _ _ _ _ _ _ _ _ _ _ _ _ _ _ hJ n hn
    · obtain ⟨need, rfl⟩ : ∃ need : Nat, n = (need : Int) := ⟨n.toNat, by omega⟩
      exact acted_take _ _ _ _ _ _ _ _ _ _ _ _ _ _ _ _ _ _ _ hJ L need (by omega)
  by_cases h2 : kd = 2
  · subst h2
    exact acted_until _ _ _ _ _ _ _ _ _ _ _ _ _ _ _ _ _ _ _ hJ L n
  by_cases h3 : kd = 3
  · subst h3
    exact acted_rest _ _ _ _ _ _ _ _ _ _ _ _ _ _ _ _ _ _ _ hJ L n
  exact acted_none _ _ _ _ _ _ _ _ _ _ _ _ _ _ _ _ _ _ _ hJ kd n h0 h1 h2 h3
end Go.Proofs.Ytkpjmcoihbebkaa.CInv
