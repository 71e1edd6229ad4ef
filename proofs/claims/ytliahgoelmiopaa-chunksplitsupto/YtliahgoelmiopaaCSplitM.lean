/- What is proved here: what a buffer over a script of fewer steps than may be empty answers, by the script's bytes alone: Peek, Take, Until, Rest. -/
import Derived.Test.YtliahgoelmiopaaCUntil
import Derived.Test.YtliahgoelmiopaaCRest
namespace Go.Proofs.Ytliahgoelmiopaa.CInv
open Go.RowKit C

/-- A buffer at a place of its script's bytes. -/
def Bst (Q : Nat → Prop) (base b g size : Nat) (l : Scr) (taken : Nat) (W : World) : Prop :=
  ∃ (H : List UInt8) (i p t : Nat) (a : Option Addr) (cap : Nat), Inv l i p t ∧ Src base W g (reach l) i p t ∧ BufAt W b g size taken (.slice a H.length cap) ∧ HasP (fun j => j ≠ g ∧ j ≠ b ∧ Q j) W (.slice a H.length cap) H ∧ H.length ≤ size ∧ taken + H.length = t ∧ H = ((bytesOf l).1.drop taken).take H.length
theorem Src.keepR {P : Nat → Prop} {base : Nat} {A B : World} {g : Nat} {l : Scr} {i part told : Nat} (h : Src base A g l i part told) (hk : KeepP P A B) (hp : ∀ k, base ≤ k → k ≤ g → k < A.heap.size → ¬ P k) (hbg : base ≤ g) : Src base B g l i part told := by
  obtain ⟨v, hB, xs, x1, x2, x3, x4, x5, x6⟩ := h
  refine ⟨v, (hk.block g hB.lt (hp g hbg (Nat.le_refl _) hB.lt)).trans hB, xs, x1, hk.owns x2 (fun k e => hp k (x2.lt k e).1 ?_ (x2.lt k e).2), fun x hx => hk.owns (x3 x hx) (fun k e => hp k ((x3 x hx).lt k e).1 ?_ ((x3 x hx).lt k e).2), x4, x5, x6⟩
  · have := x5 k e; omega
  · have := x6 x hx k e; omega
theorem Bst.keep {Q : Nat → Prop} {base b g size : Nat} {l : Scr} {taken : Nat} {W W' : World} {g' b' : Nat} (h : Bst Q base b g size l taken W) (hk : KeepP (fun j => j = g' ∨ j = b' ∨ W.heap.size ≤ j) W W') (hbg : base ≤ g) (h1 : g' < base ∨ g < g') (h2 : b' < base ∨ g < b') (h3 : b ≠ g' ∧ b ≠ b') (hQ : ∀ j, Q j → j ≠ g' ∧ j ≠ b') : Bst Q base b g size l taken W' := by
  obtain ⟨H, i, p, t, a, cap, f1, f2, f3, f4, f5, f6, f7⟩ := h
  refine ⟨H, i, p, t, a, cap, f1, CInv.Src.keepR f2 hk (fun k c1 c2 c3 hx => by rcases hx with e | e | e <;> omega) hbg, (hk.block b (Blk.lt f3) (fun hx => by have := Blk.lt f3; rcases hx with e | e | e <;> omega)).trans f3, ?_, f5, f6, f7⟩
  obtain ⟨a2, cap2, e, ec, e1, e2⟩ := f4
  refine ⟨a2, cap2, e, ec, e1, fun ad e' j u hu => ?_⟩
  obtain ⟨c1, c2⟩ := e2 ad e' j u hu
  refine ⟨?_, c2⟩
  rw [World.cell?_of_block (w := W) (hk.block _ (cell_lt c1) (fun hx => by
    have hl := cell_lt c1
    have hq := hQ _ c2.2.2
    rcases hx with e | e | e
    · exact hq.1 e
    · exact hq.2 e
    · omega))]
  exact c1
def errF (l : Scr) : Int := if (bytesOf l).2 = true then 20 else 21
theorem errF_of {l : Scr} {i p t : Nat} (hI : Inv l i p t) (he : rdE l i p ≠ 0) : t = (bytesOf l).1.length ∧ rdE l i p = errF l := by
  obtain ⟨h1, h2⟩ := rdE_end hI he
  refine ⟨h1, ?_⟩
  unfold errF
  rcases h2 with ⟨e, f⟩ | ⟨e, f⟩
  · rw [if_pos f, e]
  · rw [if_neg (by rw [f]; decide), e]
theorem rdE_not (l : Scr) (i p : Nat) : rdE l i p ≠ 23 := by
  unfold rdE
  split
  · split <;> decide
  · decide
theorem Inv.small {l : Scr} {i p t : Nat} (hI : Inv l i p t) : i ≤ l.length := by
  have h := hI.le
  by_cases h0 : (reach l).length = 0
  · omega
  · obtain ⟨h', _⟩ := reach_get l ((reach l).length - 1) (by omega)
    omega
/-- What is held goes on being the bytes at the place. -/
theorem pos_next {D H H' : List UInt8} {taken t t' : Nat} (h1 : taken + H.length = t) (h2 : H = (D.drop taken).take H.length) (h3 : H' = H ++ (D.drop t).take (t' - t)) (h4 : H'.length = H.length + (t' - t)) (h5 : t ≤ t') : taken + H'.length = t' ∧ H' = (D.drop taken).take H'.length := by
  refine ⟨by omega, ?_⟩
  rw [h4, List.take_add, ← h2, List.drop_drop, h1]
  exact h3

theorem take_of {D H' : List UInt8} {taken n : Nat} (h : H' = (D.drop taken).take H'.length) (hn : n ≤ H'.length ∨ taken + H'.length = D.length) : H'.take n = (D.drop taken).take n := by
  rcases hn with hn | hn
  · conv => lhs; rw [h, List.take_take, Nat.min_eq_left hn]
  · have e : H' = D.drop taken := by
      rw [h, List.take_of_length_le]
      simp; omega
    rw [e]
/-- **Peek.** -/
theorem bpeek {base : Nat} (Q : Nat → Prop) (w : World) (hQ : ∀ j, w.heap.size ≤ j → Q j) (b g : Nat) (l : Scr) (size taken n : Nat) (h : Bst Q base b g size l taken w) (hgb : g < b) (hsize : size ≤ 16777216) (hn : n ≤ size) (hbd : (bytesOf l).1.length ≤ 16777216) (hll : l.length ≤ 99) (hd : ∀ x ∈ l, x.1.length ≤ 100000000000000) :
    Calls Try.prog 27 #[.pointer (some ⟨b, 0, none⟩), .int .i64 n] w fun e W' => ∃ d, e = .returned (.tuple #[d, .int .i64 (if taken + n ≤ (bytesOf l).1.length then 0 else errF l)]) ∧ W'.ownsRow w.heap.size 5 1 d (((bytesOf l).1.drop taken).take n).length (bvs (((bytesOf l).1.drop taken).take n)) ∧ Bst Q base b g size l taken W' ∧ KeepP (fun j => j = g ∨ j = b ∨ w.heap.size ≤ j) w W' := by
  obtain ⟨H, i, p, t, a, cap, f1, f2, f3, f4, f5, f6, f7⟩ := h
  obtain ⟨_, _, e, ec, _⟩ := id f4
  cases e
  refine (peek_calls Q w hQ b g l i p t size taken n a cap H f3 f1 f2 f4 ec hgb f5 hsize hn hbd (by omega) hd).mono ?_
  rintro e W' ⟨E, d, H', i', p', t', rfl, ho, hv', g1, g2, g3, g4, g5, g6, g7, g8, g9, g10, g11⟩
  obtain ⟨q1, q2⟩ := pos_next f6 f7 g7 g6 g5
  obtain ⟨a1, cap1, rfl, _⟩ := id g4
  have hst : Bst Q base b g size l taken W' := ⟨H', i', p', t', a1, cap1, g1, g2, g3, g4, g8, q1, q2⟩
  have htd := told_le g1
  have hsm := g1.small
  rcases g11 with ⟨e1, e2⟩ | ⟨e1, e2, e3⟩ | ⟨_, _, e3⟩
  · refine ⟨d, ?_, ?_, hst, g10⟩
    · rw [if_pos (by omega), e1]
    · rw [take_of q2 (.inl e2)] at ho; exact ho
  · obtain ⟨z1, z2⟩ := errF_of g1 (by rw [← e1]; exact e2)
    refine ⟨d, ?_, ?_, hst, g10⟩
    · rw [if_neg (by omega), e1, z2]
    · rw [take_of q2 (.inr (by omega))] at ho; exact ho
  · omega
/-- **Take.** -/
theorem btake {base : Nat} (Q : Nat → Prop) (w : World) (hQ : ∀ j, w.heap.size ≤ j → Q j) (b g : Nat) (l : Scr) (size taken n : Nat) (h : Bst Q base b g size l taken w) (hgb : g < b) (hsize : size ≤ 16777216) (hn : n ≤ size) (hbd : (bytesOf l).1.length ≤ 16777216) (hll : l.length ≤ 99) (hd : ∀ x ∈ l, x.1.length ≤ 100000000000000) :
    Calls Try.prog 24 #[.pointer (some ⟨b, 0, none⟩), .int .i64 n] w fun e W' => ∃ d, e = .returned (.tuple #[d, .int .i64 (if taken + n ≤ (bytesOf l).1.length then 0 else errF l)]) ∧ W'.ownsRow w.heap.size 5 1 d (((bytesOf l).1.drop taken).take n).length (bvs (((bytesOf l).1.drop taken).take n)) ∧ Bst Q base b g size l (taken + (((bytesOf l).1.drop taken).take n).length) W' ∧ KeepP (fun j => j = g ∨ j = b ∨ w.heap.size ≤ j) w W' := by
  obtain ⟨H, i, p, t, a, cap, f1, f2, f3, f4, f5, f6, f7⟩ := h
  obtain ⟨_, _, e, ec, _⟩ := id f4
  cases e
  have ht := told_le f1
  refine (take_calls Q w hQ b g l i p t size taken n a cap H f3 f1 f2 f4 ec hgb f5 hsize hn hbd (by omega) hd (by omega)).mono ?_
  rintro e W' ⟨E, d, H', i', p', t', rfl, ho, hv', g1, g2, g3, g4, g5, g6, g7, g8, g9, g10, g11⟩
  obtain ⟨q1, q2⟩ := pos_next f6 f7 g7 g6 g5
  have htd := told_le g1
  have hsm := g1.small
  have hT : H'.take n = ((bytesOf l).1.drop taken).take n := by
    rcases g11 with ⟨_, e2⟩ | ⟨e1, e2, e3⟩ | ⟨_, _, e3⟩
    · exact take_of q2 (.inl e2)
    · obtain ⟨z1, z2⟩ := errF_of g1 (by rw [← e1]; exact e2)
      exact take_of q2 (.inr (by omega))
    · omega
  rw [hT] at ho g3
  have hl1 : (((bytesOf l).1.drop taken).take n).length = min n H'.length := by rw [← hT, List.length_take]
  have hst : Bst Q base b g size l (taken + (((bytesOf l).1.drop taken).take n).length) W' := by
    obtain ⟨a1, cap1, e0, _⟩ := id g4
    rw [e0] at g3 g4
    refine ⟨H'.drop n, i', p', t', a1, cap1, g1, g2, g3, g4, by simp; omega, by rw [hl1, List.length_drop]; omega, ?_⟩
    rw [hl1, List.length_drop]
    have e9 : H'.drop n = (H'.drop (min n H'.length)) := by
      by_cases hle : n ≤ H'.length
      · rw [Nat.min_eq_left hle]
      · rw [Nat.min_eq_right (by omega), List.drop_length, List.drop_eq_nil_of_le (by omega)]
    rw [e9, show H'.length - n = H'.length - min n H'.length by omega]
    generalize min n H'.length = m
    conv => lhs; rw [q2]
    rw [List.drop_take, List.drop_drop]
  rcases g11 with ⟨e1, e2⟩ | ⟨e1, e2, e3⟩ | ⟨_, _, e3⟩
  · exact ⟨d, by rw [if_pos (by omega), e1], ho, hst, g10⟩
  · obtain ⟨z1, z2⟩ := errF_of g1 (by rw [← e1]; exact e2)
    exact ⟨d, by rw [if_neg (by omega), e1, z2], ho, hst, g10⟩
  · omega
/-- **Until.** -/
theorem buntil {base : Nat} (Q : Nat → Prop) (w : World) (hQ : ∀ j, w.heap.size ≤ j → Q j) (b g : Nat) (c : UInt8) (l : Scr) (size taken : Nat) (h : Bst Q base b g size l taken w) (hgb : g < b) (hsize : size ≤ 16777216) (hbd : (bytesOf l).1.length ≤ 16777216) (hll : l.length ≤ 99) (hd : ∀ x ∈ l, x.1.length ≤ 100000000000000) :
    Calls Try.prog 28 #[.pointer (some ⟨b, 0, none⟩), .int .u8 c.toNat] w fun e W' => ∃ (d : Value) (E : Int) (k : Nat), e = .returned (.tuple #[d, .int .i64 E]) ∧ W'.ownsRow w.heap.size 5 1 d (((bytesOf l).1.drop taken).take k).length (bvs (((bytesOf l).1.drop taken).take k)) ∧ Bst Q base b g size l (taken + k) W' ∧ KeepP (fun j => j = g ∨ j = b ∨ w.heap.size ≤ j) w W' ∧
      ((E = 23 ∧ k = 0) ∨ (E = 0 ∧ Lib.indexByte ((bytesOf l).1.drop taken) c = (k : Int) - 1 ∧ 1 ≤ k) ∨ (E = errF l ∧ Lib.indexByte ((bytesOf l).1.drop taken) c = -1 ∧ taken + k = (bytesOf l).1.length)) := by
  obtain ⟨H, i, p, t, a, cap, f1, f2, f3, f4, f5, f6, f7⟩ := h
  obtain ⟨_, _, e, ec, _⟩ := id f4
  cases e
  have ht := told_le f1
  refine (until_calls Q w hQ b g c l i p t size taken a cap H f3 f1 f2 f4 ec hgb f5 hsize hbd (by omega) hd (by omega) (rdE_not l)).mono ?_
  rintro e W' ⟨E, d, H', k, i', p', t', rfl, ho, hv', g1, g2, g3, g4, g5, g6, g7, g8, g9, g10, g11⟩
  obtain ⟨q1, q2⟩ := pos_next f6 f7 g7 g6 g5
  have htd := told_le g1
  have hsm := g1.small
  have hk : k ≤ H'.length := by rcases g11 with h | h | h <;> omega
  have hT : H'.take k = ((bytesOf l).1.drop taken).take k := take_of q2 (.inl hk)
  rw [hT] at ho
  have hst : Bst Q base b g size l (taken + k) W' := by
    obtain ⟨a1, cap1, e0, _⟩ := id g4
    rw [e0] at g3 g4
    refine ⟨H'.drop k, i', p', t', a1, cap1, g1, g2, g3, g4, by simp; omega, by rw [List.length_drop]; omega, ?_⟩
    rw [List.length_drop]
    conv => lhs; rw [q2]
    rw [List.drop_take, List.drop_drop]
  have hsplit : (bytesOf l).1.drop taken = H' ++ (bytesOf l).1.drop t' := by
    conv => lhs; rw [← List.take_append_drop H'.length ((bytesOf l).1.drop taken)]
    rw [← q2, List.drop_drop, q1]
  rcases g11 with ⟨e1, e2, e3, e4⟩ | ⟨e1, e2, e3, e4, e5⟩ | ⟨e1, e2, e3⟩
  · refine ⟨d, E, k, rfl, ho, hst, g10, .inr (.inl ⟨e1, ?_, e2⟩)⟩
    rw [hsplit]
    have h0 : ∀ (X Y : List UInt8), Lib.indexByte X c ≠ -1 → Lib.indexByte (X ++ Y) c = Lib.indexByte X c := by
      intro X Y
      induction X with
      | nil => intro h; exact absurd rfl h
      | cons x r ih =>
        intro h
        rw [List.cons_append]
        unfold Lib.indexByte at h ⊢
        by_cases hx : (x == c) = true
        · rw [if_pos hx, if_pos hx]
        · rw [if_neg hx] at h ⊢
          rw [if_neg hx]
          by_cases hr : (Lib.indexByte r c == -1) = true
          · rw [if_pos hr] at h; exact absurd rfl h
          · rw [ih (by simpa using hr)]
    rw [h0 _ _ (by rw [e4]; omega), e4]
  · have hz : E = errF l ∧ t' = (bytesOf l).1.length := by
      rcases e5 with e5 | e5
      · obtain ⟨z1, z2⟩ := errF_of g1 (by rw [← e5]; exact e1)
        exact ⟨e5.trans z2, z1⟩
      · omega
    refine ⟨d, E, k, rfl, ho, hst, g10, .inr (.inr ⟨hz.1, ?_, by omega⟩)⟩
    rw [hsplit, hz.2, List.drop_length, List.append_nil, e4]
  · exact ⟨d, E, k, rfl, ho, hst, g10, .inl ⟨e1, e2⟩⟩
/-- **Rest.** -/
theorem brest {base : Nat} (Q : Nat → Prop) (w : World) (b g : Nat) (l : Scr) (size taken : Nat) (h : Bst Q base b g size l taken w) (hgb : g < b) (hs1 : 1 ≤ size) (hsize : size ≤ 16777216) (hbd : (bytesOf l).1.length ≤ 16777216) (hll : l.length ≤ 99) (hd : ∀ x ∈ l, x.1.length ≤ 100000000000000) :
    Calls Try.prog 29 #[.pointer (some ⟨b, 0, none⟩)] w fun e W' => ∃ d, e = .returned (.tuple #[d, .int .i64 (if (bytesOf l).2 = true then 20 else 0)]) ∧ W'.ownsRow w.heap.size 5 1 d ((bytesOf l).1.drop taken).length (bvs ((bytesOf l).1.drop taken)) ∧ Bst Q base b g size l (taken + ((bytesOf l).1.drop taken).length) W' ∧ KeepP (fun j => j = g ∨ j = b ∨ w.heap.size ≤ j) w W' := by
  obtain ⟨H, i, p, t, a, cap, f1, f2, f3, f4, f5, f6, f7⟩ := h
  refine (rest_calls Q w b g l i p t size taken a cap H f3 f1 f2 f4 hgb f5 hs1 hsize hbd (by omega) hd f6 (rdE_not l)).mono ?_
  rintro e W' ⟨E, d, A, i', p', t', rfl, ho, a2, cap2, E0, g1, g2, g3, g4, g5, g6, g7, g8, g9, g10, g11⟩
  obtain ⟨q1, q2⟩ := pos_next f6 f7 g6 g5 g4
  have hsm := g1.small
  have hz : E0 = errF l ∧ t' = (bytesOf l).1.length := by
    rcases g10 with e5 | e5
    · obtain ⟨z1, z2⟩ := errF_of g1 (by rw [← e5]; exact g9)
      exact ⟨e5.trans z2, z1⟩
    · omega
  have hA : A = (bytesOf l).1.drop taken := by
    rw [q2, List.take_of_length_le]
    simp; omega
  rw [hA] at ho g3
  refine ⟨d, ?_, ho, ⟨[], i', p', t', a2, cap2, g1, g2, g3, ⟨a2, cap2, rfl, by simp, fun _ => rfl, fun ad _ j u hu => by simp [bvs] at hu⟩, by simp, ?_, by simp⟩, g8⟩
  · rw [g11, hz.1]
    unfold errF
    by_cases hF : (bytesOf l).2 = true
    · rw [if_pos hF, if_pos hF]; rfl
    · rw [if_neg hF, if_neg hF]; rfl
  · rw [← hA]; simp; omega
theorem keep_low {n : Nat} {w W W' : World} {g b : Nat} (hB : Below n w W) (hk : KeepP (fun j => j = g ∨ j = b ∨ W.heap.size ≤ j) W W') (hg : n ≤ g) (hb : n ≤ b) (hn : n ≤ W.heap.size) : Below n w W' :=
  ⟨hk.os.trans hB.os, hk.tape.trans hB.tape, hk.output.trans hB.output, Nat.le_trans hB.size hk.size, fun k hlt => (hk.block k (by omega) (fun hx => by rcases hx with e | e | e <;> omega)).trans (hB.block k hlt)⟩
theorem keep_blk {W W' : World} {g b k : Nat} {o : Obj} (hk : KeepP (fun j => j = g ∨ j = b ∨ W.heap.size ≤ j) W W') (h : W.heap[k]? = some o) (hg : k ≠ g) (hb : k ≠ b) : W'.heap[k]? = some o :=
  (hk.block k (Array.getElem?_eq_some_iff.1 h).1 (fun hx => by have := (Array.getElem?_eq_some_iff.1 h).1; rcases hx with e | e | e <;> omega)).trans h
theorem keep_own {W W' : World} {g b n : Nat} {v : Value} {X : List UInt8} (hk : KeepP (fun j => j = g ∨ j = b ∨ W.heap.size ≤ j) W W') (h : W.ownsRow n 5 1 v X.length (bvs X)) (hg : g < n) (hb : b < n) : W'.ownsRow n 5 1 v X.length (bvs X) :=
  hk.owns h (fun k e hx => by have := h.lt k e; rcases hx with e | e | e <;> omega)
theorem Bst.below {Q : Nat → Prop} {base b g size : Nat} {l : Scr} {taken : Nat} {W W' : World} (h : Bst Q base b g size l taken W) (hb : Below W.heap.size W W') : Bst Q base b g size l taken W' := by
  obtain ⟨H, i, p, t, a, cap, f1, f2, f3, f4, f5, f6, f7⟩ := h
  exact ⟨H, i, p, t, a, cap, f1, f2.below hb, f3.below hb, f4.below (grown_below (row := none) hb) (fun j e => by cases e), f5, f6, f7⟩
theorem Bst.start {Q : Nat → Prop} {base b g size : Nat} {l : Scr} {W : World} (hS : Src base W g (reach l) 0 0 0) (hB : BufAt W b g size 0 (.slice none 0 0)) : Bst Q base b g size l 0 W :=
  ⟨[], 0, 0, 0, none, 0, Inv.start l, hS, hB, ⟨none, 0, rfl, by simp, fun _ => rfl, fun ad e => by cases e⟩, by simp, rfl, by simp⟩
theorem Bst.taken {Q : Nat → Prop} {base b g size : Nat} {l : Scr} {taken : Nat} {W : World} (h : Bst Q base b g size l taken W) : Calls Try.prog 16 #[.pointer (some ⟨b, 0, none⟩)] W fun e W' => e = .returned (.int .i64 taken) ∧ W = W' := by
  obtain ⟨H, i, p, t, a, cap, f1, f2, f3, f4, f5, f6, f7⟩ := h
  exact (taken_calls W b g size taken _ f3).mono fun e W' h => ⟨h.1, h.2.symm⟩

end Go.Proofs.Ytliahgoelmiopaa.CInv
