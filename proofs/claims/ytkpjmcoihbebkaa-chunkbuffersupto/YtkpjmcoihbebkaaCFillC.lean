/- What is proved here: where a fill of a buffer stands, whatever it is asked, and what it leaves. -/
import Derived.Test.YtkpjmcoihbebkaaCFill
import Derived.Test.YtkpjmcoihbebkaaCUnt1
namespace Go.Proofs.Ytkpjmcoihbebkaa.CInv
open Go.RowKit C

/-- Bytes held, as HeldSt says; a row of one's own lies below bd. -/
def HeldLt (s0 bd : Nat) (P : Nat → Prop) (W : World) (v : Value) (H : List UInt8) : Prop :=
  (∃ a, v = .slice a H.length H.length ∧ (a = none → H.length = 0) ∧ ∀ ad, a = some ad → ∀ j u, (bvs H)[j]? = some u → W.cell? (ad.add j) = some u ∧ (ad.add j).block < s0 ∧ P (ad.add j).block) ∨
  (W.ownsRow s0 5 1 v H.length (bvs H) ∧ ∀ j, v.ownBlock = some j → j < bd)
theorem HeldSt.low {s0 : Nat} {P : Nat → Prop} {W : World} {v : Value} {H : List UInt8} (h : HeldSt s0 P W v H) : HeldLt s0 W.heap.size P W v H := by
  rcases h with h | h
  · exact .inl h
  · exact .inr ⟨h, fun j e => (h.lt j e).2⟩
theorem HeldLt.kept {s0 bd : Nat} {P : Nat → Prop} {W W' : World} {v : Value} {H : List UInt8} {row : Option Nat} (h : HeldLt s0 bd P W v H) (hg : W.grownBy W' row) (hr : ∀ j, row = some j → j < s0 ∧ ¬ P j) : HeldLt s0 bd P W' v H := by
  rcases h with ⟨a, rfl, h1, h2⟩ | ⟨h, hl⟩
  · refine .inl ⟨a, rfl, h1, fun ad e j u hu => ?_⟩
    obtain ⟨c1, c2, c3⟩ := h2 ad e j u hu
    refine ⟨?_, c2, c3⟩
    rw [World.cell?_of_block (w := W) (hg.block _ (cell_lt c1) (fun e' => (hr _ e'.symm).2 c3))]
    exact c1
  · exact .inr ⟨h.kept hg (by cases e : v.ownBlock with | none => exact .inl rfl | some j => exact .inr (fun e' => by have := (h.lt j e).1; have := (hr j e'.symm).1; omega)), hl⟩
/-- A piece is appended to what is held, and which block it may be written to. -/
theorem append_heldP {bd : Nat} {w : World} {ops : Array Oper} {rest : List Oper} {o : Oper} {a : Act} {Q : Exit → Act → World → Prop} (hgd : o.guard = none) (s x : Operand)
    (ho : o.op = .call { callee := .builtin .append, args := #[s, x], argTypes := #[39, 39] }) (s0 : Nat) (P : Nat → Prop) (v : Value) (H : List UInt8) (hs : a.eval s = v) (hH : HeldLt s0 bd P w v H)
    (xv : Value) (X : List UInt8) (hx : a.eval x = xv) (base : Nat) (hX : w.ownsRow base 5 1 xv X.length (bvs X)) (hs0 : s0 ≤ w.heap.size) (hl : H.length + X.length ≤ 100000000000000)
    (h : ∀ v' w', HeldSt s0 P w' v' (H ++ X) → (∃ row, w.grownBy w' row ∧ ∀ j, row = some j → s0 ≤ j ∧ j < bd) → wpList Try.prog ops Q rest (a.put o.dst v') w') : wpList Try.prog ops Q (o :: rest) a w := by
  obtain ⟨i0, hi, hz0, hz1, hz2⟩ := info_parts infoByte
  have hbv : bvs (H ++ X) = bvs H ++ bvs X := by simp [bvs]
  have key : ∀ ad m c, xv = .slice (some ad) m c → m = X.length ∧ ∀ j u, (bvs X)[j]? = some u → w.cell? (ad.add j) = some u := fun ad m c e => by
    rcases hX.2 with ⟨e', e0⟩ | ⟨g, cap, cur, e', _⟩
    · rw [e] at e'; cases e'
    · have hX' := hX
      rw [e'] at hX'
      rw [e] at e'
      cases e'
      refine ⟨rfl, fun j u hu => ?_⟩
      have hj : j < (bvs X).length := (List.getElem?_eq_some_iff.1 hu).1
      rw [bvs_length] at hj
      rw [add_none, Nat.zero_add, hX'.cellAt j (by omega)]
      exact hu
  have hshape : ∃ ax cx, xv = .slice ax X.length cx := owns_slice hX
  obtain ⟨ax, cx, hxv⟩ := hshape
  rcases hH with ⟨av, rfl, h1, h2⟩ | ⟨hown, hbd⟩
  · by_cases hX0 : X.length = 0
    · have e0 : X = [] := List.length_eq_zero_iff.1 hX0
      refine wpList_plain hgd fun K hK' => ?_
      have hrun := run_append_none (w := w) o.type i0 hi av H.length h1 ax cx
      unfold Oper.wp
      rw [hX0] at hxv
      simp [execOp, ho, resolve, invoke, builtin, hs, hx, hxv, hrun, Result.andThen]
      refine hK' _ _ (h _ w ?_ ⟨none, World.grownBy.refl _ _, fun _ e => by cases e⟩)
      rw [e0, List.append_nil]
      exact .inl ⟨av, rfl, h1, h2⟩
    · cases ax with
      | none =>
        rcases hX.2 with ⟨e', e0⟩ | ⟨g, cap, cur, e', _⟩
        · omega
        · rw [hxv] at e'; cases e'
      | some ad =>
        obtain ⟨_, hc⟩ := key ad _ _ hxv
        refine wpList_append_grows w hgd s x _ ho 5 i0 (.int .u8 0) 1 1 Try.underlying39 hi hz0 hz1 hz2 rfl (by decide) av H.length H.length (bvs H) hs (fun e => ⟨h1 e, h1 e⟩) (by rw [bvs_length]; omega)
          (fun b e j u hu => (h2 b e j u hu).1) ad X.length cx (bvs X) (hx.trans hxv) (by rw [bvs_length]; omega) hc (bvs_one X) (by omega) (by unfold maxLen; omega) (by omega) ?_
        intro v' w' r1 r2
        refine h v' w' (.inr ?_) ⟨none, r2, fun _ e => by cases e⟩
        rw [List.length_append, hbv]
        exact ⟨r1.1, r1.2.imp id (fun ⟨g, cap, cur, e1, e2, e3⟩ => ⟨g, cap, cur, e1, by omega, e3⟩)⟩
  · have hgo : ∀ v' w', w'.ownsRow s0 5 1 v' (H.length + X.length) (bvs H ++ bvs X) → w.grownBy w' v.ownBlock → wpList Try.prog ops Q rest (a.put o.dst v') w' := fun v' w' r1 r2 =>
      h v' w' (.inr (by rw [List.length_append, hbv]; exact r1)) ⟨_, r2, fun j e => ⟨(hown.lt j e).1, hbd j e⟩⟩
    cases ax with
    | none =>
      rcases hX.2 with ⟨e', e0⟩ | ⟨g, cap, cur, e', _⟩
      · have e1 : X = [] := List.length_eq_zero_iff.1 e0
        subst e1
        exact wpList_append_own_none hgd s x _ ho s0 _ i0 1 Try.underlying39 hi v _ _ hs hown (hx.trans e') (hgo v w (by simpa [bvs] using hown) (World.grownBy.refl _ _))
      · rw [hxv] at e'; cases e'
    | some ad =>
      obtain ⟨_, hc⟩ := key ad _ _ hxv
      exact wpList_append_own w hgd s x _ ho s0 _ i0 (.int .u8 0) 1 1 Try.underlying39 hi hz0 hz1 hz2 rfl (by decide) v _ _ hs hown ad X.length cx (bvs X) (hx.trans hxv) (by rw [bvs_length]; omega) hc (bvs_one X) (by unfold maxLen; omega) (by omega) hs0 (fun v' w' r1 r2 _ => hgo v' w' r1 r2)


/-- Where a fill stands: what was read since it began, and what was shown to the question so far. -/
structure FillG (bx : List UInt8 → World → Prop) (CB Q : Nat → Prop) (base b g s0 size taken : Nat) (hv : Value) (l : Scr) (w : World) (i t : Nat) (H : List UInt8) (hv' : Value) (H' S : List UInt8) (em i' p' t' : Nat) (W : World) : Prop where
  inv : Inv l i' p' t'
  src : Src base W g (reach l) i' p' t'
  buf : BufAt W b g size taken hv
  held : HeldSt s0 (fun j => j ≠ g ∧ ¬ CB j ∧ j ≠ b ∧ Q j) W hv' H'
  box : bx S W
  le : t ≤ t'
  len : H'.length = H.length + (t' - t)
  bytes : H' = H ++ ((bytesOf l).1.drop t).take (t' - t)
  room : H'.length ≤ size
  emp : i + em ≤ i'
  keep : KeepP (fun j => j = g ∨ CB j ∨ s0 ≤ j) w W
/-- What a fill leaves: E is its error, and out what is said of it. -/
def FillEndG (out : Int → List UInt8 → Nat → Nat → World → Prop) (CB Q : Nat → Prop) (base b g s0 size taken : Nat) (l : Scr) (w : World) (i t : Nat) (H : List UInt8) (E : Int) (W : World) : Prop :=
  ∃ (H' : List UInt8) (hv' : Value) (i' p' t' : Nat), Inv l i' p' t' ∧ Src base W g (reach l) i' p' t' ∧ BufAt W b g size taken hv' ∧ HeldSt s0 (fun j => j ≠ g ∧ ¬ CB j ∧ j ≠ b ∧ Q j) W hv' H' ∧ t ≤ t' ∧ H'.length = H.length + (t' - t) ∧ H' = H ++ ((bytesOf l).1.drop t).take (t' - t) ∧ H'.length ≤ size ∧ i ≤ i' ∧
    KeepP (fun j => j = g ∨ CB j ∨ j = b ∨ s0 ≤ j) w W ∧ out E H' i' p' W
theorem FillG.close {bx : List UInt8 → World → Prop} {CB Q : Nat → Prop} {base b g s0 size taken : Nat} {hv : Value} {l : Scr} {w : World} {i t : Nat} {H : List UInt8} {hv' : Value} {H' S : List UInt8} {em i' p' t' : Nat} {W : World} (h : FillG bx CB Q base b g s0 size taken hv l w i t H hv' H' S em i' p' t' W) (hgb : g < b) (hb : b < s0) (out : Int → List UInt8 → Nat → Nat → World → Prop) (E : Int)
    (ho : out E H' i' p' (W.setCell ⟨b, 2, none⟩ hv')) : FillEndG out CB Q base b g s0 size taken l w i t H E (W.setCell ⟨b, 2, none⟩ hv') := by
  obtain ⟨s1, s2, s3, s4, s5, s6, s7, s8, s9, s10, s11⟩ := h
  have hg := grown_set W b 2 hv'
  refine ⟨H', hv', i', p', t', s1, Src.kept s2 hg (fun k e => by cases e; exact ⟨by omega, .inr (by omega)⟩), s3.set2 hv', s4.kept hg (fun j e => by cases e; exact ⟨hb, fun hx => hx.2.2.1 rfl⟩), s6, s7, s8, s9, by omega, ?_, ho⟩
  exact ⟨hg.os.trans s11.os, hg.tape.trans s11.tape, hg.output.trans s11.output, Nat.le_trans s11.size hg.size, fun k hk hp => (hg.block k (Nat.lt_of_lt_of_le hk s11.size) (fun e => by cases e; exact hp (.inr (.inr (.inl rfl))))).trans (s11.block k hk (fun hx => hp (hx.elim .inl (fun hx => hx.elim (fun hx => .inr (.inl hx)) (fun hx => .inr (.inr (.inr hx)))))))⟩
theorem index_app : ∀ (S P : List UInt8) (c : UInt8), Lib.indexByte S c = -1 → Lib.indexByte (S ++ P) c = if Lib.indexByte P c = -1 then -1 else (S.length : Int) + Lib.indexByte P c := by
  intro S P c
  induction S with
  | nil => intro _; simp only [List.nil_append, List.length_nil]; split <;> omega
  | cons b r ih =>
    intro h
    have hge := Lib.indexByte_ge r c
    have hgp := Lib.indexByte_ge P c
    unfold Lib.indexByte at h
    by_cases hb : (b == c) = true
    · rw [if_pos hb] at h; omega
    · rw [if_neg hb] at h
      have hr : Lib.indexByte r c = -1 := by
        by_cases hx : (Lib.indexByte r c == -1) = true
        · simpa using hx
        · rw [if_neg hx] at h; omega
      rw [List.cons_append, Lib.indexByte, if_neg hb, ih hr]
      by_cases hp : Lib.indexByte P c = -1
      · simp [hp]
      · rw [if_neg hp, if_neg (by simp; omega), if_neg hp]
        simp only [List.length_cons]; omega
theorem index_lt (P : List UInt8) (c : UInt8) (o : Nat) (h : Lib.indexByte P c = o) : o < P.length := by
  have := (Lib.indexByte_some h).1
  exact (List.getElem?_eq_some_iff.1 this).1
end Go.Proofs.Ytkpjmcoihbebkaa.CInv
