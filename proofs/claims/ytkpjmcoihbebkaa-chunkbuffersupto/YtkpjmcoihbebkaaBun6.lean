/- What is proved here: laws and contracts of CHeld, CAll, one behind the other (each says its own). -/
import Derived.ArgAppend
import Derived.Laws.AppendOwnNone
import Derived.Test.YtkpjmcoihbebkaaBun5
import Derived.RangeFuncNested
import Derived.RangeFuncBound
import Derived.RangeFuncBox
import Derived.RangeFuncCalls
import Derived.RangeFuncLeaves
import Derived.OwnWalkIn
import Derived.TacticsInMore
import Derived.LoopNIn
import Derived.LoopIn
import Derived.Test.YtkpjmcoihbebkaaCInv
/- What is proved here: what a buffer holds while it fills: the old bytes, clipped, or a row of its own; and appending a piece to either. -/
namespace Go.Proofs.Ytkpjmcoihbebkaa.CInv
open Go.RowKit C

/-- Bytes held: as they came, with no room behind them, in blocks below s0 that P allows; or in a row of one's own from s0 on. -/
def HeldSt (s0 : Nat) (P : Nat → Prop) (W : World) (v : Value) (H : List UInt8) : Prop :=
  (∃ a, v = .slice a H.length H.length ∧ (a = none → H.length = 0) ∧ ∀ ad, a = some ad → ∀ j u, (bvs H)[j]? = some u → W.cell? (ad.add j) = some u ∧ (ad.add j).block < s0 ∧ P (ad.add j).block) ∨
  W.ownsRow s0 5 1 v H.length (bvs H)
theorem HeldSt.slice {s0 : Nat} {P : Nat → Prop} {W : World} {v : Value} {H : List UInt8} (h : HeldSt s0 P W v H) : ∃ a cap, v = .slice a H.length cap ∧ H.length ≤ cap := by
  rcases h with ⟨a, rfl, _⟩ | h
  · exact ⟨a, _, rfl, Nat.le_refl _⟩
  · rcases h.2 with ⟨rfl, e⟩ | ⟨g, cap, cur, rfl, _, _, hc, _⟩
    · exact ⟨none, 0, by rw [e], by omega⟩
    · exact ⟨_, cap, rfl, hc⟩
theorem HeldSt.kept {s0 : Nat} {P : Nat → Prop} {W W' : World} {v : Value} {H : List UInt8} {row : Option Nat} (h : HeldSt s0 P W v H) (hg : W.grownBy W' row) (hr : ∀ j, row = some j → j < s0 ∧ ¬ P j) : HeldSt s0 P W' v H := by
  rcases h with ⟨a, rfl, h1, h2⟩ | h
  · refine .inl ⟨a, rfl, h1, fun ad e j u hu => ?_⟩
    obtain ⟨c1, c2, c3⟩ := h2 ad e j u hu
    refine ⟨?_, c2, c3⟩
    rw [World.cell?_of_block (w := W) (hg.block _ (cell_lt c1) (fun e' => (hr _ e'.symm).2 c3))]
    exact c1
  · exact .inr (h.kept hg (by cases e : v.ownBlock with | none => exact .inl rfl | some j => exact .inr (fun e' => by have := (h.lt j e).1; have := (hr j e'.symm).1; omega)))
theorem run_append_none {w : World} (ty : TypeId) (i : TypeInfo) (hi : Try.prog.info? 5 = some i) (a : Option Addr) (n : Nat) (ha : a = none → n = 0) (ax : Option Addr) (cx : Nat) :
    (Builtin.append_ #[39, 39] ty #[.slice a n n, .slice ax 0 cx]).run Try.prog w = .ok (.slice a n n) w := by
  cases a <;> cases ax <;> simp [Builtin.append_, run_underlying Try.underlying39, sizeOf, typeInfo, hi, Builtin.lenOf, Builtin.firstCells, storeCells, loadCells, loadCellsFrom]

/-- **A piece is appended to what is held.** -/
theorem append_held {w : World} {ops : Array Oper} {rest : List Oper} {o : Oper} {a : Act} {Q : Exit → Act → World → Prop} (hgd : o.guard = none) (s x : Operand)
    (ho : o.op = .call { callee := .builtin .append, args := #[s, x], argTypes := #[39, 39] }) (s0 : Nat) (P : Nat → Prop) (v : Value) (H : List UInt8) (hs : a.eval s = v) (hH : HeldSt s0 P w v H)
    (xv : Value) (X : List UInt8) (hx : a.eval x = xv) (base : Nat) (hX : w.ownsRow base 5 1 xv X.length (bvs X)) (hs0 : s0 ≤ w.heap.size) (hl : H.length + X.length ≤ 100000000000000)
    (h : ∀ v' w', HeldSt s0 P w' v' (H ++ X) → (∃ row, w.grownBy w' row ∧ ∀ j, row = some j → s0 ≤ j) → wpList Try.prog ops Q rest (a.put o.dst v') w') : wpList Try.prog ops Q (o :: rest) a w := by
  obtain ⟨i0, hi, hz0, hz1, hz2⟩ := info_parts infoByte
  have hbv : bvs (H ++ X) = bvs H ++ bvs X := by simp [bvs]
  have key : ∀ ad m c, xv = .slice (some ad) m c → m = X.length ∧ ∀ j u, (bvs X)[j]? = some u → w.cell? (ad.add j) = some u := fun ad m c e => by
    rcases hX.2 with ⟨e', e0⟩ | ⟨g, cap, cur, e', _⟩
    · rw [e] at e'; cases e'
    · have hX' := hX
      rw [e'] at hX'
      rw [e] at e'
      cases e'
      refine ⟨rfl, fun j u hu => ?_⟩
      have hj : j < (bvs X).length := (List.getElem?_eq_some_iff.1 hu).1
      rw [bvs_length] at hj
      rw [add_none, Nat.zero_add, hX'.cellAt j (by omega)]
      exact hu
  have hshape : ∃ ax cx, xv = .slice ax X.length cx := owns_slice hX
  obtain ⟨ax, cx, hxv⟩ := hshape
  rcases hH with ⟨av, rfl, h1, h2⟩ | hown
  · by_cases hX0 : X.length = 0
    · have e0 : X = [] := List.length_eq_zero_iff.1 hX0
      refine wpList_plain hgd fun K hK' => ?_
      have hrun := run_append_none (w := w) o.type i0 hi av H.length h1 ax cx
      unfold Oper.wp
      rw [hX0] at hxv
      simp [execOp, ho, resolve, invoke, builtin, hs, hx, hxv, hrun, Result.andThen]
      refine hK' _ _ (h _ w ?_ ⟨none, World.grownBy.refl _ _, fun _ e => by cases e⟩)
      rw [e0, List.append_nil]
      exact .inl ⟨av, rfl, h1, h2⟩
    · cases ax with
      | none =>
        rcases hX.2 with ⟨e', e0⟩ | ⟨g, cap, cur, e', _⟩
        · omega
        · rw [hxv] at e'; cases e'
      | some ad =>
        obtain ⟨_, hc⟩ := key ad _ _ hxv
        refine wpList_append_grows w hgd s x _ ho 5 i0 (.int .u8 0) 1 1 Try.underlying39 hi hz0 hz1 hz2 rfl (by decide) av H.length H.length (bvs H) hs (fun e => ⟨h1 e, h1 e⟩) (by rw [bvs_length]; omega)
          (fun b e j u hu => (h2 b e j u hu).1) ad X.length cx (bvs X) (hx.trans hxv) (by rw [bvs_length]; omega) hc (bvs_one X) (by omega) (by unfold maxLen; omega) (by omega) ?_
        intro v' w' r1 r2
        refine h v' w' (.inr ?_) ⟨none, r2, fun _ e => by cases e⟩
        rw [List.length_append, hbv]
        exact ⟨r1.1, r1.2.imp id (fun ⟨g, cap, cur, e1, e2, e3⟩ => ⟨g, cap, cur, e1, by omega, e3⟩)⟩
  · have hgo : ∀ v' w', w'.ownsRow s0 5 1 v' (H.length + X.length) (bvs H ++ bvs X) → w.grownBy w' v.ownBlock → wpList Try.prog ops Q rest (a.put o.dst v') w' := fun v' w' r1 r2 =>
      h v' w' (.inr (by rw [List.length_append, hbv]; exact r1)) ⟨_, r2, fun j e => (hown.lt j e).1⟩
    cases ax with
    | none =>
      rcases hX.2 with ⟨e', e0⟩ | ⟨g, cap, cur, e', _⟩
      · have e1 : X = [] := List.length_eq_zero_iff.1 e0
        subst e1
        exact wpList_append_own_none hgd s x _ ho s0 _ i0 1 Try.underlying39 hi v _ _ hs hown (hx.trans e') (hgo v w (by simpa [bvs] using hown) (World.grownBy.refl _ _))
      · rw [hxv] at e'; cases e'
    | some ad =>
      obtain ⟨_, hc⟩ := key ad _ _ hxv
      exact wpList_append_own w hgd s x _ ho s0 _ i0 (.int .u8 0) 1 1 Try.underlying39 hi hz0 hz1 hz2 rfl (by decide) v _ _ hs hown ad X.length cx (bvs X) (hx.trans hxv) (by rw [bvs_length]; omega) hc (bvs_one X) (by unfold maxLen; omega) (by omega) hs0 (fun v' w' r1 r2 _ => hgo v' w' r1 r2)

end Go.Proofs.Ytkpjmcoihbebkaa.CInv

/- What is proved here: contracts of (*chunk.Source).All and of its iterator: each round is told what Read tells, until it tells an error or the round says 'no more'. -/
namespace Go.Proofs.Ytkpjmcoihbebkaa.CInv
open Go.RowKit C
attribute [local go_sem] Oper.semAt_some

theorem Src.cellAt {base : Nat} {w : World} {g : Nat} {l : Scr} {i part told : Nat} (h : Src base w g l i part told) : w.cell? ⟨g, 2, none⟩ = some (.int .i64 i) ∧ w.cell? ⟨g, 4, none⟩ = some (.int .i64 told) := by
  obtain ⟨v, hB, _⟩ := h
  exact ⟨hB.cell 2, hB.cell 4⟩
/-- A read that tells no error goes on. -/
theorem rd_goes (l : Scr) (i part n : Nat) (hn : 1 ≤ n) (hp : ∀ h : i < l.length, part ≤ l[i].1.length) (he : rdE l i part = 0) : i < (rdN l i part n).1 ∨ (i = (rdN l i part n).1 ∧ 1 ≤ rdK l i part n) := by
  unfold rdE at he
  by_cases h : i < l.length
  · rw [dif_pos h] at he
    by_cases hf : (l[i].2 && decide (part = l[i].1.length)) = true
    · rw [if_pos hf] at he; omega
    · have hpl := hp h
      simp only [rdN, rdK, dif_pos h, if_neg hf]
      unfold nxt
      split
      · left; show i < i + 1; omega
      · rename_i hx
        right
        refine ⟨rfl, ?_⟩
        by_cases hz : part = l[i].1.length
        · exfalso
          apply hx
          refine ⟨by omega, ?_⟩
          cases hf2 : l[i].2 with
          | false => rfl
          | true => exact absurd (by rw [hf2, decide_eq_true hz]; rfl) hf
        · omega
  · rw [dif_neg h] at he; omega

/-- What stands whenever the iterator is about to read. -/
def StandsOn (g base n Bm Bs Bn : Nat) (l : Scr) (J : Nat → Nat → Nat → World → Prop) : Prop :=
  ∀ i p t W, J i p t W → Inv l i p t ∧ Src base W g (reach l) i p t ∧ W.cell? ⟨Bm, 0, none⟩ = some (.bool true) ∧ W.cell? ⟨Bs, 0, none⟩ = some (.pointer (some ⟨g, 0, none⟩)) ∧ W.cell? ⟨Bn, 0, none⟩ = some (.int .i64 n)
/-- What a round does with what a read tells. -/
def TellsOn (m L g base n : Nat) (l : Scr) (J : Nat → Nat → Nat → World → Prop) (Je Jx : World → Prop) : Prop :=
  ∀ i p t W1, J i p t W1 → ∀ d Wa, Wa.ownsRow W1.heap.size 5 1 d (rdX l i p n).length (bvs (rdX l i p n)) → Src base Wa g (reach l) (rdN l i p n).1 (rdN l i p n).2 (t + rdK l i p n) → W1.grownBy Wa (some g) →
      YieldAt Fence.wide (m - 1) Try.prog L #[d, .int .i64 (rdE l i p)] Wa fun e W' => (e = .returned (.bool true) ∧ (rdE l i p = 0 → J (rdN l i p n).1 (rdN l i p n).2 (t + rdK l i p n) W') ∧ (rdE l i p ≠ 0 → Je W')) ∨ (e = .returned (.bool false) ∧ Jx W')

end Go.Proofs.Ytkpjmcoihbebkaa.CInv
