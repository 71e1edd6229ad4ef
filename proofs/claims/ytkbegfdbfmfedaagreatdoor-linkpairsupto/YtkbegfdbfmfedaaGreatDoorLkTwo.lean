/- What is proved here: rows of structs of two texts in memory: read, appended to, and told apart. -/
import Derived.Laws.AppendOwnNone
import Derived.BigQuiet
import Derived.Test.YtkbegfdbfmfedaaGreatDoorLkPairM
namespace Go.Proofs.YtkbegfdbfmfedaaGreatDoor.L
open Go.RowKit Go.Shelf Go.Proofs.YtkbegfdbfmfedaaGreatDoor.N Go.Proofs.YtkbegfdbfmfedaaGreatDoor.U

/-- Structs of two texts, one behind the other. -/
def TwosAt (w : World) (a : Option Addr) (l : List Two) : Prop := ∀ j, j < l.length → ∃ b off, a = some ⟨b, off, none⟩ ∧ w.cell? ⟨b, off + j * 2, none⟩ = some (.string ⟨(l.getD j ([], [])).1.toArray⟩) ∧ w.cell? ⟨b, off + j * 2 + 1, none⟩ = some (.string ⟨(l.getD j ([], [])).2.toArray⟩)
theorem TwosAt.below {w w' : World} {a : Option Addr} {l : List Two} (h : TwosAt w a l) (hb : Below w.heap.size w w') : TwosAt w' a l := fun j hj => by
  obtain ⟨b, off, e, h1, h2⟩ := h j hj
  exact ⟨b, off, e, (hb.cell (p := ⟨b, off + j * 2, none⟩) (cell_lt h1)).trans h1, (hb.cell (p := ⟨b, off + j * 2 + 1, none⟩) (cell_lt h2)).trans h2⟩
def twv (l : List Two) : List Value := l.flatMap fun a => [.string ⟨a.1.toArray⟩, .string ⟨a.2.toArray⟩]
theorem twv_length (l : List Two) : (twv l).length = l.length * 2 := by
  unfold twv
  induction l with
  | nil => rfl
  | cons a r ih => simp only [List.flatMap_cons, List.length_append, List.length_cons, List.length_nil, ih]; omega
theorem twv_get (l : List Two) (n i : Nat) (hn : n < l.length) (hi : i < 2) : (twv l)[n * 2 + i]? = [Value.string ⟨(l.getD n ([], [])).1.toArray⟩, .string ⟨(l.getD n ([], [])).2.toArray⟩][i]? := by
  unfold twv
  induction l generalizing n with
  | nil => simp at hn
  | cons a r ih =>
    cases n with
    | zero =>
      simp only [List.flatMap_cons, Nat.zero_mul, Nat.zero_add, List.getD_cons_zero]
      rw [List.getElem?_append_left (by simpa using hi)]
    | succ n =>
      simp only [List.flatMap_cons, List.getD_cons_succ]
      rw [List.getElem?_append_right (by simp; omega), ← ih n (by simpa using hn)]
      congr 1
      simp; omega
theorem twv_snoc (l : List Two) (a : Two) : twv (l ++ [a]) = twv l ++ [.string ⟨a.1.toArray⟩, .string ⟨a.2.toArray⟩] := by simp [twv]
/-- Structs of two texts of one's own. -/
abbrev OwnW (e : TypeId) (base : Nat) (w : World) (v : Value) (l : List Two) : Prop := w.ownsRow base e 2 v l.length (twv l)
theorem OwnW.at {e : TypeId} {base : Nat} {w : World} {v : Value} {l : List Two} (h : OwnW e base w v l) : ∃ a cap, v = .slice a l.length cap ∧ l.length ≤ cap ∧ TwosAt w a l ∧ ∀ b off, a = some ⟨b, off, none⟩ → 0 < l.length → base ≤ b ∧ b < w.heap.size := by
  have h' : w.ownsRow base e 2 v l.length (twv l) := h
  rcases h.2 with ⟨rfl, e0⟩ | ⟨g, cap, cur, rfl, hg1, hg, hc, _⟩
  · exact ⟨none, 0, by rw [e0], by omega, fun j hj => by omega, fun b off h => by cases h⟩
  · refine ⟨_, cap, rfl, hc, fun i hi => ⟨g, 0, rfl, ?_⟩, fun b off h9 h0 => ?_⟩
    · have c0 := World.ownsRow.cellAt h' (i * 2) (by omega)
      have c1 := World.ownsRow.cellAt h' (i * 2 + 1) (by omega)
      have g0 := twv_get l i 0 hi (by omega)
      have g1 := twv_get l i 1 hi (by omega)
      rw [Nat.add_zero] at g0
      rw [g0] at c0
      rw [g1] at c1
      rw [Nat.zero_add]
      exact ⟨c0, c1⟩
    · obtain rfl : g = b := by simpa using congrArg (fun x : Option Addr => x.map (·.block)) h9
      have := h'.lt g rfl
      exact ⟨this.1, by
        have c0 := World.ownsRow.cellAt h' 0 (by omega)
        have g0 := twv_get l 0 0 h0 (by omega)
        simp only [Nat.zero_mul, Nat.add_zero] at g0
        rw [g0] at c0
        exact cell_lt c0⟩
/-- One struct more, behind structs of one's own. -/
theorem append_two {w : World} {ops : Array Oper} {rest : List Oper} {o : Oper} {a : Act} {Q : Exit → Act → World → Prop} (hgd : o.guard = none) (s x : Operand) (st e : TypeId)
    (hst : Tryz.prog.underlying st = some (.slice e)) (hinf : (Tryz.prog.info? e).map (fun i => (i.zero, i.size, i.bytes)) = some (some (.agg #[.string ⟨#[]⟩, .string ⟨#[]⟩]), 2, 32))
    (ho : o.op = .call { callee := .builtin .append, args := #[s, x], argTypes := #[st, st] }) (base : Nat) (v : Value) (l : List Two) (hs : a.eval s = v) (hown : OwnW e base w v l)
    (B : Nat) (t : Two) (hx : a.eval x = .slice (some ⟨B, 0, none⟩) 1 1) (h0 : w.cell? ⟨B, 0, none⟩ = some (.string ⟨t.1.toArray⟩)) (h1 : w.cell? ⟨B, 1, none⟩ = some (.string ⟨t.2.toArray⟩)) (hl : l.length ≤ 100000000000) (hbase : base ≤ w.heap.size)
    (h : ∀ v' w', OwnW e base w' v' (l ++ [t]) → w.grownBy w' v.ownBlock → wpList Tryz.prog ops Q rest (a.put o.dst v') w') : wpList Tryz.prog ops Q (o :: rest) a w := by
  obtain ⟨i0, hi, hz0, hz1, hz2⟩ := info_parts hinf
  refine wpList_append_own w hgd s x _ ho base _ i0 _ 2 32 hst hi hz0 hz1 hz2 rfl (by decide) v _ _ hs hown ⟨B, 0, none⟩ 1 1 [.string ⟨t.1.toArray⟩, .string ⟨t.2.toArray⟩] hx rfl ?_ (by simp [Value.oneCell']) (by unfold maxLen; omega) (by omega) hbase ?_
  · intro j u hj
    match j, hj with
    | 0, hj => simp at hj; subst hj; simpa [Addr.add] using h0
    | 1, hj => simp at hj; subst hj; simpa [Addr.add] using h1
    | (j + 2), hj => simp at hj
  · intro v' w' r1 r2 _
    rw [← twv_snoc] at r1
    exact h v' w' (by simpa [OwnW] using r1) r2
end Go.Proofs.YtkbegfdbfmfedaaGreatDoor.L
