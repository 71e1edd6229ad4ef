/- What is proved here: the contract of spoil of sievelaw02: a script of one's own is written over, and nothing else. -/
import Derived.Lib.SlBytesConst
import Derived.Test.YtkpjmcoihbebkaaBun3
namespace Go.Proofs.Ytkpjmcoihbebkaa.C
open Go.RowKit

theorem grown_set (w : World) (g j : Nat) (u : Value) : w.grownBy (w.setCell ⟨g, j, none⟩ u) (some g) := ⟨rfl, rfl, rfl, by simp [World.setCell], fun k _ hk => Below.heap_setCell _ _ _ k (fun e => hk (by rw [show k = g from e]))⟩
theorem own_any_set {w : World} {base : Nat} {e : TypeId} {size : Nat} {v : Value} {n : Nat} {ys : List Value} (h : w.ownsRow base e size v n ys) (g j : Nat) (u : Value) : ∃ ys', (w.setCell ⟨g, j, none⟩ u).ownsRow base e size v n ys' := by
  have h' := h
  rcases h.2 with ⟨rfl, rfl⟩ | ⟨g', cap, cur, rfl, hb, hg, _⟩
  · exact ⟨ys, h.kept (grown_set w g j u) (.inl rfl)⟩
  · by_cases e : g' = g
    · subst e; exact ⟨_, (h'.stored j u).1⟩
    · exact ⟨ys, h.kept (grown_set w g j u) (.inr (by simp [Value.ownBlock]; exact e))⟩

/-- Only blocks of a kind may have turned, of those that were there. -/
structure KeepP (P : Nat → Prop) (w w' : World) : Prop where
  os : w'.os = w.os
  tape : w'.tape = w.tape
  output : w'.output = w.output
  size : w.heap.size ≤ w'.heap.size
  block : ∀ k, k < w.heap.size → ¬ P k → w'.heap[k]? = w.heap[k]?
theorem KeepP.refl (P : Nat → Prop) (w : World) : KeepP P w w := ⟨rfl, rfl, rfl, Nat.le_refl _, fun _ _ _ => rfl⟩
theorem KeepP.trans {P : Nat → Prop} {A B C : World} (h : KeepP P A B) (k : KeepP P B C) : KeepP P A C :=
  ⟨k.os.trans h.os, k.tape.trans h.tape, k.output.trans h.output, Nat.le_trans h.size k.size, fun j hj hp => (k.block j (Nat.lt_of_lt_of_le hj h.size) hp).trans (h.block j hj hp)⟩
theorem KeepP.grown {P : Nat → Prop} {A B C : World} {row : Option Nat} (h : KeepP P A B) (k : B.grownBy C row) (hr : ∀ j, row = some j → P j) : KeepP P A C :=
  h.trans ⟨k.os, k.tape, k.output, k.size, fun j hj hp => k.block j hj (fun e => hp (hr j e.symm))⟩
theorem KeepP.setCell {P : Nat → Prop} {A B : World} (h : KeepP P A B) (g j : Nat) (u : Value) (hg : P g) : KeepP P A (B.setCell ⟨g, j, none⟩ u) := h.grown (grown_set B g j u) (fun k e => by cases e; exact hg)
theorem KeepP.alloc {P : Nat → Prop} {A B : World} (h : KeepP P A B) (o : Obj) : KeepP P A (B.alloc o) := h.grown (row := none) (World.grownBy_alloc _ _ _) (fun _ e => by cases e)
theorem KeepP.below {P : Nat → Prop} {n : Nat} {w w' : World} (h : KeepP P w w') (hn : n ≤ w.heap.size) (hp : ∀ k, k < n → ¬ P k) : Below n w w' := ⟨h.os, h.tape, h.output, h.size, fun k hk => h.block k (by omega) (hp k hk)⟩
theorem KeepP.owns {P : Nat → Prop} {w w' : World} {base : Nat} {e : TypeId} {size : Nat} {v : Value} {n : Nat} {xs : List Value} (h : KeepP P w w') (ho : w.ownsRow base e size v n xs) (hp : ∀ k, v.ownBlock = some k → ¬ P k) : w'.ownsRow base e size v n xs := by
  refine ⟨ho.1, ?_⟩
  rcases ho.2 with hn | ⟨g, cap, cur, rfl, hb, hg, rest⟩
  · exact .inl hn
  · refine .inr ⟨g, cap, cur, rfl, hb, ?_, rest⟩
    rw [h.block g (lt_of_block hg) (hp g rfl)]; exact hg

/-- What is left of a script while it is written over, from step i on. -/
def Left (base g n cap : Nat) (xs : List (Value × List UInt8 × Bool)) (i : Nat) (w : World) : Prop :=
  (∃ cs : List Value, w.ownsRow base 55 2 (.slice (some ⟨g, 0, none⟩) n cap) n cs ∧ ∀ j (_ : i ≤ j) (h : j < xs.length), cs[j * 2]? = some xs[j].1 ∧ ∃ f, cs[j * 2 + 1]? = some (.bool f)) ∧ (∀ x ∈ xs, ∃ ys, w.ownsRow base 5 1 x.1 x.2.1.length ys)
theorem Left.byte {base g n cap : Nat} {xs : List (Value × List UInt8 × Bool)} {i : Nat} {w : World} (h : Left base g n cap xs i w) {g' : Nat} {k : Nat} {v : Value} {m c : Nat} {ys : List Value} (hv : v = .slice (some ⟨g', 0, none⟩) m c) (ho : w.ownsRow base 5 1 v m ys) (u : Value) : Left base g n cap xs i (w.setCell ⟨g', k, none⟩ u) := by
  obtain ⟨⟨cs, h1, h2⟩, h3⟩ := h
  subst hv
  refine ⟨⟨cs, h1.kept (grown_set w g' k u) ?_, h2⟩, fun x hx => ?_⟩
  · exact owns_apart h1 ho (by decide)
  · obtain ⟨zs, hz⟩ := h3 x hx
    exact own_any_set hz g' k u
theorem Left.alloc {base g n cap : Nat} {xs : List (Value × List UInt8 × Bool)} {i : Nat} {w : World} (h : Left base g n cap xs i w) (o : Obj) : Left base g n cap xs i (w.alloc o) := by
  obtain ⟨⟨cs, h1, h2⟩, h3⟩ := h
  exact ⟨⟨cs, h1.alloc _, h2⟩, fun x hx => by obtain ⟨zs, hz⟩ := h3 x hx; exact ⟨zs, hz.alloc _⟩⟩
theorem Left.step {base g n cap : Nat} {xs : List (Value × List UInt8 × Bool)} {i : Nat} {w : World} (h : Left base g n cap xs i w) (u u' : Value) : Left base g n cap xs (i + 1) ((w.setCell ⟨g, i * 2, none⟩ u).setCell ⟨g, i * 2 + 1, none⟩ u') := by
  obtain ⟨⟨cs, h1, h2⟩, h3⟩ := h
  have s1 := (h1.stored (i * 2) u).1
  have s2 := (s1.stored (i * 2 + 1) u').1
  refine ⟨⟨_, s2, fun j hj hlt => ?_⟩, fun x hx => ?_⟩
  · obtain ⟨a, f, b⟩ := h2 j (by omega) hlt
    rw [List.getElem?_set_ne (by omega), List.getElem?_set_ne (by omega), List.getElem?_set_ne (by omega), List.getElem?_set_ne (by omega)]
    exact ⟨a, f, b⟩
  · obtain ⟨zs, hz⟩ := h3 x hx
    obtain ⟨z1, hz1⟩ := own_any_set hz g (i * 2) u
    exact own_any_set hz1 g (i * 2 + 1) u'

theorem Left.get {base g n cap : Nat} {xs : List (Value × List UInt8 × Bool)} {k : Nat} {w : World} (h : Left base g n cap xs k w) (hx : xs.length = n) (hk : k < xs.length) {da : Option Addr} {m dc : Nat} (hv : xs[k].1 = .slice da m dc ∧ xs[k].2.1.length = m) :
    w.cell? ⟨g, k * 2, none⟩ = some (.slice da m dc) ∧ (∃ f, w.cell? ⟨g, k * 2 + 1, none⟩ = some (.bool f)) ∧ w.frozen? ⟨g, k * 2, none⟩ = false ∧ w.frozen? ⟨g, k * 2 + 1, none⟩ = false ∧ ∃ ys, w.ownsRow base 5 1 (.slice da m dc) m ys := by
  obtain ⟨⟨cs, r1, r2⟩, r3⟩ := h
  obtain ⟨c0, f, c1⟩ := r2 k (Nat.le_refl _) hk
  obtain ⟨ys, ho⟩ := r3 _ (List.getElem_mem hk)
  rw [hv.1, hv.2] at ho
  refine ⟨by rw [r1.cellAt _ (by omega), c0, hv.1], ⟨f, by rw [r1.cellAt _ (by omega), c1]⟩, r1.frozenAt _, r1.frozenAt _, ys, ho⟩
theorem frozen_under (W : World) (o : Obj) (p : Addr) (h : p.block < W.heap.size) : (W.alloc o).frozen? p = W.frozen? p := ((Below.refl _ W).alloc (Nat.le_refl _) o).frozen h

/-- What is one's own is what spoil asks for. -/
theorem left_of {base : Nat} {w : World} {r : Value} {l : List (List UInt8 × Bool)} (h : OwnS base 55 w r l) : ∃ (g cap : Nat) (xs : List (Value × List UInt8 × Bool)), xs.map Prod.snd = l ∧ xs.length = l.length ∧ (l.length = 0 ∨ r = .slice (some ⟨g, 0, none⟩) l.length cap ∧ Left base g l.length cap xs 0 w) := by
  obtain ⟨xs, h1, h2, h3, _⟩ := h
  have hl : xs.length = l.length := by rw [← h1]; simp
  have h2' := h2
  rcases h2.2 with ⟨_, e0⟩ | ⟨g, cap, cur, rfl, hb, hg, hcap, _⟩
  · exact ⟨0, 0, xs, h1, hl, .inl e0⟩
  · refine ⟨g, cap, xs, h1, hl, .inr ⟨rfl, ⟨_, h2', fun j _ hj => ?_⟩, fun x hx => ⟨_, h3 x hx⟩⟩⟩
    obtain ⟨c1, c2⟩ := flat_get xs j hj
    rw [Nat.mul_comm j 2]
    exact ⟨c1, _, c2⟩

end Go.Proofs.Ytkpjmcoihbebkaa.C
