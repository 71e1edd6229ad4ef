/- What is proved here: tokens of one's own in memory, and the contract of own of token. -/
import Derived.Maps.AppendAt
import Derived.Laws.AppendOwnNone
import Derived.Test.YtelfejbhlolppaaDoorTToks
namespace Go.Proofs.YtelfejbhlolppaaDoor.T
open Go.RowKit N

theorem infoAttr : (Tryd.prog.info? 36).map (fun i => (i.zero, i.size, i.bytes)) = some (some (.agg #[.string ⟨#[]⟩, .string ⟨#[]⟩]), 2, 32) := by kernel_rfl
theorem infoTok : (Tryd.prog.info? 28).map (fun i => (i.zero, i.size, i.bytes)) = some (some (.agg #[.int .i64 0, .string ⟨#[]⟩, .string ⟨#[]⟩, .slice none 0 0, .bool false, .int .i64 0, .int .i64 0, .int .i64 0]), 8, 96) := by kernel_rfl

/-- The cells of attributes. -/
def avs (l : AL) : List Value := l.flatMap fun a => [.string a.1, .string a.2]
theorem avs_length (l : AL) : (avs l).length = l.length * 2 := by
  unfold avs
  induction l with
  | nil => rfl
  | cons a r ih => simp only [List.flatMap_cons, List.length_append, List.length_cons, List.length_nil, ih]; omega
theorem avs_get (l : AL) (n i : Nat) (hn : n < l.length) (hi : i < 2) : (avs l)[n * 2 + i]? = [Value.string l[n].1, .string l[n].2][i]? := by
  unfold avs
  induction l generalizing n with
  | nil => simp at hn
  | cons a r ih =>
    cases n with
    | zero =>
      simp only [List.flatMap_cons, Nat.zero_mul, Nat.zero_add, List.getElem_cons_zero]
      rw [List.getElem?_append_left (by simpa using hi)]
    | succ n =>
      simp only [List.flatMap_cons, List.getElem_cons_succ]
      rw [List.getElem?_append_right (by simp; omega), ← ih n (by simpa using hn)]
      congr 1
      simp; omega
theorem avs_one (l : AL) : ∀ u ∈ avs l, u.oneCell' = true := by
  intro u hu
  unfold avs at hu
  obtain ⟨a, _, h⟩ := List.mem_flatMap.1 hu
  simp at h
  rcases h with rfl | rfl <;> rfl
/-- Attributes of one's own. -/
abbrev OwnA (base : Nat) (w : World) (v : Value) (l : AL) : Prop := w.ownsRow base 36 2 v l.length (avs l)
theorem OwnA.has {base : Nat} {w : World} {v : Value} {l : AL} (h : OwnA base w v l) : HasA w v l := by
  have h' : w.ownsRow base 36 2 v l.length (avs l) := h
  rcases h.2 with ⟨rfl, e⟩ | ⟨g, cap, cur, rfl, _, hg, hc, _⟩
  · exact .inl ⟨List.length_eq_zero_iff.1 e, .inl rfl⟩
  · by_cases h0 : l.length = 0
    · exact .inl ⟨List.length_eq_zero_iff.1 h0, .inr ⟨⟨g, 0, none⟩, cap, by rw [h0]⟩⟩
    · refine .inr ⟨by omega, g, 0, cap, rfl, hc, fun i hi => ?_⟩
      have c0 := World.ownsRow.cellAt h' (i * 2) (by omega)
      have c1 := World.ownsRow.cellAt h' (i * 2 + 1) (by omega)
      have g0 := avs_get l i 0 hi (by omega)
      have g1 := avs_get l i 1 hi (by omega)
      rw [Nat.add_zero] at g0
      rw [g0] at c0
      rw [g1] at c1
      rw [Nat.zero_add]
      exact ⟨c0, c1⟩

/-- Attributes in memory are appended to a row of one's own that has none. -/
theorem append_attrs {w : World} {ops : Array Oper} {rest : List Oper} {o : Oper} {a : Act} {Q : Exit → Act → World → Prop} (hgd : o.guard = none) (s x : Operand)
    (ho : o.op = .call { callee := .builtin .append, args := #[s, x], argTypes := #[24, 24] }) (base : Nat) (v : Value) (hs : a.eval s = v) (hown : w.ownsRow base 36 2 v 0 [])
    (xv : Value) (l : AL) (hx : a.eval x = xv) (hA : HasA w xv l) (hbase : base ≤ w.heap.size) (hl : l.length ≤ 1000000000000)
    (h : ∀ v' w', OwnA base w' v' l → w.grownBy w' v.ownBlock → wpList Tryd.prog ops Q rest (a.put o.dst v') w') : wpList Tryd.prog ops Q (o :: rest) a w := by
  obtain ⟨i0, hi, hz0, hz1, hz2⟩ := info_parts infoAttr
  rcases hA with ⟨rfl, rfl | ⟨ad, cap, rfl⟩⟩ | ⟨hp, b, off, cap, rfl, hc, hcell⟩
  · exact wpList_append_own_none hgd s x _ ho base _ i0 2 Tryd.underlying24 hi v 0 [] hs hown hx (h v w hown (World.grownBy.refl _ _))
  · exact wpList_append_own w hgd s x _ ho base _ i0 _ 2 32 Tryd.underlying24 hi hz0 hz1 hz2 rfl (by decide) v 0 [] hs hown ad 0 cap [] hx rfl (fun j u hu => by simp at hu) (by simp) (by unfold maxLen; omega) (by omega) hbase (fun v' w' r1 r2 _ => h v' w' r1 r2)
  · refine wpList_append_own w hgd s x _ ho base _ i0 _ 2 32 Tryd.underlying24 hi hz0 hz1 hz2 rfl (by decide) v 0 [] hs hown ⟨b, off, none⟩ l.length cap (avs l) hx (avs_length l) (fun j u hu => ?_) (avs_one l) (by unfold maxLen; omega) (by omega) hbase (fun v' w' r1 r2 _ => h v' w' (by simpa using r1) r2)
    have hj : j < l.length * 2 := by have := (List.getElem?_eq_some_iff.1 hu).1; rw [avs_length] at this; exact this
    rw [C.add_none]
    obtain ⟨n, i, hn, hi2, rfl⟩ : ∃ n i, n < l.length ∧ i < 2 ∧ j = n * 2 + i := ⟨j / 2, j % 2, by omega, by omega, by omega⟩
    rw [avs_get l n i hn hi2] at hu
    obtain ⟨c0, c1⟩ := hcell n hn
    match i, hi2, hu with
    | 0, _, hu => simp at hu; subst hu; rw [← Nat.add_assoc, Nat.add_zero]; exact c0
    | 1, _, hu => simp at hu; subst hu; rw [← Nat.add_assoc]; exact c1

/-- The cells of a token. -/
def tvs (t : T.Tok) (av : Value) : List Value := [.int .i64 t.kind, .string t.name, .string t.text, av, .bool t.self, .int .i64 t.p0, .int .i64 t.p1, .int .i64 t.p2]
theorem put8_at {W : World} {A : Nat} {x0 x1 x2 x3 x4 x5 x6 x7 : Value} {ty : TypeId} {fz : Nat × Nat} (h : W.heap[A]? = some (.cells #[x0, x1, x2, x3, x4, x5, x6, x7] ty fz)) (v0 v1 v2 v3 v4 v5 v6 v7 : Value) :
    ((((((((W.setCell ⟨A, 0, none⟩ v0).setCell ⟨A, 1, none⟩ v1).setCell ⟨A, 2, none⟩ v2).setCell ⟨A, 3, none⟩ v3).setCell ⟨A, 4, none⟩ v4).setCell ⟨A, 5, none⟩ v5).setCell ⟨A, 6, none⟩ v6).setCell ⟨A, 7, none⟩ v7).heap[A]? = some (.cells #[v0, v1, v2, v3, v4, v5, v6, v7] ty fz) := by
  simp [World.setCell, Array.getElem?_modify, h]
theorem put8_below {B A : Nat} {w W : World} (h : Below B w W) (hA : B ≤ A) (v0 v1 v2 v3 v4 v5 v6 v7 : Value) :
    Below B w ((((((((W.setCell ⟨A, 0, none⟩ v0).setCell ⟨A, 1, none⟩ v1).setCell ⟨A, 2, none⟩ v2).setCell ⟨A, 3, none⟩ v3).setCell ⟨A, 4, none⟩ v4).setCell ⟨A, 5, none⟩ v5).setCell ⟨A, 6, none⟩ v6).setCell ⟨A, 7, none⟩ v7) :=
  (((((((h.setCell (p := ⟨A, 0, none⟩) hA _).setCell (p := ⟨A, 1, none⟩) hA _).setCell (p := ⟨A, 2, none⟩) hA _).setCell (p := ⟨A, 3, none⟩) hA _).setCell (p := ⟨A, 4, none⟩) hA _).setCell (p := ⟨A, 5, none⟩) hA _).setCell (p := ⟨A, 6, none⟩) hA _).setCell (p := ⟨A, 7, none⟩) hA _
theorem grown_set (w : World) (g j : Nat) (u : Value) : w.grownBy (w.setCell ⟨g, j, none⟩ u) (some g) := ⟨rfl, rfl, rfl, by simp [World.setCell], fun k _ hk => Below.heap_setCell _ _ _ k (fun e => hk (by rw [show k = g from e]))⟩
theorem OwnA.set {base g : Nat} {w : World} {v : Value} {l : AL} (h : OwnA base w v l) (hg : v.ownBlock = none ∨ v.ownBlock ≠ some g) (j : Nat) (u : Value) : OwnA base (w.setCell ⟨g, j, none⟩ u) v l :=
  World.ownsRow.kept h (grown_set w g j u) hg
theorem OwnA.apart {base g : Nat} {w : World} {v : Value} {l : AL} {cs : Array Value} {ty : TypeId} {fz : Nat × Nat} (h : OwnA base w v l) (hg : w.heap[g]? = some (.cells cs ty fz)) (hty : ty ≠ 36) : v.ownBlock = none ∨ v.ownBlock ≠ some g := by
  rcases h.2 with ⟨rfl, _⟩ | ⟨g', cap, cur, rfl, _, hg', _⟩
  · exact .inl rfl
  · right
    intro e
    simp [Value.ownBlock] at e
    subst e
    rw [hg] at hg'
    simp at hg'
    exact hty hg'.2.1
theorem OwnA.put8 {base g : Nat} {w : World} {v : Value} {l : AL} (h : OwnA base w v l) (hg : v.ownBlock = none ∨ v.ownBlock ≠ some g) (v0 v1 v2 v3 v4 v5 v6 v7 : Value) :
    OwnA base ((((((((w.setCell ⟨g, 0, none⟩ v0).setCell ⟨g, 1, none⟩ v1).setCell ⟨g, 2, none⟩ v2).setCell ⟨g, 3, none⟩ v3).setCell ⟨g, 4, none⟩ v4).setCell ⟨g, 5, none⟩ v5).setCell ⟨g, 6, none⟩ v6).setCell ⟨g, 7, none⟩ v7) v l :=
  (((((((OwnA.set h hg _ _).set hg _ _).set hg _ _).set hg _ _).set hg _ _).set hg _ _).set hg _ _).set hg _ _

theorem results_own {tmps : Array Value} {W : World} {A : Nat} {v0 v1 v2 v3 v4 v5 v6 v7 : Value} {fz : Nat × Nat} (h2 : tmps[2]?.getD undef = .pointer (some ⟨A, 0, none⟩)) (h : W.heap[A]? = some (.cells #[v0, v1, v2, v3, v4, v5, v6, v7] 28 fz)) :
    (results Tryd.f33 tmps).run Tryd.prog W = .ok (.agg #[v0, v1, v2, v3, v4, v5, v6, v7]) W := by
  have c0 : W.cell? ⟨A, 0, none⟩ = some v0 := cell_at h
  have c1 : W.cell? ⟨A, 1, none⟩ = some v1 := cell_at h
  have c2 : W.cell? ⟨A, 2, none⟩ = some v2 := cell_at h
  have c3 : W.cell? ⟨A, 3, none⟩ = some v3 := cell_at h
  have c4 : W.cell? ⟨A, 4, none⟩ = some v4 := cell_at h
  have c5 : W.cell? ⟨A, 5, none⟩ = some v5 := cell_at h
  have c6 : W.cell? ⟨A, 6, none⟩ = some v6 := cell_at h
  have c7 : W.cell? ⟨A, 7, none⟩ = some v7 := cell_at h
  simp [results, Tryd.results33, go_sem, h2, c0, c1, c2, c3, c4, c5, c6, c7]
theorem frozen_at {w : World} {k i : Nat} {cs : Array Value} {ty : TypeId} (h : w.heap[k]? = some (.cells cs ty (0, 0))) : w.frozen? ⟨k, i, none⟩ = false := by
  simp [World.frozen?, h]

set_option maxRecDepth 100000 in
set_option maxHeartbeats 4000000 in
/-- **own of any token.** -/
theorem own_calls (t : T.Tok) (l : AL) (av : Value) (w : World) (hH : HasA w av l) (hl : (l.length : Int) ≤ 1000000000000) :
    Calls Tryd.prog 33 #[t.val av] w fun e w' => ∃ av', e = .returned (t.val av') ∧ OwnA w.heap.size w' av' l ∧ Below w.heap.size w w' := by
  obtain ⟨la, lc, rfl⟩ := hH.slice
  obtain ⟨kind, name, text, self, p0, p1, p2⟩ := t
  unfold T.Tok.val
  simp only
  obtain ⟨W0, hW0⟩ : ∃ W0, w.alloc (.cells #[.int .i64 kind, .string name, .string text, .slice la l.length lc, .bool self, .int .i64 p0, .int .i64 p1, .int .i64 p2] 28) = W0 := ⟨_, rfl⟩
  have hz0 : W0.heap.size = w.heap.size + 1 := by rw [← hW0]; simp
  obtain ⟨W1, hW1⟩ : ∃ W1, W0.alloc (.cells #[.int .i64 0, .string ⟨#[]⟩, .string ⟨#[]⟩, .slice none 0 0, .bool false, .int .i64 0, .int .i64 0, .int .i64 0] 28) = W1 := ⟨_, rfl⟩
  have b0 : Below w.heap.size w W0 := by rw [← hW0]; exact (Below.refl _ w).alloc (Nat.le_refl _) _
  have b1 : Below W0.heap.size W0 W1 := by rw [← hW1]; exact (Below.refl _ W0).alloc (Nat.le_refl _) _
  have hz1 : W1.heap.size = w.heap.size + 2 := by rw [← hW1]; simp; omega
  have hT0 : W1.heap[w.heap.size]? = some (.cells #[.int .i64 kind, .string name, .string text, .slice la l.length lc, .bool self, .int .i64 p0, .int .i64 p1, .int .i64 p2] 28 (0, 0)) := (b1.block w.heap.size (by omega)).trans (by rw [← hW0]; exact new_at _ _ _)
  have hT1 : W1.heap[w.heap.size + 1]? = some (.cells #[.int .i64 0, .string ⟨#[]⟩, .string ⟨#[]⟩, .slice none 0 0, .bool false, .int .i64 0, .int .i64 0, .int .i64 0] 28 (0, 0)) := by rw [← hz0, ← hW1]; exact new_at _ _ _
  have B1 : Below w.heap.size w W1 := b0.trans (b1.mono b0.size)
  have HA1 : Hid (HasA W1 (.slice la l.length lc) l) := hH.below B1
  have HB1 : Hid (Below w.heap.size w W1) := B1
  have HT0 : Hid (W1.heap[w.heap.size]? = some (.cells #[.int .i64 kind, .string name, .string text, .slice la l.length lc, .bool self, .int .i64 p0, .int .i64 p1, .int .i64 p2] 28 (0, 0))) := hT0
  have HT1 : Hid (W1.heap[w.heap.size + 1]? = some (.cells #[.int .i64 0, .string ⟨#[]⟩, .string ⟨#[]⟩, .slice none 0 0, .bool false, .int .i64 0, .int .i64 0, .int .i64 0] 28 (0, 0))) := hT1
  have t3 : W1.cell? ⟨w.heap.size, 3, none⟩ = some (.slice la l.length lc) := cell_at hT0
  clear hH hT0 hT1 b0 b1 B1
  go_enter Tryd.func33, Tryd.ntmps33
  go_wp2_with (at_builtin; refine append_attrs rfl _ _ rfl w.heap.size (.slice none 0 0) rfl (World.ownsRow_nil _ _ _ _) (.slice la l.length lc) l rfl HA1.out (by omega) (by omega) ?_; intro v2 w2 ho2 hg2; obtain ⟨a2, c2, rfl⟩ := C.owns_slice ho2; have hT2 : w2.heap[w.heap.size]? = some (.cells #[.int .i64 kind, .string name, .string text, .slice la l.length lc, .bool self, .int .i64 p0, .int .i64 p1, .int .i64 p2] 28 (0, 0)) := (hg2.block _ (by omega) (by simp [Value.ownBlock])).trans HT0.out; have hU2 : w2.heap[w.heap.size + 1]? = some (.cells #[.int .i64 0, .string ⟨#[]⟩, .string ⟨#[]⟩, .slice none 0 0, .bool false, .int .i64 0, .int .i64 0, .int .i64 0] 28 (0, 0)) := (hg2.block _ (by omega) (by simp [Value.ownBlock])).trans HT1.out; have x3 : w2.cell? ⟨w.heap.size, 3, none⟩ = some (.slice la l.length lc) := cell_at hT2; have f3 : w2.frozen? ⟨w.heap.size, 3, none⟩ = false := frozen_at hT2; obtain ⟨W3, hW3⟩ : ∃ W3, w2.setCell ⟨w.heap.size, 3, none⟩ (.slice a2 l.length c2) = W3 := ⟨_, rfl⟩; have hT3 : W3.heap[w.heap.size]? = some (.cells #[.int .i64 kind, .string name, .string text, .slice a2 l.length c2, .bool self, .int .i64 p0, .int .i64 p1, .int .i64 p2] 28 (0, 0)) := (by rw [← hW3]; simp [World.setCell, Array.getElem?_modify, hT2]); have hU3 : W3.heap[w.heap.size + 1]? = some (.cells #[.int .i64 0, .string ⟨#[]⟩, .string ⟨#[]⟩, .slice none 0 0, .bool false, .int .i64 0, .int .i64 0, .int .i64 0] 28 (0, 0)) := (by rw [← hW3]; simp [World.setCell, Array.getElem?_modify, hU2]); have B3 : Hid (Below w.heap.size w W3) := (by rw [← hW3]; exact (HB1.out.grown hg2 (by omega) (fun k e => by simp [Value.ownBlock] at e)).setCell (p := ⟨w.heap.size, 3, none⟩) (Nat.le_refl _) _); have O3 : Hid (OwnA w.heap.size W3 (.slice a2 l.length c2) l) := (by rw [← hW3]; exact OwnA.set ho2 (OwnA.apart ho2 hT2 (by decide)) _ _); have HT3 : Hid (W3.heap[w.heap.size]? = some (.cells #[.int .i64 kind, .string name, .string text, .slice a2 l.length c2, .bool self, .int .i64 p0, .int .i64 p1, .int .i64 p2] 28 (0, 0))) := hT3; have HU3 : Hid (W3.heap[w.heap.size + 1]? = some (.cells #[.int .i64 0, .string ⟨#[]⟩, .string ⟨#[]⟩, .slice none 0 0, .bool false, .int .i64 0, .int .i64 0, .int .i64 0] 28 (0, 0))) := hU3; have y0 : W3.cell? ⟨w.heap.size, 0, none⟩ = some (.int .i64 kind) := cell_at hT3; have y1 : W3.cell? ⟨w.heap.size, 1, none⟩ = some (.string name) := cell_at hT3; have y2 : W3.cell? ⟨w.heap.size, 2, none⟩ = some (.string text) := cell_at hT3; have y3 : W3.cell? ⟨w.heap.size, 3, none⟩ = some (.slice a2 l.length c2) := cell_at hT3; have y4 : W3.cell? ⟨w.heap.size, 4, none⟩ = some (.bool self) := cell_at hT3; have y5 : W3.cell? ⟨w.heap.size, 5, none⟩ = some (.int .i64 p0) := cell_at hT3; have y6 : W3.cell? ⟨w.heap.size, 6, none⟩ = some (.int .i64 p1) := cell_at hT3; have y7 : W3.cell? ⟨w.heap.size, 7, none⟩ = some (.int .i64 p2) := cell_at hT3; have e0 : W3.cell? ⟨w.heap.size + 1, 0, none⟩ = some (.int .i64 0) := cell_at hU3; have g0 : W3.frozen? ⟨w.heap.size + 1, 0, none⟩ = false := frozen_at hU3; have e1 : W3.cell? ⟨w.heap.size + 1, 1, none⟩ = some (.string ⟨#[]⟩) := cell_at hU3; have g1 : W3.frozen? ⟨w.heap.size + 1, 1, none⟩ = false := frozen_at hU3; have e2 : W3.cell? ⟨w.heap.size + 1, 2, none⟩ = some (.string ⟨#[]⟩) := cell_at hU3; have g2 : W3.frozen? ⟨w.heap.size + 1, 2, none⟩ = false := frozen_at hU3; have e3 : W3.cell? ⟨w.heap.size + 1, 3, none⟩ = some (.slice none 0 0) := cell_at hU3; have g3 : W3.frozen? ⟨w.heap.size + 1, 3, none⟩ = false := frozen_at hU3; have e4 : W3.cell? ⟨w.heap.size + 1, 4, none⟩ = some (.bool false) := cell_at hU3; have g4 : W3.frozen? ⟨w.heap.size + 1, 4, none⟩ = false := frozen_at hU3; have e5 : W3.cell? ⟨w.heap.size + 1, 5, none⟩ = some (.int .i64 0) := cell_at hU3; have g5 : W3.frozen? ⟨w.heap.size + 1, 5, none⟩ = false := frozen_at hU3; have e6 : W3.cell? ⟨w.heap.size + 1, 6, none⟩ = some (.int .i64 0) := cell_at hU3; have g6 : W3.frozen? ⟨w.heap.size + 1, 6, none⟩ = false := frozen_at hU3; have e7 : W3.cell? ⟨w.heap.size + 1, 7, none⟩ = some (.int .i64 0) := cell_at hU3; have g7 : W3.frozen? ⟨w.heap.size + 1, 7, none⟩ = false := frozen_at hU3; clear ho2 hg2 hT2 hU2 hT3 hU3)
  exact bodyPost_ret (results_own rfl (put8_at HU3.out _ _ _ _ _ _ _ _)) rfl ⟨_, rfl, OwnA.put8 O3.out (OwnA.apart O3.out HU3.out (by decide)) _ _ _ _ _ _ _ _, put8_below B3.out (by omega) _ _ _ _ _ _ _ _⟩
end Go.Proofs.YtelfejbhlolppaaDoor.T
