/- What is proved here: the contract of join of token: texts in one. -/
import Derived.Test.YtelfejbhlolppaaDoorTOwnT
import Derived.Test.YtelfejbhlolppaaDoorBun9
import Derived.Test.YtelfejbhlolppaaDoorTList
namespace Go.Proofs.YtelfejbhlolppaaDoor.T
open Go.RowKit N

theorem len_calls (B b : Nat) (l : List UInt8) (w : World) (h : Bld B b l w) : Calls Tryd.prog 49 #[.pointer (some ⟨b, 0, none⟩)] w fun e w' => e = .returned (.int .i64 l.length) ∧ w = w' :=
  (Any.Builder_Len_f Tryd.lays170 B b _ w h).mono fun e w' ⟨h1, h2⟩ => ⟨by rw [h1, Lib.byteCells_length], h2.symm⟩
theorem results_join {tmps : Array Value} {W : World} {A : Nat} {v0 v1 v2 v3 v4 v5 v6 v7 : Value} {fz : Nat × Nat} (h2 : tmps[2]?.getD undef = .pointer (some ⟨A, 0, none⟩)) (h : W.heap[A]? = some (.cells #[v0, v1, v2, v3, v4, v5, v6, v7] 28 fz)) :
    (results Tryd.f34 tmps).run Tryd.prog W = .ok (.agg #[v0, v1, v2, v3, v4, v5, v6, v7]) W := by
  have c0 : W.cell? ⟨A, 0, none⟩ = some v0 := cell_at h
  have c1 : W.cell? ⟨A, 1, none⟩ = some v1 := cell_at h
  have c2 : W.cell? ⟨A, 2, none⟩ = some v2 := cell_at h
  have c3 : W.cell? ⟨A, 3, none⟩ = some v3 := cell_at h
  have c4 : W.cell? ⟨A, 4, none⟩ = some v4 := cell_at h
  have c5 : W.cell? ⟨A, 5, none⟩ = some v5 := cell_at h
  have c6 : W.cell? ⟨A, 6, none⟩ = some v6 := cell_at h
  have c7 : W.cell? ⟨A, 7, none⟩ = some v7 := cell_at h
  simp [results, Tryd.results34, go_sem, h2, c0, c1, c2, c3, c4, c5, c6, c7]
theorem put8_other {W : World} {A k : Nat} (hk : k ≠ A) (v0 v1 v2 v3 v4 v5 v6 v7 : Value) :
    ((((((((W.setCell ⟨A, 0, none⟩ v0).setCell ⟨A, 1, none⟩ v1).setCell ⟨A, 2, none⟩ v2).setCell ⟨A, 3, none⟩ v3).setCell ⟨A, 4, none⟩ v4).setCell ⟨A, 5, none⟩ v5).setCell ⟨A, 6, none⟩ v6).setCell ⟨A, 7, none⟩ v7).heap[k]? = W.heap[k]? := by
  rw [Below.heap_setCell _ _ _ _ hk, Below.heap_setCell _ _ _ _ hk, Below.heap_setCell _ _ _ _ hk, Below.heap_setCell _ _ _ _ hk, Below.heap_setCell _ _ _ _ hk, Below.heap_setCell _ _ _ _ hk, Below.heap_setCell _ _ _ _ hk, Below.heap_setCell _ _ _ _ hk]
theorem Bld.set {B b g : Nat} {l : List UInt8} {w : World} {cs : Array Value} {ty : TypeId} {fz : Nat × Nat} (h : Bld B b l w) (hb : g ≠ b) (hg : w.heap[g]? = some (.cells cs ty fz)) (ht : ty ≠ 5) (j : Nat) (u : Value) : Bld B b l (w.setCell ⟨g, j, none⟩ u) := by
  have key : ∀ v, w.ownsRowF B 5 1 v (Lib.byteCells l).length (Lib.byteCells l) → (w.setCell ⟨g, j, none⟩ u).ownsRowF B 5 1 v (Lib.byteCells l).length (Lib.byteCells l) := fun v hown =>
    hown.kept (grown_set w g j u) (.inr (fun e => by
      rcases hown.2 with ⟨rfl, _⟩ | ⟨g', cap, cur, fz', rfl, _, hg', _⟩
      · simp [Value.ownBlock] at e
      · simp [Value.ownBlock] at e
        subst e
        rw [hg] at hg'
        simp at hg'
        exact ht hg'.2.1))
  rcases h with h | h
  · obtain ⟨hB, v, hk, hown, hne⟩ := h
    exact .inl ⟨hB, v, (Below.heap_setCell _ _ _ _ (Ne.symm hb)).trans hk, key v hown, hne⟩
  · obtain ⟨hB, v, hk, hown, hne⟩ := h
    exact .inr ⟨hB, v, (Below.heap_setCell _ _ _ _ (Ne.symm hb)).trans hk, key v hown, hne⟩
theorem cells_set {w : World} {g j : Nat} {u : Value} {cs : Array Value} {ty : TypeId} {fz : Nat × Nat} (h : w.heap[g]? = some (.cells cs ty fz)) : ∃ cs', (w.setCell ⟨g, j, none⟩ u).heap[g]? = some (.cells cs' ty fz) := by
  refine ⟨cs.setIfInBounds j u, ?_⟩
  simp [World.setCell, Array.getElem?_modify, h]
theorem Bld.put8 {B b g : Nat} {l : List UInt8} {w : World} {cs : Array Value} {ty : TypeId} {fz : Nat × Nat} (h : Bld B b l w) (hb : g ≠ b) (hg : w.heap[g]? = some (.cells cs ty fz)) (ht : ty ≠ 5) (v0 v1 v2 v3 v4 v5 v6 v7 : Value) :
    Bld B b l ((((((((w.setCell ⟨g, 0, none⟩ v0).setCell ⟨g, 1, none⟩ v1).setCell ⟨g, 2, none⟩ v2).setCell ⟨g, 3, none⟩ v3).setCell ⟨g, 4, none⟩ v4).setCell ⟨g, 5, none⟩ v5).setCell ⟨g, 6, none⟩ v6).setCell ⟨g, 7, none⟩ v7) := by
  have h0 := h.set hb hg ht 0 v0
  obtain ⟨c0, e0⟩ := cells_set (j := 0) (u := v0) hg
  have h1 := h0.set hb e0 ht 1 v1
  obtain ⟨c1, e1⟩ := cells_set (j := 1) (u := v1) e0
  have h2 := h1.set hb e1 ht 2 v2
  obtain ⟨c2, e2⟩ := cells_set (j := 2) (u := v2) e1
  have h3 := h2.set hb e2 ht 3 v3
  obtain ⟨c3, e3⟩ := cells_set (j := 3) (u := v3) e2
  have h4 := h3.set hb e3 ht 4 v4
  obtain ⟨c4, e4⟩ := cells_set (j := 4) (u := v4) e3
  have h5 := h4.set hb e4 ht 5 v5
  obtain ⟨c5, e5⟩ := cells_set (j := 5) (u := v5) e4
  have h6 := h5.set hb e5 ht 6 v6
  obtain ⟨c6, e6⟩ := cells_set (j := 6) (u := v6) e5
  exact h6.set hb e6 ht 7 v7

theorem acc_len (R : TL) (k : Nat) : (joinAcc (R.take k)).2.length ≤ bulkL (R.take k) := by
  refine snoc_ind (P := fun R => (joinAcc R).2.length ≤ bulkL R) (by simp [joinAcc, bulkL]) (fun R x ih => ?_) (R.take k)
  rw [joinAcc_snoc]
  unfold joinStep bulkL at *
  simp only [List.map_append, List.sum_append, List.map_cons, List.map_nil, List.sum_cons, List.sum_nil, List.length_append]
  unfold bulkT at *
  rw [size_data]
  omega
theorem join_attrs (R : TL) : (joinAcc R).1.2.length ≤ bulkL R := by
  refine snoc_ind (P := fun R => (joinAcc R).1.2.length ≤ bulkL R) (by simp [joinAcc, bulkL, zeroT]) (fun R x ih => ?_) R
  rw [joinAcc_snoc]
  unfold joinStep bulkL at *
  simp only [List.map_append, List.sum_append, List.map_cons, List.map_nil, List.sum_cons, List.sum_nil]
  unfold bulkT at *
  split
  · omega
  · omega
/-- What join knows between its rounds. -/
structure JoinSt (w wr : World) (acc : (T.Tok × AL) × List UInt8) : Prop where
  bld : Bld w.heap.size (w.heap.size + 2) acc.2 wr
  bel : Below w.heap.size w wr
  res : wr.heap[w.heap.size]? = some (.cells #[.int .i64 0, .string ⟨#[]⟩, .string ⟨#[]⟩, .slice none 0 0, .bool false, .int .i64 0, .int .i64 0, .int .i64 0] 28 (0, 0))
  fst : ∃ av, HasA w av acc.1.2 ∧ wr.heap[w.heap.size + 1]? = some (.cells #[.int .i64 acc.1.1.kind, .string acc.1.1.name, .string acc.1.1.text, av, .bool acc.1.1.self, .int .i64 acc.1.1.p0, .int .i64 acc.1.1.p1, .int .i64 acc.1.1.p2] 28 (0, 0))
  sz : w.heap.size + 3 ≤ wr.heap.size

set_option maxRecDepth 100000 in
set_option maxHeartbeats 4000000 in
/-- **join of any tokens.** -/
theorem join_calls (R : TL) (v : Value) (w : World) (hH : HasT w v R) (hbk : bulkL R ≤ 1048576) :
    Calls Tryd.prog 34 #[v] w fun e w' => ∃ av', e = .returned ((joined R).1.val av') ∧ OwnA w.heap.size w' av' (joined R).2 ∧ Below w.heap.size w w' := by
  obtain ⟨va, vc, rfl⟩ := hH.slice
  have HS : Hid (HasT w (.slice va R.length vc) R) := hH
  have hLn := bulkL_len R
  have hll : (R.length : Int) ≤ 1048576 := by omega
  clear hH
  obtain ⟨W0, hW0⟩ : ∃ W0, w.alloc (.cells #[.int .i64 0, .string ⟨#[]⟩, .string ⟨#[]⟩, .slice none 0 0, .bool false, .int .i64 0, .int .i64 0, .int .i64 0] 28) = W0 := ⟨_, rfl⟩
  have hz0 : W0.heap.size = w.heap.size + 1 := by rw [← hW0]; simp
  obtain ⟨W1, hW1⟩ : ∃ W1, W0.alloc (.cells #[.int .i64 0, .string ⟨#[]⟩, .string ⟨#[]⟩, .slice none 0 0, .bool false, .int .i64 0, .int .i64 0, .int .i64 0] 28) = W1 := ⟨_, rfl⟩
  have hz1 : W1.heap.size = w.heap.size + 2 := by rw [← hW1]; simp; omega
  obtain ⟨W2, hW2⟩ : ∃ W2, W1.alloc (.cells #[.pointer none, .slice none 0 0] 62) = W2 := ⟨_, rfl⟩
  have hz2 : W2.heap.size = w.heap.size + 3 := by rw [← hW2]; simp; omega
  have b0 : Below w.heap.size w W0 := by rw [← hW0]; exact (Below.refl _ w).alloc (Nat.le_refl _) _
  have b1 : Below W0.heap.size W0 W1 := by rw [← hW1]; exact (Below.refl _ W0).alloc (Nat.le_refl _) _
  have b2 : Below W1.heap.size W1 W2 := by rw [← hW2]; exact (Below.refl _ W1).alloc (Nat.le_refl _) _
  have hst0 : JoinSt w W2 (joinAcc (R.take 0)) := by
    refine ⟨?_, (b0.trans (b1.mono b0.size)).trans (b2.mono (by omega)), ?_, ⟨.slice none 0 0, .inl ⟨rfl, .inl rfl⟩, ?_⟩, by omega⟩
    · have h := Bld.new W1
      rw [hW2, hz1] at h
      rcases h with ⟨hB, x⟩ | ⟨hB, x⟩
      · obtain ⟨v', hk, hown, hne⟩ := x
        exact .inl ⟨by omega, v', hk, ⟨hown.1, hown.2.imp id (fun ⟨g, cap, cur, fz, e1, e2, e3⟩ => ⟨g, cap, cur, fz, e1, by omega, e3⟩)⟩, hne⟩
      · obtain ⟨v', hk, hown, hne⟩ := x
        exact .inr ⟨by omega, v', hk, ⟨hown.1, hown.2.imp id (fun ⟨g, cap, cur, fz, e1, e2, e3⟩ => ⟨g, cap, cur, fz, e1, by omega, e3⟩)⟩, hne⟩
    · rw [b2.block _ (by omega), b1.block _ (by omega), ← hW0]; exact new_at _ _ _
    · rw [b2.block _ (by omega), ← hW1, ← hz0]; exact new_at _ _ _
  have HST0 : Hid (JoinSt w W2 (joinAcc (R.take 0))) := hst0
  clear hst0 b0 b1 b2
  go_enter Tryd.func34, Tryd.ntmps34
  go_wp2
  go_loopw [6, 9] (fun _ i wr => ∃ k : Nat, k ≤ R.length ∧ i = .int .i64 k ∧ Hid (JoinSt w wr (joinAcc (R.take k)))) (fun _ i _ => R.length - (intOf i).toNat)
  case atStart => exact ⟨0, by omega, rfl, HST0⟩
  case round =>
    obtain ⟨k, hk, rfl, hst⟩ := hrel
    obtain ⟨hbl, hbe, hre, ⟨fv, hfA, hfi⟩, hsz⟩ := hst.out
    have hal := acc_len R k
    have hbt0 := bulkL_take R k
    by_cases hlt : k < R.length
    · obtain ⟨tb, off, rfl, av, d0, d1, d2, d3, d4, d5, d6, d7, hA⟩ := HS.out.at k hlt
      have hbs := bulkL_succ R k hlt
      have hbk2 := bulkL_take R (k + 1)
      have hac := joinAcc_succ R k hlt
      rcases hx : R[k] with ⟨t, l⟩
      rw [hx] at d0 d1 d2 d4 d5 d6 d7 hA hbs hac
      simp only at d0 d1 d2 d4 d5 d6 d7 hA hbs
      clear hx
      obtain ⟨aa, ac, rfl⟩ := hA.slice
      unfold bulkT at hbs
      simp only at hbs
      have HA : Hid (HasA w (.slice aa l.length ac) l) := hA
      have e0 := (hbe.cell (p := ⟨tb, off + k * 8, none⟩) (C.cell_lt d0)).trans d0
      have e1 := (hbe.cell (p := ⟨tb, off + k * 8 + 1, none⟩) (C.cell_lt d1)).trans d1
      have e2 := (hbe.cell (p := ⟨tb, off + k * 8 + 2, none⟩) (C.cell_lt d2)).trans d2
      have e3 := (hbe.cell (p := ⟨tb, off + k * 8 + 3, none⟩) (C.cell_lt d3)).trans d3
      have e4 := (hbe.cell (p := ⟨tb, off + k * 8 + 4, none⟩) (C.cell_lt d4)).trans d4
      have e5 := (hbe.cell (p := ⟨tb, off + k * 8 + 5, none⟩) (C.cell_lt d5)).trans d5
      have e6 := (hbe.cell (p := ⟨tb, off + k * 8 + 6, none⟩) (C.cell_lt d6)).trans d6
      have e7 := (hbe.cell (p := ⟨tb, off + k * 8 + 7, none⟩) (C.cell_lt d7)).trans d7
      clear d0 d1 d2 d3 d4 d5 d6 d7 hA
      obtain ⟨acc, hacc⟩ : ∃ acc, joinAcc (R.take k) = acc := ⟨_, rfl⟩
      rw [hacc] at hbl hfA hfi hal hac
      obtain ⟨⟨ft, fl⟩, bs⟩ := acc
      simp only at hbl hfA hfi hal
      clear hacc hst
      obtain ⟨fa, fc, rfl⟩ := hfA.slice
      obtain ⟨W3, hW3⟩ : ∃ W3, wr.alloc (.cells #[.int .i64 t.kind, .string t.name, .string t.text, .slice aa l.length ac, .bool t.self, .int .i64 t.p0, .int .i64 t.p1, .int .i64 t.p2] 28) = W3 := ⟨_, rfl⟩
      have hT3 : W3.heap[wr.heap.size]? = some (.cells #[.int .i64 t.kind, .string t.name, .string t.text, .slice aa l.length ac, .bool t.self, .int .i64 t.p0, .int .i64 t.p1, .int .i64 t.p2] 28 (0, 0)) := by rw [← hW3]; exact new_at _ _ _
      have b3 : Below wr.heap.size wr W3 := by rw [← hW3]; exact (Below.refl _ wr).alloc (Nat.le_refl _) _
      have hz3 := b3.size
      have hlt3 : wr.heap.size < W3.heap.size := by rw [← hW3]; simp
      have hbl3 : Bld w.heap.size (w.heap.size + 2) bs W3 := hbl.below b3
      have hbe3 : Below w.heap.size w W3 := hbe.trans (b3.mono (by omega))
      have hre3 := (b3.block w.heap.size (by omega)).trans hre
      have hfi3 := (b3.block (w.heap.size + 1) (by omega)).trans hfi
      have HBL3 : Hid (Bld w.heap.size (w.heap.size + 2) bs W3) := hbl3
      have y2 : W3.cell? ⟨wr.heap.size, 2, none⟩ = some (.string t.text) := cell_at hT3
      have HAC : Hid (joinAcc (R.take (k + 1)) = joinStep ((ft, fl), bs) (t, l)) := hac
      clear hbl hbl3 b3 hac hfi hre
      by_cases hb0 : bs = []
      · subst hb0
        have y0 : W3.cell? ⟨wr.heap.size, 0, none⟩ = some (.int .i64 t.kind) := cell_at hT3
        have y1 : W3.cell? ⟨wr.heap.size, 1, none⟩ = some (.string t.name) := cell_at hT3
        have y3 : W3.cell? ⟨wr.heap.size, 3, none⟩ = some (.slice aa l.length ac) := cell_at hT3
        have y4 : W3.cell? ⟨wr.heap.size, 4, none⟩ = some (.bool t.self) := cell_at hT3
        have y5 : W3.cell? ⟨wr.heap.size, 5, none⟩ = some (.int .i64 t.p0) := cell_at hT3
        have y6 : W3.cell? ⟨wr.heap.size, 6, none⟩ = some (.int .i64 t.p1) := cell_at hT3
        have y7 : W3.cell? ⟨wr.heap.size, 7, none⟩ = some (.int .i64 t.p2) := cell_at hT3
        have c0 : W3.cell? ⟨w.heap.size + 1, 0, none⟩ = some (.int .i64 ft.kind) := cell_at hfi3
        have c1 : W3.cell? ⟨w.heap.size + 1, 1, none⟩ = some (.string ft.name) := cell_at hfi3
        have c2 : W3.cell? ⟨w.heap.size + 1, 2, none⟩ = some (.string ft.text) := cell_at hfi3
        have c3 : W3.cell? ⟨w.heap.size + 1, 3, none⟩ = some (.slice fa fl.length fc) := cell_at hfi3
        have c4 : W3.cell? ⟨w.heap.size + 1, 4, none⟩ = some (.bool ft.self) := cell_at hfi3
        have c5 : W3.cell? ⟨w.heap.size + 1, 5, none⟩ = some (.int .i64 ft.p0) := cell_at hfi3
        have c6 : W3.cell? ⟨w.heap.size + 1, 6, none⟩ = some (.int .i64 ft.p1) := cell_at hfi3
        have c7 : W3.cell? ⟨w.heap.size + 1, 7, none⟩ = some (.int .i64 ft.p2) := cell_at hfi3
        have g0 : W3.frozen? ⟨w.heap.size + 1, 0, none⟩ = false := frozen_at hfi3
        have g1 : W3.frozen? ⟨w.heap.size + 1, 1, none⟩ = false := frozen_at hfi3
        have g2 : W3.frozen? ⟨w.heap.size + 1, 2, none⟩ = false := frozen_at hfi3
        have g3 : W3.frozen? ⟨w.heap.size + 1, 3, none⟩ = false := frozen_at hfi3
        have g4 : W3.frozen? ⟨w.heap.size + 1, 4, none⟩ = false := frozen_at hfi3
        have g5 : W3.frozen? ⟨w.heap.size + 1, 5, none⟩ = false := frozen_at hfi3
        have g6 : W3.frozen? ⟨w.heap.size + 1, 6, none⟩ = false := frozen_at hfi3
        have g7 : W3.frozen? ⟨w.heap.size + 1, 7, none⟩ = false := frozen_at hfi3
        have hne : wr.heap.size ≠ w.heap.size + 1 := by omega
        obtain ⟨W4, hW4⟩ : ∃ W4, ((((((((W3.setCell ⟨w.heap.size + 1, 0, none⟩ (.int .i64 t.kind)).setCell ⟨w.heap.size + 1, 1, none⟩ (.string t.name)).setCell ⟨w.heap.size + 1, 2, none⟩ (.string t.text)).setCell ⟨w.heap.size + 1, 3, none⟩ (.slice aa l.length ac)).setCell ⟨w.heap.size + 1, 4, none⟩ (.bool t.self)).setCell ⟨w.heap.size + 1, 5, none⟩ (.int .i64 t.p0)).setCell ⟨w.heap.size + 1, 6, none⟩ (.int .i64 t.p1)).setCell ⟨w.heap.size + 1, 7, none⟩ (.int .i64 t.p2)) = W4 := ⟨_, rfl⟩
        have hF4 : W4.heap[w.heap.size + 1]? = some (.cells #[.int .i64 t.kind, .string t.name, .string t.text, .slice aa l.length ac, .bool t.self, .int .i64 t.p0, .int .i64 t.p1, .int .i64 t.p2] 28 (0, 0)) := by rw [← hW4]; exact put8_at hfi3 _ _ _ _ _ _ _ _
        have hR4 : W4.heap[w.heap.size]? = W3.heap[w.heap.size]? := by rw [← hW4]; exact put8_other (by omega) _ _ _ _ _ _ _ _
        have hT4 : W4.heap[wr.heap.size]? = W3.heap[wr.heap.size]? := by rw [← hW4]; exact put8_other hne _ _ _ _ _ _ _ _
        have hB4 : Bld w.heap.size (w.heap.size + 2) [] W4 := by rw [← hW4]; exact HBL3.out.put8 (by omega) hfi3 (by decide) _ _ _ _ _ _ _ _
        have hbe4 : Below w.heap.size w W4 := by rw [← hW4]; exact put8_below hbe3 (by omega) _ _ _ _ _ _ _ _
        have z2 : W4.cell? ⟨wr.heap.size, 2, none⟩ = some (.string t.text) := cell_at (hT4.trans hT3)
        have hz4 : W4.heap.size = W3.heap.size := by rw [← hW4]; simp [World.setCell]
        have WC : Hid (Calls Tryd.prog 50 #[.pointer (some ⟨w.heap.size + 2, 0, none⟩), .string t.text] W4 fun e w' => (∃ v, e = .returned v) ∧ Bld w.heap.size (w.heap.size + 2) ([] ++ t.text.data.toList) w' ∧ Below w.heap.size W4 w' ∧ Kept (w.heap.size + 2) W4 w') := writeString_calls _ _ [] t.text W4 hB4 (by simp; omega) (by omega)
        have HW4 : Hid (Below w.heap.size w W4 ∧ W4.heap[w.heap.size + 1]? = some (.cells #[.int .i64 t.kind, .string t.name, .string t.text, .slice aa l.length ac, .bool t.self, .int .i64 t.p0, .int .i64 t.p1, .int .i64 t.p2] 28 (0, 0)) ∧ W4.heap[w.heap.size]? = some (.cells #[.int .i64 0, .string ⟨#[]⟩, .string ⟨#[]⟩, .slice none 0 0, .bool false, .int .i64 0, .int .i64 0, .int .i64 0] 28 (0, 0))) := ⟨hbe4, hF4, hR4.trans hre3⟩
        clear hF4 hR4 hT4 hB4 hbe4
        go_wp2_with (first
          | (go_at_call 49; refine (len_calls _ _ _ _ HBL3.out).mono ?_; rintro e w' ⟨rfl, rfl⟩)
          | (go_at_call 50; refine WC.out.mono ?_; rintro e w5 ⟨⟨v5, rfl⟩, h5, b5, k5⟩))
        have HST : Hid (JoinSt w w5 (joinAcc (R.take (k + 1)))) := by
          rw [HAC.out]
          obtain ⟨q1, q2, q3⟩ := HW4.out
          exact ⟨by simpa [joinStep] using h5, q1.trans b5, k5.block q3 (by omega) (by decide), ⟨_, HA.out, by simpa [joinStep] using k5.block q2 (by omega) (by decide)⟩, by have := b5.size; omega⟩
        clear h5 b5 k5
        all_goals first
          | exact ⟨⟨k + 1, by omega, by go_num, HST⟩, by simp [intOf]; omega⟩
          | (go_roundw
             case rel => exact ⟨k + 1, by omega, by go_num, HST⟩
             case measure => simp [intOf]; omega)
      · have hbn : ((bs.length : Int) == 0) = false := by
          have : bs.length ≠ 0 := fun h => hb0 (List.length_eq_zero_iff.1 h)
          simp; omega
        have WC : Hid (Calls Tryd.prog 50 #[.pointer (some ⟨w.heap.size + 2, 0, none⟩), .string t.text] W3 fun e w' => (∃ v, e = .returned v) ∧ Bld w.heap.size (w.heap.size + 2) (bs ++ t.text.data.toList) w' ∧ Below w.heap.size W3 w' ∧ Kept (w.heap.size + 2) W3 w') := writeString_calls _ _ bs t.text W3 HBL3.out (by omega) (by omega)
        have HFA : Hid (HasA w (.slice fa fl.length fc) fl) := hfA
        have HW3 : Hid (Below w.heap.size w W3 ∧ W3.heap[w.heap.size + 1]? = some (.cells #[.int .i64 ft.kind, .string ft.name, .string ft.text, .slice fa fl.length fc, .bool ft.self, .int .i64 ft.p0, .int .i64 ft.p1, .int .i64 ft.p2] 28 (0, 0)) ∧ W3.heap[w.heap.size]? = some (.cells #[.int .i64 0, .string ⟨#[]⟩, .string ⟨#[]⟩, .slice none 0 0, .bool false, .int .i64 0, .int .i64 0, .int .i64 0] 28 (0, 0))) := ⟨hbe3, hfi3, hre3⟩
        have HBN : Hid (bs ≠ []) := hb0
        clear hb0 hfi3 hre3 hbe3
        go_wp2_with (first
          | (go_at_call 49; refine (len_calls _ _ _ _ HBL3.out).mono ?_; rintro e w' ⟨rfl, rfl⟩)
          | (go_at_call 50; refine WC.out.mono ?_; rintro e w5 ⟨⟨v5, rfl⟩, h5, b5, k5⟩))
        have HST : Hid (JoinSt w w5 (joinAcc (R.take (k + 1)))) := by
          rw [HAC.out]
          obtain ⟨q1, q2, q3⟩ := HW3.out
          have hbn' := HBN.out
          exact ⟨by simpa [joinStep, hbn'] using h5, q1.trans b5, k5.block q3 (by omega) (by decide), ⟨_, by simpa [joinStep, hbn'] using HFA.out, by simpa [joinStep, hbn'] using k5.block q2 (by omega) (by decide)⟩, by have := b5.size; omega⟩
        clear h5 b5 k5
        all_goals first
          | exact ⟨⟨k + 1, by omega, by go_num, HST⟩, by simp [intOf]; omega⟩
          | (go_roundw
             case rel => exact ⟨k + 1, by omega, by go_num, HST⟩
             case measure => simp [intOf]; omega)
    · obtain rfl : k = R.length := by omega
      rw [List.take_length] at hbl hfA hfi hal
      obtain ⟨acc, hacc⟩ : ∃ acc, joinAcc R = acc := ⟨_, rfl⟩
      rw [hacc] at hbl hfA hfi hal
      obtain ⟨⟨ft, fl⟩, bs⟩ := acc
      simp only at hbl hfA hfi hal
      have HJ : Hid (joined R = ({ ft with text := ⟨bs.toArray⟩ }, fl)) := by show _ = _; unfold joined; rw [hacc]
      obtain ⟨fa, fc, rfl⟩ := hfA.slice
      have hflen : (fl.length : Int) ≤ 1000000000000 := by
        have h1 : fl.length ≤ 1048576 := by
          have h2 := join_attrs R
          rw [hacc] at h2
          simp only at h2
          omega
        omega
      have HB : Hid (Bld w.heap.size (w.heap.size + 2) bs wr) := hbl
      have HW : Hid (Below w.heap.size w wr ∧ wr.heap[w.heap.size + 1]? = some (.cells #[.int .i64 ft.kind, .string ft.name, .string ft.text, .slice fa fl.length fc, .bool ft.self, .int .i64 ft.p0, .int .i64 ft.p1, .int .i64 ft.p2] 28 (0, 0)) ∧ wr.heap[w.heap.size]? = some (.cells #[.int .i64 0, .string ⟨#[]⟩, .string ⟨#[]⟩, .slice none 0 0, .bool false, .int .i64 0, .int .i64 0, .int .i64 0] 28 (0, 0))) := ⟨hbe, hfi, hre⟩
      have HFA : Hid (HasA w (.slice fa fl.length fc) fl) := hfA
      clear hst hbl hbe hre hfi hfA hacc hal
      go_wp2_with fail
      refine (string_calls w.heap.size (w.heap.size + 2) bs wr HB.out (by omega)).mono ?_
      rintro e w4 ⟨rfl, h4, b4, k4⟩
      obtain ⟨q1, q2, q3⟩ := HW.out
      have hbe4 := q1.trans b4
      have hF4 := k4.block q2 (by omega) (by decide)
      have hR4 := k4.block q3 (by omega) (by decide)
      have hz4 := b4.size
      have c2 : w4.cell? ⟨w.heap.size + 1, 2, none⟩ = some (.string ft.text) := cell_at hF4
      have g2 : w4.frozen? ⟨w.heap.size + 1, 2, none⟩ = false := frozen_at hF4
      obtain ⟨W5, hW5⟩ : ∃ W5, w4.setCell ⟨w.heap.size + 1, 2, none⟩ (.string ⟨bs.toArray⟩) = W5 := ⟨_, rfl⟩
      have hF5 : W5.heap[w.heap.size + 1]? = some (.cells #[.int .i64 ft.kind, .string ft.name, .string ⟨bs.toArray⟩, .slice fa fl.length fc, .bool ft.self, .int .i64 ft.p0, .int .i64 ft.p1, .int .i64 ft.p2] 28 (0, 0)) := by rw [← hW5]; simp [World.setCell, Array.getElem?_modify, hF4]
      have hR5 : W5.heap[w.heap.size]? = some (.cells #[.int .i64 0, .string ⟨#[]⟩, .string ⟨#[]⟩, .slice none 0 0, .bool false, .int .i64 0, .int .i64 0, .int .i64 0] 28 (0, 0)) := by rw [← hW5, Below.heap_setCell _ _ _ _ (show w.heap.size ≠ w.heap.size + 1 by omega)]; exact hR4
      have hz5 : W5.heap.size = w4.heap.size := by rw [← hW5]; simp [World.setCell]
      have hbe5 : Below w.heap.size w W5 := by rw [← hW5]; exact hbe4.setCell (p := ⟨w.heap.size + 1, 2, none⟩) (by show _ ≤ w.heap.size + 1; omega) _
      have y0 : W5.cell? ⟨w.heap.size + 1, 0, none⟩ = some (.int .i64 ft.kind) := cell_at hF5
      have y1 : W5.cell? ⟨w.heap.size + 1, 1, none⟩ = some (.string ft.name) := cell_at hF5
      have y2 : W5.cell? ⟨w.heap.size + 1, 2, none⟩ = some (.string ⟨bs.toArray⟩) := cell_at hF5
      have y3 : W5.cell? ⟨w.heap.size + 1, 3, none⟩ = some (.slice fa fl.length fc) := cell_at hF5
      have y4 : W5.cell? ⟨w.heap.size + 1, 4, none⟩ = some (.bool ft.self) := cell_at hF5
      have y5 : W5.cell? ⟨w.heap.size + 1, 5, none⟩ = some (.int .i64 ft.p0) := cell_at hF5
      have y6 : W5.cell? ⟨w.heap.size + 1, 6, none⟩ = some (.int .i64 ft.p1) := cell_at hF5
      have y7 : W5.cell? ⟨w.heap.size + 1, 7, none⟩ = some (.int .i64 ft.p2) := cell_at hF5
      have OC : Hid (Calls Tryd.prog 33 #[.agg #[.int .i64 ft.kind, .string ft.name, .string ⟨bs.toArray⟩, .slice fa fl.length fc, .bool ft.self, .int .i64 ft.p0, .int .i64 ft.p1, .int .i64 ft.p2]] W5 fun e w' => ∃ av', e = .returned (T.Tok.val { ft with text := ⟨bs.toArray⟩ } av') ∧ OwnA W5.heap.size w' av' fl ∧ Below W5.heap.size W5 w') := own_calls { ft with text := ⟨bs.toArray⟩ } fl _ W5 (HFA.out.below hbe5) hflen
      have HB5 : Hid (Below w.heap.size w W5) := hbe5
      have HR5 : Hid (W5.heap[w.heap.size]? = some (.cells #[.int .i64 0, .string ⟨#[]⟩, .string ⟨#[]⟩, .slice none 0 0, .bool false, .int .i64 0, .int .i64 0, .int .i64 0] 28 (0, 0))) := hR5
      clear h4 b4 k4 q1 q2 q3 hbe4 hF4 hR4 hF5 hR5 hbe5
      go_wp2_with fail
      refine OC.out.mono ?_
      rintro e w6 ⟨av6, rfl, ho6, hb6⟩
      obtain ⟨a6, c6, rfl⟩ := C.owns_slice ho6
      have hR6 := (hb6.block w.heap.size (by omega)).trans HR5.out
      have HB6 : Hid (Below w.heap.size w w6) := HB5.out.trans (hb6.mono HB5.out.size)
      have HO6 : Hid (OwnA w.heap.size w6 (.slice a6 fl.length c6) fl) := C.owns_mono ho6 (by omega)
      have HR6 : Hid (w6.heap[w.heap.size]? = some (.cells #[.int .i64 0, .string ⟨#[]⟩, .string ⟨#[]⟩, .slice none 0 0, .bool false, .int .i64 0, .int .i64 0, .int .i64 0] 28 (0, 0))) := hR6
      have x0 : w6.cell? ⟨w.heap.size, 0, none⟩ = some (.int .i64 0) := cell_at hR6
      have x1 : w6.cell? ⟨w.heap.size, 1, none⟩ = some (.string ⟨#[]⟩) := cell_at hR6
      have x2 : w6.cell? ⟨w.heap.size, 2, none⟩ = some (.string ⟨#[]⟩) := cell_at hR6
      have x3 : w6.cell? ⟨w.heap.size, 3, none⟩ = some (.slice none 0 0) := cell_at hR6
      have x4 : w6.cell? ⟨w.heap.size, 4, none⟩ = some (.bool false) := cell_at hR6
      have x5 : w6.cell? ⟨w.heap.size, 5, none⟩ = some (.int .i64 0) := cell_at hR6
      have x6 : w6.cell? ⟨w.heap.size, 6, none⟩ = some (.int .i64 0) := cell_at hR6
      have x7 : w6.cell? ⟨w.heap.size, 7, none⟩ = some (.int .i64 0) := cell_at hR6
      have f0 : w6.frozen? ⟨w.heap.size, 0, none⟩ = false := frozen_at hR6
      have f1 : w6.frozen? ⟨w.heap.size, 1, none⟩ = false := frozen_at hR6
      have f2 : w6.frozen? ⟨w.heap.size, 2, none⟩ = false := frozen_at hR6
      have f3 : w6.frozen? ⟨w.heap.size, 3, none⟩ = false := frozen_at hR6
      have f4 : w6.frozen? ⟨w.heap.size, 4, none⟩ = false := frozen_at hR6
      have f5 : w6.frozen? ⟨w.heap.size, 5, none⟩ = false := frozen_at hR6
      have f6 : w6.frozen? ⟨w.heap.size, 6, none⟩ = false := frozen_at hR6
      have f7 : w6.frozen? ⟨w.heap.size, 7, none⟩ = false := frozen_at hR6
      unfold T.Tok.val
      simp only
      clear ho6 hb6 hR6 y0 y1 y2 y3 y4 y5 y6 y7
      go_wp2
      exact bodyPost_ret (results_join rfl (put8_at HR6.out _ _ _ _ _ _ _ _)) rfl ⟨.slice a6 fl.length c6, by rw [HJ.out]; rfl, by rw [HJ.out]; exact OwnA.put8 HO6.out (OwnA.apart HO6.out HR6.out (by decide)) _ _ _ _ _ _ _ _, put8_below HB6.out (Nat.le_refl _) _ _ _ _ _ _ _ _⟩
end Go.Proofs.YtelfejbhlolppaaDoor.T
