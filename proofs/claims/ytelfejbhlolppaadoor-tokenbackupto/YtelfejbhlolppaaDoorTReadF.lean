/- What is proved here: the contract of read of token: a reader that gives up is caught. -/
import Derived.Defers
import Derived.Recover
import Derived.Laws.Pointers
import Derived.Test.YtelfejbhlolppaaDoorTTok
namespace Go.Proofs.YtelfejbhlolppaaDoor.T
open Go.RowKit N

theorem put8_far {W : World} {A k : Nat} (hk : k ≠ A) (v0 v1 v2 v3 v4 v5 v6 v7 : Value) :
    ((((((((W.setCell ⟨A, 0, none⟩ v0).setCell ⟨A, 1, none⟩ v1).setCell ⟨A, 2, none⟩ v2).setCell ⟨A, 3, none⟩ v3).setCell ⟨A, 4, none⟩ v4).setCell ⟨A, 5, none⟩ v5).setCell ⟨A, 6, none⟩ v6).setCell ⟨A, 7, none⟩ v7).heap[k]? = W.heap[k]? := by
  have go : ∀ (X : World) (j : Nat) (u : Value), (X.setCell ⟨A, j, none⟩ u).heap[k]? = X.heap[k]? := fun X j u => Below.heap_setCell _ _ _ k (fun e => hk e)
  rw [go, go, go, go, go, go, go, go]
theorem catch_idle (p q : Addr) (w : World) :
    CallsD Tryd.prog 54 #[.pointer (some p), .pointer (some q)] .returning w fun e u' w' => e = .returned (.tuple #[]) ∧ u' = .returning ∧ w' = w := by
  refine callsD_of_wpS Tryd.func54 rfl fun c₀ cs hu => ?_
  apply wpS_seq
  apply wpS_region
  simp [wpOpsS, go_sem, recoverD, hu, Tryd.ntmps54, Exit.thenS]
  refine wpS_cond (t := false) (by simp [Act.eval, Array.replicate]) ?_
  simp only [Bool.false_eq_true, if_false]
  refine wpS_of_wp (wp_skip ?_)
  cases c₀
  simp_all [bodyPostS, results, Tryd.results54]
theorem catch_panicking (A B : Nat) (u : TypeId) (pv : Value) (older : List PanicEntry) (w : World) (x0 x1 x2 x3 x4 x5 x6 x7 y : Value)
    (hA : w.heap[A]? = some (.cells #[x0, x1, x2, x3, x4, x5, x6, x7] 28 (0, 0))) (hB : w.heap[B]? = some (.cells #[y] 29 (0, 0))) (hne : A ≠ B) :
    CallsD Tryd.prog 54 #[.pointer (some ⟨A, 0, none⟩), .pointer (some ⟨B, 0, none⟩)] (.panicking ({ v := .iface u pv, recovered := false } :: older)) w fun e u' w' =>
      e = .returned (.tuple #[]) ∧ u' = .panicking ({ v := .iface u pv, recovered := true } :: older) ∧ w' = (((((((((w.setCell ⟨A, 0, none⟩ (.int .i64 0)).setCell ⟨A, 1, none⟩ (.string ⟨#[]⟩)).setCell ⟨A, 2, none⟩ (.string ⟨#[]⟩)).setCell ⟨A, 3, none⟩ (.slice none 0 0)).setCell ⟨A, 4, none⟩ (.bool false)).setCell ⟨A, 5, none⟩ (.int .i64 0)).setCell ⟨A, 6, none⟩ (.int .i64 0)).setCell ⟨A, 7, none⟩ (.int .i64 0)).setCell ⟨B, 0, none⟩ (.int .i64 70)) := by
  have c0 : w.cell? ⟨A, 0, none⟩ = some x0 := cell_at hA
  have c1 : w.cell? ⟨A, 1, none⟩ = some x1 := cell_at hA
  have c2 : w.cell? ⟨A, 2, none⟩ = some x2 := cell_at hA
  have c3 : w.cell? ⟨A, 3, none⟩ = some x3 := cell_at hA
  have c4 : w.cell? ⟨A, 4, none⟩ = some x4 := cell_at hA
  have c5 : w.cell? ⟨A, 5, none⟩ = some x5 := cell_at hA
  have c6 : w.cell? ⟨A, 6, none⟩ = some x6 := cell_at hA
  have c7 : w.cell? ⟨A, 7, none⟩ = some x7 := cell_at hA
  have f0 : ∀ i, w.frozen? ⟨A, i, none⟩ = false := fun i => frozen_at hA
  have d0 : w.cell? ⟨B, 0, none⟩ = some y := cell_at hB
  have g0 : ∀ i, w.frozen? ⟨B, i, none⟩ = false := fun i => frozen_at hB
  refine callsD_of_wpS Tryd.func54 rfl fun c₀ cs hu => ?_
  apply wpS_seq
  apply wpS_region
  simp [wpOpsS, go_sem, recoverD, hu, Tryd.ntmps54, Exit.thenS]
  refine wpS_cond (t := true) (by simp [Act.eval, Array.replicate]) ?_
  simp only [if_true]
  apply wpS_region
  have hne' : B ≠ A := fun e => hne e.symm
  simp [wpOpsS, go_sem, c0, c1, c2, c3, c4, c5, c6, c7, f0, d0, g0, bodyPostS, results, Tryd.results54]

set_option maxRecDepth 100000 in
set_option maxHeartbeats 4000000 in
/-- **read.** -/
theorem read_calls (s : ByteArray) (w : World) (hW : Words w) (hm : MaxOk w) (hl : s.size ≤ 100000000) (h10 : (10 : UInt8) ∉ s.data.toList) :
    Calls Tryd.prog 40 #[.string s] w fun e w' => (∃ t l v, readP s.data.toList = some (t, l) ∧ e = .returned (.tuple #[t.val v, .int .i64 0]) ∧ OwnA w.heap.size w' v l ∧ Below w.heap.size w w') ∨ (readP s.data.toList = none ∧ e = .returned (.tuple #[.agg #[.int .i64 0, .string ⟨#[]⟩, .string ⟨#[]⟩, .slice none 0 0, .bool false, .int .i64 0, .int .i64 0, .int .i64 0], .int .i64 70]) ∧ Below w.heap.size w w') := by
  have hmf : ∀ (fn : Fn) (first cap : Array Value) (w : World), (Instr.makeFunc fn first cap).run Tryd.prog w = .ok (.func fn first cap) w := fun _ _ _ _ => rfl
  obtain ⟨W1, hW1⟩ : ∃ W1, w.alloc (.cells #[.int .i64 0, .string ⟨#[]⟩, .string ⟨#[]⟩, .slice none 0 0, .bool false, .int .i64 0, .int .i64 0, .int .i64 0] 28) = W1 := ⟨_, rfl⟩
  obtain ⟨W2, hW2⟩ : ∃ W2, W1.alloc (.cells #[.int .i64 0] 29) = W2 := ⟨_, rfl⟩
  obtain ⟨W3, hW3⟩ : ∃ W3, W2.alloc (.cells #[.string s] 86) = W3 := ⟨_, rfl⟩
  have z1 : W1.heap.size = w.heap.size + 1 := by rw [← hW1]; simp
  have z2 : W2.heap.size = w.heap.size + 1 + 1 := by rw [← hW2]; simp; omega
  have z3 : W3.heap.size = w.heap.size + 1 + 1 + 1 := by rw [← hW3]; simp; omega
  have b1 : Below w.heap.size w W1 := by rw [← hW1]; exact (Below.refl _ w).alloc (Nat.le_refl _) _
  have b2 : Below W1.heap.size W1 W2 := by rw [← hW2]; exact (Below.refl _ W1).alloc (Nat.le_refl _) _
  have b3 : Below W2.heap.size W2 W3 := by rw [← hW3]; exact (Below.refl _ W2).alloc (Nat.le_refl _) _
  have hT3 : W3.heap[w.heap.size]? = some (.cells #[.int .i64 0, .string ⟨#[]⟩, .string ⟨#[]⟩, .slice none 0 0, .bool false, .int .i64 0, .int .i64 0, .int .i64 0] 28 (0, 0)) := (b3.block _ (by omega)).trans ((b2.block _ (by omega)).trans (by rw [← hW1]; exact new_at _ _ _))
  have hE3 : W3.heap[w.heap.size + 1]? = some (.cells #[.int .i64 0] 29 (0, 0)) := (b3.block _ (by omega)).trans (by rw [← hW2, ← z1]; exact new_at _ _ _)
  have hG3 : W3.heap[w.heap.size + 1 + 1]? = some (.cells #[.string s] 86 (0, 0)) := by rw [← hW3, ← z2]; exact new_at _ _ _
  have B3 : Below w.heap.size w W3 := (b1.trans (b2.mono (by omega))).trans (b3.mono (by omega))
  have TC := token_calls (w.heap.size + 1 + 1) s.data.toList W3 (hW.below B3) (hm.below B3) (by omega) (by rw [size_data]; exact hl) h10 (cell_at hG3) (frozen_at hG3)
  have HB3 : Hid (Below w.heap.size w W3) := B3
  have HT3 : Hid (W3.heap[w.heap.size]? = some (.cells #[.int .i64 0, .string ⟨#[]⟩, .string ⟨#[]⟩, .slice none 0 0, .bool false, .int .i64 0, .int .i64 0, .int .i64 0] 28 (0, 0)) ∧ W3.heap[w.heap.size + 1]? = some (.cells #[.int .i64 0] 29 (0, 0))) := ⟨hT3, hE3⟩
  have HW3 : Hid ((((w.alloc (.cells #[.int .i64 0, .string ⟨#[]⟩, .string ⟨#[]⟩, .slice none 0 0, .bool false, .int .i64 0, .int .i64 0, .int .i64 0] 28)).alloc (.cells #[.int .i64 0] 29)).alloc (.cells #[.string s] 86)) = W3) := by show _ = _; rw [hW1, hW2, hW3]
  clear hT3 hE3 hG3 b1 b2 b3 B3 hW1 hW2 hW3 hW hm z1 z2
  cases hr : readP s.data.toList with
  | none =>
    have HTC : Hid (Calls Tryd.prog 55 #[.pointer (some ⟨w.heap.size + 1 + 1, 0, none⟩)] W3 fun e w' => e = Ending.panicked [{ v := Value.iface 29 (Value.int IntKind.i64 70), recovered := false }] ∧ KeepP (fun k => k = w.heap.size + 1 + 1) W3 w') := TC.mono fun e w' h => by
      rcases h with ⟨_, _, _, h1, _⟩ | ⟨_, h2⟩
      · rw [hr] at h1; cases h1
      · exact h2
    clear TC hr
    go_enter_defers Tryd.func40, Tryd.ntmps40
    go_wp2_with fail
    rw [HW3.out]
    refine HTC.out.mono ?_
    rintro e w4 ⟨rfl, hk4⟩
    have hT4 := (hk4.block w.heap.size (by omega) (by show ¬ _ = _; omega)).trans HT3.out.1
    have hE4 := (hk4.block (w.heap.size + 1) (by omega) (by show ¬ _ = _; omega)).trans HT3.out.2
    have HB4 : Below w.heap.size w w4 := HB3.out.trans (hk4.below (by omega) (fun k hk h => by have : k = w.heap.size + 1 + 1 := h; omega))
    go_wp2
    refine leaves_cons (f := 54) (args := #[.pointer (some ⟨w.heap.size, 0, none⟩), .pointer (some ⟨w.heap.size + 1, 0, none⟩)]) (by simp) (by simp [go_sem]) ?_
    refine (catch_panicking w.heap.size (w.heap.size + 1) _ _ [] w4 _ _ _ _ _ _ _ _ _ hT4 hE4 (by omega)).mono ?_
    rintro e u' w5 ⟨rfl, rfl, h5⟩
    have hT5 : w5.heap[w.heap.size]? = some (.cells #[.int .i64 0, .string ⟨#[]⟩, .string ⟨#[]⟩, .slice none 0 0, .bool false, .int .i64 0, .int .i64 0, .int .i64 0] 28 (0, 0)) := by rw [h5]; exact (Below.heap_setCell _ _ _ _ (fun e => by have : w.heap.size = w.heap.size + 1 := e; omega)).trans (put8_at hT4 _ _ _ _ _ _ _ _)
    have hE5 : w5.heap[w.heap.size + 1]? = some (.cells #[.int .i64 70] 29 (0, 0)) := by rw [h5]; exact set_block ((put8_far (by omega) _ _ _ _ _ _ _ _).trans hE4) 0 _
    have HB5 : Below w.heap.size w w5 := by rw [h5]; exact (put8_below HB4 (Nat.le_refl _) _ _ _ _ _ _ _ _).setCell (p := ⟨w.heap.size + 1, 0, none⟩) (by show w.heap.size ≤ w.heap.size + 1; omega) _
    clear h5 hT4 hE4 HB4 HTC HW3 HT3 HB3
    have c0 : w5.cell? ⟨w.heap.size, 0, none⟩ = some (.int .i64 0) := cell_at hT5
    have c1 : w5.cell? ⟨w.heap.size, 1, none⟩ = some (.string ⟨#[]⟩) := cell_at hT5
    have c2 : w5.cell? ⟨w.heap.size, 2, none⟩ = some (.string ⟨#[]⟩) := cell_at hT5
    have c3 : w5.cell? ⟨w.heap.size, 3, none⟩ = some (.slice none 0 0) := cell_at hT5
    have c4 : w5.cell? ⟨w.heap.size, 4, none⟩ = some (.bool false) := cell_at hT5
    have c5 : w5.cell? ⟨w.heap.size, 5, none⟩ = some (.int .i64 0) := cell_at hT5
    have c6 : w5.cell? ⟨w.heap.size, 6, none⟩ = some (.int .i64 0) := cell_at hT5
    have c7 : w5.cell? ⟨w.heap.size, 7, none⟩ = some (.int .i64 0) := cell_at hT5
    have d0 : w5.cell? ⟨w.heap.size + 1, 0, none⟩ = some (.int .i64 70) := cell_at hE5
    simp [Leaves, settle, results, Tryd.results40, go_sem, c0, c1, c2, c3, c4, c5, c6, c7, d0, HB5]
  | some tl =>
    obtain ⟨⟨kind, name, text, self, p0, p1, p2⟩, l⟩ := tl
    have HTC : Hid (Calls Tryd.prog 55 #[.pointer (some ⟨w.heap.size + 1 + 1, 0, none⟩)] W3 fun e w' => ∃ v, e = .returned (.agg #[.int .i64 kind, .string name, .string text, v, .bool self, .int .i64 p0, .int .i64 p1, .int .i64 p2]) ∧ OwnA W3.heap.size w' v l ∧ KeepP (fun k => k = w.heap.size + 1 + 1) W3 w') := TC.mono fun e w' h => by
      rcases h with ⟨_, _, v, h1, h2, h3, h4⟩ | ⟨h1, _⟩
      · rw [hr] at h1; cases h1; exact ⟨v, h2, h3, h4⟩
      · rw [hr] at h1; cases h1
    clear TC hr
    go_enter_defers Tryd.func40, Tryd.ntmps40
    go_wp2_with fail
    rw [HW3.out]
    refine HTC.out.mono ?_
    rintro e w4 ⟨v, rfl, ho4, hk4⟩
    obtain ⟨va, vc, rfl⟩ := C.owns_slice ho4
    have hT4 := (hk4.block w.heap.size (by omega) (by show ¬ _ = _; omega)).trans HT3.out.1
    have hE4 := (hk4.block (w.heap.size + 1) (by omega) (by show ¬ _ = _; omega)).trans HT3.out.2
    have HB4 : Hid (Below w.heap.size w w4) := HB3.out.trans (hk4.below (by omega) (fun k hk h => by have : k = w.heap.size + 1 + 1 := h; omega))
    have HO4 : Hid (OwnA w.heap.size w4 (.slice va l.length vc) l) := C.owns_mono ho4 (by omega)
    have c0 : w4.cell? ⟨w.heap.size, 0, none⟩ = some (.int .i64 0) := cell_at hT4
    have c1 : w4.cell? ⟨w.heap.size, 1, none⟩ = some (.string ⟨#[]⟩) := cell_at hT4
    have c2 : w4.cell? ⟨w.heap.size, 2, none⟩ = some (.string ⟨#[]⟩) := cell_at hT4
    have c3 : w4.cell? ⟨w.heap.size, 3, none⟩ = some (.slice none 0 0) := cell_at hT4
    have c4 : w4.cell? ⟨w.heap.size, 4, none⟩ = some (.bool false) := cell_at hT4
    have c5 : w4.cell? ⟨w.heap.size, 5, none⟩ = some (.int .i64 0) := cell_at hT4
    have c6 : w4.cell? ⟨w.heap.size, 6, none⟩ = some (.int .i64 0) := cell_at hT4
    have c7 : w4.cell? ⟨w.heap.size, 7, none⟩ = some (.int .i64 0) := cell_at hT4
    have d0 : w4.cell? ⟨w.heap.size + 1, 0, none⟩ = some (.int .i64 0) := cell_at hE4
    have f4 : ∀ i, w4.frozen? ⟨w.heap.size, i, none⟩ = false := fun i => frozen_at hT4
    have g4 : ∀ i, w4.frozen? ⟨w.heap.size + 1, i, none⟩ = false := fun i => frozen_at hE4
    clear ho4 hk4
    go_wp2
    refine leaves_cons (f := 54) (args := #[.pointer (some ⟨w.heap.size, 0, none⟩), .pointer (some ⟨w.heap.size + 1, 0, none⟩)]) (by simp) (by simp [go_sem]) ?_
    refine (catch_idle _ _ _).mono ?_
    rintro e u' w5 ⟨rfl, rfl, h5⟩
    have hT5 : w5.heap[w.heap.size]? = some (.cells #[.int .i64 kind, .string name, .string text, .slice va l.length vc, .bool self, .int .i64 p0, .int .i64 p1, .int .i64 p2] 28 (0, 0)) := by rw [h5]; exact (Below.heap_setCell _ _ _ _ (fun e => by have : w.heap.size = w.heap.size + 1 := e; omega)).trans (put8_at hT4 _ _ _ _ _ _ _ _)
    have hE5 : w5.heap[w.heap.size + 1]? = some (.cells #[.int .i64 0] 29 (0, 0)) := by rw [h5]; exact set_block ((put8_far (by omega) _ _ _ _ _ _ _ _).trans hE4) 0 _
    have HB5 : Below w.heap.size w w5 := by rw [h5]; exact (put8_below HB4.out (Nat.le_refl _) _ _ _ _ _ _ _ _).setCell (p := ⟨w.heap.size + 1, 0, none⟩) (by show w.heap.size ≤ w.heap.size + 1; omega) _
    have HO5 : OwnA w.heap.size w5 (.slice va l.length vc) l := by
      rw [h5]
      have ha := OwnA.apart HO4.out hT4 (by decide)
      have hb := OwnA.apart HO4.out hE4 (by decide)
      exact OwnA.set (OwnA.put8 HO4.out ha _ _ _ _ _ _ _ _) hb 0 _
    clear h5 c0 c1 c2 c3 c4 c5 c6 c7 d0 f4 g4 hT4 hE4 HB4 HO4 HTC HW3 HT3 HB3
    have c0 : w5.cell? ⟨w.heap.size, 0, none⟩ = some (.int .i64 kind) := cell_at hT5
    have c1 : w5.cell? ⟨w.heap.size, 1, none⟩ = some (.string name) := cell_at hT5
    have c2 : w5.cell? ⟨w.heap.size, 2, none⟩ = some (.string text) := cell_at hT5
    have c3 : w5.cell? ⟨w.heap.size, 3, none⟩ = some (.slice va l.length vc) := cell_at hT5
    have c4 : w5.cell? ⟨w.heap.size, 4, none⟩ = some (.bool self) := cell_at hT5
    have c5 : w5.cell? ⟨w.heap.size, 5, none⟩ = some (.int .i64 p0) := cell_at hT5
    have c6 : w5.cell? ⟨w.heap.size, 6, none⟩ = some (.int .i64 p1) := cell_at hT5
    have c7 : w5.cell? ⟨w.heap.size, 7, none⟩ = some (.int .i64 p2) := cell_at hT5
    have d0 : w5.cell? ⟨w.heap.size + 1, 0, none⟩ = some (.int .i64 0) := cell_at hE5
    have HR : Hid (OwnA w.heap.size w5 (.slice va l.length vc) l ∧ Below w.heap.size w w5) := ⟨HO5, HB5⟩
    clear HO5 HB5 hT5 hE5
    simp [Leaves, settle, results, Tryd.results40, go_sem, c0, c1, c2, c3, c4, c5, c6, c7, d0]
    exact ⟨_, _, ⟨rfl, rfl⟩, _, rfl, HR.out.1, HR.out.2⟩
end Go.Proofs.YtelfejbhlolppaaDoor.T
