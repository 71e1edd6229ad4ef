/- What is proved here: the contracts of Equal of token and of sieveref07, and of Attr of token. -/
import Derived.Test.YtelfejbhlolppaaDoorBun7
namespace Go.Proofs.YtelfejbhlolppaaDoor.T
open Go.RowKit N

theorem same_calls (l l' : AL) (r r' : Value) (w : World) (hn : (l.length : Int) ≤ 1000000000000) (h : HasA w r l) (h' : HasA w r' l') :
    Calls Tryd.prog 31 #[r, r'] w fun e w' => e = .returned (.bool (decide (l = l'))) ∧ Below w.heap.size w w' := by
  obtain ⟨a, c, rfl⟩ := h.slice
  obtain ⟨a', c', rfl⟩ := h'.slice
  by_cases e : l.length = l'.length
  · rw [← e] at h' ⊢
    exact same_eq l l' l.length a a' c c' w rfl e.symm hn h h'
  · rw [show decide (l = l') = false by rw [decide_eq_false_iff_not]; intro h; exact e (by rw [h])]
    exact same_ne a a' _ _ c c' w e
theorem equal_calls (l l' : AL) (r r' : Value) (w : World) (hn : (l.length : Int) ≤ 1000000000000) (h : HasA w r l) (h' : HasA w r' l') :
    Calls Tryd.prog 30 #[r, r'] w fun e w' => e = .returned (.bool (decide (l = l'))) ∧ Below w.heap.size w w' := by
  obtain ⟨a, c, rfl⟩ := h.slice
  obtain ⟨a', c', rfl⟩ := h'.slice
  by_cases e : l.length = l'.length
  · rw [← e] at h' ⊢
    exact equal_eq l l' l.length a a' c c' w rfl e.symm hn h h'
  · rw [show decide (l = l') = false by rw [decide_eq_false_iff_not]; intro h; exact e (by rw [h])]
    exact equal_ne a a' _ _ c c' w e

/-- The same, but for their places. -/
def eqTok (t : Tok) (l : AL) (t' : Tok) (l' : AL) : Bool := (t.kind == t'.kind) && (t.name.toList == t'.name.toList) && (t.text.toList == t'.text.toList) && (t.self == t'.self) && decide (l = l')
theorem eqTok_self (t : Tok) (l : AL) : eqTok t l t l = true := by simp [eqTok]

set_option maxRecDepth 100000 in
set_option maxHeartbeats 2000000 in
theorem tequal_calls (t t' : Tok) (l l' : AL) (av av' : Value) (w : World) (hH : HasA w av l) (hH' : HasA w av' l') (hl : (l.length : Int) ≤ 1000000000000) :
    Calls Tryd.prog 12 #[t.val av, t'.val av'] w fun e w' => e = .returned (.bool (eqTok t l t' l')) ∧ Below w.heap.size w w' := by
  obtain ⟨kind, name, text, self, p0, p1, p2⟩ := t
  obtain ⟨kind', name', text', self', p0', p1', p2'⟩ := t'
  unfold Tok.val
  simp only
  obtain ⟨W0, hW0⟩ : ∃ W0, w.alloc (.cells #[.int .i64 kind, .string name, .string text, av, .bool self, .int .i64 p0, .int .i64 p1, .int .i64 p2] 28) = W0 := ⟨_, rfl⟩
  have hz0 : W0.heap.size = w.heap.size + 1 := by rw [← hW0]; simp
  obtain ⟨W1, hW1⟩ : ∃ W1, W0.alloc (.cells #[.int .i64 kind', .string name', .string text', av', .bool self', .int .i64 p0', .int .i64 p1', .int .i64 p2'] 28) = W1 := ⟨_, rfl⟩
  have b0 : Below w.heap.size w W0 := by rw [← hW0]; exact (Below.refl _ w).alloc (Nat.le_refl _) _
  have b1 : Below W0.heap.size W0 W1 := by rw [← hW1]; exact (Below.refl _ W0).alloc (Nat.le_refl _) _
  have t0 : W1.cell? ⟨w.heap.size, 0, none⟩ = some (.int .i64 kind) := (b1.cell (by show w.heap.size < _; omega)).trans (by rw [← hW0, C.cell_new]; rfl)
  have t1 : W1.cell? ⟨w.heap.size, 1, none⟩ = some (.string name) := (b1.cell (by show w.heap.size < _; omega)).trans (by rw [← hW0, C.cell_new]; rfl)
  have t2 : W1.cell? ⟨w.heap.size, 2, none⟩ = some (.string text) := (b1.cell (by show w.heap.size < _; omega)).trans (by rw [← hW0, C.cell_new]; rfl)
  have t3 : W1.cell? ⟨w.heap.size, 3, none⟩ = some av := (b1.cell (by show w.heap.size < _; omega)).trans (by rw [← hW0, C.cell_new]; rfl)
  have t4 : W1.cell? ⟨w.heap.size, 4, none⟩ = some (.bool self) := (b1.cell (by show w.heap.size < _; omega)).trans (by rw [← hW0, C.cell_new]; rfl)
  have u0 : W1.cell? ⟨w.heap.size + 1, 0, none⟩ = some (.int .i64 kind') := by rw [← hW1, ← hz0, C.cell_new]; rfl
  have u1 : W1.cell? ⟨w.heap.size + 1, 1, none⟩ = some (.string name') := by rw [← hW1, ← hz0, C.cell_new]; rfl
  have u2 : W1.cell? ⟨w.heap.size + 1, 2, none⟩ = some (.string text') := by rw [← hW1, ← hz0, C.cell_new]; rfl
  have u3 : W1.cell? ⟨w.heap.size + 1, 3, none⟩ = some av' := by rw [← hW1, ← hz0, C.cell_new]; rfl
  have u4 : W1.cell? ⟨w.heap.size + 1, 4, none⟩ = some (.bool self') := by rw [← hW1, ← hz0, C.cell_new]; rfl
  have HB1 : Hid (Below w.heap.size w W1) := b0.trans (b1.mono b0.size)
  obtain ⟨D, hD⟩ : ∃ D, decide (l = l') = D := ⟨_, rfl⟩
  have SC : Hid (Calls Tryd.prog 30 #[av, av'] W1 fun e w' => e = .returned (.bool D) ∧ Below W1.heap.size W1 w') := by rw [← hD]; exact equal_calls l l' av av' W1 hl (hH.below HB1.out) (hH'.below HB1.out)
  have HF : Hid (eqTok ⟨kind, name, text, self, p0, p1, p2⟩ l ⟨kind', name', text', self', p0', p1', p2'⟩ l' = ((kind == kind') && (name.toList == name'.toList) && (text.toList == text'.toList) && (self == self') && D)) := by
    show _ = _
    unfold eqTok
    rw [hD]
  clear hD hH hH' b0 b1
  obtain ⟨A, hA⟩ : ∃ A, (kind == kind') = A := ⟨_, rfl⟩
  obtain ⟨N, hN⟩ : ∃ N, (name.toList == name'.toList) = N := ⟨_, rfl⟩
  obtain ⟨X, hX⟩ : ∃ X, (text.toList == text'.toList) = X := ⟨_, rfl⟩
  obtain ⟨S, hS⟩ : ∃ S, (self == self') = S := ⟨_, rfl⟩
  rw [hA, hN, hX, hS] at HF
  go_enter Tryd.func12, Tryd.ntmps12
  go_wp2_with (go_at_call 30; refine SC.out.mono ?_; rintro e w2 ⟨rfl, hb2⟩)
  all_goals go_ret
  all_goals first
    | exact ⟨ret_bool (by rw [HF.out]; simp_all), HB1.out⟩
    | exact ⟨ret_bool (by rw [HF.out]; simp_all), HB1.out.trans (hb2.mono HB1.out.size)⟩

set_option maxRecDepth 100000 in
set_option maxHeartbeats 2000000 in
theorem requal_calls (t t' : Tok) (l l' : AL) (av av' : Value) (w : World) (hH : HasA w av l) (hH' : HasA w av' l') (hl : (l.length : Int) ≤ 1000000000000) :
    Calls Tryd.prog 13 #[t.val av, t'.val av'] w fun e w' => e = .returned (.bool (eqTok t l t' l')) ∧ Below w.heap.size w w' := by
  obtain ⟨kind, name, text, self, p0, p1, p2⟩ := t
  obtain ⟨kind', name', text', self', p0', p1', p2'⟩ := t'
  unfold Tok.val
  simp only
  obtain ⟨W0, hW0⟩ : ∃ W0, w.alloc (.cells #[.int .i64 kind, .string name, .string text, av, .bool self, .int .i64 p0, .int .i64 p1, .int .i64 p2] 28) = W0 := ⟨_, rfl⟩
  have hz0 : W0.heap.size = w.heap.size + 1 := by rw [← hW0]; simp
  obtain ⟨W1, hW1⟩ : ∃ W1, W0.alloc (.cells #[.int .i64 kind', .string name', .string text', av', .bool self', .int .i64 p0', .int .i64 p1', .int .i64 p2'] 28) = W1 := ⟨_, rfl⟩
  have b0 : Below w.heap.size w W0 := by rw [← hW0]; exact (Below.refl _ w).alloc (Nat.le_refl _) _
  have b1 : Below W0.heap.size W0 W1 := by rw [← hW1]; exact (Below.refl _ W0).alloc (Nat.le_refl _) _
  have t0 : W1.cell? ⟨w.heap.size, 0, none⟩ = some (.int .i64 kind) := (b1.cell (by show w.heap.size < _; omega)).trans (by rw [← hW0, C.cell_new]; rfl)
  have t1 : W1.cell? ⟨w.heap.size, 1, none⟩ = some (.string name) := (b1.cell (by show w.heap.size < _; omega)).trans (by rw [← hW0, C.cell_new]; rfl)
  have t2 : W1.cell? ⟨w.heap.size, 2, none⟩ = some (.string text) := (b1.cell (by show w.heap.size < _; omega)).trans (by rw [← hW0, C.cell_new]; rfl)
  have t3 : W1.cell? ⟨w.heap.size, 3, none⟩ = some av := (b1.cell (by show w.heap.size < _; omega)).trans (by rw [← hW0, C.cell_new]; rfl)
  have t4 : W1.cell? ⟨w.heap.size, 4, none⟩ = some (.bool self) := (b1.cell (by show w.heap.size < _; omega)).trans (by rw [← hW0, C.cell_new]; rfl)
  have u0 : W1.cell? ⟨w.heap.size + 1, 0, none⟩ = some (.int .i64 kind') := by rw [← hW1, ← hz0, C.cell_new]; rfl
  have u1 : W1.cell? ⟨w.heap.size + 1, 1, none⟩ = some (.string name') := by rw [← hW1, ← hz0, C.cell_new]; rfl
  have u2 : W1.cell? ⟨w.heap.size + 1, 2, none⟩ = some (.string text') := by rw [← hW1, ← hz0, C.cell_new]; rfl
  have u3 : W1.cell? ⟨w.heap.size + 1, 3, none⟩ = some av' := by rw [← hW1, ← hz0, C.cell_new]; rfl
  have u4 : W1.cell? ⟨w.heap.size + 1, 4, none⟩ = some (.bool self') := by rw [← hW1, ← hz0, C.cell_new]; rfl
  have HB1 : Hid (Below w.heap.size w W1) := b0.trans (b1.mono b0.size)
  obtain ⟨D, hD⟩ : ∃ D, decide (l = l') = D := ⟨_, rfl⟩
  have SC : Hid (Calls Tryd.prog 31 #[av, av'] W1 fun e w' => e = .returned (.bool D) ∧ Below W1.heap.size W1 w') := by rw [← hD]; exact same_calls l l' av av' W1 hl (hH.below HB1.out) (hH'.below HB1.out)
  have HF : Hid (eqTok ⟨kind, name, text, self, p0, p1, p2⟩ l ⟨kind', name', text', self', p0', p1', p2'⟩ l' = ((kind == kind') && (name.toList == name'.toList) && (text.toList == text'.toList) && (self == self') && D)) := by
    show _ = _
    unfold eqTok
    rw [hD]
  clear hD hH hH' b0 b1
  obtain ⟨A, hA⟩ : ∃ A, (kind == kind') = A := ⟨_, rfl⟩
  obtain ⟨N, hN⟩ : ∃ N, (name.toList == name'.toList) = N := ⟨_, rfl⟩
  obtain ⟨X, hX⟩ : ∃ X, (text.toList == text'.toList) = X := ⟨_, rfl⟩
  obtain ⟨S, hS⟩ : ∃ S, (self == self') = S := ⟨_, rfl⟩
  rw [hA, hN, hX, hS] at HF
  go_enter Tryd.func13, Tryd.ntmps13
  go_wp2_with (go_at_call 31; refine SC.out.mono ?_; rintro e w2 ⟨rfl, hb2⟩)
  all_goals go_ret
  all_goals first
    | exact ⟨ret_bool (by rw [HF.out]; simp_all), HB1.out⟩
    | exact ⟨ret_bool (by rw [HF.out]; simp_all), HB1.out.trans (hb2.mono HB1.out.size)⟩
end Go.Proofs.YtelfejbhlolppaaDoor.T
