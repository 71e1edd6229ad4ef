/- What is proved here: the contracts of valid, fits and Check of token: whether a token may be. -/
import Derived.Test.YthbmlffhcppcaaaDoorTUtf
namespace Go.Proofs.YthbmlffhcppcaaaDoor.T
open Go.RowKit N

/-- A token, without its attributes' list. -/
structure Tok where
  kind : Int
  name : ByteArray
  text : ByteArray
  self : Bool
  p0 : Int
  p1 : Int
  p2 : Int
/-- A token as a value. -/
def Tok.val (t : Tok) (av : Value) : Value := .agg #[.int .i64 t.kind, .string t.name, .string t.text, av, .bool t.self, .int .i64 t.p0, .int .i64 t.p1, .int .i64 t.p2]
def SizesA (l : AL) : Prop := (l.length : Int) ≤ 1000000000000 ∧ ∀ x ∈ l, x.1.size ≤ 4398046511104 ∧ x.2.size ≤ 4398046511104
def Tok.Sizes (t : Tok) : Prop := t.name.size ≤ 4398046511104 ∧ t.text.size ≤ 4398046511104

def bareB (t : Tok) (l : AL) : Bool := l.isEmpty && !t.self
def fitsB (t : Tok) (l : AL) : Bool :=
  if t.kind = 0 then bareB t l && t.name.toList.isEmpty && !t.text.toList.isEmpty
  else if t.kind = 1 then tagB t.name.data.toList && t.text.toList.isEmpty && attrsB l
  else if t.kind = 2 then bareB t l && tagB t.name.data.toList && t.text.toList.isEmpty
  else if t.kind = 3 then bareB t l && t.name.toList.isEmpty
  else if t.kind = 4 then bareB t l && t.name.toList.isEmpty && t.text.toList.isEmpty
  else false
def validA (l : AL) : Bool := l.all fun a => utfB a.1.data.toList && utfB a.2.data.toList
def validB (t : Tok) (l : AL) : Bool := validA l && utfB t.name.data.toList && utfB t.text.data.toList
def checkB (t : Tok) (l : AL) : Bool := fitsB t l && validB t l

set_option maxRecDepth 100000 in
set_option maxHeartbeats 2000000 in
theorem fits_calls (t : Tok) (l : AL) (av : Value) (w : World) (hH : HasA w av l) (hl : SizesA l) (ht : t.Sizes) :
    Calls Tryd.prog 25 #[t.val av] w fun e w' => e = .returned (.bool (fitsB t l)) ∧ Below w.heap.size w w' := by
  obtain ⟨la, lc, rfl⟩ := hH.slice
  have HS : Hid (HasA w (.slice la l.length lc) l) := hH
  have HL : Hid (SizesA l) := hl
  have HT : Hid t.Sizes := ht
  have hnz := ht.1
  have q0 : ((l.length : Int) == 0) = l.isEmpty := by cases l <;> simp; omega
  clear hH hl ht
  obtain ⟨kind, name, text, self, p0, p1, p2⟩ := t
  unfold Tok.val
  simp only at hnz ⊢
  obtain ⟨W0, hW0⟩ : ∃ W0, w.alloc (.cells #[.int .i64 kind, .string name, .string text, .slice la l.length lc, .bool self, .int .i64 p0, .int .i64 p1, .int .i64 p2] 28) = W0 := ⟨_, rfl⟩
  have b0 : Below w.heap.size w W0 := by rw [← hW0]; exact (Below.refl _ w).alloc (Nat.le_refl _) _
  have t0 : W0.cell? ⟨w.heap.size, 0, none⟩ = some (.int .i64 kind) := by rw [← hW0, C.cell_new]; rfl
  have t1 : W0.cell? ⟨w.heap.size, 1, none⟩ = some (.string name) := by rw [← hW0, C.cell_new]; rfl
  have t2 : W0.cell? ⟨w.heap.size, 2, none⟩ = some (.string text) := by rw [← hW0, C.cell_new]; rfl
  have t3 : W0.cell? ⟨w.heap.size, 3, none⟩ = some (.slice la l.length lc) := by rw [← hW0, C.cell_new]; rfl
  have t4 : W0.cell? ⟨w.heap.size, 4, none⟩ = some (.bool self) := by rw [← hW0, C.cell_new]; rfl
  have HB0 : Hid (Below w.heap.size w W0) := b0
  have AN : Hid (Calls Tryd.prog 44 #[.slice la l.length lc] W0 fun e w' => e = .returned (.bool (attrsB l)) ∧ Below W0.heap.size W0 w') := attrNames_calls l _ W0 (HS.out.below b0) HL.out.1 (fun x hx => by have := (HL.out.2 x hx).1; omega)
  have TN : Hid (Calls Tryd.prog 43 #[.string name] W0 fun e w' => e = .returned (.bool (tagB name.data.toList)) ∧ w' = W0) := tagName_calls name W0 (by omega)
  clear b0
  obtain ⟨A, hA⟩ : ∃ A, attrsB l = A := ⟨_, rfl⟩
  obtain ⟨N, hN⟩ : ∃ N, tagB name.data.toList = N := ⟨_, rfl⟩
  obtain ⟨E, hE⟩ : ∃ E, l.isEmpty = E := ⟨_, rfl⟩
  obtain ⟨X, hX⟩ : ∃ X, name.toList.isEmpty = X := ⟨_, rfl⟩
  obtain ⟨Y, hY⟩ : ∃ Y, text.toList.isEmpty = Y := ⟨_, rfl⟩
  have HF : Hid (fitsB ⟨kind, name, text, self, p0, p1, p2⟩ l = if kind = 0 then E && !self && X && !Y else if kind = 1 then N && Y && A else if kind = 2 then E && !self && N && Y else if kind = 3 then E && !self && X else if kind = 4 then E && !self && X && Y else false) := by
    show _ = _
    unfold fitsB bareB
    simp only [hA, hN, hE, hX, hY]
  rw [hA] at AN
  rw [hN] at TN
  rw [hE] at q0
  clear hA hN hE
  go_enter Tryd.func25, Tryd.ntmps25
  by_cases k0 : kind = 0
  · subst k0
    rw [if_pos rfl] at HF
    go_wp2
    all_goals go_ret
    all_goals exact ⟨ret_bool (by rw [HF.out]; simp_all), HB0.out⟩
  have z0 : (kind == 0) = false := by simpa using k0
  rw [if_neg k0] at HF
  by_cases k1 : kind = 1
  · subst k1
    rw [if_pos rfl] at HF
    go_wp2_with (first
      | (go_at_call 43; refine TN.out.mono ?_; rintro e w' ⟨rfl, hw⟩; have hx' := hw.symm; subst hx')
      | (go_at_call 44; refine AN.out.mono ?_; rintro e w2 ⟨rfl, hb2⟩))
    all_goals go_ret
    all_goals first
      | exact ⟨ret_bool (by rw [HF.out]; simp_all), HB0.out⟩
      | exact ⟨ret_bool (by rw [HF.out]; simp_all), HB0.out.trans (hb2.mono HB0.out.size)⟩
  have z1 : (kind == 1) = false := by simpa using k1
  rw [if_neg k1] at HF
  by_cases k2 : kind = 2
  · subst k2
    rw [if_pos rfl] at HF
    go_wp2_with (first
      | (go_at_call 43; refine TN.out.mono ?_; rintro e w' ⟨rfl, hw⟩; have hx' := hw.symm; subst hx'))
    all_goals go_ret
    all_goals exact ⟨ret_bool (by rw [HF.out]; simp_all), HB0.out⟩
  have z2 : (kind == 2) = false := by simpa using k2
  rw [if_neg k2] at HF
  by_cases k3 : kind = 3
  · subst k3
    rw [if_pos rfl] at HF
    go_wp2
    all_goals go_ret
    all_goals exact ⟨ret_bool (by rw [HF.out]; simp_all), HB0.out⟩
  have z3 : (kind == 3) = false := by simpa using k3
  rw [if_neg k3] at HF
  by_cases k4 : kind = 4
  · subst k4
    rw [if_pos rfl] at HF
    go_wp2
    all_goals go_ret
    all_goals exact ⟨ret_bool (by rw [HF.out]; simp_all), HB0.out⟩
  have z4 : (kind == 4) = false := by simpa using k4
  rw [if_neg k4] at HF
  go_wp2
  all_goals go_ret
  all_goals exact ⟨ret_bool HF.out.symm, HB0.out⟩
end Go.Proofs.YthbmlffhcppcaaaDoor.T
