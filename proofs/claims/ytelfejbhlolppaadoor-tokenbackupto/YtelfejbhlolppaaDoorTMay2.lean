/- What is proved here: the contract of May of sieveref07: it says of every token what Check of token says. -/
import Derived.Test.YtelfejbhlolppaaDoorTMay
namespace Go.Proofs.YtelfejbhlolppaaDoor.T
open Go.RowKit N

theorem utfB_nil : utfB [] = true := by decide +kernel
theorem utf_of_empty {s : ByteArray} (h : s.toList.isEmpty = true) : utfB s.data.toList = true := by
  rw [Lib.toList_data] at h
  rw [show s.data.toList = [] by simpa using h]; exact utfB_nil

set_option maxRecDepth 100000 in
set_option maxHeartbeats 2000000 in
theorem may_calls (t : Tok) (l : AL) (av : Value) (w : World) (hH : HasA w av l) (hl : SizesA l) (ht : t.Sizes) :
    Calls Tryd.prog 11 #[t.val av] w fun e w' => e = .returned (.bool (checkB t l)) ∧ Below w.heap.size w w' := by
  obtain ⟨la, lc, rfl⟩ := hH.slice
  have HS : Hid (HasA w (.slice la l.length lc) l) := hH
  have HL : Hid (SizesA l) := hl
  have hnz := ht.1
  have hnt := ht.2
  have q0 : ((l.length : Int) == 0) = l.isEmpty := by cases l <;> simp; omega
  clear hH hl ht
  obtain ⟨kind, name, text, self, p0, p1, p2⟩ := t
  unfold Tok.val
  simp only at hnz hnt ⊢
  obtain ⟨W0, hW0⟩ : ∃ W0, w.alloc (.cells #[.int .i64 kind, .string name, .string text, .slice la l.length lc, .bool self, .int .i64 p0, .int .i64 p1, .int .i64 p2] 28) = W0 := ⟨_, rfl⟩
  have b0 : Below w.heap.size w W0 := by rw [← hW0]; exact (Below.refl _ w).alloc (Nat.le_refl _) _
  have hz0 : w.heap.size < W0.heap.size := by rw [← hW0]; simp
  have t0 : W0.cell? ⟨w.heap.size, 0, none⟩ = some (.int .i64 kind) := by rw [← hW0, C.cell_new]; rfl
  have t1 : W0.cell? ⟨w.heap.size, 1, none⟩ = some (.string name) := by rw [← hW0, C.cell_new]; rfl
  have t2 : W0.cell? ⟨w.heap.size, 2, none⟩ = some (.string text) := by rw [← hW0, C.cell_new]; rfl
  have t3 : W0.cell? ⟨w.heap.size, 3, none⟩ = some (.slice la l.length lc) := by rw [← hW0, C.cell_new]; rfl
  have t4 : W0.cell? ⟨w.heap.size, 4, none⟩ = some (.bool self) := by rw [← hW0, C.cell_new]; rfl
  have HB0 : Hid (Below w.heap.size w W0) := b0
  obtain ⟨A, hA⟩ : ∃ A, attrsB l = A := ⟨_, rfl⟩
  obtain ⟨V, hV⟩ : ∃ V, validA l = V := ⟨_, rfl⟩
  obtain ⟨N, hN⟩ : ∃ N, tagB name.data.toList = N := ⟨_, rfl⟩
  obtain ⟨E, hE⟩ : ∃ E, l.isEmpty = E := ⟨_, rfl⟩
  obtain ⟨X, hX⟩ : ∃ X, name.toList.isEmpty = X := ⟨_, rfl⟩
  obtain ⟨Y, hY⟩ : ∃ Y, text.toList.isEmpty = Y := ⟨_, rfl⟩
  obtain ⟨U, hU⟩ : ∃ U, utfB name.data.toList = U := ⟨_, rfl⟩
  obtain ⟨T, hT⟩ : ∃ T, utfB text.data.toList = T := ⟨_, rfl⟩
  have HEV : Hid (E = true → V = true) := fun h => by rw [← hV]; rw [← hE] at h; rw [show l = [] by simpa using h]; rfl
  have HXU : Hid (X = true → U = true) := fun h => by rw [← hU]; exact utf_of_empty (by rw [hX]; exact h)
  have HYT : Hid (Y = true → T = true) := fun h => by rw [← hT]; exact utf_of_empty (by rw [hY]; exact h)
  have AN : Hid (∀ W, Below W0.heap.size W0 W → Calls Tryd.prog 29 #[.slice la l.length lc] W fun e w' => e = .returned (.bool (A && V)) ∧ Below W.heap.size W w') := fun W hb => by rw [← hA, ← hV]; exact rattrs_calls l _ W ((HS.out.below b0).below hb) HL.out
  have TN : Hid (Calls Tryd.prog 28 #[.string name] W0 fun e w' => e = .returned (.bool (U && N)) ∧ Below W0.heap.size W0 w') := by rw [← hU, ← hN]; exact rtag_calls name W0 hnz
  have VT : Hid (Calls Tryd.prog 27 #[.string text] W0 fun e w' => e = .returned (.bool T) ∧ Below W0.heap.size W0 w') := by rw [← hT]; exact rutf_calls text W0 hnt
  have HF : Hid (checkB ⟨kind, name, text, self, p0, p1, p2⟩ l = ((if kind = 0 then E && !self && X && !Y else if kind = 1 then N && Y && A else if kind = 2 then E && !self && N && Y else if kind = 3 then E && !self && X else if kind = 4 then E && !self && X && Y else false) && (V && U && T))) := by
    show _ = _
    unfold checkB fitsB bareB validB
    simp only [hA, hV, hN, hE, hX, hY, hU, hT]
  rw [hE] at q0
  clear hA hV hN hE hU hT b0
  go_enter Tryd.func11, Tryd.ntmps11
  by_cases k0 : kind = 0
  · subst k0
    rw [if_pos rfl] at HF
    go_wp2_with (first
      | (go_at_call 27; refine VT.out.mono ?_; rintro e w2 ⟨rfl, hb2⟩))
    all_goals go_ret
    all_goals first
      | exact ⟨ret_bool (by have h1 := HEV.out; have h2 := HXU.out; have h3 := HYT.out; rw [HF.out]; simp_all), HB0.out⟩
      | exact ⟨ret_bool (by have h1 := HEV.out; have h2 := HXU.out; have h3 := HYT.out; rw [HF.out]; simp_all), HB0.out.trans (hb2.mono HB0.out.size)⟩
  have z0 : (kind == 0) = false := by simpa using k0
  rw [if_neg k0] at HF
  by_cases k1 : kind = 1
  · subst k1
    rw [if_pos rfl] at HF
    obtain ⟨M, hM⟩ : ∃ M, (U && N) = M := ⟨_, rfl⟩
    obtain ⟨R, hR⟩ : ∃ R, (A && V) = R := ⟨_, rfl⟩
    rw [hM] at TN
    rw [hR] at AN
    have HMR : Hid (((N && Y && A) && (V && U && T)) = (M && Y && R)) := by
      show _ = _
      have h3 := HYT.out
      rw [← hM, ← hR]
      cases Y with
      | false => simp
      | true => rw [h3 rfl]; cases N <;> cases A <;> cases V <;> cases U <;> rfl
    clear hM hR
    go_wp2_with (first
      | (go_at_call 28; refine TN.out.mono ?_; rintro e w2 ⟨rfl, hb2⟩; have t2' := (hb2.cell (p := ⟨w.heap.size, 2, none⟩) hz0).trans t2; have t3' := (hb2.cell (p := ⟨w.heap.size, 3, none⟩) hz0).trans t3)
      | (go_at_call 29; refine (AN.out w2 hb2).mono ?_; rintro e w3 ⟨rfl, hb3⟩))
    all_goals go_ret
    all_goals first
      | exact ⟨ret_bool (by rw [HF.out, HMR.out]; simp_all), HB0.out.trans (hb2.mono HB0.out.size)⟩
      | exact ⟨ret_bool (by rw [HF.out, HMR.out]; simp_all), (HB0.out.trans (hb2.mono HB0.out.size)).trans (hb3.mono (HB0.out.trans (hb2.mono HB0.out.size)).size)⟩
  have z1 : (kind == 1) = false := by simpa using k1
  rw [if_neg k1] at HF
  by_cases k2 : kind = 2
  · subst k2
    rw [if_pos rfl] at HF
    obtain ⟨M, hM⟩ : ∃ M, (U && N) = M := ⟨_, rfl⟩
    rw [hM] at TN
    have HMR : Hid (((E && !self && N && Y) && (V && U && T)) = (M && Y && E && !self)) := by
      show _ = _
      have h1 := HEV.out
      have h3 := HYT.out
      rw [← hM]
      cases Y with
      | false => simp
      | true =>
        cases E with
        | false => simp
        | true => rw [h3 rfl, h1 rfl]; cases N <;> cases self <;> cases U <;> rfl
    clear hM
    go_wp2_with (first
      | (go_at_call 28; refine TN.out.mono ?_; rintro e w2 ⟨rfl, hb2⟩; have t2' := (hb2.cell (p := ⟨w.heap.size, 2, none⟩) hz0).trans t2; have t3' := (hb2.cell (p := ⟨w.heap.size, 3, none⟩) hz0).trans t3; have t4' := (hb2.cell (p := ⟨w.heap.size, 4, none⟩) hz0).trans t4))
    all_goals go_ret
    all_goals exact ⟨ret_bool (by rw [HF.out, HMR.out]; simp_all), HB0.out.trans (hb2.mono HB0.out.size)⟩
  have z2 : (kind == 2) = false := by simpa using k2
  rw [if_neg k2] at HF
  by_cases k3 : kind = 3
  · subst k3
    rw [if_pos rfl] at HF
    go_wp2_with (first
      | (go_at_call 27; refine VT.out.mono ?_; rintro e w2 ⟨rfl, hb2⟩))
    all_goals go_ret
    all_goals first
      | exact ⟨ret_bool (by have h1 := HEV.out; have h2 := HXU.out; have h3 := HYT.out; rw [HF.out]; simp_all), HB0.out⟩
      | exact ⟨ret_bool (by have h1 := HEV.out; have h2 := HXU.out; have h3 := HYT.out; rw [HF.out]; simp_all), HB0.out.trans (hb2.mono HB0.out.size)⟩
  have z3 : (kind == 3) = false := by simpa using k3
  rw [if_neg k3] at HF
  by_cases k4 : kind = 4
  · subst k4
    rw [if_pos rfl] at HF
    go_wp2
    all_goals go_ret
    all_goals exact ⟨ret_bool (by have h1 := HEV.out; have h2 := HXU.out; have h3 := HYT.out; rw [HF.out]; simp_all), HB0.out⟩
  have z4 : (kind == 4) = false := by simpa using k4
  rw [if_neg k4] at HF
  go_wp2
  all_goals go_ret
  all_goals exact ⟨ret_bool (by rw [HF.out]; rfl), HB0.out⟩
end Go.Proofs.YtelfejbhlolppaaDoor.T
