/- What is proved here: push of the statements of layer 16: the stack behind a plan and a name. -/
import Derived.Test.YtdkcibafbdmajaaNeApply2
import Derived.Test.YtdkcibafbdmajaaNeStayF
namespace Go.Proofs.Ytdkcibafbdmajaa.E
open Go.RowKit Go.Shelf Go.WideMaps Go.Maps Go.Proofs.Ytdkcibafbdmajaa.N Go.Proofs.Ytdkcibafbdmajaa.C

def pushL (S : List Txt) (z : Int) (L : List Txt) (x : Txt) : List Txt := applyL S z L ++ (if voidB x then [] else [x])
set_option maxRecDepth 100000 in
set_option maxHeartbeats 4000000 in
/-- push of no name. -/
theorem push_none (S L : List Txt) (z : Int) (d : Bool) (a la : Option Addr) (c lc : Nat) (w : World) (hT : Txts w a S c) (hQ : Txts w la L lc) (hS : S.length ≤ 10000000) (hL : L.length ≤ 10000000) (hz0 : 0 ≤ z) (hz1 : z ≤ S.length) :
    Calls Try.prog 30 #[.slice a S.length c, .agg #[.int .i64 z, .slice la L.length lc, .bool d], .string ⟨#[]⟩] w fun e w' =>
      ∃ v cv, e = .returned (.tuple #[.slice v (applyL S z L).length cv, .bool true]) ∧ OwnT w.heap.size w' (.slice v (applyL S z L).length cv) (applyL S z L) ∧ Below w.heap.size w w' := by
  obtain ⟨W1, hW1⟩ : ∃ W, w.alloc (.cells #[.int .i64 z, .slice la L.length lc, .bool d] 27) = W := ⟨_, rfl⟩
  have b1 : Below w.heap.size w W1 := by rw [← hW1]; exact (Below.refl _ w).alloc (Nat.le_refl _) _
  have q1 : Blk W1 w.heap.size #[.int .i64 z, .slice la L.length lc, .bool d] 27 := by rw [← hW1]; exact Blk.new _ _ _
  have HA := hid_of (Apply_any S L z d a la c lc W1 (hT.below b1) (hQ.below b1) hS hL hz0 hz1)
  have HW : Hid (w.alloc (.cells #[.int .i64 z, .slice la L.length lc, .bool d] 27) = W1) := hW1
  have HB1 := hid_of b1
  have c0 : W1.cell? ⟨w.heap.size, 0, none⟩ = some (.int .i64 z) := q1.cell 0
  have c1 : W1.cell? ⟨w.heap.size, 1, none⟩ = some (.slice la L.length lc) := q1.cell 1
  have c2 : W1.cell? ⟨w.heap.size, 2, none⟩ = some (.bool d) := q1.cell 2
  clear hW1 b1 q1 hT hQ
  generalize applyL S z L = P at *
  go_enter Try.func30, Try.ntmps30
  go_upto_region 1 with fail
  rw [HW.out]
  go_wp2_with fail
  (go_at_call 52; refine HA.out.mono ?_; rintro e w2 ⟨v2, c2', rfl, ho2, hb2⟩)
  go_wp2_with (go_at_call 16; refine (num_calls _ _).mono ?_; rintro e w' ⟨rfl, hw'⟩; have hx' := hw'.symm; subst hx')
  go_ret2
  exact ⟨v2, c2', rfl, own_low ho2 HB1.out.size, HB1.out.trans (hb2.mono HB1.out.size)⟩
set_option maxRecDepth 100000 in
set_option maxHeartbeats 4000000 in
/-- push of a name. -/
theorem push_name (S L : List Txt) (z : Int) (d : Bool) (a la : Option Addr) (c lc : Nat) (x : Txt) (hx0 : x ≠ []) (hx : x.length ≤ 10000000000) (w : World) (hm : MaxOk w) (hT : Txts w a S c) (hQ : Txts w la L lc) (hS : S.length ≤ 10000000) (hL : L.length ≤ 10000000) (hz0 : 0 ≤ z) (hz1 : z ≤ S.length) :
    Calls Try.prog 30 #[.slice a S.length c, .agg #[.int .i64 z, .slice la L.length lc, .bool d], .string ⟨x.toArray⟩] w fun e w' =>
      ∃ v cv, e = .returned (.tuple #[.slice v (pushL S z L x).length cv, .bool true]) ∧ OwnT w.heap.size w' (.slice v (pushL S z L x).length cv) (pushL S z L x) ∧ Below w.heap.size w w' := by
  obtain ⟨W1, hW1⟩ : ∃ W, w.alloc (.cells #[.int .i64 z, .slice la L.length lc, .bool d] 27) = W := ⟨_, rfl⟩
  have b1 : Below w.heap.size w W1 := by rw [← hW1]; exact (Below.refl _ w).alloc (Nat.le_refl _) _
  have q1 : Blk W1 w.heap.size #[.int .i64 z, .slice la L.length lc, .bool d] 27 := by rw [← hW1]; exact Blk.new _ _ _
  have HA := hid_of (Apply_any S L z d a la c lc W1 (hT.below b1) (hQ.below b1) hS hL hz0 hz1)
  have HW : Hid (w.alloc (.cells #[.int .i64 z, .slice la L.length lc, .bool d] 27) = W1) := hW1
  have HB1 := hid_of b1
  have HM := hid_of (hm.below b1)
  have c0 : W1.cell? ⟨w.heap.size, 0, none⟩ = some (.int .i64 z) := q1.cell 0
  have c1 : W1.cell? ⟨w.heap.size, 1, none⟩ = some (.slice la L.length lc) := q1.cell 1
  have c2 : W1.cell? ⟨w.heap.size, 2, none⟩ = some (.bool d) := q1.cell 2
  have hne : x.isEmpty = false := by cases x; exact absurd rfl hx0; rfl
  have HIN : Hid (∀ W, MaxOk W → Calls Try.prog 31 #[.string ⟨x.toArray⟩, .int .i64 0] W fun e w' => e = .returned (.bool (voidB x)) ∧ w' = W) := fun W hm => by
    have := in_calls ⟨x.toArray⟩ 0 W (by show x.toArray.size ≤ _; simp; omega) hm
    rwa [show (⟨x.toArray⟩ : ByteArray).data.toList = x from rfl] at this
  have HP : Hid (pushL S z L x = applyL S z L ++ (if voidB x then [] else [x])) := rfl
  have hal : (applyL S z L).length ≤ 30000000 := by unfold applyL; rw [List.length_append, List.length_take]; omega
  clear hW1 b1 q1 hT hQ hm hx0
  generalize pushL S z L x = R at *
  generalize applyL S z L = P at *
  generalize voidB x = vo at *
  cases vo
  · have HR : Hid (R = P ++ [x]) := by rw [HP.out]; rfl
    clear HP
    rw [HR.out]
    go_enter Try.func30, Try.ntmps30
    go_upto_region 1 with fail
    rw [HW.out]
    go_wp2_with fail
    (go_at_call 52; refine HA.out.mono ?_; rintro e w2 ⟨v2, c2', rfl, ho2, hb2⟩)
    have HM2 := hid_of (HM.out.below hb2)
    have HB2 : Hid (Below w.heap.size w w2) := HB1.out.trans (hb2.mono HB1.out.size)
    have HO2A : Hid (OwnT w.heap.size (w2.alloc (.cells #[.string ⟨x.toArray⟩] 9)) (.slice v2 P.length c2') P) := World.ownsRow.alloc (own_low ho2 HB1.out.size) _
    have HX2 : Hid (Txts (w2.alloc (.cells #[.string ⟨x.toArray⟩] 9)) (some ⟨w2.heap.size, 0, none⟩) [x] 1) := ⟨lit_texts w2 [x] _ rfl, Nat.le_refl _, fun e => by cases e⟩
    have HB2A : Hid (Below w.heap.size w (w2.alloc (.cells #[.string ⟨x.toArray⟩] 9))) := HB2.out.alloc HB2.out.size _
    clear ho2 hb2
    go_wp2_with (first
      | (go_at_call 16; refine (num_calls _ _).mono ?_; rintro e w' ⟨rfl, hw'⟩; have hx' := hw'.symm; subst hx')
      | (go_at_call 31; refine (HIN.out _ HM2.out).mono ?_; rintro e w' ⟨rfl, hw'⟩; have hx' := hw'.symm; subst hx')
      | (at_builtin; refine append_texts rfl _ _ rfl w.heap.size _ P rfl HO2A.out (some ⟨w2.heap.size, 0, none⟩) 1 [x] rfl HX2.out (by simp; omega) HB2A.out.size ?_; intro v' w3 hown3 hgrow3; obtain ⟨a3, c3, rfl⟩ := owns_slice hown3))
    go_ret2
    have e6 : (P ++ [x]).length = P.length + 1 := by simp
    exact ⟨a3, c3, (by rw [e6]; rfl), hown3, HB2A.out.grown hgrow3 HB2A.out.size (fun j hj => (HO2A.out.lt j hj).1)⟩
  · have HR : Hid (R = P) := by rw [HP.out]; show P ++ [] = P; rw [List.append_nil]
    clear HP
    rw [HR.out]
    go_enter Try.func30, Try.ntmps30
    go_upto_region 1 with fail
    rw [HW.out]
    go_wp2_with fail
    (go_at_call 52; refine HA.out.mono ?_; rintro e w2 ⟨v2, c2', rfl, ho2, hb2⟩)
    have HM2 := hid_of (HM.out.below hb2)
    go_wp2_with (first
      | (go_at_call 16; refine (num_calls _ _).mono ?_; rintro e w' ⟨rfl, hw'⟩; have hx' := hw'.symm; subst hx')
      | (go_at_call 31; refine (HIN.out _ HM2.out).mono ?_; rintro e w' ⟨rfl, hw'⟩; have hx' := hw'.symm; subst hx'))
    go_ret2
    exact ⟨v2, c2', rfl, own_low ho2 HB1.out.size, HB1.out.trans (hb2.mono HB1.out.size)⟩
/-! ### what is behind a plan -/
theorem apply_app (S : List Txt) (r : St) (h : r.1 ≤ S.length) : applyL S ((S.length : Int) - (r.1 : Int)) r.2 = app S r := by
  unfold applyL app
  have : S.length - ((S.length : Int) - (r.1 : Int)).toNat = r.1 := by omega
  rw [this]
theorem apply_none (S : List Txt) : applyL S 0 [] = S := by unfold applyL; simp
theorem few_app {S : List Txt} (h : Few S) (k : Nat) (T : List Txt) (hT : T.length ≤ 100) (hl : S.length ≤ 99900) (hb : ∀ y ∈ T, y.length ≤ 10000000000) : Few (S.take k ++ T) := ⟨by rw [List.length_append, List.length_take]; omega, fun j => by
  rw [List.getD_eq_getElem?_getD]
  by_cases hj : j < (S.take k).length
  · rw [List.getElem?_append_left hj, List.getElem?_take_of_lt (by rw [List.length_take] at hj; omega)]
    have := h.each j
    rwa [List.getD_eq_getElem?_getD] at this
  · rw [List.getElem?_append_right (by omega)]
    by_cases hj2 : j - (S.take k).length < T.length
    · rw [List.getElem?_eq_getElem hj2]
      exact hb _ (List.getElem_mem hj2)
    · rw [List.getElem?_eq_none (by omega)]
      simp⟩
theorem ins_small (S : List Txt) (k : Nat) (x : Txt) : ∀ y ∈ (elementK S k x).2, y.length ≤ 10000000000 := fun y hy => by
  have h3 := (fine_ins S k x y hy).1
  have h4 : y ∈ SW 15 := by simpa [allowB, inZ] using h3
  have h5 : ∀ z ∈ SW 15, z.length ≤ 10000000000 := by decide +kernel
  exact h5 y h4
theorem stand_small (t : Txt) : ∀ y ∈ standI t, y.length ≤ 10000000000 := fun y hy => by
  have h : y ∈ [xTbody, xTr, xTd, xLi, xDd] := by
    unfold standI at hy
    repeat' split at hy
    all_goals simp at hy
    all_goals simp
    all_goals rcases hy with rfl | rfl | rfl <;> simp
  have h5 : ∀ z ∈ [xTbody, xTr, xTd, xLi, xDd], z.length ≤ 10000000000 := by decide
  exact h5 y h
end Go.Proofs.Ytdkcibafbdmajaa.E
