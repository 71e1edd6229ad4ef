/- What is proved here: the questions that find is asked: cell, wall, list, body, row, never, and one name alone. -/
import Derived.Test.YtdkcibafbdmajaaNeFind
namespace Go.Proofs.Ytdkcibafbdmajaa.E
open Go.RowKit Go.Shelf Go.WideMaps Go.Maps Go.Proofs.Ytdkcibafbdmajaa.N Go.Proofs.Ytdkcibafbdmajaa.C

set_option maxRecDepth 100000 in
theorem cell_calls (x : Txt) (w : World) : Calls Try.prog 82 #[.string ⟨x.toArray⟩] w fun e w' => e = .returned (.bool (cellB x)) ∧ w' = w := by
  go_enter Try.func82, Try.ntmps82
  go_wp2
  all_goals (go_ret; exact ⟨by simp [cellB, xTd, xTh, xCaption, Bool.or_assoc, *], rfl⟩)
set_option maxRecDepth 100000 in
theorem wall_calls (x : Txt) (w : World) : Calls Try.prog 66 #[.string ⟨x.toArray⟩] w fun e w' => e = .returned (.bool (wallB x)) ∧ w' = w := by
  obtain ⟨c, hc⟩ : ∃ c, cellB x = c := ⟨_, rfl⟩
  go_enter Try.func66, Try.ntmps66
  go_wp2_with (go_at_call 82; refine (cell_calls _ _).mono ?_; rintro e w' ⟨rfl, rfl⟩; rw [hc])
  all_goals (go_ret; exact ⟨by simp [wallB, xTable, *], rfl⟩)
set_option maxRecDepth 100000 in
theorem list_calls' (x : Txt) (w : World) : Calls Try.prog 94 #[.string ⟨x.toArray⟩] w fun e w' => e = .returned (.bool (listB x)) ∧ w' = w := by
  go_enter Try.func94, Try.ntmps94
  go_wp2
  all_goals (go_ret; exact ⟨by simp [listB, xUl, xOl, xMenu, Bool.or_assoc, *], rfl⟩)
set_option maxRecDepth 100000 in
theorem body_calls (x : Txt) (w : World) : Calls Try.prog 97 #[.string ⟨x.toArray⟩] w fun e w' => e = .returned (.bool (bodyB x)) ∧ w' = w := by
  go_enter Try.func97, Try.ntmps97
  go_wp2
  all_goals (go_ret; exact ⟨by simp_all [bodyB, xThead, xTbody, xTfoot, xTable], rfl⟩)
set_option maxRecDepth 100000 in
theorem nrow_calls (x : Txt) (w : World) : Calls Try.prog 98 #[.string ⟨x.toArray⟩] w fun e w' => e = .returned (.bool (rowB x)) ∧ w' = w := by
  obtain ⟨c, hc⟩ : ∃ c, bodyB x = c := ⟨_, rfl⟩
  go_enter Try.func98, Try.ntmps98
  go_wp2_with (go_at_call 97; refine (body_calls _ _).mono ?_; rintro e w' ⟨rfl, rfl⟩; rw [hc])
  all_goals (go_ret; exact ⟨by simp_all [rowB, xTr], rfl⟩)
theorem never_calls (x : Txt) (w : World) : Calls Try.prog 68 #[.string ⟨x.toArray⟩] w fun e w' => e = .returned (.bool (neverB x)) ∧ w' = w := by
  go_enter Try.func68, Try.ntmps68
  go_wp2
  go_ret
  exact ⟨rfl, rfl⟩
theorem is1_calls (x y : Txt) (B : Nat) (w : World) (hB : w.cell? ⟨B, 0, none⟩ = some (.string ⟨y.toArray⟩)) : Calls Try.prog 85 #[.string ⟨x.toArray⟩, .pointer (some ⟨B, 0, none⟩)] w fun e w' => e = .returned (.bool (isB y x)) ∧ w' = w := by
  go_enter Try.func85, Try.ntmps85
  go_wp2
  all_goals (go_ret; exact ⟨by simp [isB, *], rfl⟩)
theorem is_calls (y : ByteArray) (w : World) : Calls Try.prog 67 #[.string y] w fun e w' => e = .returned (.func (.func 85) #[] #[.pointer (some ⟨w.heap.size, 0, none⟩)]) ∧ w' = w.alloc (.cells #[.string y] 9) := by
  go_enter Try.func67, Try.ntmps67
  go_wp2
  go_ret
  exact ⟨rfl, rfl⟩
/-- A plain function asks. -/
theorem asks_plain {lb f : Nat} {p : Txt → Bool} {I : Nat → World → Prop} (hI : ∀ m W, I m W → I (m + 1) W) (he : ∀ args W, (callFunc f args).run Try.prog W = .ok (.enter f args) W)
    (h : ∀ x w, Calls Try.prog f #[.string ⟨x.toArray⟩] w fun e w' => e = .returned (.bool (p x)) ∧ w' = w) : Asks lb f #[] #[] p I := ⟨he, fun x m W hi _ _ => (h x W).mono fun _ _ ⟨e1, e2⟩ => ⟨e1, e2 ▸ hI m W hi, e2 ▸ World.grownBy.refl _ _⟩⟩
/-- One name alone: boxed at B. -/
theorem asks_is {lb B : Nat} {y : Txt} {I : Nat → World → Prop} (hI : ∀ m W, I m W → I (m + 1) W ∧ W.cell? ⟨B, 0, none⟩ = some (.string ⟨y.toArray⟩)) : Asks lb 85 #[] #[.pointer (some ⟨B, 0, none⟩)] (isB y) I :=
  ⟨enters_of Try.func85 (by kernel_rfl) rfl, fun x m W hi _ _ => (is1_calls x y B W (hI m W hi).2).mono fun _ _ ⟨e1, e2⟩ => ⟨e1, e2 ▸ (hI m W hi).1, e2 ▸ World.grownBy.refl _ _⟩⟩
theorem ent_cell : ∀ args W, (callFunc 82 args).run Try.prog W = .ok (.enter 82 args) W := enters_of Try.func82 (by kernel_rfl) rfl
theorem ent_wall : ∀ args W, (callFunc 66 args).run Try.prog W = .ok (.enter 66 args) W := enters_of Try.func66 (by kernel_rfl) rfl
theorem ent_list : ∀ args W, (callFunc 94 args).run Try.prog W = .ok (.enter 94 args) W := enters_of Try.func94 (by kernel_rfl) rfl
theorem ent_body : ∀ args W, (callFunc 97 args).run Try.prog W = .ok (.enter 97 args) W := enters_of Try.func97 (by kernel_rfl) rfl
theorem ent_row : ∀ args W, (callFunc 98 args).run Try.prog W = .ok (.enter 98 args) W := enters_of Try.func98 (by kernel_rfl) rfl
theorem ent_never : ∀ args W, (callFunc 68 args).run Try.prog W = .ok (.enter 68 args) W := enters_of Try.func68 (by kernel_rfl) rfl
/-- What is boxed at B besides. -/
theorem Minds.box {C lb B : Nat} {v : Value} {I : Nat → World → Prop} (h : Minds C lb I) (hB : B < C) : Minds C lb (fun m W => I m W ∧ W.cell? ⟨B, 0, none⟩ = some v) where
  own := fun m W W' row ⟨hi, hc⟩ hg hr => ⟨h.own m W W' row hi hg hr, hg.cell hc (fun e => by have := (hr _ e.symm).1; exact absurd this (by show ¬ C ≤ B; omega))⟩
  kind := fun m W ⟨hi, _⟩ => h.kind m W hi
  lt := h.lt
  set := fun m W k v ⟨hi, hc⟩ hk => ⟨h.set m W k v hi hk, (World.cell?_setCell_other _ _ _ _ (by rintro ⟨⟩; omega)).trans hc⟩
  mono := fun m m' W ⟨hi, hc⟩ hm => ⟨h.mono m m' W hi hm, hc⟩
end Go.Proofs.Ytdkcibafbdmajaa.E
