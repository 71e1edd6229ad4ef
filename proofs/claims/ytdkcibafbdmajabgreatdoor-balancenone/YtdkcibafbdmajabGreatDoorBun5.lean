/- What is proved here: laws and contracts of NePred, NeBlk, one behind the other (each says its own). -/
import Derived.Test.YtdkcibafbdmajabGreatDoorNeFind
import Derived.Deep.Cut
import Derived.Deep.RegionHeld3
/- What is proved here: the questions that find is asked: cell, wall, list, body, row, never, and one name alone. -/
namespace Go.Proofs.YtdkcibafbdmajabGreatDoor.E
open Go.RowKit Go.Shelf Go.WideMaps Go.Maps Go.Proofs.YtdkcibafbdmajabGreatDoor.N Go.Proofs.YtdkcibafbdmajabGreatDoor.C

set_option maxRecDepth 100000 in
theorem cell_calls (x : Txt) (w : World) : Calls Tryz.prog 143 #[.string ⟨x.toArray⟩] w fun e w' => e = .returned (.bool (cellB x)) ∧ w' = w := by
  go_enter Tryz.func143, Tryz.ntmps143
  go_wp2
  all_goals (go_ret; exact ⟨by simp [cellB, xTd, xTh, xCaption, Bool.or_assoc, *], rfl⟩)
set_option maxRecDepth 100000 in
theorem wall_calls (x : Txt) (w : World) : Calls Tryz.prog 125 #[.string ⟨x.toArray⟩] w fun e w' => e = .returned (.bool (wallB x)) ∧ w' = w := by
  obtain ⟨c, hc⟩ : ∃ c, cellB x = c := ⟨_, rfl⟩
  go_enter Tryz.func125, Tryz.ntmps125
  go_wp2_with (go_at_call 143; refine (cell_calls _ _).mono ?_; rintro e w' ⟨rfl, rfl⟩; rw [hc])
  all_goals (go_ret; exact ⟨by simp [wallB, xTable, *], rfl⟩)
set_option maxRecDepth 100000 in
theorem list_calls' (x : Txt) (w : World) : Calls Tryz.prog 155 #[.string ⟨x.toArray⟩] w fun e w' => e = .returned (.bool (listB x)) ∧ w' = w := by
  go_enter Tryz.func155, Tryz.ntmps155
  go_wp2
  all_goals (go_ret; exact ⟨by simp [listB, xUl, xOl, xMenu, Bool.or_assoc, *], rfl⟩)
set_option maxRecDepth 100000 in
theorem body_calls (x : Txt) (w : World) : Calls Tryz.prog 158 #[.string ⟨x.toArray⟩] w fun e w' => e = .returned (.bool (bodyB x)) ∧ w' = w := by
  go_enter Tryz.func158, Tryz.ntmps158
  go_wp2
  all_goals (go_ret; exact ⟨by simp_all [bodyB, xThead, xTbody, xTfoot, xTable], rfl⟩)
set_option maxRecDepth 100000 in
theorem nrow_calls (x : Txt) (w : World) : Calls Tryz.prog 159 #[.string ⟨x.toArray⟩] w fun e w' => e = .returned (.bool (rowB x)) ∧ w' = w := by
  obtain ⟨c, hc⟩ : ∃ c, bodyB x = c := ⟨_, rfl⟩
  go_enter Tryz.func159, Tryz.ntmps159
  go_wp2_with (go_at_call 158; refine (body_calls _ _).mono ?_; rintro e w' ⟨rfl, rfl⟩; rw [hc])
  all_goals (go_ret; exact ⟨by simp_all [rowB, xTr], rfl⟩)
theorem never_calls (x : Txt) (w : World) : Calls Tryz.prog 127 #[.string ⟨x.toArray⟩] w fun e w' => e = .returned (.bool (neverB x)) ∧ w' = w := by
  go_enter Tryz.func127, Tryz.ntmps127
  go_wp2
  go_ret
  exact ⟨rfl, rfl⟩
theorem is1_calls (x y : Txt) (B : Nat) (w : World) (hB : w.cell? ⟨B, 0, none⟩ = some (.string ⟨y.toArray⟩)) : Calls Tryz.prog 148 #[.string ⟨x.toArray⟩, .pointer (some ⟨B, 0, none⟩)] w fun e w' => e = .returned (.bool (isB y x)) ∧ w' = w := by
  go_enter Tryz.func148, Tryz.ntmps148
  go_wp2
  all_goals (go_ret; exact ⟨by simp [isB, *], rfl⟩)
theorem is_calls (y : ByteArray) (w : World) : Calls Tryz.prog 126 #[.string y] w fun e w' => e = .returned (.func (.func 148) #[] #[.pointer (some ⟨w.heap.size, 0, none⟩)]) ∧ w' = w.alloc (.cells #[.string y] 9) := by
  go_enter Tryz.func126, Tryz.ntmps126
  go_wp2
  go_ret
  exact ⟨rfl, rfl⟩
/-- A plain function asks. -/
theorem asks_plain {lb f : Nat} {p : Txt → Bool} {I : Nat → World → Prop} (hI : ∀ m W, I m W → I (m + 1) W) (he : ∀ args W, (callFunc f args).run Tryz.prog W = .ok (.enter f args) W)
    (h : ∀ x w, Calls Tryz.prog f #[.string ⟨x.toArray⟩] w fun e w' => e = .returned (.bool (p x)) ∧ w' = w) : Asks lb f #[] #[] p I := ⟨he, fun x m W hi _ _ => (h x W).mono fun _ _ ⟨e1, e2⟩ => ⟨e1, e2 ▸ hI m W hi, e2 ▸ World.grownBy.refl _ _⟩⟩
/-- One name alone: boxed at B. -/
theorem asks_is {lb B : Nat} {y : Txt} {I : Nat → World → Prop} (hI : ∀ m W, I m W → I (m + 1) W ∧ W.cell? ⟨B, 0, none⟩ = some (.string ⟨y.toArray⟩)) : Asks lb 148 #[] #[.pointer (some ⟨B, 0, none⟩)] (isB y) I :=
  ⟨enters_of Tryz.func148 (by kernel_rfl) rfl, fun x m W hi _ _ => (is1_calls x y B W (hI m W hi).2).mono fun _ _ ⟨e1, e2⟩ => ⟨e1, e2 ▸ (hI m W hi).1, e2 ▸ World.grownBy.refl _ _⟩⟩
theorem ent_cell : ∀ args W, (callFunc 143 args).run Tryz.prog W = .ok (.enter 143 args) W := enters_of Tryz.func143 (by kernel_rfl) rfl
theorem ent_wall : ∀ args W, (callFunc 125 args).run Tryz.prog W = .ok (.enter 125 args) W := enters_of Tryz.func125 (by kernel_rfl) rfl
theorem ent_list : ∀ args W, (callFunc 155 args).run Tryz.prog W = .ok (.enter 155 args) W := enters_of Tryz.func155 (by kernel_rfl) rfl
theorem ent_body : ∀ args W, (callFunc 158 args).run Tryz.prog W = .ok (.enter 158 args) W := enters_of Tryz.func158 (by kernel_rfl) rfl
theorem ent_row : ∀ args W, (callFunc 159 args).run Tryz.prog W = .ok (.enter 159 args) W := enters_of Tryz.func159 (by kernel_rfl) rfl
theorem ent_never : ∀ args W, (callFunc 127 args).run Tryz.prog W = .ok (.enter 127 args) W := enters_of Tryz.func127 (by kernel_rfl) rfl
/-- What is boxed at B besides. -/
theorem Minds.box {C lb B : Nat} {v : Value} {I : Nat → World → Prop} (h : Minds C lb I) (hB : B < C) : Minds C lb (fun m W => I m W ∧ W.cell? ⟨B, 0, none⟩ = some v) where
  own := fun m W W' row ⟨hi, hc⟩ hg hr => ⟨h.own m W W' row hi hg hr, hg.cell hc (fun e => by have := (hr _ e.symm).1; exact absurd this (by show ¬ C ≤ B; omega))⟩
  kind := fun m W ⟨hi, _⟩ => h.kind m W hi
  lt := h.lt
  set := fun m W k v ⟨hi, hc⟩ hk => ⟨h.set m W k v hi hk, (World.cell?_setCell_other _ _ _ _ (by rintro ⟨⟩; omega)).trans hc⟩
  mono := fun m m' W ⟨hi, hc⟩ hm => ⟨h.mono m m' W hi hm, hc⟩
end Go.Proofs.YtdkcibafbdmajabGreatDoor.E

/- What is proved here: a struct in memory; the table in memory, with the library's variable that names.In reads. -/
namespace Go.Proofs.YtdkcibafbdmajabGreatDoor.E
open Go.RowKit Go.Shelf Go.WideMaps Go.Maps Go.Proofs.YtdkcibafbdmajabGreatDoor.N Go.Proofs.YtdkcibafbdmajabGreatDoor.C

theorem hid_of {p : Prop} (h : p) : Hid p := h
/-- A struct in memory, none of it frozen. -/
def Blk (w : World) (g : Nat) (cs : Array Value) (t : TypeId) : Prop := w.heap[g]? = some (.cells cs t)
theorem Blk.cell {w : World} {g : Nat} {cs : Array Value} {t : TypeId} (h : Blk w g cs t) (j : Nat) : w.cell? ⟨g, j, none⟩ = cs[j]? := by
  simp only [World.cell?]; rw [show w.heap[g]? = _ from h]; simp
theorem Blk.frozen {w : World} {g : Nat} {cs : Array Value} {t : TypeId} (h : Blk w g cs t) (j : Nat) : w.frozen? ⟨g, j, none⟩ = false := by
  simp only [World.frozen?]; rw [show w.heap[g]? = _ from h]; simp
theorem Blk.lt {w : World} {g : Nat} {cs : Array Value} {t : TypeId} (h : Blk w g cs t) : g < w.heap.size := by
  have : w.heap[g]? = some _ := h
  exact (Array.getElem?_eq_some_iff.1 this).1
theorem Blk.set {w : World} {g : Nat} {cs : Array Value} {t : TypeId} (h : Blk w g cs t) (j : Nat) (v : Value) : Blk (w.setCell ⟨g, j, none⟩ v) g (cs.setIfInBounds j v) t := by
  have hh : w.heap[g]? = some _ := h
  have hl := h.lt
  show (w.setCell ⟨g, j, none⟩ v).heap[g]? = _
  simp only [World.setCell, Array.getElem?_modify, hh]; simp
theorem Blk.new (w : World) (cs : Array Value) (t : TypeId) : Blk (w.alloc (.cells cs t)) w.heap.size cs t := World.alloc_heap_new w _
theorem Blk.below {w w' : World} {g : Nat} {cs : Array Value} {t : TypeId} (h : Blk w g cs t) (hb : Below w.heap.size w w') : Blk w' g cs t := (hb.block g h.lt).trans h
theorem Blk.grown {w w' : World} {g : Nat} {cs : Array Value} {t : TypeId} {row : Option Nat} (h : Blk w g cs t) (hb : w.grownBy w' row) (hr : some g ≠ row) : Blk w' g cs t := (hb.block g h.lt hr).trans h
theorem Blk.other {w : World} {g g' : Nat} {cs : Array Value} {t : TypeId} (h : Blk w g cs t) (hg : g ≠ g') (j : Nat) (v : Value) : Blk (w.setCell ⟨g', j, none⟩ v) g cs t := by
  show (w.setCell ⟨g', j, none⟩ v).heap[g]? = _
  rw [Below.heap_setCell _ _ _ _ (fun e => hg e)]
  exact h
theorem below_setCell {n : Nat} {w W : World} (h : Below n w W) {g : Nat} (hg : n ≤ g) (j : Nat) (v : Value) : Below n w (W.setCell ⟨g, j, none⟩ v) :=
  ⟨h.os, h.tape, h.output, by simpa [World.setCell] using h.size, fun k hk => by rw [Below.heap_setCell _ _ _ _ (fun e => by rw [show k = g from e] at hk; omega)]; exact h.block k hk⟩
theorem own_set {base : Nat} {w : World} {v : Value} {l : List Txt} (h : OwnT base w v l) {g : Nat} (hg : g < base) (j : Nat) (x : Value) : OwnT base (w.setCell ⟨g, j, none⟩ x) v l := by
  refine ⟨h.1, ?_⟩
  rcases h.2 with h0 | ⟨b, cap, cur, e, hb, hr, r⟩
  · exact .inl h0
  · exact .inr ⟨b, cap, cur, e, hb, by rw [Below.heap_setCell _ _ _ _ (fun e => by rw [show b = g from e] at hb; omega)]; exact hr, r⟩
theorem Blk.put3 {w : World} {g : Nat} {u0 u1 u2 : Value} {t : TypeId} (h : Blk w g #[u0, u1, u2] t) (v0 v1 v2 : Value) : Blk (((w.setCell ⟨g, 0, none⟩ v0).setCell ⟨g, 1, none⟩ v1).setCell ⟨g, 2, none⟩ v2) g #[v0, v1, v2] t := by
  have h0 : Blk _ g #[v0, u1, u2] t := h.set 0 v0
  have h1 : Blk _ g #[v0, v1, u2] t := h0.set 1 v1
  exact h1.set 2 v2
theorem Blk.put6 {w : World} {g : Nat} {u0 u1 u2 u3 u4 u5 : Value} {t : TypeId} (h : Blk w g #[u0, u1, u2, u3, u4, u5] t) (v0 v1 v2 v3 v4 v5 : Value) : Blk ((((((w.setCell ⟨g, 0, none⟩ v0).setCell ⟨g, 1, none⟩ v1).setCell ⟨g, 2, none⟩ v2).setCell ⟨g, 3, none⟩ v3).setCell ⟨g, 4, none⟩ v4).setCell ⟨g, 5, none⟩ v5) g #[v0, v1, v2, v3, v4, v5] t := by
  have h0 : Blk _ g #[v0, u1, u2, u3, u4, u5] t := h.set 0 v0
  have h1 : Blk _ g #[v0, v1, u2, u3, u4, u5] t := h0.set 1 v1
  have h2 : Blk _ g #[v0, v1, v2, u3, u4, u5] t := h1.set 2 v2
  have h3 : Blk _ g #[v0, v1, v2, v3, u4, u5] t := h2.set 3 v3
  have h4 : Blk _ g #[v0, v1, v2, v3, v4, u5] t := h3.set 4 v4
  exact h4.set 5 v5
theorem below_put3 {n : Nat} {w W : World} (h : Below n w W) {g : Nat} (hg : n ≤ g) (v0 v1 v2 : Value) : Below n w (((W.setCell ⟨g, 0, none⟩ v0).setCell ⟨g, 1, none⟩ v1).setCell ⟨g, 2, none⟩ v2) := below_setCell (below_setCell (below_setCell h hg 0 v0) hg 1 v1) hg 2 v2
theorem below_put6 {n : Nat} {w W : World} (h : Below n w W) {g : Nat} (hg : n ≤ g) (v0 v1 v2 v3 v4 v5 : Value) : Below n w ((((((W.setCell ⟨g, 0, none⟩ v0).setCell ⟨g, 1, none⟩ v1).setCell ⟨g, 2, none⟩ v2).setCell ⟨g, 3, none⟩ v3).setCell ⟨g, 4, none⟩ v4).setCell ⟨g, 5, none⟩ v5) := below_setCell (below_setCell (below_setCell (below_setCell (below_setCell (below_setCell h hg 0 v0) hg 1 v1) hg 2 v2) hg 3 v3) hg 4 v4) hg 5 v5
/-- The table, and the library's variable. -/
structure Tb (n B pb lb : Nat) (a : Option Addr) (S : List Txt) (k : Nat) (ins : List Txt) (m : Nat) (W : World) : Prop where
  tab : TabW n B pb lb m a S k ins W
  mx : MaxOk W
  mlow : Tryz.laysM144_ren.g 1 < n
theorem Tb.below {n B pb lb : Nat} {a : Option Addr} {S : List Txt} {k : Nat} {ins : List Txt} {m : Nat} {W W' : World} (h : Tb n B pb lb a S k ins m W) (hb : Below W.heap.size W W') : Tb n B pb lb a S k ins m W' := ⟨h.tab.below hb, h.mx.below hb, h.mlow⟩
theorem Tb.grown {n B pb lb : Nat} {a : Option Addr} {S : List Txt} {k : Nat} {ins : List Txt} {m m' : Nat} {W W' : World} (h : Tb n B pb lb a S k ins m W) (hg : W.grownBy W' (some lb)) (hl : LM lb m' W') : Tb n B pb lb a S k ins m' W' := by
  obtain ⟨z, hz⟩ := h.mx
  exact ⟨h.tab.grown hg hl, ⟨z, cell_kept hz hg h.tab.lm.kind⟩, h.mlow⟩
theorem Tb.cells {n B pb lb : Nat} {a : Option Addr} {S : List Txt} {k : Nat} {ins : List Txt} {m : Nat} {W : World} (h : Tb n B pb lb a S k ins m W) : W.cell? ⟨B, 0, none⟩ = some (.map (some pb)) ∧ W.cell? ⟨B, 1, none⟩ = some (.map (some lb)) := by
  obtain ⟨c, vin, _, hb, _⟩ := h.tab.blk
  have hB : Blk W B _ _ := hb
  exact ⟨hB.cell 0, hB.cell 1⟩
theorem Tb.own {n B pb lb : Nat} {a : Option Addr} {S : List Txt} {k : Nat} {ins : List Txt} {m : Nat} {W W' : World} {row : Option Nat} (h : Tb n B pb lb a S k ins m W) (hg : W.grownBy W' row) (hr : ∀ r, row = some r → n ≤ r ∧ ∃ o : Obj, W.heap[r]? = some o ∧ o.isCells = false) : Tb n B pb lb a S k ins m W' := by
  obtain ⟨z, hz⟩ := h.mx
  obtain ⟨c, vin, hc, hb, hv⟩ := h.tab.blk
  have kp : ∀ {p : Addr} {v : Value}, W.cell? p = some v → W'.cell? p = some v := fun {p v} hp => hg.cell hp (fun e => by
    obtain ⟨_, o, ho, hi⟩ := hr _ e.symm
    obtain ⟨o', ho', hi'⟩ := block_of_cell hp
    rw [ho] at ho'; cases ho'; rw [hi] at hi'; cases hi')
  have lo : ∀ {j : Nat}, j < n → W'.heap[j]? = W.heap[j]? := fun {j} hj => hg.block j (by have := h.tab.hn; omega) (fun e => by have := (hr _ e.symm).1; omega)
  refine ⟨⟨⟨c, vin, hc, (lo h.tab.hB).trans hb, hv.kept hg ?_⟩, h.tab.pm.same (lo h.tab.hp), h.tab.lm.same (lo h.tab.hl), fun j hj => ?_, h.tab.hk, h.tab.hB, h.tab.hp, h.tab.hl, h.tab.hne, Nat.le_trans h.tab.hn hg.size, h.tab.low⟩, ⟨z, kp hz⟩, h.mlow⟩
  · cases e : vin.ownBlock with
    | none => exact .inl rfl
    | some g =>
      refine .inr (fun e' => ?_)
      obtain ⟨_, o, ho, hi⟩ := hr g e'.symm
      rcases hv.2 with ⟨rfl, _⟩ | ⟨g2, cap, cur, rfl, _, hg2, _⟩
      · cases e
      · cases e
        rw [ho] at hg2
        cases hg2
        cases hi
  · obtain ⟨b, off, e, hcell⟩ := h.tab.txt j hj
    exact ⟨b, off, e, kp hcell⟩
theorem Tb.set {n B pb lb : Nat} {a : Option Addr} {S : List Txt} {k : Nat} {ins : List Txt} {m : Nat} {W : World} (h : Tb n B pb lb a S k ins m W) {g j : Nat} (v : Value) (hg : W.heap.size ≤ g) : Tb n B pb lb a S k ins m (W.setCell ⟨g, j, none⟩ v) := by
  refine h.below ⟨rfl, rfl, rfl, by simp [World.setCell], fun i hi => Below.heap_setCell _ _ _ _ (fun e => ?_)⟩
  rw [show i = g from e] at hi
  omega
theorem Tb.mono {n B pb lb : Nat} {a : Option Addr} {S : List Txt} {k : Nat} {ins : List Txt} {m m' : Nat} {W : World} (h : Tb n B pb lb a S k ins m W) (hm : m ≤ m') : Tb n B pb lb a S k ins m' W :=
  ⟨⟨h.tab.blk, h.tab.pm, h.tab.lm.mono hm, h.tab.txt, h.tab.hk, h.tab.hB, h.tab.hp, h.tab.hl, h.tab.hne, h.tab.hn, h.tab.low⟩, h.mx, h.mlow⟩
end Go.Proofs.YtdkcibafbdmajabGreatDoor.E
