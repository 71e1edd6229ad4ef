/- What is proved here: a balancer in memory, as long as nothing is too deep: what is told and found, what is open; tell and find. -/
import Derived.Deep.AppendLies
import Derived.Deep.Draws
import Derived.Test.YtdkcibafbdmajabGreatDoorNeText
namespace Go.Proofs.YtdkcibafbdmajabGreatDoor.B
open Go.RowKit Go.Shelf Go.WideMaps Go.Maps Go.Proofs.YtdkcibafbdmajabGreatDoor.N Go.Proofs.YtdkcibafbdmajabGreatDoor.C Go.Proofs.YtdkcibafbdmajabGreatDoor.E

/-- An event; its attributes' slice as it is. -/
structure Ev where
  k : Int
  nm : Txt
  tx : Txt
  av : Value
def Ev.cells (e : Ev) : List Value := [.int .i64 e.k, .string ⟨e.nm.toArray⟩, .string ⟨e.tx.toArray⟩, e.av]
def Ev.val (e : Ev) : Value := .agg #[.int .i64 e.k, .string ⟨e.nm.toArray⟩, .string ⟨e.tx.toArray⟩, e.av]
/-- A finding. -/
structure Fi where
  p0 : Int
  p1 : Int
  p2 : Int
  y : Int
  nm : Txt
def Fi.cells (f : Fi) : List Value := [.int .i64 f.p0, .int .i64 f.p1, .int .i64 f.p2, .int .i64 f.y, .string ⟨f.nm.toArray⟩]
def evv (E : List Ev) : List Value := E.flatMap Ev.cells
def fiv (F : List Fi) : List Value := F.flatMap Fi.cells
theorem evv_snoc (E : List Ev) (e : Ev) : evv (E ++ [e]) = evv E ++ e.cells := by simp [evv]
theorem fiv_snoc (F : List Fi) (f : Fi) : fiv (F ++ [f]) = fiv F ++ f.cells := by simp [fiv]
abbrev OwnEv (n : Nat) (w : World) (v : Value) (E : List Ev) : Prop := w.ownsRow n 51 4 v E.length (evv E)
abbrev OwnFi (n : Nat) (w : World) (v : Value) (F : List Fi) : Prop := w.ownsRow n 74 5 v F.length (fiv F)
/-- What turns a row of one's own keeps rows of another type. -/
theorem own_other {w w' : World} {base base' size size' n n' : Nat} {e e' : TypeId} {v v' : Value} {xs xs' : List Value} (h : w.ownsRow base e size v n xs) (h' : w.ownsRow base' e' size' v' n' xs') (hne : e ≠ e') (hg : w.grownBy w' v.ownBlock) : w'.ownsRow base' e' size' v' n' xs' := by
  refine World.ownsRow.kept h' hg ?_
  rcases h'.2 with ⟨e1, _⟩ | ⟨g', cap', cur', e1, _, hgg2, _⟩
  · exact .inl (by rw [e1]; rfl)
  · refine .inr ?_
    rw [e1]
    intro hb
    rcases h.2 with ⟨rfl, _⟩ | ⟨g, cap, cur, rfl, hg1, hgg, _⟩
    · cases hb
    · have e2 : g' = g := by simpa [Value.ownBlock] using hb
      rw [e2, hgg] at hgg2
      simp at hgg2
      exact hne hgg2.2
/-- A row of one's own is no block of another type. -/
theorem row_not {w : World} {base size n B : Nat} {e t : TypeId} {v : Value} {xs : List Value} {cs : Array Value} (h : w.ownsRow base e size v n xs) (hb : Blk w B cs t) (hne : e ≠ t) : v.ownBlock ≠ some B := fun e0 => by
  rcases h.2 with ⟨rfl, _⟩ | ⟨g, cap, cur, rfl, _, hg, _⟩
  · cases e0
  · have e1 : g = B := by simpa [Value.ownBlock] using e0
    subst e1
    rw [show w.heap[g]? = _ from hb] at hg
    simp at hg
    exact hne hg.2.symm
theorem row_set {w : World} {base size n B j : Nat} {e t : TypeId} {v x : Value} {xs : List Value} {cs : Array Value} (h : w.ownsRow base e size v n xs) (hb : Blk w B cs t) (hne : e ≠ t) : (w.setCell ⟨B, j, none⟩ x).ownsRow base e size v n xs := by
  have h0 := row_not h hb hne
  refine ⟨h.1, ?_⟩
  rcases h.2 with h1 | ⟨g, cap, cur, e1, hg, hr, r⟩
  · exact .inl h1
  · refine .inr ⟨g, cap, cur, e1, hg, ?_, r⟩
    rw [Below.heap_setCell _ _ _ _ (fun e2 => h0 (by rw [e1]; simp only [Value.ownBlock]; exact congrArg some e2))]
    exact hr
theorem blk_grown {w w' : World} {B : Nat} {cs : Array Value} {t : TypeId} {row : Option Nat} (hb : Blk w B cs t) (hg : w.grownBy w' row) (hne : row ≠ some B) : Blk w' B cs t :=
  (hg.block B (lt_of_block hb) (fun e => hne e.symm)).trans hb
theorem blk_da {W : World} {B : Nat} {cs : Array Value} {t : TypeId} (h : Blk W B cs t) (o : Obj) : Blk (W.drew.alloc o) B cs t := h.below ((Below.refl _ W).drew.alloc (Nat.le_refl _) _)
/-- What a balancer holds. -/
structure BSt where
  E : List Ev
  F : List Fi
  S : List Txt
  fr : Bool
  d : Int
  ov : Bool
/-- A balancer in memory, with no ghosts. -/
structure BalAt (n B : Nat) (s : BSt) (w : World) : Prop where
  blk : ∃ v0 v1 v2, Blk w B #[v0, v1, v2, .slice none 0 0, .map none, .bool s.fr, .int .i64 s.d, .bool s.ov] 69 ∧ OwnEv n w v0 s.E ∧ OwnFi n w v1 s.F ∧ OwnT n w v2 s.S
  hB : n ≤ B
theorem BalAt.lt {n B : Nat} {s : BSt} {w : World} (h : BalAt n B s w) : B < w.heap.size := by
  obtain ⟨_, _, _, hb, _⟩ := h.blk
  exact lt_of_block hb
theorem BalAt.below {n B : Nat} {s : BSt} {w w' : World} (h : BalAt n B s w) (hb : Below w.heap.size w w') : BalAt n B s w' := by
  obtain ⟨v0, v1, v2, h0, h1, h2, h3⟩ := h.blk
  exact ⟨⟨v0, v1, v2, h0.below hb, owns_below h1 hb, owns_below h2 hb, owns_below h3 hb⟩, h.hB⟩
/-- The blocks that a balancer holds: its own, and those of its three rows. -/
def Rows (B : Nat) (w : World) (j : Nat) : Prop := j = B ∨ ∃ i v, i < 3 ∧ w.cell? ⟨B, i, none⟩ = some v ∧ v.ownBlock = some j
/-- Nothing else is turned, and nothing that was there becomes the balancer's. -/
structure Fr (B : Nat) (w w' : World) : Prop where
  os : w'.os = w.os
  tape : w'.tape = w.tape
  output : w'.output = w.output
  size : w.heap.size ≤ w'.heap.size
  keep : ∀ j, j < w.heap.size → ¬ Rows B w j → w'.heap[j]? = w.heap[j]? ∧ ¬ Rows B w' j
theorem Fr.refl (B : Nat) (w : World) : Fr B w w := ⟨rfl, rfl, rfl, Nat.le_refl _, fun _ _ h => ⟨rfl, h⟩⟩
theorem Fr.trans {B : Nat} {a b c : World} (h : Fr B a b) (k : Fr B b c) : Fr B a c :=
  ⟨k.os.trans h.os, k.tape.trans h.tape, k.output.trans h.output, Nat.le_trans h.size k.size, fun j hj hr => by
    obtain ⟨h1, h2⟩ := h.keep j hj hr
    obtain ⟨h3, h4⟩ := k.keep j (Nat.lt_of_lt_of_le hj h.size) h2
    exact ⟨h3.trans h1, h4⟩⟩
theorem Fr.of_below {B : Nat} {w w' : World} (hB : B < w.heap.size) (h : Below w.heap.size w w') : Fr B w w' :=
  ⟨h.os, h.tape, h.output, h.size, fun j hj hr => ⟨h.block j hj, fun hr' => hr (by
    rcases hr' with e | ⟨i, v, hi, hc, hv⟩
    · exact .inl e
    · exact .inr ⟨i, v, hi, (h.cell (p := ⟨B, i, none⟩) hB).symm.trans hc, hv⟩)⟩⟩
theorem Fr.below {n B : Nat} {s : BSt} {w w' : World} (h : BalAt n B s w) (hf : Fr B w w') (hn : n ≤ w.heap.size) : Below n w w' :=
  ⟨hf.os, hf.tape, hf.output, hf.size, fun j hj => (hf.keep j (Nat.lt_of_lt_of_le hj hn) (fun hr => by
    obtain ⟨v0, v1, v2, hb, o0, o1, o2⟩ := h.blk
    have hB := h.hB
    rcases hr with e | ⟨i, v, hi, hc, hv⟩
    · omega
    · rw [hb.cell] at hc
      match i, hi, hc with
      | 0, _, hc => injection hc with hc; subst hc; have := (o0.lt j hv).1; omega
      | 1, _, hc => injection hc with hc; subst hc; have := (o1.lt j hv).1; omega
      | 2, _, hc => injection hc with hc; subst hc; have := (o2.lt j hv).1; omega)).1⟩
theorem Fr.blk {B g : Nat} {w w' : World} (hf : Fr B w w') (hr : ¬ Rows B w g) {cs : Array Value} {t : TypeId} (hb : Blk w g cs t) : Blk w' g cs t := (hf.keep g (lt_of_block hb) hr).1.trans hb
/-- A row is appended to and laid back. -/
theorem fr_row {B i g len cap : Nat} {w w4 : World} {v : Value} {cs : Array Value} {t : TypeId} (hb : Blk w B cs t) (hi : cs[i]? = some v) (hi3 : i < 3) (hg : w.grownBy w4 v.ownBlock) (hb4 : Blk w4 B cs t) (hat : v.ownBlock = some g ∨ w.heap.size ≤ g) : Fr B w (w4.setCell ⟨B, i, none⟩ (.slice (some ⟨g, 0, none⟩) len cap)) := by
  refine ⟨hg.os, hg.tape, hg.output, by simpa [World.setCell] using hg.size, fun j hj hr => ?_⟩
  have hjB : j ≠ B := fun e => hr (.inl e)
  have hjv : v.ownBlock ≠ some j := fun e => hr (.inr ⟨i, v, hi3, by rw [hb.cell]; exact hi, e⟩)
  refine ⟨(Below.heap_setCell _ _ _ j hjB).trans (hg.block j hj (fun e => hjv e.symm)), fun hr' => ?_⟩
  rcases hr' with e | ⟨i', v', hi', hc, hv⟩
  · exact hjB e
  · have hs := hb4.set i (.slice (some ⟨g, 0, none⟩) len cap)
    rw [hs.cell] at hc
    by_cases e : i' = i
    · subst e
      rw [Array.getElem?_setIfInBounds] at hc
      simp at hc
      obtain ⟨_, rfl⟩ := hc
      have e2 : g = j := by simpa [Value.ownBlock] using hv
      subst e2
      rcases hat with h | h
      · exact hjv h
      · omega
    · rw [Array.getElem?_setIfInBounds_ne (fun e' => e e'.symm)] at hc
      exact hr (.inr ⟨i', v', hi', by rw [hb.cell]; exact hc, hv⟩)
/-- A row is laid back shorter, or nil. -/
theorem fr_put {B i : Nat} {w : World} {v x : Value} {cs : Array Value} {t : TypeId} (hb : Blk w B cs t) (hi : cs[i]? = some v) (hx : 3 ≤ i ∨ x.ownBlock = none ∨ x.ownBlock = v.ownBlock) : Fr B w (w.setCell ⟨B, i, none⟩ x) := by
  refine ⟨rfl, rfl, rfl, by simp [World.setCell], fun j hj hr => ?_⟩
  have hjB : j ≠ B := fun e => hr (.inl e)
  refine ⟨Below.heap_setCell _ _ _ j hjB, fun hr' => ?_⟩
  rcases hr' with e | ⟨i', v', hi', hc, hv⟩
  · exact hjB e
  · have hs := hb.set i x
    rw [hs.cell] at hc
    by_cases e : i' = i
    · subst e
      rw [Array.getElem?_setIfInBounds] at hc
      simp at hc
      obtain ⟨_, rfl⟩ := hc
      rcases hx with h | h | h
      · omega
      · rw [h] at hv; cases hv
      · exact hr (.inr ⟨i', v, hi', by rw [hb.cell]; exact hi, h ▸ hv⟩)
    · rw [Array.getElem?_setIfInBounds_ne (fun e' => e e'.symm)] at hc
      exact hr (.inr ⟨i', v', hi', by rw [hb.cell]; exact hc, hv⟩)
theorem ev_one (e : Ev) (h : e.av.oneCell' = true) : ∀ u ∈ e.cells, u.oneCell' = true := fun u hu => by
  simp only [Ev.cells, List.mem_cons, List.mem_nil_iff, or_false] at hu
  rcases hu with rfl | rfl | rfl | rfl
  · rfl
  · rfl
  · rfl
  · exact h
theorem fi_one (f : Fi) : ∀ u ∈ f.cells, u.oneCell' = true := fun u hu => by
  simp only [Fi.cells, List.mem_cons, List.mem_nil_iff, or_false] at hu
  rcases hu with rfl | rfl | rfl | rfl | rfl <;> rfl
theorem info_ev : (Tryz.prog.info? 51).map (fun i => (i.zero, i.size, i.bytes)) = some (some (.agg #[.int .i64 0, .string ⟨#[]⟩, .string ⟨#[]⟩, .slice none 0 0]), 4, 64) := by kernel_rfl
theorem info_fi : (Tryz.prog.info? 74).map (fun i => (i.zero, i.size, i.bytes)) = some (some (.agg #[.int .i64 0, .int .i64 0, .int .i64 0, .int .i64 0, .string ⟨#[]⟩]), 5, 48) := by kernel_rfl
set_option maxRecDepth 100000 in
set_option maxHeartbeats 4000000 in
/-- **tell.** -/
theorem tell_calls (n B : Nat) (s : BSt) (e : Ev) (he : e.av.oneCell' = true) (hl : s.E.length ≤ 1000000000) (w : World) (h : BalAt n B s w) (hn : n ≤ w.heap.size) :
    Calls Tryz.prog 97 #[.pointer (some ⟨B, 0, none⟩), e.val] w fun r w' => (∃ v, r = .returned v) ∧ BalAt n B { s with E := s.E ++ [e] } w' ∧ Fr B w w' := by
  obtain ⟨i0, hi, hz0, hz1, hz2⟩ := info_parts info_ev
  obtain ⟨W1, hW1⟩ : ∃ W, w.alloc (.cells e.cells.toArray 51) = W := ⟨_, rfl⟩
  have b1 : Below w.heap.size w W1 := by rw [← hW1]; exact (Below.refl _ w).alloc (Nat.le_refl _) _
  have HNW : Hid (n ≤ W1.heap.size) := Nat.le_trans hn b1.size
  have q1 : Blk W1 w.heap.size e.cells.toArray 51 := by rw [← hW1]; exact Blk.new _ _ _
  have h1 := h.below b1
  have hB := h.hB
  have hltw := h.lt
  obtain ⟨v0, v1, v2, hb, o0, o1, o2⟩ := h1.blk
  have hlt := h1.lt
  have hne0 := row_not o0 hb (by decide)
  have c0 : W1.cell? ⟨B, 0, none⟩ = some v0 := hb.cell 0
  have f0 : W1.frozen? ⟨B, 0, none⟩ = false := hb.frozen 0
  obtain ⟨k, nm, tx, av⟩ := e
  have e0 : W1.cell? ⟨w.heap.size, 0, none⟩ = some (.int .i64 k) := q1.cell 0
  have e1 : W1.cell? ⟨w.heap.size, 1, none⟩ = some (.string ⟨nm.toArray⟩) := q1.cell 1
  have e2 : W1.cell? ⟨w.heap.size, 2, none⟩ = some (.string ⟨tx.toArray⟩) := q1.cell 2
  have e3 : W1.cell? ⟨w.heap.size, 3, none⟩ = some av := q1.cell 3
  have HW : Hid (w.alloc (.cells #[.int .i64 k, .string ⟨nm.toArray⟩, .string ⟨tx.toArray⟩, av] 51) = W1) := hW1
  have HB := hid_of hb
  have HO0 := hid_of o0
  have HO1 := hid_of o1
  have HO2 := hid_of o2
  have HB1 := hid_of b1
  have HE := hid_of (ev_one ⟨k, nm, tx, av⟩ he)
  have HN0 := hid_of hne0
  clear h h1 hW1 b1 q1 hb o0 o1 o2 hne0
  show Calls Tryz.prog 97 #[.pointer (some ⟨B, 0, none⟩), .agg #[.int .i64 k, .string ⟨nm.toArray⟩, .string ⟨tx.toArray⟩, av]] w _
  go_enter Tryz.func97, Tryz.ntmps97
  go_upto_region 1 with fail
  rw [HW.out]
  clear HW
  go_region_law (refine step_append_lies _ rfl _ _ 38 rfl n 51 i0 (.agg #[.int .i64 0, .string ⟨#[]⟩, .string ⟨#[]⟩, .slice none 0 0]) 4 64 Tryz.underlying38 hi hz0 hz1 hz2 rfl (by decide) v0 s.E.length (evv s.E) (by simp [Act.eval]) (HO0.out.drew.alloc _) ⟨W1.heap.size, 0, none⟩ 1 1 (Ev.cells ⟨k, nm, tx, av⟩) (by simp [Act.eval]) rfl (World.news_of_block (cs := #[.int .i64 k, .string ⟨nm.toArray⟩, .string ⟨tx.toArray⟩, av]) (fr := (0, 0)) (World.alloc_heap_new _ _)) HE.out (by decide) (by unfold maxLen; omega) (by omega) (Nat.le_trans HNW.out (by simp)) _ rfl ?_; intro g cap w4 hown hgrow hat hlt4; have hb4 := blk_grown (blk_da HB.out _) hgrow HN0.out; have f4 := hb4.frozen 0; have c4 := hb4.cell 0)
  all_goals
    have ho0 : OwnEv n w4 (.slice (some ⟨g, 0, none⟩) (s.E.length + 1) cap) (s.E ++ [⟨k, nm, tx, av⟩]) := by
      have h := hown
      rw [← evv_snoc] at h
      simpa [OwnEv] using h
    have hg1 : OwnFi n w4 v1 s.F := own_other (HO0.out.drew.alloc _) (HO1.out.drew.alloc _) (by decide) hgrow
    have hg2 : OwnT n w4 v2 s.S := own_other (HO0.out.drew.alloc _) (HO2.out.drew.alloc _) (by decide) hgrow
    have hfr := (Fr.of_below (B := B) (Nat.lt_of_lt_of_le hltw (Nat.le_refl _)) HB1.out).trans ((Fr.of_below (B := B) hlt ((Below.refl _ W1).drew.alloc (Nat.le_refl _) _)).trans (fr_row (i := 0) (len := s.E.length + 1) (cap := cap) (blk_da HB.out _) rfl (by decide) hgrow hb4 (hat.imp id (fun e => by rw [e]; simp))))
    go_end0
    exact ⟨⟨_, rfl⟩, ⟨⟨_, v1, v2, hb4.set 0 _, row_set ho0 hb4 (by decide), row_set hg1 hb4 (by decide), row_set hg2 hb4 (by decide)⟩, hB⟩, hfr⟩
end Go.Proofs.YtdkcibafbdmajabGreatDoor.B
