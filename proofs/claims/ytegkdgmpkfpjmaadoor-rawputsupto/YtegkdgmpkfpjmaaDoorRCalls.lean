/- What is proved here: the small calls of a scanner of package raw: release, tell, hold, stops, spells, closes, otherPart, finish, begin. -/
import Derived.OwnWalk
import Derived.Test.YtegkdgmpkfpjmaaDoorRScan
namespace Go.Proofs.YtegkdgmpkfpjmaaDoor.R
open Go.RowKit Go.Shelf Go.Proofs.YtegkdgmpkfpjmaaDoor.U Go.Proofs.YtegkdgmpkfpjmaaDoor.N

theorem trunc_row {w : World} {B n : Nat} {xs : List Value} {ha : Option Addr} {hc : Nat} (h : w.ownsRow B 21 1 (.slice ha n hc) n xs) : w.ownsRow B 21 1 (.slice ha 0 hc) 0 [] := by
  obtain ⟨h1, h2⟩ := h
  refine ⟨by simp, ?_⟩
  rcases h2 with ⟨e, h0⟩ | ⟨b, c, cur, e, r1, r2, r3, r4, r5, r6⟩
  · injection e with e1 e2 e3; subst e1 e3; exact .inl ⟨rfl, rfl⟩
  · injection e with e1 e2 e3; subst e1 e3; exact .inr ⟨b, hc, cur, rfl, r1, r2, by omega, r4, r5, by simp⟩
theorem row_cell {w : World} {B n : Nat} {e : TypeId} {xs : List Value} {ha : Option Addr} {hc : Nat} (h : w.ownsRow B e 1 (.slice ha n hc) n xs) {k : Nat} (hk : k < n) (x : Value) (hx : xs[k]? = some x) : ∃ b, ha = some ⟨b, 0, none⟩ ∧ w.cell? ⟨b, k, none⟩ = some x := by
  obtain ⟨h1, h2⟩ := h
  rcases h2 with ⟨e, h0⟩ | ⟨b, c, cur, e, r1, r2, r3, r4, r5, r6⟩
  · omega
  · injection e with e1 e2 e3
    refine ⟨b, e1, ?_⟩
    rw [cell_blk r2, ← hx, ← r6]
    simp [hk]
theorem ScAt.of_drew {W : World} {g cap : Nat} {nm : List Int} {s : St} (h : ScAt W g cap nm s) : ScAt W.drew g cap nm s := h
theorem leaves_drew {g : Nat} {w w1 : World} (h : Leaves g w w1) : Leaves g w w1.drew := ⟨h.1.drew, h.2.drew⟩
/-- What one more append of a rune to what is sure does. -/
theorem ScV.told {W w1 : World} {g cap : Nat} {nm : List Int} {s : St} {vs vh v1 : Value} {o1 : Obj} (hV : ScV W g cap nm s vs vh) (r : Int) (hown1 : w1.ownsRow (g + 2) 5 1 v1 (encs s.o ++ enc r).length (bvs (encs s.o ++ enc r))) (hg : (W.alloc o1).grownBy w1 vs.ownBlock) :
    ScV (w1.setCell ⟨g + 1, 4, none⟩ v1) g cap nm { s with o := s.o ++ [r] } v1 vh ∧ Leaves g W (w1.setCell ⟨g + 1, 4, none⟩ v1) ∧ w1.cell? ⟨g + 1, 4, none⟩ = some vs ∧ w1.frozen? ⟨g + 1, 4, none⟩ = false := by
  have hlt := hV.lt
  obtain ⟨⟨c, fz, n0, n1⟩, h2, h3, h4, h5⟩ := hV
  have hbk : ∀ j, j < W.heap.size → j < g + 2 → w1.heap[j]? = W.heap[j]? := fun j hj hjg => by
    rw [hg.block j (by simp; omega) (fun e => by have := row_ge h3 _ e.symm; omega), Lib.alloc_old W _ j hj]
  have hb1 := (hbk (g + 1) (by omega) (by omega)).trans h2
  have hgd := grown_set w1 (g + 1) 4 v1
  have hs1 := hg.size
  simp at hs1
  have hh1 : w1.ownsRow (g + 2) 21 1 vh s.h.length (rvs s.h) := by
    refine (h4.alloc o1).kept hg ?_
    cases hv : vh.ownBlock with
    | none => exact .inl rfl
    | some b => exact .inr fun e => apart_rows h3 h4 b e.symm hv
  have eo : encs (s.o ++ [r]) = encs s.o ++ enc r := by simp [encs]
  refine ⟨⟨⟨c, fz, ?_, n1⟩, ?_, ?_, ?_, h5⟩, leaves_set ⟨?_, ?_⟩ 4 _, ?_, frozen_blk hb1 4⟩
  · rw [hgd.block g (by omega) (fun e => by simp at e), hbk g (by omega) (by omega)]
    exact n0
  · rw [set_blk hb1]; rfl
  · show World.ownsRow _ _ _ _ _ (encs (s.o ++ [r])).length (bvs (encs (s.o ++ [r])))
    rw [eo]
    refine hown1.kept hgd ?_
    cases hv : v1.ownBlock with
    | none => exact .inl rfl
    | some g' => exact .inr (fun e => by cases e; have := row_ge hown1 _ hv; omega)
  · refine hh1.kept hgd ?_
    cases hv : vh.ownBlock with
    | none => exact .inl rfl
    | some g' => exact .inr (fun e => by cases e; have := row_ge hh1 _ hv; omega)
  · exact ((Below.refl (g + 1) W).alloc (by omega) _).grown hg (by simp; omega) (fun j hj => by have := row_ge h3 j hj; omega)
  · exact ((Kept.refl (g + 1) W).alloc o1).grown hg (.inl rfl) (row_kind (h3.alloc o1))
  · rw [cell_blk hb1]; rfl
set_option maxRecDepth 100000 in
set_option maxHeartbeats 2000000 in
/-- **release.** -/
theorem release_calls (g cap : Nat) (nm : List Int) (s : St) (w : World) (hS : ScAt w g cap nm s) (hl : s.o.length + s.h.length ≤ 1000000000000) :
    Calls Tryd.prog 40 #[.pointer (some ⟨g + 1, 0, none⟩)] w fun e W' => e = .returned (.tuple #[]) ∧ ScAt W' g cap nm { s with o := s.o ++ s.h, h := [] } ∧ Leaves g w W' := by
  obtain ⟨vs0, vh, hV⟩ := hS
  obtain ⟨ha, hc, rfl⟩ := owns_slice hV.2.2.2.1
  have c5 : w.cell? ⟨g + 1, 5, none⟩ = some (.slice ha s.h.length hc) := hV.cell 5
  have HV : Hid (ScV w g cap nm s vs0 (.slice ha s.h.length hc)) := hV
  clear hV
  go_enter Tryd.func40, Tryd.ntmps40
  go_wp2
  go_loopw [9] (fun i wr => ∃ k : Nat, k ≤ s.h.length ∧ i = .int .i64 k ∧ (∃ vs, ScV wr g cap nm { s with o := s.o ++ s.h.take k } vs (.slice ha s.h.length hc)) ∧ Leaves g w wr) (fun i _ => s.h.length - (intOf i).toNat)
  case atStart => exact ⟨0, by omega, rfl, ⟨vs0, by simpa using HV.out⟩, leaves_refl _ _⟩
  case round =>
    obtain ⟨k, hk, rfl, ⟨vs, hR⟩, hB⟩ := hrel
    by_cases hlt : k < s.h.length
    · obtain ⟨b, rfl, cb⟩ := row_cell hR.2.2.2.1 hlt (.int .i32 s.h[k]) (by simp [hlt])
      have c4 : wr.cell? ⟨g + 1, 4, none⟩ = some vs := hR.cell 4
      have hz := hR.2.2.2.2 s.h[k] (List.getElem_mem hlt)
      have hgl := hR.lt
      have hel := encs_length (s.o ++ s.h.take k)
      simp only [List.length_append, List.length_take] at hel
      obtain ⟨oo, hoo⟩ : ∃ oo, s.o ++ s.h.take k = oo := ⟨_, rfl⟩
      have HE : Hid (s.o ++ s.h.take (k + 1) = oo ++ [s.h[k]]) := by
        show s.o ++ s.h.take (k + 1) = oo ++ [s.h[k]]
        rw [← hoo, List.take_succ_eq_append_getElem hlt, List.append_assoc]
      rw [hoo] at hR hel
      have hown := hR.2.2.1
      have HR : Hid (ScV wr g cap nm { s with o := oo } vs (.slice (some ⟨b, 0, none⟩) s.h.length hc)) := hR
      have HA := arune_calls (g + 2) vs (encs oo) s.h[k] hz.1 hz.2
      have HA : Hid (∀ W, W.ownsRow (g + 2) 5 1 vs (encs oo).length (bvs (encs oo)) → g + 2 ≤ W.heap.size → Calls Tryd.prog 62 #[vs, .int .i32 s.h[k]] W fun e w' => ∃ v', e = .returned v' ∧ w'.ownsRow (g + 2) 5 1 v' (encs oo ++ enc s.h[k]).length (bvs (encs oo ++ enc s.h[k])) ∧ ∃ o, (W.alloc o).grownBy w' vs.ownBlock) := fun W h h' => HA W h (by omega) h'
      clear hR hoo
      go_wp2_with (
        go_at_call 62
        refine (HA.out _ hown (by omega)).mono ?_
        rintro e w1 ⟨v1, rfl, hown1, o1, hgrow1⟩
        obtain ⟨t1, t2, d1, f1⟩ := HR.out.told s.h[k] hown1 hgrow1
        have HT1 : Hid (ScV (w1.setCell ⟨g + 1, 4, none⟩ v1) g cap nm { s with o := oo ++ [s.h[k]] } v1 (.slice (some ⟨b, 0, none⟩) s.h.length hc) ∧ Leaves g wr (w1.setCell ⟨g + 1, 4, none⟩ v1)) := ⟨t1, t2⟩
        clear t1 t2 hgrow1
        obtain ⟨ga, gc, rfl⟩ := owns_slice hown1
        clear hown1
        generalize (encs oo ++ enc s.h[k]).length = m at *)
      go_roundw
      case rel => exact ⟨k + 1, by omega, by go_num, ⟨_, by rw [HE.out]; exact HT1.out.1⟩, leaves_trans hB HT1.out.2⟩
      case measure => simp [intOf]; omega
    · obtain rfl : k = s.h.length := by omega
      rw [List.take_length] at hR
      have d5 : wr.cell? ⟨g + 1, 5, none⟩ = some (.slice ha s.h.length hc) := hR.cell 5
      have f5 := hR.frozen 5
      have HR : Hid (ScV wr g cap nm { s with o := s.o ++ s.h } vs (.slice ha s.h.length hc)) := hR
      clear hR
      go_wp2
      go_end0
      refine ⟨rfl, ⟨vs, .slice ha 0 hc, ?_⟩, leaves_set hB 5 _⟩
      exact HR.out.store 5 _ { s with o := s.o ++ s.h, h := [] } vs _ rfl HR.out.2.2.1 (trunc_row HR.out.2.2.2.1) (by simp)
set_option maxRecDepth 100000 in
set_option maxHeartbeats 2000000 in
/-- **tell.** -/
theorem tell_calls (g cap : Nat) (nm : List Int) (s : St) (r nx : Int) (w : World) (hS : ScAt w g cap nm s) (hl : s.o.length + s.h.length ≤ 1000000000000) (hr : InR r) :
    Calls Tryd.prog 60 #[.pointer (some ⟨g + 1, 0, none⟩), .int .i32 r, .int .i64 nx] w fun e W' => e = .returned (.int .i64 nx) ∧ ScAt W' g cap nm { s with o := s.o ++ s.h ++ [r], h := [] } ∧ Leaves g w W' := by
  have HR : Hid (Calls Tryd.prog 40 #[.pointer (some ⟨g + 1, 0, none⟩)] w fun e W' => e = .returned (.tuple #[]) ∧ ScAt W' g cap nm { s with o := s.o ++ s.h, h := [] } ∧ Leaves g w W') := release_calls g cap nm s w hS hl
  have hel := encs_length (s.o ++ s.h)
  simp only [List.length_append] at hel
  clear hS
  go_enter Tryd.func60, Tryd.ntmps60
  go_wp2_with fail
  (go_at_call 40; refine HR.out.mono ?_; rintro e w1 ⟨rfl, ⟨vs, vh, hV⟩, hB⟩)
  have c4 : w1.cell? ⟨g + 1, 4, none⟩ = some vs := hV.cell 4
  have hlt := hV.lt
  have hown := hV.2.2.1
  have HV : Hid (ScV w1 g cap nm { s with o := s.o ++ s.h, h := [] } vs vh) := hV
  clear hV HR
  go_wp2_with fail
  go_at_call 62
  refine (arune_calls (g + 2) vs (encs (s.o ++ s.h)) r hr.1 hr.2 w1 hown (by omega) (by omega)).mono ?_
  rintro e w2 ⟨v1, rfl, hown1, o1, hgrow1⟩
  obtain ⟨t1, t2, d1, f1⟩ := HV.out.told r hown1 hgrow1
  have HT1 : Hid (ScV (w2.setCell ⟨g + 1, 4, none⟩ v1) g cap nm { s with o := s.o ++ s.h ++ [r], h := [] } v1 vh ∧ Leaves g w1 (w2.setCell ⟨g + 1, 4, none⟩ v1)) := ⟨t1, t2⟩
  clear t1 t2 hgrow1 HV
  obtain ⟨ga, gc, rfl⟩ := owns_slice hown1
  clear hown1
  generalize (encs (s.o ++ s.h) ++ enc r).length = m at *
  go_wp2_with fail
  go_ret
  exact ⟨rfl, ⟨_, _, HT1.out.1⟩, leaves_trans hB HT1.out.2⟩
set_option maxRecDepth 100000 in
set_option maxHeartbeats 2000000 in
/-- **hold.** -/
theorem hold_calls (g cap : Nat) (nm : List Int) (s : St) (r nx : Int) (w : World) (hS : ScAt w g cap nm s) (hl : s.h.length ≤ 1000000000000) (hr : InR r) :
    Calls Tryd.prog 57 #[.pointer (some ⟨g + 1, 0, none⟩), .int .i32 r, .int .i64 nx] w fun e W' => e = .returned (.int .i64 nx) ∧ ScAt W' g cap nm { s with h := s.h ++ [r] } ∧ Leaves g w W' := by
  obtain ⟨vs, vh, hV⟩ := hS
  obtain ⟨i0, hi, hz0, hz1, hz2⟩ := info_parts infoRune
  have c5 : w.cell? ⟨g + 1, 5, none⟩ = some vh := hV.cell 5
  have hlt := hV.lt
  have hown := hV.2.2.2.1
  have HV : Hid (ScV w g cap nm s vs vh) := hV
  obtain ⟨a0, p0, rfl⟩ := owns_slice hown
  have hb0 : ∀ o, (w.alloc o).cell? ⟨g + 1, 5, none⟩ = some (.slice a0 s.h.length p0) := fun o => by rw [cell_blk ((Lib.alloc_old w o (g + 1) hlt).trans hV.2.1)]; rfl
  clear hV
  go_enter Tryd.func57, Tryd.ntmps57
  go_wp2_with (at_builtin; refine wpList_append_own _ rfl _ _ 32 rfl (g + 2) 21 i0 (.int .i32 0) 1 4 Tryd.underlying32 hi hz0 hz1 hz2 rfl (by decide) _ _ _ rfl (hown.alloc _) ⟨w.heap.size, 0, none⟩ 1 1 [.int .i32 r] rfl rfl ?c1 ?c2 ?c3 ?c4 ?c5 ?_)
  case c1 =>
    intro j u hj
    match j, hj with
    | 0, hj => simp at hj; subst hj; simp [Addr.add]
    | (j + 1), hj => simp at hj
  case c2 => intro u hu; simp at hu; subst hu; rfl
  case c3 => unfold maxLen; omega
  case c4 => omega
  case c5 => simp; omega
  intro v' w2 hown' hgrow _
  have hs2 := hgrow.size
  simp at hs2
  obtain ⟨⟨cn, fz, n0, n1⟩, h2, h3, h4, h5⟩ := HV.out
  have hbk : ∀ j, j < w.heap.size → j < g + 2 → w2.heap[j]? = w.heap[j]? := fun j hj hjg => by
    rw [hgrow.block j (by simp; omega) (fun e => by have := row_ge hown _ e.symm; omega), Lib.alloc_old w _ j hj]
  have hb1 := (hbk (g + 1) (by omega) (by omega)).trans h2
  have f5 : w2.frozen? ⟨g + 1, 5, none⟩ = false := frozen_blk hb1 5
  have d5 : w2.cell? ⟨g + 1, 5, none⟩ = some (.slice a0 s.h.length p0) := by rw [cell_blk hb1]; rfl
  have hs2' : w2.ownsRow (g + 2) 5 1 vs (encs s.o).length (bvs (encs s.o)) := by
    refine (h3.alloc _).kept hgrow ?_
    cases hv : vs.ownBlock with
    | none => exact .inl rfl
    | some b => exact .inr fun e => apart_rows h3 h4 b hv e.symm
  have HW : Hid (ScV (w2.setCell ⟨g + 1, 5, none⟩ v') g cap nm { s with h := s.h ++ [r] } vs v' ∧ Leaves g w (w2.setCell ⟨g + 1, 5, none⟩ v')) := by
    have hgd := grown_set w2 (g + 1) 5 v'
    refine ⟨⟨⟨cn, fz, ?_, n1⟩, ?_, ?_, ?_, ?_⟩, leaves_set ⟨?_, ?_⟩ 5 _⟩
    · rw [hgd.block g (by omega) (fun e => by simp at e), hbk g (by omega) (by omega)]
      exact n0
    · rw [set_blk hb1]; rfl
    · refine hs2'.kept hgd ?_
      cases hv : vs.ownBlock with
      | none => exact .inl rfl
      | some b => exact .inr (fun e => by cases e; have := row_ge hs2' _ hv; omega)
    · have : w2.ownsRow (g + 2) 21 1 v' (s.h ++ [r]).length (rvs (s.h ++ [r])) := by simpa [rvs] using hown'
      refine this.kept hgd ?_
      cases hv : v'.ownBlock with
      | none => exact .inl rfl
      | some b => exact .inr (fun e => by cases e; have := row_ge hown' _ hv; omega)
    · intro z hz
      rcases List.mem_append.1 hz with hz | hz
      · exact h5 z hz
      · simp at hz; subst hz; exact hr
    · exact ((Below.refl (g + 1) w).alloc (by omega) _).grown hgrow (by simp; omega) (fun j hj => by have := row_ge hown j hj; omega)
    · exact ((Kept.refl (g + 1) w).alloc _).grown hgrow (.inr rfl) (row_kind (hown.alloc _))
  clear hs2' hb1 hbk n0 n1 h2 h3 h4 h5 hgrow HV
  obtain ⟨ga, gc, rfl⟩ := owns_slice hown'
  clear hown'
  go_wp2
  go_ret
  exact ⟨rfl, ⟨_, _, HW.out.1⟩, HW.out.2⟩
end Go.Proofs.YtegkdgmpkfpjmaaDoor.R
