/- What is proved here: (*strings.Builder).WriteRune of any character and String, with what they keep. -/
import Derived.Test.YtfbfigjjnpamiaaGreatDoorLpBRune
namespace Go.Proofs.YtfbfigjjnpamiaaGreatDoor.U
open Go.RowKit Go.Shelf

set_option maxHeartbeats 1000000 in
set_option maxRecDepth 100000 in
theorem copyCheck_used (b : Nat) (w : World) (h0 : w.cell? ⟨b, 0, none⟩ = some (.pointer (some ⟨b, 0, none⟩))) :
    Calls Tryz.prog 59 #[.pointer (some ⟨b, 0, none⟩)] w fun e w' => e = .returned (.tuple #[]) ∧ w' = w := by
  obtain ⟨j, hj, _⟩ := Option.map_eq_some_iff.1 (show (Tryz.prog.info? 73).map (·.size) = some 2 by kernel_rfl)
  go_enter Tryz.func59, Tryz.ntmps59
  go_wp2
  rw [Lib.run_neq_ptr_same w _ Tryz.underlying71 hj]
  go_wp2
  go_end0
  exact ⟨rfl, rfl⟩

set_option maxHeartbeats 1000000 in
set_option maxRecDepth 100000 in
theorem copyCheck_fresh (b : Nat) (w : World) (h0 : w.cell? ⟨b, 0, none⟩ = some (.pointer none)) (hsh : w.shape? b = some (73, 2)) (hfz : w.frozen? ⟨b, 0, none⟩ = false) :
    Calls Tryz.prog 59 #[.pointer (some ⟨b, 0, none⟩)] w fun e w' => e = .returned (.tuple #[]) ∧ w' = w.setCell ⟨b, 0, none⟩ (.pointer (some ⟨b, 0, none⟩)) := by
  obtain ⟨j, hj, hjs⟩ := Option.map_eq_some_iff.1 (show (Tryz.prog.info? 73).map (·.size) = some 2 by kernel_rfl)
  have lies : liesAt Tryz.prog Tryz.prog.depth 73 (2 / Tryz.prog.cellsOf 73) 0 73 1 = true := by kernel_rfl
  go_enter Tryz.func59, Tryz.ntmps59
  go_wp2
  rw [Lib.run_to_unsafe w ⟨b, 0, none⟩ Tryz.underlying71 Tryz.underlying96 hj (by rw [hjs]; decide) hsh (Nat.zero_lt_succ 1)]
  simp only [Result.andThen]
  rw [Oper.upon_value]
  go_wp2
  rw [run_callFunc_extern Tryz.func78 (by kernel_rfl) (by kernel_rfl) (by kernel_rfl) (e := Extern.AbiNoEscape.same) (by kernel_rfl)]
  rw [Lib.run_noEscape]
  simp only [Result.andThen]
  rw [Oper.upon_value]
  go_wp2
  rw [Lib.run_from_unsafe w ⟨b, 0, none⟩ Tryz.underlying96 Tryz.underlying71 hj hsh lies]
  simp only [Result.andThen]
  rw [Oper.upon_value]
  go_wp2
  go_end0
  exact ⟨rfl, rfl⟩

/-- **copyCheck of any builder that is where it was made.** -/
theorem copyCheck_calls (B b : Nat) (bs : List Value) (w : World) (h : Lib.IsBuilder 73 5 B b bs w) :
    Calls Tryz.prog 59 #[.pointer (some ⟨b, 0, none⟩)] w fun e w' => e = .returned (.tuple #[]) ∧ Lib.BuilderAt 73 5 B b (.pointer (some ⟨b, 0, none⟩)) bs w' ∧ KprG B [b] w w' ∧ KeepsOthers w w' := by
  rcases h with h | h
  · refine (copyCheck_fresh b w h.cell0 h.shape h.frozen0).mono ?_
    rintro e w' ⟨rfl, rfl⟩
    exact ⟨rfl, h.used _, KprG.store (by simp) h.1 rfl, KeepsOthers.setCell _ _ _⟩
  · refine (copyCheck_used b w h.cell0).mono ?_
    rintro e w' ⟨rfl, rfl⟩
    exact ⟨rfl, h, KprG.refl _ _ _, KeepsOthers.refl _⟩

theorem row_cells {w : World} {B : Nat} {e : TypeId} {v : Value} {n : Nat} {xs : List Value} (h : w.ownsRow B e 1 v n xs) {k : Nat} (hk : v.ownBlock = some k) : ∃ cs fz, w.heap[k]? = some (.cells cs e fz) := by
  rcases h.2 with ⟨rfl, _⟩ | ⟨g, cap, cur, rfl, _, hg, _⟩
  · cases hk
  · cases hk; exact ⟨_, _, hg⟩
theorem kprG_append {w w2 : World} {B b n m : Nat} {p v v' : Value} {xs ys : List Value} {o : Obj} (hb : w.heap[b]? = some (.cells #[p, v] 73 (0, 0))) (hp : p.ownBlock = none) (hB : B ≤ b) (hBw : B ≤ w.heap.size)
    (hown : w.ownsRow B 5 1 v n xs) (hg : (w.alloc o).grownBy w2 v.ownBlock) (hown' : w2.ownsRow B 5 1 v' m ys) (hob : v'.ownBlock = v.ownBlock ∨ v'.ownBlock = some (w.heap.size + 1)) :
    KprG B [b] w (w2.setCell ⟨b, 1, none⟩ v') ∧ KeepsOthers w (w2.setCell ⟨b, 1, none⟩ v') := by
  have hlt := lt_of_block hb
  have hne : ∀ k, v.ownBlock = some k → k ≠ b := fun k hk e => by
    subst e
    obtain ⟨cs, fz, h1⟩ := row_cells hown hk
    rw [hb] at h1; cases h1
  have hz := hg.size
  rw [World.size_alloc] at hz
  have hb2 : w2.heap[b]? = some (.cells #[p, v] 73 (0, 0)) := by
    rw [hg.block b (by simp; omega) (fun e => hne b e.symm rfl), Below.heap_alloc _ _ _ hlt]; exact hb
  refine ⟨⟨?_, fun k ok hk hc hm hr => ?_, fun k hk => ?_⟩, ⟨by simp [World.setCell]; omega, fun k ok hk hc => ?_⟩⟩
  · exact (((Below.refl B w).alloc hBw o).grown hg (by simp; omega) (fun k hk => (hown.lt k hk).1)).setCell (p := ⟨b, 1, none⟩) hB _
  · have hkb : k ≠ b := by simpa using hm
    rw [Below.heap_setCell _ _ _ _ hkb, hg.block k (by have := lt_of_block hk; simp; omega) (fun e => hr ⟨b, by simp, 1, v, by simp [World.cell?, hb], e.symm⟩), Below.heap_alloc _ _ _ (lt_of_block hk)]
    exact hk
  · obtain ⟨B', hB', u, x, hx, e⟩ := hk
    obtain rfl : B' = b := by simpa using hB'
    have hx' : x = p ∨ x = v' := by
      simp only [World.cell?, World.setCell, Array.getElem?_modify, hb2] at hx
      match u, hx with
      | 0, hx => left; simpa using hx.symm
      | 1, hx => right; simpa using hx.symm
      | u + 2, hx => simp at hx
    rcases hx' with rfl | rfl
    · rw [hp] at e; cases e
    · rcases hob with h | h
      · exact .inl ⟨B', by simp, 1, v, by simp [World.cell?, hb], h ▸ e⟩
      · rw [h] at e; cases e
        exact .inr ⟨by omega, by have := (hown'.lt _ h).2; simpa [World.setCell] using this⟩
  · have hkb : k ≠ b := by rintro rfl; rw [hb] at hk; cases hk; cases hc
    rw [Below.heap_setCell _ _ _ _ hkb, hg.block k (by have := lt_of_block hk; simp; omega) (fun e => by
      obtain ⟨cs, fz, h1⟩ := row_cells hown e.symm
      rw [hk] at h1; cases h1; cases hc), Below.heap_alloc _ _ _ (lt_of_block hk)]
    exact hk

set_option maxHeartbeats 4000000 in
set_option maxRecDepth 100000 in
/-- **WriteRune of any character.** -/
theorem writeRune_calls (B b : Nat) (bs : List Value) (r : Int) (hr : 0 ≤ r ∧ r ≤ 1114111 ∧ ¬ (55296 ≤ r ∧ r ≤ 57343)) (w : World) (h : Lib.IsBuilder 73 5 B b bs w) (hlen : bs.length + 4 ≤ 140737488355328) (hBw : B ≤ w.heap.size) :
    Calls Tryz.prog 39 #[.pointer (some ⟨b, 0, none⟩), .int .i32 r] w fun e w' => (∃ v, e = .returned v) ∧ Lib.IsBuilder 73 5 B b (bs ++ Lib.runeCells r) w' ∧ KprG B [b] w w' ∧ KeepsOthers w w' := by
  have HR : Hid (0 ≤ r ∧ r ≤ 1114111 ∧ ¬ (55296 ≤ r ∧ r ≤ 57343)) := hr
  have hk4 := Lib.runeCells_le r
  clear hr
  go_enter Tryz.func39, Tryz.ntmps39
  go_wp2_with (go_at_call 59; refine (copyCheck_calls B b bs _ h).mono ?_)
  rintro e w1 ⟨rfl, h1, hk1, ho1⟩
  have hA := h1
  obtain ⟨hB, v, hbk, hown, hne⟩ := h1
  obtain ⟨ao, cap, rfl⟩ := owns_slice hown
  have c0 : w1.cell? ⟨b, 0, none⟩ = some (.pointer (some ⟨b, 0, none⟩)) := by simp [World.cell?, hbk]
  have c1 : w1.cell? ⟨b, 1, none⟩ = some (.slice ao bs.length cap) := by simp [World.cell?, hbk]
  have hz1 := hk1.1.size
  go_wp2_with (go_at_call 60; refine (arune_calls B _ bs.length bs r HR.out _ hown hlen (by omega)).mono ?_)
  rintro e w2 ⟨v', rfl, hown', ⟨o, hgrow⟩, hob⟩
  have hlt : b < w1.heap.size := lt_of_block hbk
  have hb2 : w2.heap[b]? = some (.cells #[.pointer (some ⟨b, 0, none⟩), .slice ao bs.length cap] 73 (0, 0)) := by
    rw [hgrow.block b (by simp; omega) (fun e => hne e.symm), Below.heap_alloc _ _ _ hlt]
    exact hbk
  have d1 : w2.cell? ⟨b, 1, none⟩ = some (.slice ao bs.length cap) := by simp [World.cell?, hb2]
  have f1 : w2.frozen? ⟨b, 1, none⟩ = false := by simp [World.frozen?, hb2]
  obtain ⟨hkp, hko⟩ := kprG_append hbk rfl hB (by omega) hown hgrow hown' hob
  have hne' : v'.ownBlock ≠ some b := fun e => by
    obtain ⟨cs, fz, hh⟩ := row_cells hown' e
    rw [hb2] at hh; cases hh
  have hfin : Hid (Lib.IsBuilder 73 5 B b (bs ++ Lib.runeCells r) (w2.setCell ⟨b, 1, none⟩ v')) := by
    refine .inr ⟨hB, v', ?_, ?_, hne'⟩
    · simp [World.setCell, Array.getElem?_modify, hb2]
    · have := hown'.kept (w' := w2.setCell ⟨b, 1, none⟩ v') (row := some b) ⟨rfl, rfl, rfl, by simp [World.setCell], fun k _ hk => Below.heap_setCell _ _ _ k (fun e => hk (by rw [e]))⟩ (.inr hne')
      simpa using this
  obtain ⟨a2, c2, rfl⟩ := owns_slice hown'
  go_wp2
  go_ret2
  exact ⟨⟨_, rfl⟩, hfin.out, hk1.trans hkp, ho1.trans hko⟩

end Go.Proofs.YtfbfigjjnpamiaaGreatDoor.U
