/- What is proved here: laws and contracts of BaLive, BaLives, one behind the other (each says its own). -/
import Derived.Test.YtdkcibafbdmajabGreatDoorBun17
/- What is proved here: what the five tokens do of which the laws of balance assure themselves; the laws' tokens; lives. -/
namespace Go.Proofs.YtdkcibafbdmajabGreatDoor.B
open Go.RowKit Go.Shelf Go.WideMaps Go.Maps Go.Proofs.YtdkcibafbdmajabGreatDoor.N Go.Proofs.YtdkcibafbdmajabGreatDoor.C Go.Proofs.YtdkcibafbdmajabGreatDoor.E
/-- The five tokens. -/
def LT : List BTok := [⟨1, [98], []⟩, ⟨0, [], [120]⟩, ⟨1, [105], []⟩, ⟨2, [98], []⟩, ⟨1, [108, 105], []⟩]
theorem lt_check : ∀ i, i < LT.length → T.checkB (LT.getD i ⟨0, [], []⟩).tok [] = true := by
  intro i hi
  match i, hi with
  | 0, _ => decide +kernel
  | 1, _ => decide +kernel
  | 2, _ => decide +kernel
  | 3, _ => decide +kernel
  | 4, _ => decide +kernel
  | n + 5, h => exact absurd h (by show ¬ (n + 5 < 5); omega)
theorem few_of (S : List Txt) (h1 : S.length ≤ 100) (h2 : S.all (fun x => decide (x.length ≤ 100)) = true) : Few S := ⟨by omega, fun j => by
  rw [List.getD_eq_getElem?_getD]
  cases hj : S[j]? with
  | none => simp
  | some x =>
    have := List.all_eq_true.mp h2 x (List.mem_of_getElem? hj)
    have := of_decide_eq_true this
    simp only [Option.getD_some]
    omega⟩
/-- That a token does what it may, as a Boolean. -/
def okB (s : BSt) (t : BTok) : Bool :=
  decide (s.S.length ≤ 100) && s.S.all (fun x => decide (x.length ≤ 100)) && decide (s.E.length ≤ 100) && decide (s.F.length ≤ 100) && decide (t.nm.length ≤ 100) && decide (t.tx.length ≤ 100) &&
  (if t.k = 1 then allowB t.nm && decide (openCode s.S t.nm = 0) && decide ((s.S.length : Int) - openZ s.S t.nm + ((openI s.S t.nm).length : Int) + 1 ≤ s.d)
   else if t.k = 0 then !s.fr && !t.tx.isEmpty && decide (endCode s.S = 0) && !(textP s.S (trim t.tx).isEmpty).2.2 && decide ((s.S.length : Int) - (textP s.S (trim t.tx).isEmpty).1 + ((textP s.S (trim t.tx).isEmpty).2.1.length : Int) ≤ s.d)
   else decide (t.k = 2) && decide (endCode s.S = 0) && decide (0 < endN s.S t.nm))
theorem ok_of {s : BSt} {t : BTok} (h : okB s t = true) : OkS s t := by
  unfold okB at h
  simp only [Bool.and_eq_true, decide_eq_true_eq] at h
  obtain ⟨⟨⟨⟨⟨⟨h1, h2⟩, h3⟩, h4⟩, h5⟩, h6⟩, h7⟩ := h
  refine ⟨by omega, few_of _ h1 h2, by omega, by omega, by omega, by omega, ?_⟩
  by_cases k1 : t.k = 1
  · rw [if_pos k1] at h7
    simp only [Bool.and_eq_true, decide_eq_true_eq] at h7
    exact .inl ⟨k1, h7.1.1, h7.1.2, h7.2⟩
  · rw [if_neg k1] at h7
    by_cases k0 : t.k = 0
    · rw [if_pos k0] at h7
      simp only [Bool.and_eq_true, decide_eq_true_eq, Bool.not_eq_true'] at h7
      exact .inr (.inl ⟨k0, h7.1.1.1.1, fun e => by rw [e] at h7; simp at h7, h7.1.1.2, h7.1.2, h7.2⟩)
    · rw [if_neg k0] at h7
      simp only [Bool.and_eq_true, decide_eq_true_eq] at h7
      exact .inr (.inr ⟨h7.1.1, h7.1.2, h7.2⟩)
theorem lt_ok : ∀ i, i < LT.length → OkS (runS 9 LT i) (LT.getD i ⟨0, [], []⟩) := by
  intro i hi
  match i, hi with
  | 0, _ => exact ok_of (by decide +kernel)
  | 1, _ => exact ok_of (by decide +kernel)
  | 2, _ => exact ok_of (by decide +kernel)
  | 3, _ => exact ok_of (by decide +kernel)
  | 4, _ => exact ok_of (by decide +kernel)
  | n + 5, h => exact absurd h (by show ¬ (n + 5 < 5); omega)
theorem lt_n : (finS (runS 9 LT 5)).E.length = 9 ∧ (finS (runS 9 LT 5)).F.length = 1 ∧ (runS 9 LT 5).E.length ≤ 800000000 ∧ (runS 9 LT 5).S.length ≤ 600 := by decide +kernel
theorem lt_13 : (evv (finS (runS 9 LT 5)).E)[13]? = some (.string ⟨#[105]⟩) := by rfl
theorem lt_12 : (evv (finS (runS 9 LT 5)).E)[12]? = some (.int .i64 2) := by rfl
theorem lt_21 : (evv (finS (runS 9 LT 5)).E)[21]? = some (.string ⟨#[117, 108]⟩) := by rfl
theorem lt_3 : (fiv (finS (runS 9 LT 5)).F)[3]? = some (.int .i64 9) := by rfl
end Go.Proofs.YtdkcibafbdmajabGreatDoor.B

/- What is proved here: the laws' tokens; lives. -/
namespace Go.Proofs.YtdkcibafbdmajabGreatDoor.B
open Go.RowKit Go.Shelf Go.WideMaps Go.Maps Go.Proofs.YtdkcibafbdmajabGreatDoor.N Go.Proofs.YtdkcibafbdmajabGreatDoor.C Go.Proofs.YtdkcibafbdmajabGreatDoor.E
theorem five_at (w : World) (cs : Array Value) (h : cs = LT.foldl (fun a t => a ++ t.arr) #[]) (o : Obj) (ho : o = .cells cs 37) : ToksAt (w.alloc o) w.heap.size LT := by
  subst ho
  subst h
  intro i hi j hj
  have hq : Blk (w.alloc (.cells (LT.foldl (fun a t => a ++ t.arr) #[]) 37)) w.heap.size (LT.foldl (fun a t => a ++ t.arr) #[]) 37 := Blk.new _ _ _
  rw [hq.cell]
  have h5 : i < 5 := hi
  have h1 : i = 0 ∨ i = 1 ∨ i = 2 ∨ i = 3 ∨ i = 4 := by omega
  have h2 : j = 0 ∨ j = 1 ∨ j = 2 ∨ j = 3 ∨ j = 4 ∨ j = 5 ∨ j = 6 ∨ j = 7 := by omega
  rcases h1 with rfl | rfl | rfl | rfl | rfl <;> rcases h2 with rfl | rfl | rfl | rfl | rfl | rfl | rfl | rfl <;> rfl
theorem results_start {tmps : Array Value} {W : World} {A : Nat} {v0 v1 v2 v3 v4 v5 v6 v7 : Value} (h2 : tmps[2]?.getD undef = .pointer (some ⟨A, 0, none⟩)) (h : Blk W A #[v0, v1, v2, v3, v4, v5, v6, v7] 37) :
    (results Tryz.f18 tmps).run Tryz.prog W = .ok (.agg #[v0, v1, v2, v3, v4, v5, v6, v7]) W := by
  have c0 : W.cell? ⟨A, 0, none⟩ = some v0 := h.cell 0
  have c1 : W.cell? ⟨A, 1, none⟩ = some v1 := h.cell 1
  have c2 : W.cell? ⟨A, 2, none⟩ = some v2 := h.cell 2
  have c3 : W.cell? ⟨A, 3, none⟩ = some v3 := h.cell 3
  have c4 : W.cell? ⟨A, 4, none⟩ = some v4 := h.cell 4
  have c5 : W.cell? ⟨A, 5, none⟩ = some v5 := h.cell 5
  have c6 : W.cell? ⟨A, 6, none⟩ = some v6 := h.cell 6
  have c7 : W.cell? ⟨A, 7, none⟩ = some v7 := h.cell 7
  simp [results, Tryz.results18, go_sem, h2, c0, c1, c2, c3, c4, c5, c6, c7]
set_option maxRecDepth 100000 in
set_option maxHeartbeats 4000000 in
theorem law_start (x : Txt) (w : World) : Calls Tryz.prog 18 #[.string ⟨x.toArray⟩] w fun r w' => r = .returned (.agg (BTok.arr ⟨1, x, []⟩)) ∧ Below w.heap.size w w' := by
  go_enter Tryz.func18, Tryz.ntmps18
  go_wp2_with fail
  exact bodyPost_ret (results_start rfl (Blk.new _ _ _)) rfl ⟨rfl, (Below.refl _ w).alloc (Nat.le_refl _) _⟩
theorem results_text {tmps : Array Value} {W : World} {A : Nat} {v0 v1 v2 v3 v4 v5 v6 v7 : Value} (h2 : tmps[2]?.getD undef = .pointer (some ⟨A, 0, none⟩)) (h : Blk W A #[v0, v1, v2, v3, v4, v5, v6, v7] 37) :
    (results Tryz.f24 tmps).run Tryz.prog W = .ok (.agg #[v0, v1, v2, v3, v4, v5, v6, v7]) W := by
  have c0 : W.cell? ⟨A, 0, none⟩ = some v0 := h.cell 0
  have c1 : W.cell? ⟨A, 1, none⟩ = some v1 := h.cell 1
  have c2 : W.cell? ⟨A, 2, none⟩ = some v2 := h.cell 2
  have c3 : W.cell? ⟨A, 3, none⟩ = some v3 := h.cell 3
  have c4 : W.cell? ⟨A, 4, none⟩ = some v4 := h.cell 4
  have c5 : W.cell? ⟨A, 5, none⟩ = some v5 := h.cell 5
  have c6 : W.cell? ⟨A, 6, none⟩ = some v6 := h.cell 6
  have c7 : W.cell? ⟨A, 7, none⟩ = some v7 := h.cell 7
  simp [results, Tryz.results24, go_sem, h2, c0, c1, c2, c3, c4, c5, c6, c7]
set_option maxRecDepth 100000 in
set_option maxHeartbeats 4000000 in
theorem law_text (x : Txt) (w : World) : Calls Tryz.prog 24 #[.string ⟨x.toArray⟩] w fun r w' => r = .returned (.agg (BTok.arr ⟨0, [], x⟩)) ∧ Below w.heap.size w w' := by
  go_enter Tryz.func24, Tryz.ntmps24
  go_wp2_with fail
  exact bodyPost_ret (results_text rfl (Blk.new _ _ _)) rfl ⟨rfl, (Below.refl _ w).alloc (Nat.le_refl _) _⟩
theorem results_end {tmps : Array Value} {W : World} {A : Nat} {v0 v1 v2 v3 v4 v5 v6 v7 : Value} (h2 : tmps[2]?.getD undef = .pointer (some ⟨A, 0, none⟩)) (h : Blk W A #[v0, v1, v2, v3, v4, v5, v6, v7] 37) :
    (results Tryz.f25 tmps).run Tryz.prog W = .ok (.agg #[v0, v1, v2, v3, v4, v5, v6, v7]) W := by
  have c0 : W.cell? ⟨A, 0, none⟩ = some v0 := h.cell 0
  have c1 : W.cell? ⟨A, 1, none⟩ = some v1 := h.cell 1
  have c2 : W.cell? ⟨A, 2, none⟩ = some v2 := h.cell 2
  have c3 : W.cell? ⟨A, 3, none⟩ = some v3 := h.cell 3
  have c4 : W.cell? ⟨A, 4, none⟩ = some v4 := h.cell 4
  have c5 : W.cell? ⟨A, 5, none⟩ = some v5 := h.cell 5
  have c6 : W.cell? ⟨A, 6, none⟩ = some v6 := h.cell 6
  have c7 : W.cell? ⟨A, 7, none⟩ = some v7 := h.cell 7
  simp [results, Tryz.results25, go_sem, h2, c0, c1, c2, c3, c4, c5, c6, c7]
set_option maxRecDepth 100000 in
set_option maxHeartbeats 4000000 in
theorem law_end (x : Txt) (w : World) : Calls Tryz.prog 25 #[.string ⟨x.toArray⟩] w fun r w' => r = .returned (.agg (BTok.arr ⟨2, x, []⟩)) ∧ Below w.heap.size w w' := by
  go_enter Tryz.func25, Tryz.ntmps25
  go_wp2_with fail
  exact bodyPost_ret (results_end rfl (Blk.new _ _ _)) rfl ⟨rfl, (Below.refl _ w).alloc (Nat.le_refl _) _⟩
set_option maxRecDepth 100000 in
set_option maxHeartbeats 40000000 in
/-- **lives.** -/
theorem lives_calls (w : World) (hm : MaxOk w) : Calls Tryz.prog 8 #[] w fun r w' => r = .returned (.bool true) ∧ Below w.heap.size w w' := by
  have HM : Hid (∀ W, Below w.heap.size w W → MaxOk W) := fun W hW => hm.below hW
  have HALL : Hid (∀ W, Below w.heap.size w W → ∀ cs, cs = LT.foldl (fun a t => a ++ t.arr) #[] → Calls Tryz.prog 20 #[.int .i64 9, .slice (some ⟨W.heap.size, 0, none⟩) 5 5] (W.alloc (.cells cs 37)) fun r w' => ∃ g0 g1, r = .returned (.tuple #[.slice (some ⟨g0, 0, none⟩) 9 9, .slice (some ⟨g1, 0, none⟩) 1 1, .int .i64 0]) ∧ (w'.cell? ⟨g0, 12, none⟩ = some (.int .i64 2) ∧ w'.cell? ⟨g0, 13, none⟩ = some (.string ⟨#[105]⟩) ∧ w'.cell? ⟨g0, 21, none⟩ = some (.string ⟨#[117, 108]⟩) ∧ w'.cell? ⟨g1, 3, none⟩ = some (.int .i64 9)) ∧ Below w.heap.size w w') := fun W hW cs hcs => by
    have b1 : Below w.heap.size w (W.alloc (.cells cs 37)) := hW.alloc hW.size _
    have h := all_calls 9 (by decide) (by decide) LT W.heap.size 5 (by decide) (by decide) (W.alloc (.cells cs 37)) (five_at W cs hcs _ rfl) (by simp) (HM.out _ b1) lt_ok lt_check lt_n.2.2.1 lt_n.2.2.2 (by rw [show LT.length = 5 from rfl, lt_n.1]; decide) (by rw [show LT.length = 5 from rfl, lt_n.2.1]; decide)
    rw [show LT.length = 5 from rfl, lt_n.1, lt_n.2.1] at h
    refine h.mono ?_
    rintro e w' ⟨g0, g1, rfl, h1, h2, h3⟩
    exact ⟨g0, g1, rfl, ⟨(h1 12 (by decide)).trans lt_12, (h1 13 (by decide)).trans lt_13, (h1 21 (by decide)).trans lt_21, (h2 3 (by decide)).trans lt_3⟩, b1.trans (h3.mono b1.size)⟩
  clear hm
  go_enter Tryz.func8, Tryz.ntmps8
  go_wp2_with fail
  (go_at_call 18; refine (law_start [98] _).mono ?_; rintro e w1 ⟨rfl, b1⟩)
  have HB1 := hid_of b1
  clear b1
  go_wp2_with fail
  (go_at_call 24; refine (law_text [120] _).mono ?_; rintro e w2 ⟨rfl, b2⟩)
  have HB2 : Hid (Below w.heap.size w w2) := HB1.out.trans (b2.mono HB1.out.size)
  clear b2 HB1
  go_wp2_with fail
  (go_at_call 18; refine (law_start [105] _).mono ?_; rintro e w3 ⟨rfl, b3⟩)
  have HB3 : Hid (Below w.heap.size w w3) := HB2.out.trans (b3.mono HB2.out.size)
  clear b3 HB2
  go_wp2_with fail
  (go_at_call 25; refine (law_end [98] _).mono ?_; rintro e w4 ⟨rfl, b4⟩)
  have HB4 : Hid (Below w.heap.size w w4) := HB3.out.trans (b4.mono HB3.out.size)
  clear b4 HB3
  go_wp2_with fail
  (go_at_call 18; refine (law_start [108, 105] _).mono ?_; rintro e w5 ⟨rfl, b5⟩)
  have HB5 : Hid (Below w.heap.size w w5) := HB4.out.trans (b5.mono HB4.out.size)
  clear b5 HB4
  simp only [BTok.arr]
  go_wp2_with fail
  (go_at_call 20; refine (HALL.out _ HB5.out _ rfl).mono ?_; rintro e w6 ⟨g0, g1, rfl, ⟨c12, c13, c21, d3⟩, b6⟩)
  have HB6 := hid_of b6
  clear b6
  go_wp2_with fail
  go_ret
  exact ⟨rfl, HB6.out⟩
end Go.Proofs.YtdkcibafbdmajabGreatDoor.B
