/- What is proved here: Apply of layer 16 on whatever stack; a stack and a plan that came in. -/
import Derived.Test.YtdkcibafbdmajaaNeSpoil
import Derived.Test.YtdkcibafbdmajaaBun5
namespace Go.Proofs.Ytdkcibafbdmajaa.E
open Go.ChangeShapes Go.WideShapes Go.ChangeAt Go.RowKit Go.Shelf Go.WideMaps Go.Maps Go.Proofs.Ytdkcibafbdmajaa.N Go.Proofs.Ytdkcibafbdmajaa.C

theorem txts_nil (w : World) : Txts w none [] 0 := ⟨fun j hj => absurd hj (by simp), Nat.le_refl _, fun _ => rfl⟩
set_option maxRecDepth 100000 in
set_option maxHeartbeats 4000000 in
theorem Apply_nil (L : List Txt) (d : Bool) (la : Option Addr) (lc : Nat) (w : World) (hQ : Txts w la L lc) (hL : L.length ≤ 10000000) :
    Calls Try.prog 52 #[.slice none 0 0, .agg #[.int .i64 0, .slice la L.length lc, .bool d]] w fun e w' =>
      ∃ v cv, e = .returned (.tuple #[.slice v L.length cv, .int .i64 0]) ∧ OwnT w.heap.size w' (.slice v L.length cv) L ∧ Below w.heap.size w w' := by
  obtain ⟨W1, hW1⟩ : ∃ W, w.alloc (.cells #[.int .i64 0, .slice la L.length lc, .bool d] 27) = W := ⟨_, rfl⟩
  have b1 : Below w.heap.size w W1 := by rw [← hW1]; exact (Below.refl _ w).alloc (Nat.le_refl _) _
  have q1 : Blk W1 w.heap.size #[.int .i64 0, .slice la L.length lc, .bool d] 27 := by rw [← hW1]; exact Blk.new _ _ _
  have HW : Hid (w.alloc (.cells #[.int .i64 0, .slice la L.length lc, .bool d] 27) = W1) := hW1
  have c0 : W1.cell? ⟨w.heap.size, 0, none⟩ = some (.int .i64 0) := q1.cell 0
  have c1 : W1.cell? ⟨w.heap.size, 1, none⟩ = some (.slice la L.length lc) := q1.cell 1
  have HB1 := hid_of b1
  have HQ1 := hid_of q1
  have HL1 := hid_of (hQ.below b1)
  have hO0 : OwnT w.heap.size W1 (.slice none 0 0) [] := World.ownsRow_nil _ _ _ _
  have HO0 := hid_of hO0
  clear hQ b1 q1 hW1 hO0
  go_enter Try.func52, Try.ntmps52
  go_upto_region 1 with fail
  rw [HW.out]
  clear HW
  go_upto_region 5 with (at_builtin; refine append_texts rfl _ _ rfl w.heap.size _ [] rfl HO0.out none 0 [] rfl (txts_nil _) (by simp) HB1.out.size ?_; intro v' w4 hown' hgrow; rw [List.nil_append] at hown'; obtain ⟨a2, c2, rfl⟩ := owns_slice hown'; have HO4 : Hid (OwnT w.heap.size w4 (.slice a2 0 c2) []) := hown'; have HB4 : Hid (Below w.heap.size w w4) := HB1.out.grown hgrow HB1.out.size (fun j hj => (HO0.out.lt j hj).1); have hk4 : Below W1.heap.size W1 w4 := ⟨hgrow.os, hgrow.tape, hgrow.output, hgrow.size, fun j hj => hgrow.block j hj (by rintro ⟨⟩)⟩; have HL4 : Hid (Txts w4 la L lc) := HL1.out.below hk4; have q4 := HQ1.out.below hk4; have d1 : w4.cell? ⟨w.heap.size, 1, none⟩ = some (.slice la L.length lc) := q4.cell 1; clear hk4 q4 hown' hgrow)
  go_wp2_with (at_builtin; refine append_texts rfl _ _ rfl w.heap.size _ [] rfl HO4.out la lc L rfl HL4.out (by simp; omega) HB4.out.size ?_; intro v' w5 hown5 hgrow5; rw [List.nil_append] at hown5; obtain ⟨a3, c3, rfl⟩ := owns_slice hown5)
  go_ret2
  exact ⟨a3, c3, rfl, hown5, HB4.out.grown hgrow5 HB4.out.size (fun j hj => (HO4.out.lt j hj).1)⟩
set_option maxRecDepth 100000 in
set_option maxHeartbeats 4000000 in
theorem LApply_nil (L : List Txt) (d : Bool) (la : Option Addr) (lc : Nat) (w : World) (hQ : Txts w la L lc) (hL : L.length ≤ 10000000) :
    Calls Try.prog 51 #[.slice none 0 0, .agg #[.int .i64 0, .slice la L.length lc, .bool d]] w fun e w' =>
      ∃ v cv, e = .returned (.slice v L.length cv) ∧ OwnT w.heap.size w' (.slice v L.length cv) L ∧ Below w.heap.size w w' := by
  obtain ⟨W1, hW1⟩ : ∃ W, w.alloc (.cells #[.int .i64 0, .slice la L.length lc, .bool d] 27) = W := ⟨_, rfl⟩
  have b1 : Below w.heap.size w W1 := by rw [← hW1]; exact (Below.refl _ w).alloc (Nat.le_refl _) _
  have q1 : Blk W1 w.heap.size #[.int .i64 0, .slice la L.length lc, .bool d] 27 := by rw [← hW1]; exact Blk.new _ _ _
  have HW : Hid (w.alloc (.cells #[.int .i64 0, .slice la L.length lc, .bool d] 27) = W1) := hW1
  have c0 : W1.cell? ⟨w.heap.size, 0, none⟩ = some (.int .i64 0) := q1.cell 0
  have c1 : W1.cell? ⟨w.heap.size, 1, none⟩ = some (.slice la L.length lc) := q1.cell 1
  have HB1 := hid_of b1
  have HQ1 := hid_of q1
  have HL1 := hid_of (hQ.below b1)
  clear hQ b1 q1 hW1
  have hw0 : IntKind.i64.wrap 0 = 0 := by decide
  go_enter Try.func51, Try.ntmps51
  go_upto_region 1 with fail
  rw [HW.out]
  clear HW
  have HLIT : Hid (∀ W : World, W.heap.size = W1.heap.size → OwnT W1.heap.size (W.alloc (.cells #[] 9)) (.slice (some ⟨W1.heap.size, 0, none⟩) 0 0) []) := fun W e => by
    have h := World.ownsRow_lit (e := 9) (size := 1) W #[] 0 (by rw [e]; exact Nat.le_refl _) (by unfold maxLen; omega) (by simp)
    rw [e] at h
    exact h
  go_region_held3 (fun w' => w'.cell? ⟨w.heap.size, 0, none⟩ = some (.int .i64 0) ∧ w'.cell? ⟨w.heap.size, 1, none⟩ = some (.slice la L.length lc)) (first | exact ⟨c0, c1⟩ | exact ⟨d0, d1⟩ | exact ⟨g0, g1⟩ | go_keep) (first
    | (refine step_texts rfl _ _ rfl W1.heap.size (.slice (some ⟨W1.heap.size, 0, none⟩) 0 0) [] (by simp [Act.eval]) (by first | exact HLIT.out W1 rfl | exact HLIT.out W1.drew rfl | exact HLIT.out _ rfl) none 0 [] (by simp [Act.eval]) (txts_nil _) (by simp) (by simp) ?_; intro v' w4 hown' hgrow; rw [List.nil_append] at hown'; obtain ⟨a2, c2, rfl⟩ := owns_slice hown'; have HO4 : Hid (OwnT W1.heap.size w4 (.slice a2 0 c2) []) := hown'; have hk4 : Below W1.heap.size W1 w4 := (by first | exact ((Below.refl _ W1).drew.alloc (by simp) _).grown hgrow (by simp) (fun j hj => by cases hj; simp) | exact ((Below.refl _ W1).alloc (by simp) _).grown hgrow (by simp) (fun j hj => by cases hj; simp)); have HK4 := hid_of hk4; have HB4 : Hid (Below w.heap.size w w4) := HB1.out.trans (hk4.mono HB1.out.size); have q4 := HQ1.out.below hk4; have d0 : w4.cell? ⟨w.heap.size, 0, none⟩ = some (.int .i64 0) := q4.cell 0; have d1 : w4.cell? ⟨w.heap.size, 1, none⟩ = some (.slice la L.length lc) := q4.cell 1; have HL4 : Hid (Txts w4 la L lc) := HL1.out.below hk4; clear hk4 q4 hown' hgrow)
    | (refine step_texts rfl _ _ rfl W1.heap.size (.slice a2 0 c2) [] (by simp [Act.eval]) HO4.out la lc L (by simp [Act.eval]) HL4.out (by simp; omega) HK4.out.size ?_; intro v' w5 hown5 hgrow5; rw [List.nil_append] at hown5; obtain ⟨a3, c3, rfl⟩ := owns_slice hown5; have hk5 := HK4.out.grown hgrow5 HK4.out.size (fun j hj => (HO4.out.lt j hj).1); have q5 := HQ1.out.below hk5; have g0 : w5.cell? ⟨w.heap.size, 0, none⟩ = some (.int .i64 0) := q5.cell 0; have g1 : w5.cell? ⟨w.heap.size, 1, none⟩ = some (.slice la L.length lc) := q5.cell 1; clear hk5 q5))
  all_goals go_wp2
  all_goals go_ret
  all_goals exact ⟨a3, c3, rfl, own_low hown5 HB1.out.size, HB4.out.grown hgrow5 HB4.out.size (fun j hj => Nat.le_trans HB1.out.size (HO4.out.lt j hj).1)⟩
theorem Apply_any (S L : List Txt) (z : Int) (d : Bool) (a la : Option Addr) (c lc : Nat) (w : World) (hT : Txts w a S c) (hQ : Txts w la L lc) (hS : S.length ≤ 10000000) (hL : L.length ≤ 10000000) (hz0 : 0 ≤ z) (hz1 : z ≤ S.length) :
    Calls Try.prog 52 #[.slice a S.length c, .agg #[.int .i64 z, .slice la L.length lc, .bool d]] w fun e w' =>
      ∃ v cv, e = .returned (.tuple #[.slice v (applyL S z L).length cv, .int .i64 0]) ∧ OwnT w.heap.size w' (.slice v (applyL S z L).length cv) (applyL S z L) ∧ Below w.heap.size w w' := by
  cases a with
  | some ad => exact Apply_calls S L z d ad la c lc w hT hQ hS hL hz0 hz1
  | none =>
    obtain rfl := hT.nil rfl
    obtain rfl : S = [] := List.eq_nil_of_length_eq_zero (by have := hT.cap; omega)
    obtain rfl : z = 0 := by simp at hz1; omega
    exact Apply_nil L d la lc w hQ hL
theorem LApply_any (S L : List Txt) (z : Int) (d : Bool) (a la : Option Addr) (c lc : Nat) (w : World) (hT : Txts w a S c) (hQ : Txts w la L lc) (hS : S.length ≤ 10000000) (hL : L.length ≤ 10000000) (hz0 : 0 ≤ z) (hz1 : z ≤ S.length) :
    Calls Try.prog 51 #[.slice a S.length c, .agg #[.int .i64 z, .slice la L.length lc, .bool d]] w fun e w' =>
      ∃ v cv, e = .returned (.slice v (applyL S z L).length cv) ∧ OwnT w.heap.size w' (.slice v (applyL S z L).length cv) (applyL S z L) ∧ Below w.heap.size w w' := by
  cases a with
  | some ad => exact LApply_calls S L z d ad la c lc w hT hQ hS hL hz0 hz1
  | none =>
    obtain rfl := hT.nil rfl
    obtain rfl : S = [] := List.eq_nil_of_length_eq_zero (by have := hT.cap; omega)
    obtain rfl : z = 0 := by simp at hz1; omega
    exact LApply_nil L d la lc w hQ hL
set_option maxRecDepth 100000 in
/-- A row of words that came in. -/
theorem words_of_trod {H : Type} {enc : TypeId × Value → H} {W : World} {c : Value} {d : DataW H} {p : List MemPlace} {fuel : Nat} (hf : DataW.trod enc Try.prog W 0 (fun _ => true) true fuel 22 [c] = some (d, p)) :
    ∃ (a : Option Addr) (cap : Nat) (L : List Txt), c = .slice a L.length cap ∧ Txts W a L cap ∧ L.length ≤ Rows.uptoBulk d := by
  rcases Deep.open_strs Try.underlying22 Try.underlying9 (by kernel_rfl) hf with ⟨hcs, hx⟩ | ⟨a, len, cap, m, S, hcs, _, hl, hmx, hm, hx, hat⟩
  · simp only [List.cons.injEq, and_true] at hcs
    exact ⟨none, 0, [], hcs, txts_nil _, by simp⟩
  · simp only [List.cons.injEq, and_true] at hcs
    simp only [if_true] at hm
    simp only [Prod.mk.injEq] at hx
    have b1 := (bulk_words (H := H) S (List.range len)).1
    rw [List.length_range] at b1
    refine ⟨some a, cap, (List.range len).map fun i => (S i).data.toList, by rw [hcs]; simp, ⟨fun j hj => ?_, by simpa using hl, fun e => by cases e⟩, ?_⟩
    · have hj' : j < len := by simpa using hj
      obtain ⟨b, off, spot⟩ := a
      have hsp : spot = none := by
        have := (hat 0 (by omega)).1
        cases spot with
        | none => rfl
        | some s => simp [World.cell?, Addr.add] at this; split at this <;> cases this
      subst hsp
      refine ⟨b, off, rfl, ?_⟩
      have g := (hat j (by omega)).1
      rw [add_none] at g
      rw [g]
      simp [hj', List.getD]
    · rw [hx.1]
      simp only [Rows.uptoBulk, List.length_map, List.length_range]
      omega
theorem txts_of_read {H : Type} {enc : TypeId × Value → H} {W : World} {v : Value} {d : DataW H} {p : List MemPlace} (hv : ∃ a len cap, v = .slice a len cap) (h : DataW.Trod enc Try.prog W 0 (fun _ => true) true 22 v d p) :
    ∃ (a : Option Addr) (cap : Nat) (L : List Txt), v = .slice a L.length cap ∧ Txts W a L cap ∧ L.length ≤ Rows.uptoBulk d := by
  obtain ⟨a0, len0, cap0, rfl⟩ := hv
  obtain ⟨fuel, hf0⟩ := h
  exact words_of_trod (fuel := fuel) hf0
set_option maxRecDepth 100000 in
/-- A plan that came in. -/
theorem plan_of_read {H : Type} {enc : TypeId × Value → H} {W : World} {r : Reach} {b0 : Nat} {v : Value} {d : DataW H} {p : List MemPlace} (hval : Value.okWide Try.prog W r b0 27 v) (h : DataW.Trod enc Try.prog W 0 (fun _ => true) true 27 v d p) :
    ∃ (z : Int) (a : Option Addr) (cap : Nat) (L : List Txt) (b : Bool), v = .agg #[.int .i64 z, .slice a L.length cap, .bool b] ∧ Txts W a L cap ∧ L.length ≤ Rows.uptoBulk d := by
  obtain ⟨cells, rfl, hsz⟩ := okWide_struct Try.underlying27 hval
  rw [show Try.prog.cellsOf 27 = 3 by kernel_rfl] at hsz
  obtain ⟨c0, c1, c2, rfl⟩ : ∃ c0 c1 c2, cells = #[c0, c1, c2] := by
    match cells, hsz with
    | ⟨[c0, c1, c2]⟩, _ => exact ⟨c0, c1, c2, rfl⟩
  obtain ⟨fuel, hf0⟩ := h
  have hf : DataW.trod enc Try.prog W 0 (fun _ => true) true fuel 27 [c0, c1, c2] = some (d, p) := hf0
  obtain ⟨y0, y1, y2, n, hx, _, t0, t1, t2⟩ := Deep.trod_struct3 Try.underlying27 hf
  have k0 : Try.prog.cellsOf 3 = 1 := by kernel_rfl
  have k1 : Try.prog.cellsOf 22 = 1 := by kernel_rfl
  have k2 : Try.prog.cellsOf 4 = 1 := by kernel_rfl
  simp only [k0, k1, k2, List.drop_zero, List.drop_succ_cons, List.take_succ_cons, List.take_zero] at t0 t1 t2
  obtain ⟨z, e0, x0, _⟩ := DataW.trod_int Try.underlying3 t0
  obtain ⟨d1, p1⟩ := y1
  obtain ⟨a, cap, L, e1, h1, h2⟩ := words_of_trod t1
  obtain ⟨b, e2, x2⟩ := DataW.trod_bool Try.underlying4 t2
  simp only [Prod.mk.injEq] at hx
  have hbk : Rows.uptoBulk d1 ≤ Rows.uptoBulk d := by
    rw [hx.1]
    simp only [Rows.uptoBulk, Rows.uptoBulkAll]
    omega
  simp at e0 e2
  exact ⟨z, a, cap, L, b, by rw [e0, e1, e2], h1, by omega⟩
end Go.Proofs.Ytdkcibafbdmajaa.E
