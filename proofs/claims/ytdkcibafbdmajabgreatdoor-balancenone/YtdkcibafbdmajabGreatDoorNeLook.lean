/- What is proved here: look: what is known of a name. -/
import Derived.Maps.OwnSet
import Derived.Test.YtdkcibafbdmajabGreatDoorBun5
namespace Go.Proofs.YtdkcibafbdmajabGreatDoor.E
open Go.RowKit Go.Shelf Go.WideMaps Go.Maps Go.Proofs.YtdkcibafbdmajabGreatDoor.N Go.Proofs.YtdkcibafbdmajabGreatDoor.C

theorem zero_look (w : World) : (zeroValue 133).run Tryz.prog w = .ok zeroLook w := by kernel_rfl
theorem zero_place (w : World) : (zeroValue 131).run Tryz.prog w = .ok .nilFunc w := by kernel_rfl
theorem LM.look {b n : Nat} {W : World} (h : LM b n W) (x : Txt) (hx : x.length ≤ 10000000000) :
    (Instr.lookup 153 (.map (some b)) (.string ⟨x.toArray⟩) true).run Tryz.prog W = .ok (.tuple #[lookV x, .bool true]) W ∨ (Instr.lookup 153 (.map (some b)) (.string ⟨x.toArray⟩) true).run Tryz.prog W = .ok (.tuple #[zeroLook, .bool false]) W := by
  obtain ⟨D, h1, h2⟩ := h
  obtain ⟨v, ps, hrun, hv⟩ := h1.look_ok lawE Tryz.underlying153 (zero_look W) codeL_zero (key_tx x hx)
  have hx := h2 x
  cases hb : Maps.has D (.string x) with
  | true =>
    rw [hb] at hx hrun
    simp only [if_true] at hx
    rw [hx] at hv
    rw [codeL_inv hv] at hrun
    exact .inl hrun
  | false =>
    rw [hb] at hx hrun
    simp only [Bool.false_eq_true, if_false] at hx
    rw [hx] at hv
    rw [codeL_nil hv] at hrun
    exact .inr hrun
theorem PM.look {b : Nat} {W : World} (h : PM b W) (x : Txt) (hx : x.length ≤ 10000000000) :
    (Instr.lookup 151 (.map (some b)) (.string ⟨x.toArray⟩) true).run Tryz.prog W = .ok (.tuple #[if ownOf x = .stand then .nilFunc else fnV (ownFn (ownOf x)), .bool (!decide (ownOf x = .stand))]) W := by
  obtain ⟨D, h1, h2⟩ := h
  obtain ⟨v, ps, hrun, hv⟩ := h1.look_ok lawE Tryz.underlying151 (zero_place W) (by rfl : codeP .nilFunc = some (.nil, [])) (key_tx x hx)
  obtain ⟨h3, h4⟩ := h2 x
  rw [h3] at hrun
  rw [h4] at hv
  by_cases e : ownOf x = .stand
  · rw [if_pos e] at hv ⊢
    rw [codeP_nil hv] at hrun
    exact hrun
  · rw [if_neg e] at hv ⊢
    rw [codeP_inv hv] at hrun
    exact hrun
def zeroLookA : Array Value := #[.string ⟨#[]⟩, .bool false, .bool false, .bool false, .bool false, .nilFunc]
theorem grown_of_below {w w' : World} {row : Option Nat} (hb : Below w.heap.size w w') : w.grownBy w' row := ⟨hb.os, hb.tape, hb.output, hb.size, fun k hk _ => hb.block k hk⟩
theorem put6_other {W : World} {g j : Nat} (h : j ≠ g) (v0 v1 v2 v3 v4 v5 : Value) : ((((((W.setCell ⟨g, 0, none⟩ v0).setCell ⟨g, 1, none⟩ v1).setCell ⟨g, 2, none⟩ v2).setCell ⟨g, 3, none⟩ v3).setCell ⟨g, 4, none⟩ v4).setCell ⟨g, 5, none⟩ v5).heap[j]? = W.heap[j]? :=
  (Below.heap_setCell _ _ _ _ h).trans ((Below.heap_setCell _ _ _ _ h).trans ((Below.heap_setCell _ _ _ _ h).trans ((Below.heap_setCell _ _ _ _ h).trans ((Below.heap_setCell _ _ _ _ h).trans (Below.heap_setCell _ _ _ _ h)))))
theorem results_look {tmps : Array Value} {W : World} {A : Nat} {v0 v1 v2 v3 v4 v5 : Value} {t : TypeId} (h4 : tmps[4]?.getD undef = .pointer (some ⟨A, 0, none⟩)) (h : Blk W A #[v0, v1, v2, v3, v4, v5] t) :
    (results Tryz.f95 tmps).run Tryz.prog W = .ok (.agg #[v0, v1, v2, v3, v4, v5]) W := by
  have c0 : W.cell? ⟨A, 0, none⟩ = some v0 := h.cell 0
  have c1 : W.cell? ⟨A, 1, none⟩ = some v1 := h.cell 1
  have c2 : W.cell? ⟨A, 2, none⟩ = some v2 := h.cell 2
  have c3 : W.cell? ⟨A, 3, none⟩ = some v3 := h.cell 3
  have c4 : W.cell? ⟨A, 4, none⟩ = some v4 := h.cell 4
  have c5 : W.cell? ⟨A, 5, none⟩ = some v5 := h.cell 5
  simp [results, Tryz.results95, go_sem, h4, c0, c1, c2, c3, c4, c5]
set_option maxRecDepth 100000 in
set_option maxHeartbeats 4000000 in
/-- **look.** -/
theorem look_calls {n B pb lb : Nat} {a : Option Addr} {S : List Txt} {k : Nat} {ins : List Txt} {m : Nat} (x : Txt) (hx : x.length ≤ 10000000000) (hm : m ≤ 1000000000000) (w : World) (h : Tb n B pb lb a S k ins m w) :
    Calls Tryz.prog 95 #[.pointer (some ⟨B, 0, none⟩), .string ⟨x.toArray⟩] w fun e w' => e = .returned (lookV x) ∧ Tb n B pb lb a S k ins (m + 1) w' ∧ w.grownBy w' (some lb) := by
  obtain ⟨W1, hW1⟩ : ∃ W, w.alloc (.cells zeroLookA 133) = W := ⟨_, rfl⟩
  have b1 : Below w.heap.size w W1 := by rw [← hW1]; exact (Below.refl _ w).alloc (Nat.le_refl _) _
  have t1 : Tb n B pb lb a S k ins m W1 := h.below b1
  have r1 : Blk W1 w.heap.size zeroLookA 133 := by rw [← hW1]; exact Blk.new _ _ _
  have z1 : W1.heap.size = w.heap.size + 1 := by rw [← hW1]; simp
  obtain ⟨k0, k1⟩ := t1.cells
  have hlk := t1.tab.lm.look x hx
  have HLV : Hid (lookV x = .agg #[.string ⟨x.toArray⟩, .bool (allowB x), .bool (voidB x), .bool (headB x), .bool (blockB x), .func (.func (ownFn (ownOf x))) #[] #[]]) := rfl
  have HIA : Hid (inZ 15 x = allowB x) := rfl
  have HIV : Hid (inZ 0 x = voidB x) := rfl
  have HIH : Hid (inZ 5 x = headB x) := rfl
  have HIB : Hid (inZ 6 x = blockB x) := rfl
  have HPL := hid_of (t1.tab.pm.look x hx)
  rw [HLV.out] at hlk
  generalize hb1 : allowB x = o1 at *
  generalize hb2 : voidB x = o2 at *
  generalize hb3 : headB x = o3 at *
  generalize hb4 : blockB x = o4 at *
  have HT := hid_of t1
  have HT0 := hid_of h
  have HR := hid_of r1
  have HB := hid_of b1
  have HW : Hid (w.alloc (.cells #[.string ⟨#[]⟩, .bool false, .bool false, .bool false, .bool false, .nilFunc] 133) = W1) := hW1
  have HBX : Hid (allowB x = o1 ∧ voidB x = o2 ∧ headB x = o3 ∧ blockB x = o4) := ⟨hb1, hb2, hb3, hb4⟩
  clear t1 r1 b1 hW1 h hb1 hb2 hb3 hb4
  rcases hlk with hlk | hlk
  · generalize ownFn (ownOf x) = fo at *
    go_enter Tryz.func95, Tryz.ntmps95
    go_upto_region 1 with fail
    rw [HW.out]
    clear HW
    have hst : ∀ (a : Addr) (n : FuncId) (m : Mode) (u : World), (store a (.func (.func n) #[] #[]) m).run Tryz.prog u = stored Tryz.prog u a (.func (.func n) #[] #[]) m := fun a n m u => run_store Tryz.prog u a _ m rfl
    go_upto_region 3 with fail
    obtain ⟨W2, hW2⟩ : ∃ W, W1.alloc (.cells #[.string ⟨x.toArray⟩, .bool o1, .bool o2, .bool o3, .bool o4, .func (.func fo) #[] #[]] 133) = W := ⟨_, rfl⟩
    have q2 : Blk W2 (w.heap.size + 1) #[.string ⟨x.toArray⟩, .bool o1, .bool o2, .bool o3, .bool o4, .func (.func fo) #[] #[]] 133 := by rw [← hW2, ← z1]; exact Blk.new _ _ _
    have r2 : Blk W2 w.heap.size zeroLookA 133 := by rw [← hW2]; exact HR.out.below ((Below.refl _ _).alloc (Nat.le_refl _) _)
    have b2 : Below w.heap.size w W2 := by rw [← hW2]; exact HB.out.alloc (by omega) _
    rw [hW2]
    have c0 : W2.cell? ⟨w.heap.size + 1, 0, none⟩ = some (.string ⟨x.toArray⟩) := q2.cell 0
    have c1 : W2.cell? ⟨w.heap.size + 1, 1, none⟩ = some (.bool o1) := q2.cell 1
    have c2 : W2.cell? ⟨w.heap.size + 1, 2, none⟩ = some (.bool o2) := q2.cell 2
    have c3 : W2.cell? ⟨w.heap.size + 1, 3, none⟩ = some (.bool o3) := q2.cell 3
    have c4 : W2.cell? ⟨w.heap.size + 1, 4, none⟩ = some (.bool o4) := q2.cell 4
    have c5 : W2.cell? ⟨w.heap.size + 1, 5, none⟩ = some (.func (.func fo) #[] #[]) := q2.cell 5
    have e0 : W2.cell? ⟨w.heap.size, 0, none⟩ = some (.string ⟨#[]⟩) := r2.cell 0
    have e1 : W2.cell? ⟨w.heap.size, 1, none⟩ = some (.bool false) := r2.cell 1
    have e2 : W2.cell? ⟨w.heap.size, 2, none⟩ = some (.bool false) := r2.cell 2
    have e3 : W2.cell? ⟨w.heap.size, 3, none⟩ = some (.bool false) := r2.cell 3
    have e4 : W2.cell? ⟨w.heap.size, 4, none⟩ = some (.bool false) := r2.cell 4
    have e5 : W2.cell? ⟨w.heap.size, 5, none⟩ = some .nilFunc := r2.cell 5
    have f0 := r2.frozen
    have HR2 := hid_of r2
    clear q2 r2 hW2
    go_wp2_with fail
    have hF := below_put6 b2 (Nat.le_refl _) (.string ⟨x.toArray⟩) (.bool o1) (.bool o2) (.bool o3) (.bool o4) (.func (.func fo) #[] #[])
    exact bodyPost_ret (results_look rfl (HR2.out.put6 _ _ _ _ _ _)) rfl ⟨congrArg Ending.returned HLV.out.symm, (HT0.out.below hF).mono (by omega), grown_of_below hF⟩
  · rw [show zeroLook = .agg #[.string ⟨#[]⟩, .bool false, .bool false, .bool false, .bool false, .nilFunc] from rfl] at hlk
    have HIN : Hid (∀ z W, MaxOk W → Calls Tryz.prog 69 #[.string ⟨x.toArray⟩, .int .i64 z] W fun e w' => e = .returned (.bool (inZ z x)) ∧ w' = W) := fun z W hm => by
      have := in_calls ⟨x.toArray⟩ z W (by show x.toArray.size ≤ _; simp; omega) hm
      rwa [show (⟨x.toArray⟩ : ByteArray).data.toList = x from rfl] at this
    have hkey := key_tx x hx
    have HXL := hid_of hx
    clear hx
    go_enter Tryz.func95, Tryz.ntmps95
    go_upto_region 1 with fail
    rw [HW.out]
    clear HW
    have hst : ∀ (a : Addr) (n : FuncId) (m : Mode) (u : World), (store a (.func (.func n) #[] #[]) m).run Tryz.prog u = stored Tryz.prog u a (.func (.func n) #[] #[]) m := fun a n m u => run_store Tryz.prog u a _ m rfl
    have hsn : ∀ (a : Addr) (m : Mode) (u : World), (store a .nilFunc m).run Tryz.prog u = stored Tryz.prog u a .nilFunc m := fun a m u => run_store Tryz.prog u a _ m rfl
    go_upto_region 4 with fail
    obtain ⟨W2, hW2⟩ : ∃ W, W1.alloc (.cells #[.string ⟨#[]⟩, .bool false, .bool false, .bool false, .bool false, .nilFunc] 133) = W := ⟨_, rfl⟩
    have q2 : Blk W2 (w.heap.size + 1) #[.string ⟨#[]⟩, .bool false, .bool false, .bool false, .bool false, .nilFunc] 133 := by rw [← hW2, ← z1]; exact Blk.new _ _ _
    have r2 : Blk W2 w.heap.size zeroLookA 133 := by rw [← hW2]; exact HR.out.below ((Below.refl _ _).alloc (Nat.le_refl _) _)
    have b2 : Below w.heap.size w W2 := by rw [← hW2]; exact HB.out.alloc (by omega) _
    rw [hW2]
    clear hW2 k0 k1 hlk
    have HT2 := hid_of (HT0.out.below b2)
    obtain ⟨k0, k1⟩ := HT2.out.cells
    have hpl0 := HT2.out.tab.pm.look x HXL.out
    have HMX := hid_of HT2.out.mx
    have HQ2 := hid_of q2
    have HR2 := hid_of r2
    have HB2 := hid_of b2
    have HCL : Hid (codeL (lookV x) = some (.lit (.string x), [])) := codeL_look x
    clear q2 r2 b2
    generalize hfo : ownFn (ownOf x) = fo at *
    have hcs : (Instr.lookup 151 (.map (some pb)) (.string ⟨x.toArray⟩) true).run Tryz.prog W2 = .ok (.tuple #[.func (.func fo) #[] #[], .bool true]) W2 ∨ ((Instr.lookup 151 (.map (some pb)) (.string ⟨x.toArray⟩) true).run Tryz.prog W2 = .ok (.tuple #[.nilFunc, .bool false]) W2 ∧ 115 = fo) := by
      by_cases hs : ownOf x = .stand
      · right
        rw [if_pos hs, decide_eq_true hs] at hpl0
        rw [hs] at hfo
        exact ⟨hpl0, hfo⟩
      · left
        rw [if_neg hs, decide_eq_false hs] at hpl0
        exact hpl0
    have HFO := hid_of hfo
    clear hpl0 hfo HPL
    rcases hcs with hpl | ⟨hpl, rfl⟩
    · go_upto_region 7 with fail
      have hs0 := HQ2.out.frozen
      have d0 : W2.cell? ⟨w.heap.size + 1, 0, none⟩ = some (.string ⟨#[]⟩) := HQ2.out.cell 0
      have d1 : W2.cell? ⟨w.heap.size + 1, 1, none⟩ = some (.bool false) := HQ2.out.cell 1
      have d2 : W2.cell? ⟨w.heap.size + 1, 2, none⟩ = some (.bool false) := HQ2.out.cell 2
      have d3 : W2.cell? ⟨w.heap.size + 1, 3, none⟩ = some (.bool false) := HQ2.out.cell 3
      have d4 : W2.cell? ⟨w.heap.size + 1, 4, none⟩ = some (.bool false) := HQ2.out.cell 4
      have d5 : W2.cell? ⟨w.heap.size + 1, 5, none⟩ = some .nilFunc := HQ2.out.cell 5
      go_upto_region 8 with (go_at_call 69; refine (HIN.out _ W2 HMX.out).mono ?_; rintro e w' ⟨rfl, hw'⟩; have hx' := hw'.symm; subst hx'; first | rw [HIA.out] | rw [HIV.out] | rw [HIH.out] | rw [HIB.out])
      clear d0 d1 d2 d3 d4 d5 hs0 hpl k0 k1
      obtain ⟨W3, hW3⟩ : ∃ W, (((((W2.setCell ⟨w.heap.size + 1, 0, none⟩ (.string ⟨x.toArray⟩)).setCell ⟨w.heap.size + 1, 1, none⟩ (.bool o1)).setCell ⟨w.heap.size + 1, 2, none⟩ (.bool o2)).setCell ⟨w.heap.size + 1, 3, none⟩ (.bool o3)).setCell ⟨w.heap.size + 1, 4, none⟩ (.bool o4)).setCell ⟨w.heap.size + 1, 5, none⟩ (.func (.func fo) #[] #[]) = W := ⟨_, rfl⟩
      have q3 : Blk W3 (w.heap.size + 1) #[.string ⟨x.toArray⟩, .bool o1, .bool o2, .bool o3, .bool o4, .func (.func fo) #[] #[]] 133 := by rw [← hW3]; exact HQ2.out.put6 _ _ _ _ _ _
      have r3 : Blk W3 w.heap.size zeroLookA 133 := by rw [← hW3]; exact (((((HR2.out.other (by omega) _ _).other (by omega) _ _).other (by omega) _ _).other (by omega) _ _).other (by omega) _ _).other (by omega) _ _
      have b3 : Below w.heap.size w W3 := by rw [← hW3]; exact below_put6 HB2.out (by omega) _ _ _ _ _ _
      rw [hW3]
      clear hW3
      have t3 := HT0.out.below b3
      obtain ⟨k0, k1⟩ := t3.cells
      obtain ⟨D, hO, hD⟩ := t3.tab.lm
      have HO := hid_of hO
      have HD := hid_of hD
      have hlb := t3.tab.lm.kind lb rfl
      have g3 : w.grownBy W3 (some lb) := grown_of_below b3
      clear hO hD t3 b3
      have c0 : W3.cell? ⟨w.heap.size + 1, 0, none⟩ = some (.string ⟨x.toArray⟩) := q3.cell 0
      have c1 : W3.cell? ⟨w.heap.size + 1, 1, none⟩ = some (.bool o1) := q3.cell 1
      have c2 : W3.cell? ⟨w.heap.size + 1, 2, none⟩ = some (.bool o2) := q3.cell 2
      have c3 : W3.cell? ⟨w.heap.size + 1, 3, none⟩ = some (.bool o3) := q3.cell 3
      have c4 : W3.cell? ⟨w.heap.size + 1, 4, none⟩ = some (.bool o4) := q3.cell 4
      have c5 : W3.cell? ⟨w.heap.size + 1, 5, none⟩ = some (.func (.func fo) #[] #[]) := q3.cell 5
      have hcode : codeL (.agg #[.string ⟨x.toArray⟩, .bool o1, .bool o2, .bool o3, .bool o4, .func (.func fo) #[] #[]]) = some (.lit (.string x), []) := by rw [← HLV.out]; exact HCL.out
      have HQ3 := hid_of q3
      have HR3 := hid_of r3
      obtain ⟨ol, ho1, ho2⟩ := hlb
      have HN1 : Hid (w.heap.size + 1 ≠ lb) := map_ne_cells ho1 ho2 q3
      have HN0 : Hid (w.heap.size ≠ lb) := map_ne_cells ho1 ho2 r3
      have HG3 := hid_of g3
      have HNB : Hid (B ≠ lb) := HT0.out.tab.neB.1
      clear q3 r3 ho1 ho2 ol g3
      obtain ⟨w4, hrun4, hown4, hgrow4⟩ := (show W3.drew.ownsMap Tryz.prog 9 codeL lb m D from HO.out).update lawE Tryz.underlying153 (by unfold maxLen; omega) hkey hcode
      replace hgrow4 : W3.grownBy w4 (some lb) := ⟨hgrow4.os, hgrow4.tape, hgrow4.output, hgrow4.size, hgrow4.block⟩
      have q4 := HQ3.out.grown hgrow4 (fun e => HN1.out (by injection e))
      have r4 := HR3.out.grown hgrow4 (fun e => HN0.out (by injection e))
      have y0 : w4.cell? ⟨w.heap.size + 1, 0, none⟩ = some (.string ⟨x.toArray⟩) := q4.cell 0
      have y1 : w4.cell? ⟨w.heap.size + 1, 1, none⟩ = some (.bool o1) := q4.cell 1
      have y2 : w4.cell? ⟨w.heap.size + 1, 2, none⟩ = some (.bool o2) := q4.cell 2
      have y3 : w4.cell? ⟨w.heap.size + 1, 3, none⟩ = some (.bool o3) := q4.cell 3
      have y4 : w4.cell? ⟨w.heap.size + 1, 4, none⟩ = some (.bool o4) := q4.cell 4
      have y5 : w4.cell? ⟨w.heap.size + 1, 5, none⟩ = some (.func (.func fo) #[] #[]) := q4.cell 5
      have y9 : w4.cell? ⟨B, 1, none⟩ = some (.map (some lb)) := hgrow4.cell k1 (fun e => HNB.out (by injection e))
      go_region_held3 (fun w' => w'.cell? ⟨B, 1, none⟩ = some (.map (some lb)) ∧ w'.cell? ⟨w.heap.size + 1, 0, none⟩ = some (.string ⟨x.toArray⟩) ∧ w'.cell? ⟨w.heap.size + 1, 1, none⟩ = some (.bool o1) ∧ w'.cell? ⟨w.heap.size + 1, 2, none⟩ = some (.bool o2) ∧ w'.cell? ⟨w.heap.size + 1, 3, none⟩ = some (.bool o3) ∧ w'.cell? ⟨w.heap.size + 1, 4, none⟩ = some (.bool o4) ∧ w'.cell? ⟨w.heap.size + 1, 5, none⟩ = some (.func (.func fo) #[] #[])) (first | exact ⟨k1, c0, c1, c2, c3, c4, c5⟩ | exact ⟨y9, y0, y1, y2, y3, y4, y5⟩ | go_keep) (fail)
      clear c0 c1 c2 c3 c4 c5 k0 k1
      have e0 : w4.cell? ⟨w.heap.size, 0, none⟩ = some (.string ⟨#[]⟩) := r4.cell 0
      have e1 : w4.cell? ⟨w.heap.size, 1, none⟩ = some (.bool false) := r4.cell 1
      have e2 : w4.cell? ⟨w.heap.size, 2, none⟩ = some (.bool false) := r4.cell 2
      have e3 : w4.cell? ⟨w.heap.size, 3, none⟩ = some (.bool false) := r4.cell 3
      have e4 : w4.cell? ⟨w.heap.size, 4, none⟩ = some (.bool false) := r4.cell 4
      have e5 : w4.cell? ⟨w.heap.size, 5, none⟩ = some .nilFunc := r4.cell 5
      have f0 := r4.frozen
      have HR4 := hid_of r4
      have HG4 : Hid (w.grownBy w4 (some lb)) := HG3.out.trans hgrow4
      have HL4 : Hid (LM lb (m + 1) w4) := LM.put HO.out HD.out x hown4
      clear q4 r4 hgrow4 hown4
      go_wp2_with fail
      have hgF := grown_above (i := 5) (grown_above (i := 4) (grown_above (i := 3) (grown_above (i := 2) (grown_above (i := 1) (grown_above (i := 0) HG4.out (.string ⟨x.toArray⟩) (Nat.le_refl _)) (.bool o1) (Nat.le_refl _)) (.bool o2) (Nat.le_refl _)) (.bool o3) (Nat.le_refl _)) (.bool o4) (Nat.le_refl _)) (.func (.func fo) #[] #[]) (Nat.le_refl _)
      exact bodyPost_ret (results_look rfl (HR4.out.put6 _ _ _ _ _ _)) rfl ⟨congrArg Ending.returned HLV.out.symm, HT0.out.grown hgF (HL4.out.same (put6_other (fun e => HN0.out e.symm) _ _ _ _ _ _)), hgF⟩
    · go_upto_region 7 with fail
      have hs0 := HQ2.out.frozen
      have d0 : W2.cell? ⟨w.heap.size + 1, 0, none⟩ = some (.string ⟨#[]⟩) := HQ2.out.cell 0
      have d1 : W2.cell? ⟨w.heap.size + 1, 1, none⟩ = some (.bool false) := HQ2.out.cell 1
      have d2 : W2.cell? ⟨w.heap.size + 1, 2, none⟩ = some (.bool false) := HQ2.out.cell 2
      have d3 : W2.cell? ⟨w.heap.size + 1, 3, none⟩ = some (.bool false) := HQ2.out.cell 3
      have d4 : W2.cell? ⟨w.heap.size + 1, 4, none⟩ = some (.bool false) := HQ2.out.cell 4
      have d5 : W2.cell? ⟨w.heap.size + 1, 5, none⟩ = some .nilFunc := HQ2.out.cell 5
      go_upto_region 8 with (go_at_call 69; refine (HIN.out _ W2 HMX.out).mono ?_; rintro e w' ⟨rfl, hw'⟩; have hx' := hw'.symm; subst hx'; first | rw [HIA.out] | rw [HIV.out] | rw [HIH.out] | rw [HIB.out])
      clear d0 d1 d2 d3 d4 d5 hs0 hpl k0 k1
      obtain ⟨W3, hW3⟩ : ∃ W, (((((W2.setCell ⟨w.heap.size + 1, 0, none⟩ (.string ⟨x.toArray⟩)).setCell ⟨w.heap.size + 1, 1, none⟩ (.bool o1)).setCell ⟨w.heap.size + 1, 2, none⟩ (.bool o2)).setCell ⟨w.heap.size + 1, 3, none⟩ (.bool o3)).setCell ⟨w.heap.size + 1, 4, none⟩ (.bool o4)).setCell ⟨w.heap.size + 1, 5, none⟩ (.func (.func 115) #[] #[]) = W := ⟨_, rfl⟩
      have q3 : Blk W3 (w.heap.size + 1) #[.string ⟨x.toArray⟩, .bool o1, .bool o2, .bool o3, .bool o4, .func (.func 115) #[] #[]] 133 := by rw [← hW3]; exact HQ2.out.put6 _ _ _ _ _ _
      have r3 : Blk W3 w.heap.size zeroLookA 133 := by rw [← hW3]; exact (((((HR2.out.other (by omega) _ _).other (by omega) _ _).other (by omega) _ _).other (by omega) _ _).other (by omega) _ _).other (by omega) _ _
      have b3 : Below w.heap.size w W3 := by rw [← hW3]; exact below_put6 HB2.out (by omega) _ _ _ _ _ _
      rw [hW3]
      clear hW3
      have t3 := HT0.out.below b3
      obtain ⟨k0, k1⟩ := t3.cells
      obtain ⟨D, hO, hD⟩ := t3.tab.lm
      have HO := hid_of hO
      have HD := hid_of hD
      have hlb := t3.tab.lm.kind lb rfl
      have g3 : w.grownBy W3 (some lb) := grown_of_below b3
      clear hO hD t3 b3
      have c0 : W3.cell? ⟨w.heap.size + 1, 0, none⟩ = some (.string ⟨x.toArray⟩) := q3.cell 0
      have c1 : W3.cell? ⟨w.heap.size + 1, 1, none⟩ = some (.bool o1) := q3.cell 1
      have c2 : W3.cell? ⟨w.heap.size + 1, 2, none⟩ = some (.bool o2) := q3.cell 2
      have c3 : W3.cell? ⟨w.heap.size + 1, 3, none⟩ = some (.bool o3) := q3.cell 3
      have c4 : W3.cell? ⟨w.heap.size + 1, 4, none⟩ = some (.bool o4) := q3.cell 4
      have c5 : W3.cell? ⟨w.heap.size + 1, 5, none⟩ = some (.func (.func 115) #[] #[]) := q3.cell 5
      have hcode : codeL (.agg #[.string ⟨x.toArray⟩, .bool o1, .bool o2, .bool o3, .bool o4, .func (.func 115) #[] #[]]) = some (.lit (.string x), []) := by rw [← HLV.out]; exact HCL.out
      have HQ3 := hid_of q3
      have HR3 := hid_of r3
      obtain ⟨ol, ho1, ho2⟩ := hlb
      have HN1 : Hid (w.heap.size + 1 ≠ lb) := map_ne_cells ho1 ho2 q3
      have HN0 : Hid (w.heap.size ≠ lb) := map_ne_cells ho1 ho2 r3
      have HG3 := hid_of g3
      have HNB : Hid (B ≠ lb) := HT0.out.tab.neB.1
      clear q3 r3 ho1 ho2 ol g3
      obtain ⟨w4, hrun4, hown4, hgrow4⟩ := (show W3.drew.ownsMap Tryz.prog 9 codeL lb m D from HO.out).update lawE Tryz.underlying153 (by unfold maxLen; omega) hkey hcode
      replace hgrow4 : W3.grownBy w4 (some lb) := ⟨hgrow4.os, hgrow4.tape, hgrow4.output, hgrow4.size, hgrow4.block⟩
      have q4 := HQ3.out.grown hgrow4 (fun e => HN1.out (by injection e))
      have r4 := HR3.out.grown hgrow4 (fun e => HN0.out (by injection e))
      have y0 : w4.cell? ⟨w.heap.size + 1, 0, none⟩ = some (.string ⟨x.toArray⟩) := q4.cell 0
      have y1 : w4.cell? ⟨w.heap.size + 1, 1, none⟩ = some (.bool o1) := q4.cell 1
      have y2 : w4.cell? ⟨w.heap.size + 1, 2, none⟩ = some (.bool o2) := q4.cell 2
      have y3 : w4.cell? ⟨w.heap.size + 1, 3, none⟩ = some (.bool o3) := q4.cell 3
      have y4 : w4.cell? ⟨w.heap.size + 1, 4, none⟩ = some (.bool o4) := q4.cell 4
      have y5 : w4.cell? ⟨w.heap.size + 1, 5, none⟩ = some (.func (.func 115) #[] #[]) := q4.cell 5
      have y9 : w4.cell? ⟨B, 1, none⟩ = some (.map (some lb)) := hgrow4.cell k1 (fun e => HNB.out (by injection e))
      go_region_held3 (fun w' => w'.cell? ⟨B, 1, none⟩ = some (.map (some lb)) ∧ w'.cell? ⟨w.heap.size + 1, 0, none⟩ = some (.string ⟨x.toArray⟩) ∧ w'.cell? ⟨w.heap.size + 1, 1, none⟩ = some (.bool o1) ∧ w'.cell? ⟨w.heap.size + 1, 2, none⟩ = some (.bool o2) ∧ w'.cell? ⟨w.heap.size + 1, 3, none⟩ = some (.bool o3) ∧ w'.cell? ⟨w.heap.size + 1, 4, none⟩ = some (.bool o4) ∧ w'.cell? ⟨w.heap.size + 1, 5, none⟩ = some (.func (.func 115) #[] #[])) (first | exact ⟨k1, c0, c1, c2, c3, c4, c5⟩ | exact ⟨y9, y0, y1, y2, y3, y4, y5⟩ | go_keep) (fail)
      clear c0 c1 c2 c3 c4 c5 k0 k1
      have e0 : w4.cell? ⟨w.heap.size, 0, none⟩ = some (.string ⟨#[]⟩) := r4.cell 0
      have e1 : w4.cell? ⟨w.heap.size, 1, none⟩ = some (.bool false) := r4.cell 1
      have e2 : w4.cell? ⟨w.heap.size, 2, none⟩ = some (.bool false) := r4.cell 2
      have e3 : w4.cell? ⟨w.heap.size, 3, none⟩ = some (.bool false) := r4.cell 3
      have e4 : w4.cell? ⟨w.heap.size, 4, none⟩ = some (.bool false) := r4.cell 4
      have e5 : w4.cell? ⟨w.heap.size, 5, none⟩ = some .nilFunc := r4.cell 5
      have f0 := r4.frozen
      have HR4 := hid_of r4
      have HG4 : Hid (w.grownBy w4 (some lb)) := HG3.out.trans hgrow4
      have HL4 : Hid (LM lb (m + 1) w4) := LM.put HO.out HD.out x hown4
      clear q4 r4 hgrow4 hown4
      go_wp2_with fail
      have hgF := grown_above (i := 5) (grown_above (i := 4) (grown_above (i := 3) (grown_above (i := 2) (grown_above (i := 1) (grown_above (i := 0) HG4.out (.string ⟨x.toArray⟩) (Nat.le_refl _)) (.bool o1) (Nat.le_refl _)) (.bool o2) (Nat.le_refl _)) (.bool o3) (Nat.le_refl _)) (.bool o4) (Nat.le_refl _)) (.func (.func 115) #[] #[]) (Nat.le_refl _)
      exact bodyPost_ret (results_look rfl (HR4.out.put6 _ _ _ _ _ _)) rfl ⟨congrArg Ending.returned HLV.out.symm, HT0.out.grown hgF (HL4.out.same (put6_other (fun e => HN0.out e.symm) _ _ _ _ _ _)), hgF⟩
end Go.Proofs.YtdkcibafbdmajabGreatDoor.E
