/- What is proved here: the statement TokenMerges (Merge of any tokens is the document's, and what it gives is its caller's own) holds for any tokens, where the arguments hold at most 1048576 values together, with no other condition but what the card says of the table of words. -/
import Derived.Test.YthbmlffhcppcaaaDoorCards
import Derived.Test.YthbmlffhcppcaaaDoorTie
import Derived.Test.YthbmlffhcppcaaaDoorTOpen
import Derived.Test.YthbmlffhcppcaaaDoorTSameL
import Derived.Test.YthbmlffhcppcaaaDoorTSpoil
namespace Go.Proofs.YthbmlffhcppcaaaDoor.TMerges
open Go.ChangeShapes Go.WideShapes Go.ChangeAt Go.RowKit T N

theorem bulk_snoc (M : TL) (x : T.Tok × AL) : bulkL (M ++ [x]) = bulkL M + bulkT x := by unfold bulkL; simp
theorem bulk_refM (L : TL) : bulkL (refM L) ≤ bulkL L := by
  refine snoc_ind (P := fun L => bulkL (refM L) ≤ bulkL L) (by simp [refM]) (fun R x ih => ?_) L
  have e : refM (R ++ [x]) = stepM (refM R) x := by unfold refM; rw [List.foldl_append]; rfl
  rw [e, bulk_snoc]
  unfold stepM
  split
  · rw [bulk_snoc]; omega
  · split
    · omega
    · split
      · rename_i y hy
        split
        · have h1 : refM R = (refM R).dropLast ++ [y] := by
            have hne : refM R ≠ [] := fun h => by rw [h] at hy; simp at hy
            have h2 := List.dropLast_concat_getLast hne
            rw [List.getLast?_eq_some_getLast hne] at hy
            simp only [Option.some.injEq] at hy
            rw [hy] at h2; exact h2.symm
          rw [h1, bulk_snoc] at ih
          rw [bulk_snoc]
          simp only [bulkT, addText, ByteArray.size_append] at ih ⊢
          omega
        · rw [bulk_snoc]; omega
      · rw [bulk_snoc]; omega

set_option maxRecDepth 100000 in
set_option maxHeartbeats 4000000 in
theorem walk (w : World) (hW : Words w) (v : Value) (L : TL) (hH : HasT w v L) (hbk : bulkL L ≤ 1048576) :
    Calls Tryd.prog 5 #[v] w fun e w' => e = .returned (.bool true) ∧ Below w.heap.size w w' := by
  obtain ⟨va, vc, rfl⟩ := hH.slice
  have HS : Hid (HasT w (.slice va L.length vc) L) := hH
  have HW : Hid (Words w) := hW
  have hbm : bulkL (refM L) ≤ 1048576 := Nat.le_trans (bulk_refM L) hbk
  clear hH hW
  go_enter Tryd.func5, Tryd.ntmps5
  go_wp2_with fail
  refine (copied_calls L _ w HS.out hbk).mono ?_
  rintro e w1 ⟨gv, rfl, ho1, hb1⟩
  have HO1 : Hid (OwnT w.heap.size w1 gv L) := ho1
  have HB1 : Hid (Below w.heap.size w w1) := hb1
  obtain ⟨ga, gc, rfl⟩ := ho1.slice
  clear ho1 hb1
  go_wp2_with fail
  refine (merge_calls L _ w1 HO1.out.has hbk).mono ?_
  rintro e w2 ⟨tv, rfl, ho2, hb2⟩
  have HO2 : Hid (OwnT w1.heap.size w2 tv (refM L)) := ho2
  have HB2 : Hid (Below w1.heap.size w1 w2) := hb2
  obtain ⟨ta, tc, rfl⟩ := ho2.slice
  clear ho2 hb2
  go_wp2_with fail
  refine (merge_calls L _ w2 (HO1.out.has.below HB2.out) hbk).mono ?_
  rintro e w3 ⟨uv, rfl, ho3, hb3⟩
  have HO3 : Hid (OwnT w2.heap.size w3 uv (refM L)) := ho3
  have HB3 : Hid (Below w2.heap.size w2 w3) := hb3
  obtain ⟨ua, uc, rfl⟩ := ho3.slice
  clear ho3 hb3
  have HB13 : Hid (Below w1.heap.size w1 w3) := HB2.out.trans (HB3.out.mono HB2.out.size)
  have HB03 : Hid (Below w.heap.size w w3) := HB1.out.trans (HB13.out.mono HB1.out.size)
  go_wp2_with fail
  refine (copied_calls L _ w3 (HS.out.below HB03.out) hbk).mono ?_
  rintro e w4 ⟨cv, rfl, ho4, hb4⟩
  have HO4 : Hid (OwnT w3.heap.size w4 cv L) := ho4
  have HB4 : Hid (Below w3.heap.size w3 w4) := hb4
  obtain ⟨ca, cc, rfl⟩ := ho4.slice
  clear ho4 hb4
  go_wp2_with fail
  refine (rmerge_calls (fun a l => OwnA w3.heap.size w4 a l) L _ w4 HO4.out.has HO4.out.attrs hbk).mono ?_
  rintro e w5 ⟨nv, rfl, ho5, hb5⟩
  have HO5 : Hid (OwnT w3.heap.size w5 nv (refM L)) := by
    obtain ⟨xs, h1, h2, h3⟩ := ho5
    exact ⟨xs, h1, C.owns_mono h2 HB4.out.size, fun x hx => C.owns_below (h3 x hx) hb5⟩
  have HB5 : Hid (Below w4.heap.size w4 w5) := hb5
  obtain ⟨na, nc, rfl⟩ := HO5.out.slice
  clear ho5 hb5
  have HB35 : Hid (Below w3.heap.size w3 w5) := HB4.out.trans (HB5.out.mono HB4.out.size)
  have HB25 : Hid (Below w2.heap.size w2 w5) := HB3.out.trans (HB35.out.mono HB3.out.size)
  have HB15 : Hid (Below w1.heap.size w1 w5) := HB2.out.trans (HB25.out.mono HB2.out.size)
  have HB05 : Hid (Below w.heap.size w w5) := HB1.out.trans (HB15.out.mono HB1.out.size)
  -- what all may be asked, in what is behind
  have S1 : Hid (∀ W p, Below w5.heap.size w5 W → Calls Tryd.prog 18 #[.slice ta (refM L).length tc, .slice na (refM L).length nc, .bool p] W fun e w' => e = .returned (.bool true) ∧ Below W.heap.size W w') := fun W p hb => samel_calls (refM L) _ _ W p ((HO2.out.has.below HB25.out).below hb) (HO5.out.has.below hb) hbm
  have S2 : Hid (∀ W p, Below w1.heap.size w1 W → Calls Tryd.prog 18 #[.slice ga L.length gc, .slice va L.length vc, .bool p] W fun e w' => e = .returned (.bool true) ∧ Below W.heap.size W w') := fun W p hb => samel_calls L _ _ W p (HO1.out.has.below hb) (HS.out.below (HB1.out.trans (hb.mono HB1.out.size))) hbk
  go_wp2_with fail
  refine (S1.out w5 _ (Below.refl _ _)).mono ?_
  rintro e w6 ⟨rfl, hb6⟩
  have HB6 : Hid (Below w5.heap.size w5 w6) := hb6
  clear hb6
  go_wp2_with fail
  refine (S2.out w6 _ (HB15.out.trans (HB6.out.mono HB15.out.size))).mono ?_
  rintro e w7 ⟨rfl, hb7⟩
  have HB7 : Hid (Below w5.heap.size w5 w7) := HB6.out.trans (hb7.mono HB6.out.size)
  clear hb7
  go_wp2_with fail
  refine (S1.out w7 _ HB7.out).mono ?_
  rintro e w8 ⟨rfl, hb8⟩
  have HB8 : Hid (Below w5.heap.size w5 w8) := HB7.out.trans (hb8.mono HB7.out.size)
  clear hb8
  go_wp2_with fail
  refine (spoil_calls w1.heap.size _ (refM L) w2 w8 HO2.out (HB25.out.trans (HB8.out.mono HB25.out.size)) hbm).mono ?_
  rintro e w9 ⟨⟨_, rfl⟩, hk9⟩
  have HU9 : Hid (OwnT w2.heap.size w9 (.slice ua (refM L).length uc) (refM L)) := hk9.ownT ((HO3.out.below HB35.out).below HB8.out) (fun k hk h => by omega)
  have HN9 : Hid (OwnT w3.heap.size w9 (.slice na (refM L).length nc) (refM L)) := hk9.ownT (HO5.out.below HB8.out) (fun k hk h => by have := HB3.out.size; omega)
  have HB19 : Hid (Below w1.heap.size w1 w9) := (HB15.out.trans (HB8.out.mono HB15.out.size)).trans (hk9.below (by have := HB15.out.size; have := HB8.out.size; omega) (fun k hk h => by omega))
  have HB09 : Hid (Below w.heap.size w w9) := HB1.out.trans (HB19.out.mono HB1.out.size)
  clear hk9
  go_wp2_with fail
  refine (samel_calls (refM L) _ _ w9 _ HU9.out.has HN9.out.has hbm).mono ?_
  rintro e w10 ⟨rfl, hb10⟩
  have HB110 : Hid (Below w1.heap.size w1 w10) := HB19.out.trans (hb10.mono HB19.out.size)
  clear hb10
  go_wp2_with fail
  refine (S2.out w10 _ HB110.out).mono ?_
  rintro e w11 ⟨rfl, hb11⟩
  have HB11 : Hid (Below w.heap.size w w11) := HB1.out.trans ((HB110.out.trans (hb11.mono HB110.out.size)).mono HB1.out.size)
  clear hb11
  go_wp2_with fail
  refine (lives_calls w11 (HW.out.below HB11.out)).mono ?_
  rintro e w12 ⟨rfl, hb12⟩
  have HB12 : Hid (Below w.heap.size w w12) := HB11.out.trans (hb12.mono HB11.out.size)
  clear hb12
  go_wp2
  all_goals go_ret
  all_goals exact ⟨rfl, HB12.out⟩

set_option maxRecDepth 100000 in
theorem contract (H : Type) (enc : TypeId × Value → H) (W : World) (base : Nat) (args : Array Value) (ds gs : List (DataW H)) (before : List MemPlace)
    (hval : ∀ (j : Nat) t v, Tryd.f5.params[j]? = some t → args[j]? = some v → Value.okWide Tryd.prog W .any base t v)
    (hW : DataW.Whole enc Tryd.prog Tryd.f5.params.toList Rows.tokenMergesSpec.vars false W args.toList ds gs before) (hL : laidMetH Tryd.prog Rows.tokenMergesUptoRow.laid W) (hk : Rows.uptoSmall H (ds ++ gs) = true) :
    Calls Tryd.prog 5 args W fun e W' => ∃ v, e = .returned v ∧ Rows.tokenMergesSpec.post enc Tryd.prog Tryd.f5 false true false false W args v W' := by
  have hW' := hW
  have hlt := hW.lt
  obtain ⟨p, q, hA0, hV, rfl, hfz, hnd⟩ := hW
  have hA : DataW.TrodAll enc Tryd.prog W 0 (fun _ => true) true Tryd.f5.params.toList args.toList ds p := hA0
  rw [Tryd.params5] at hA hval
  obtain ⟨v0, vs0, d0, ds0, p0, q0, hargs, rfl, rfl, h0, r0⟩ := trodAll_cons hA
  obtain ⟨rfl, rfl, rfl⟩ := trodAll_nil r0
  obtain rfl : args = #[v0] := by cases args; simp_all
  obtain ⟨rfl, rfl⟩ := trodVars_none hV
  clear hA0
  simp only [List.append_nil] at hW' hlt hk
  have hbulk := of_decide_eq_true hk
  simp only [Rows.uptoBulkAll] at hbulk
  have e0 := okWide_slice Tryd.underlying38 (hval 0 38 v0 rfl rfl)
  obtain ⟨L0, hL0, l0⟩ := T.toks_of_read e0 h0
  refine (walk W (tabs_of_laid hL) v0 L0 hL0 (by omega)).mono fun e W' ⟨he, hb⟩ => ?_
  subst he
  exact ⟨_, rfl, post_below hW' (fun _ _ _ => trodAll_cons_mk (shut_bool Tryd.underlying4 _) trodAll_mk0) (trodAll_cons_mk (stays (by kernel_rfl) (of_decide_eq_true (by kernel_rfl)) h0 hb (fun x hx => hlt x (by simp [hx]))) trodAll_mk0) rfl hb⟩

set_option maxRecDepth 100000 in
theorem laid_met (os : Os) : laidMet Tryd.prog Rows.tokenMergesUptoRow.laid ((withTabs (World.holding Tryd.prog os ⟨#[], #[], []⟩)).forCall (fun _ _ => 0) ⟨#[], #[Value.slice none 0 0], []⟩).memory :=
  laidMet_of_run' 8 (by kernel_rfl) (by kernel_rfl)
set_option maxRecDepth 100000 in
theorem reads (os : Os) {H : Type} (enc : TypeId × Value → H) : ∃ places, DataW.whole enc Tryd.prog ((withTabs (World.holding Tryd.prog os ⟨#[], #[], []⟩)).forCall (fun _ _ => 0) ⟨#[], #[Value.slice none 0 0], []⟩).memory Tryd.f5.params.toList Rows.tokenMergesSpec.vars false #[Value.slice none 0 0].toList 8 = some ([.nil], [], places) :=
  ⟨[], by kernel_rfl⟩

set_option maxRecDepth 100000 in
theorem lifted (os : Os) (started : os.Started) (H : Type) (enc : TypeId × Value → H) (F : Stop.Interp) :
    ReturnsInHanded {} Tryd.checked os 5 .any ((Rows.OpenSpec.upto Rows.tokenMergesSpec).preRow enc Tryd.prog Tryd.f5 Rows.tokenMergesUptoRow.domain false Rows.tokenMergesUptoRow.laid) (((Rows.OpenSpec.upto Rows.tokenMergesSpec).at F).post enc Tryd.prog Tryd.f5 false true false false) := by
  obtain ⟨places, hx⟩ := reads os enc
  refine returnsInHanded_of_row (C := Tryd.checked) (s := Rows.OpenSpec.upto Rows.tokenMergesSpec) own started (by kernel_rfl) Tryd.func5
    (witness_row_at (enc := enc) (C := Tryd.checked) false (withTabs (World.holding Tryd.prog os ⟨#[], #[], []⟩)) #[Value.slice none 0 0] rfl (by kernel_rfl) (by kernel_rfl) (by kernel_rfl)
      (OpenSpec.preRow_of_cond 8 hx (by kernel_rfl) (fun k hk => by cases hk; kernel_rfl) (by kernel_rfl) (laid_met os))) ?_
  intro W base args ds gs before hval hW _ hcond _ hL _ _
  exact contract H enc W base args ds gs before hval hW hL (hcond _ rfl)

set_option maxRecDepth 100000 in
theorem said : Rows.TokenMergesUptoSaid :=
  OpenClaim.holds_of_cond 5 Tryd.f5 rfl rfl rfl rfl rfl rfl rfl ⟨rfl, rfl, rfl, rfl, rfl⟩ rfl rfl rfl rfl rfl (by kernel_rfl) Tryd.func5 (by kernel_rfl)
    (of_decide_eq_true (by kernel_rfl)) (by unfold Func.isWrapper; first | (rw [if_pos (by decide +kernel)]; kernel_rfl) | (rw [if_neg (by decide +kernel)]; exact ⟨rfl, rfl⟩))
    (fun os started H enc _ F => by rw [OpenClaim.pre_eq_preRow]; exact lifted os started H enc F)

theorem plain (f : FuncId) (fn : Func) (hf : Tryd.pinned.checked.prog.funcNamed "sieve/sievelaw07.TokenMerges" = some f) (hfn : Tryd.pinned.checked.prog.funcs[f]? = some fn) :
    false = Tryd.pinned.checked.prog.looks [] ∧ ∀ (j : Nat) t, fn.params[j]? = some t → Tryd.pinned.checked.prog.wantsStandIn t = false := by
  obtain rfl : f = 5 := Option.some.inj ((show Tryd.prog.funcNamed "sieve/sievelaw07.TokenMerges" = some 5 by kernel_rfl).symm.trans hf) |>.symm
  obtain rfl : fn = Tryd.f5 := (Option.some.inj (Tryd.func5.symm.trans hfn)).symm
  refine ⟨by kernel_rfl, fun j t ht => ?_⟩
  rw [Tryd.params5] at ht
  have hm := Array.mem_of_getElem? ht
  simp only [List.mem_toArray, List.mem_cons, List.not_mem_nil, or_false] at hm
  subst hm
  · exact (show Tryd.prog.wantsStandIn 38 = false by kernel_rfl)

theorem card : Rows.TokenMergesUptoCardSaid :=
  Claim7.holds_tied_plain_at .later [] _ _ _ _ said (fun _ h => by cases h) (by kernel_rfl) (fun _ h => by cases h) tokenMergesUpto_row_tie rfl ⟨rfl, rfl⟩ (by kernel_rfl) rfl plain (by kernel_rfl)

end Go.Proofs.YthbmlffhcppcaaaDoor.TMerges
