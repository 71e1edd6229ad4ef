/- What is proved here: the statement LinkParts (every text in its parts, any parts joined) holds for texts and parts up to the size that the statement's narrower form names, with no other condition but what the card says of the listed tables. -/
import Derived.Test.YtnnabheejojfdaaDoorCards
import Derived.Test.YtnnabheejojfdaaDoorTie
import Derived.Test.YtnnabheejojfdaaDoorLpSplit
import Derived.Test.YtnnabheejojfdaaDoorLkSplit
import Derived.Test.YtnnabheejojfdaaDoorBun11
import Derived.Test.YtnnabheejojfdaaDoorLpJoin
import Derived.Test.YtnnabheejojfdaaDoorBun12
import Derived.Test.YtnnabheejojfdaaDoorBun13
import Derived.Lib.QuietBelow
import Derived.BigQuiet
import Derived.ProofKit
import Derived.OpenShut
namespace Go.Proofs.YtnnabheejojfdaaDoor.LpParts
open Go.ChangeShapes Go.WideShapes Go.ChangeAt Go.RowKit U N L

theorem mend_small {l : Lk} {n : Nat} (h : l.Small n) : l.mend.Small (4 * n) :=
  ⟨by have := mend_le l.sc; have := h.sc; simp only [Lk.mend]; omega, by have := mend_le l.ho; have := h.ho; simp only [Lk.mend]; omega, by have := mend_le l.pa; have := h.pa; simp only [Lk.mend]; omega, by have := mend_le l.qu; have := h.qu; simp only [Lk.mend]; omega, by have := mend_le l.fr; have := h.fr; simp only [Lk.mend]; omega⟩
theorem Lk.Small.mono {l : Lk} {n m : Nat} (h : l.Small n) (hm : n ≤ m) : l.Small m := ⟨Nat.le_trans h.sc hm, Nat.le_trans h.ho hm, Nat.le_trans h.pa hm, Nat.le_trans h.qu hm, Nat.le_trans h.fr hm⟩
theorem cell_regrown {W : World} {B : Nat} {cs : Array Value} {t : TypeId} (h : Blk W B cs t) (j : Nat) (v : Value) (hj : cs[j]? = some v) (d : Nat) (os : Array Obj) : (Go.Sort.grow (redrawn W d) os).cell? ⟨B, j, none⟩ = some v := by
  have := (h.below (below_regrown W d os)).cell j
  rw [this, hj]
set_option maxRecDepth 100000 in
set_option maxHeartbeats 4000000 in
theorem walk_on (w : World) (hT : Tb w) (hm : MaxOk w) (bs : List UInt8) (hb : bs.length ≤ 1048576) (l : Lk) (hl : l.Small 1048576) : Calls Tryd.prog 5 #[.string ⟨bs.toArray⟩, l.v] w fun e w' => e = .returned (.bool true) ∧ Below w.heap.size w w' := by
  have mixed : Tryd.prog.follows .mixedOrders = true := by kernel_rfl
  obtain ⟨W1, hW1⟩ : ∃ W1, w.alloc (.cells (match l.v with | .agg xs => xs | _ => #[]) 40) = W1 := ⟨_, rfl⟩
  have D : ∀ d os, Below W1.heap.size W1 (Go.Sort.grow (redrawn W1 d) os) := fun d os => below_regrown W1 d os
  have HB1 : Hid (Below w.heap.size w W1) := by rw [← hW1]; exact (Below.refl _ w).alloc (Nat.le_refl _) _
  have D' : ∀ d os, Below w.heap.size w (Go.Sort.grow (redrawn W1 d) os) := fun d os => HB1.out.trans ((D d os).mono HB1.out.size)
  have HK1 : Hid (Blk W1 w.heap.size (match l.v with | .agg xs => xs | _ => #[]) 40) := by rw [← hW1]; exact Blk.new w _ _
  have q1 : ∀ d os, Calls Tryd.prog 17 #[.string ⟨bs.toArray⟩] (Go.Sort.grow (redrawn W1 d) os) fun e w'' => e = .returned (splitK (stripL bs)).v ∧ ∃ p : Regrown, w'' = Go.Sort.grow (redrawn W1 p.d) p.os := fun d os => Calls.regrown_of (split_calls bs _ (hT.below (D' d os)) (hm.below (D' d os)) (by omega))
  have q2 : ∀ d os, Calls Tryd.prog 19 #[.string ⟨bs.toArray⟩] (Go.Sort.grow (redrawn W1 d) os) fun e w'' => e = .returned (splitK (stripL bs)).v ∧ ∃ p : Regrown, w'' = Go.Sort.grow (redrawn W1 p.d) p.os := fun d os => Calls.regrown_of (rsplit_calls bs _ (by omega))
  have q3 : ∀ d os, Calls Tryd.prog 18 #[(splitK (stripL bs)).v] (Go.Sort.grow (redrawn W1 d) os) fun e w'' => e = .returned (splitK (stripL bs)).v ∧ ∃ p : Regrown, w'' = Go.Sort.grow (redrawn W1 p.d) p.os := fun d os => Calls.regrown_of (to_calls _ _)
  have q4 : ∀ d os, Calls Tryd.prog 18 #[l.v] (Go.Sort.grow (redrawn W1 d) os) fun e w'' => e = .returned l.v ∧ ∃ p : Regrown, w'' = Go.Sort.grow (redrawn W1 p.d) p.os := fun d os => Calls.regrown_of (to_calls _ _)
  have q5 : ∀ d os, Calls Tryd.prog 20 #[l.v] (Go.Sort.grow (redrawn W1 d) os) fun e w'' => e = .returned (.string ⟨(joinK l.mend).toArray⟩) ∧ ∃ p : Regrown, w'' = Go.Sort.grow (redrawn W1 p.d) p.os := fun d os => Calls.regrown_of (join_calls l _ (hT.below (D' d os)) (Lk.Small.mono hl (by omega)))
  have q6 : ∀ d os, Calls Tryd.prog 22 #[l.v] (Go.Sort.grow (redrawn W1 d) os) fun e w'' => e = .returned l.mend.v ∧ ∃ p : Regrown, w'' = Go.Sort.grow (redrawn W1 p.d) p.os := fun d os => Calls.regrown_of (rmended_calls l _ (Lk.Small.mono hl (by omega)))
  have q7 : ∀ d os, Calls Tryd.prog 21 #[l.mend.v] (Go.Sort.grow (redrawn W1 d) os) fun e w'' => e = .returned (.string ⟨(joinK l.mend).toArray⟩) ∧ ∃ p : Regrown, w'' = Go.Sort.grow (redrawn W1 p.d) p.os := fun d os => Calls.regrown_of (rjoin_calls l.mend _ (Lk.Small.mono (mend_small hl) (by omega)))
  have q8 : ∀ d os, Calls Tryd.prog 13 #[] (Go.Sort.grow (redrawn W1 d) os) fun e w'' => e = .returned (.bool true) ∧ ∃ p : Regrown, w'' = Go.Sort.grow (redrawn W1 p.d) p.os := fun d os => Calls.regrown_of (awake_calls _ (hT.below (D' d os)))
  have z1 : ∀ W, (binOp .eql 41 (splitK (stripL bs)).v (splitK (stripL bs)).v).run Tryd.prog W = .ok (.bool true) W := fun W => by rw [eql_links, sameK_refl]
  have z2 : ∀ x y W, (eqGuard .eql 41 x y (splitK (stripL bs)).v (splitK (stripL bs)).v).run Tryd.prog W = .ok () W := fun x y W => eql_guard _ _ x y W
  obtain ⟨V, hV⟩ : ∃ V, (splitK (stripL bs)).v = V := ⟨_, rfl⟩
  obtain ⟨M, hM⟩ : ∃ M, l.mend.v = M := ⟨_, rfl⟩
  obtain ⟨J, hJ⟩ : ∃ J, joinK l.mend = J := ⟨_, rfl⟩
  rw [hV] at q1 q2 q3 z1 z2
  rw [hM] at q6 q7
  rw [hJ] at q5 q7
  clear hV hM hJ hT hm hb hl
  obtain ⟨sc, ho, pa, qu, fr, h1, h2, h3, h4⟩ := l
  unfold Lk.v at *
  simp only at *
  have y0 := cell_regrown HK1.out 0 _ rfl
  have y1 := cell_regrown HK1.out 1 _ rfl
  have y2 := cell_regrown HK1.out 2 _ rfl
  have y3 := cell_regrown HK1.out 3 _ rfl
  have y4 := cell_regrown HK1.out 4 _ rfl
  have y5 := cell_regrown HK1.out 5 _ rfl
  have y6 := cell_regrown HK1.out 6 _ rfl
  have y7 := cell_regrown HK1.out 7 _ rfl
  have y8 := cell_regrown HK1.out 8 _ rfl
  have HW1 := hid_of hW1
  clear hW1
  go_enter Tryd.func5, Tryd.ntmps5
  go_wp2_with fail
  rw [HW1.out]
  refine wp_region_quiet_below mixed (by kernel_rfl) ?_
  repeat (go_big_quiet_step (first | with_reducible exact q1 _ _ | with_reducible exact q2 _ _ | with_reducible exact q3 _ _ | with_reducible exact q4 _ _ | with_reducible exact q5 _ _ | with_reducible exact q6 _ _ | with_reducible exact q7 _ _ | with_reducible exact q8 _ _))
  refine wpQuiet_nil ?_
  intro _ hw'
  obtain ⟨⟨dq, osq⟩, hw''⟩ := hw'
  have hb2 := D' dq osq
  rw [← hw''] at hb2
  clear hw'' q1 q2 q3 q4 q5 q6 q7 q8 D D' mixed y0 y1 y2 y3 y4 y5 y6 y7 y8
  go_wp2_with fail
  go_ret
  exact ⟨rfl, hb2⟩
theorem walk (w : World) (hT : Tb w) (hm : MaxOk w) (s : ByteArray) (_hs0 : s.size ≤ 9223372036854775807) (hs : s.size ≤ 1048576) (l : Lk) (hl : l.sc.length + l.ho.length + l.pa.length + l.qu.length + l.fr.length ≤ 1048576) :
    Calls Tryd.prog 5 #[.string s, l.v] w fun e w' => e = .returned (.bool true) ∧ Below w.heap.size w w' := by
  have h := walk_on w hT hm s.data.toList (by rw [N.size_data]; exact hs) l ⟨by omega, by omega, by omega, by omega, by omega⟩
  rw [Lib.mk_data] at h
  exact h

set_option maxRecDepth 100000 in
theorem contract (H : Type) (enc : TypeId × Value → H) (W : World) (base : Nat) (args : Array Value) (ds gs : List (DataW H)) (before : List MemPlace)
    (hval : ∀ (j : Nat) t v, Tryd.f5.params[j]? = some t → args[j]? = some v → Value.okWide Tryd.prog W .any base t v)
    (hW : DataW.Whole enc Tryd.prog Tryd.f5.params.toList Rows.linkPartsSpec.vars false W args.toList ds gs before) (hL : laidMetH Tryd.prog Rows.linkPartsUptoRow.laid W)(hsh : W.ShapedOpen Tryd.prog) (hk : Rows.uptoSmall H (ds ++ gs) = true) :
    Calls Tryd.prog 5 args W fun e W' => ∃ v, e = .returned v ∧ Rows.linkPartsSpec.post enc Tryd.prog Tryd.f5 false true false false W args v W' := by
  have hW' := hW
  have hlt := hW.lt
  obtain ⟨p, q, hA0, hV, rfl, hfz, hnd⟩ := hW
  have hA : DataW.TrodAll enc Tryd.prog W 0 (fun _ => true) true Tryd.f5.params.toList args.toList ds p := hA0
  rw [Tryd.params5] at hA hval
  obtain ⟨v0, vs0, d0, ds0, p0, q0, hargs, rfl, rfl, h0, r0⟩ := trodAll_cons hA
  obtain ⟨v1, vs1, d1, ds1, p1, q1, rfl, rfl, rfl, h1, r1⟩ := trodAll_cons r0
  obtain ⟨rfl, rfl, rfl⟩ := trodAll_nil r1
  obtain rfl : args = #[v0, v1] := by cases args; simp_all
  obtain ⟨rfl, rfl⟩ := trodVars_none hV
  clear hA0
  simp only [List.append_nil] at hW' hlt hk
  have hbulk := of_decide_eq_true hk
  simp only [Rows.uptoBulkAll] at hbulk
  have h0' := h0
  obtain ⟨s0, rfl, rfl, e0, ws0⟩ := Go.ChangeMaps.open_string Tryd.underlying9 (hval 0 9 v0 rfl rfl) h0
  obtain ⟨k1, rfl, l1⟩ := L.link_of_read (hval 1 40 v1 rfl rfl) h1
  refine (walk W (tabs_of_laid hL) (Tryd.laysM145.s1_3 W hsh) s0 ws0 (by simp only [L.bulk_str, N.size_data] at hbulk; omega) k1 (by omega)).mono fun e W' ⟨he, hb⟩ => ?_
  subst he
  exact ⟨_, rfl, post_below hW' (fun _ _ _ => trodAll_cons_mk (shut_bool Tryd.underlying4 _) trodAll_mk0) (trodAll_cons_mk (stays (by kernel_rfl) (of_decide_eq_true (by kernel_rfl)) h0' hb (fun x hx => hlt x (by simp [hx]))) (trodAll_cons_mk (stays (by kernel_rfl) (of_decide_eq_true (by kernel_rfl)) h1 hb (fun x hx => hlt x (by simp [hx]))) trodAll_mk0)) rfl hb⟩

set_option maxRecDepth 100000 in
theorem laid_met (os : Os) : laidMet Tryd.prog Rows.linkPartsUptoRow.laid ((withTabs (World.holding Tryd.prog os ⟨#[], #[], []⟩)).forCall (fun _ _ => 0) ⟨#[], #[Value.string ⟨#[]⟩, Value.agg #[.string ⟨#[]⟩, .string ⟨#[]⟩, .string ⟨#[]⟩, .string ⟨#[]⟩, .string ⟨#[]⟩, .bool false, .bool false, .bool false, .bool false]], []⟩).memory :=
  laidMet_of_run' 8 (by kernel_rfl) (by kernel_rfl)
set_option maxRecDepth 100000 in
theorem reads (os : Os) {H : Type} (enc : TypeId × Value → H) : ∃ places, DataW.whole enc Tryd.prog ((withTabs (World.holding Tryd.prog os ⟨#[], #[], []⟩)).forCall (fun _ _ => 0) ⟨#[], #[Value.string ⟨#[]⟩, Value.agg #[.string ⟨#[]⟩, .string ⟨#[]⟩, .string ⟨#[]⟩, .string ⟨#[]⟩, .string ⟨#[]⟩, .bool false, .bool false, .bool false, .bool false]], []⟩).memory Tryd.f5.params.toList Rows.linkPartsSpec.vars false #[Value.string ⟨#[]⟩, Value.agg #[.string ⟨#[]⟩, .string ⟨#[]⟩, .string ⟨#[]⟩, .string ⟨#[]⟩, .string ⟨#[]⟩, .bool false, .bool false, .bool false, .bool false]].toList 8 = some ([.lit (.string []), .agg [.lit (.string []), .lit (.string []), .lit (.string []), .lit (.string []), .lit (.string []), .lit (.bool false), .lit (.bool false), .lit (.bool false), .lit (.bool false)]], [], places) :=
  ⟨[], by kernel_rfl⟩

set_option maxRecDepth 100000 in
theorem lifted (os : Os) (started : os.Started) (H : Type) (enc : TypeId × Value → H) (F : Stop.Interp) :
    ReturnsInHanded {} Tryd.checked os 5 .any ((Rows.OpenSpec.upto Rows.linkPartsSpec).preRow enc Tryd.prog Tryd.f5 Rows.linkPartsUptoRow.domain false Rows.linkPartsUptoRow.laid) (((Rows.OpenSpec.upto Rows.linkPartsSpec).at F).post enc Tryd.prog Tryd.f5 false true false false) := by
  obtain ⟨places, hx⟩ := reads os enc
  refine returnsInHanded_of_row (C := Tryd.checked) (s := Rows.OpenSpec.upto Rows.linkPartsSpec) own started (by kernel_rfl) Tryd.func5
    (witness_row_at (enc := enc) (C := Tryd.checked) false (withTabs (World.holding Tryd.prog os ⟨#[], #[], []⟩)) #[Value.string ⟨#[]⟩, Value.agg #[.string ⟨#[]⟩, .string ⟨#[]⟩, .string ⟨#[]⟩, .string ⟨#[]⟩, .string ⟨#[]⟩, .bool false, .bool false, .bool false, .bool false]] rfl (by kernel_rfl) (by kernel_rfl) (by kernel_rfl)
      (OpenSpec.preRow_of_cond 8 hx (by kernel_rfl) (fun k hk => by cases hk; kernel_rfl) (by kernel_rfl) (laid_met os))) ?_
  intro W base args ds gs before hval hW _ hcond _ hL hsh _
  exact contract H enc W base args ds gs before hval hW hL hsh (hcond _ rfl)

set_option maxRecDepth 100000 in
theorem said : Rows.LinkPartsUptoSaid :=
  OpenClaim.holds_of_cond 5 Tryd.f5 rfl rfl rfl rfl rfl rfl rfl ⟨rfl, rfl, rfl, rfl, rfl⟩ rfl rfl rfl rfl rfl (by kernel_rfl) Tryd.func5 (by kernel_rfl)
    (of_decide_eq_true (by kernel_rfl)) (by unfold Func.isWrapper; first | (rw [if_pos (by decide +kernel)]; kernel_rfl) | (rw [if_neg (by decide +kernel)]; exact ⟨rfl, rfl⟩))
    (fun os started H enc _ F => by rw [OpenClaim.pre_eq_preRow]; exact lifted os started H enc F)

theorem plain (f : FuncId) (fn : Func) (hf : Tryd.pinned.checked.prog.funcNamed "sieve/sievelaw12.LinkParts" = some f) (hfn : Tryd.pinned.checked.prog.funcs[f]? = some fn) :
    false = Tryd.pinned.checked.prog.looks [] ∧ ∀ (j : Nat) t, fn.params[j]? = some t → Tryd.pinned.checked.prog.wantsStandIn t = false := by
  obtain rfl : f = 5 := Option.some.inj ((show Tryd.prog.funcNamed "sieve/sievelaw12.LinkParts" = some 5 by kernel_rfl).symm.trans hf) |>.symm
  obtain rfl : fn = Tryd.f5 := (Option.some.inj (Tryd.func5.symm.trans hfn)).symm
  refine ⟨by kernel_rfl, fun j t ht => ?_⟩
  rw [Tryd.params5] at ht
  have hm := Array.mem_of_getElem? ht
  simp only [List.mem_toArray, List.mem_cons, List.not_mem_nil, or_false] at hm
  rcases hm with rfl | rfl
  · exact (show Tryd.prog.wantsStandIn 9 = false by kernel_rfl)
  · exact (show Tryd.prog.wantsStandIn 40 = false by kernel_rfl)

theorem card : Rows.LinkPartsUptoCardSaid :=
  Claim7.holds_tied_plain_at .later [] _ _ _ _ said (fun _ h => by cases h) (by kernel_rfl) (fun _ h => by cases h) linkPartsUpto_row_tie rfl ⟨rfl, rfl⟩ (by kernel_rfl) rfl plain (by kernel_rfl)

end Go.Proofs.YtnnabheejojfdaaDoor.LpParts
