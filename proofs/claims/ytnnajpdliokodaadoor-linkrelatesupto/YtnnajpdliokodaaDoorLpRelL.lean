/- What is proved here: the statement LinkRelates (of any two links the shortest reference from one to the other) holds for parts up to the size that the statement's narrower form names, with no other condition but what the card says of the listed tables. -/
import Derived.Test.YtnnajpdliokodaaDoorCards
import Derived.Test.YtnnajpdliokodaaDoorTie
import Derived.Test.YtnnajpdliokodaaDoorLpRelative
import Derived.Test.YtnnajpdliokodaaDoorLkRelative
import Derived.Test.YtnnajpdliokodaaDoorBun15
import Derived.Test.YtnnajpdliokodaaDoorBun10
import Derived.Test.YtnnajpdliokodaaDoorBun17
import Derived.Lib.QuietBelow
import Derived.BigQuiet
import Derived.ProofKit
import Derived.OpenShut
namespace Go.Proofs.YtnnajpdliokodaaDoor.LpRelL
open Go.ChangeShapes Go.WideShapes Go.ChangeAt Go.RowKit U N L

theorem Lk.Small.mono {l : Lk} {n m : Nat} (h : l.Small n) (hm : n ≤ m) : l.Small m := ⟨Nat.le_trans h.sc hm, Nat.le_trans h.ho hm, Nat.le_trans h.pa hm, Nat.le_trans h.qu hm, Nat.le_trans h.fr hm⟩
theorem cell_regrown {W : World} {B : Nat} {cs : Array Value} {t : TypeId} (h : Blk W B cs t) (j : Nat) (v : Value) (hj : cs[j]? = some v) (d : Nat) (os : Array Obj) : (Go.Sort.grow (redrawn W d) os).cell? ⟨B, j, none⟩ = some v := by
  have := (h.below (below_regrown W d os)).cell j
  rw [this, hj]
theorem two_new (w : World) (b r : Array Value) (W : World) (hW : (w.alloc (.cells b 23)).alloc (.cells r 23) = W) : Blk W w.heap.size b 23 ∧ Blk W (w.heap.size + 1) r 23 ∧ Below w.heap.size w W := by
  subst hW
  have z1 : (w.alloc (.cells b 23)).heap.size = w.heap.size + 1 := Array.size_push _
  refine ⟨(Blk.new w _ _).alloc _, ?_, ((Below.refl _ w).alloc (Nat.le_refl _) _).alloc (by omega) _⟩
  have := Blk.new (w.alloc (.cells b 23)) r 23
  rw [z1] at this
  exact this
def cellsOf (l : Lk) : Array Value := #[.string ⟨l.sc.toArray⟩, .string ⟨l.ho.toArray⟩, .string ⟨l.pa.toArray⟩, .string ⟨l.qu.toArray⟩, .string ⟨l.fr.toArray⟩, .bool l.hs, .bool l.hh, .bool l.hq, .bool l.hf]
set_option maxRecDepth 100000 in
set_option maxHeartbeats 4000000 in
theorem walk_on (w : World) (hT : Tb w) (b r : Lk) (hb : b.Small 1048576) (hr : r.Small 1048576) : Calls Tryd.prog 5 #[b.v, r.v] w fun e w' => e = .returned (.bool true) ∧ Below w.heap.size w w' := by
  have mixed : Tryd.prog.follows .mixedOrders = true := by kernel_rfl
  obtain ⟨W1, hW1⟩ : ∃ W1, (w.alloc (.cells (cellsOf b) 23)).alloc (.cells (cellsOf r) 23) = W1 := ⟨_, rfl⟩
  obtain ⟨hKb, hKr, hB1⟩ := two_new w _ _ _ hW1
  have D : ∀ d os, Below W1.heap.size W1 (Go.Sort.grow (redrawn W1 d) os) := fun d os => below_regrown W1 d os
  have D' : ∀ d os, Below w.heap.size w (Go.Sort.grow (redrawn W1 d) os) := fun d os => hB1.trans ((D d os).mono hB1.size)
  have q1 : ∀ d os, Calls Tryd.prog 7 #[b.v] (Go.Sort.grow (redrawn W1 d) os) fun e w'' => e = .returned (b.v) ∧ ∃ p : Regrown, w'' = Go.Sort.grow (redrawn W1 p.d) p.os := fun d os => Calls.regrown_of (to_calls _ _)
  have q2 : ∀ d os, Calls Tryd.prog 7 #[r.v] (Go.Sort.grow (redrawn W1 d) os) fun e w'' => e = .returned (r.v) ∧ ∃ p : Regrown, w'' = Go.Sort.grow (redrawn W1 p.d) p.os := fun d os => Calls.regrown_of (to_calls _ _)
  have q3 : ∀ d os, Calls Tryd.prog 13 #[b.v, r.v] (Go.Sort.grow (redrawn W1 d) os) fun e w'' => e = .returned ((relativeK b.mend r.mend).v) ∧ ∃ p : Regrown, w'' = Go.Sort.grow (redrawn W1 p.d) p.os := fun d os => Calls.regrown_of (relative_calls b r _ (hT.below (D' d os)) (Lk.Small.mono hb (by omega)) (Lk.Small.mono hr (by omega)))
  have q4 : ∀ d os, Calls Tryd.prog 9 #[b.v] (Go.Sort.grow (redrawn W1 d) os) fun e w'' => e = .returned (b.mend.v) ∧ ∃ p : Regrown, w'' = Go.Sort.grow (redrawn W1 p.d) p.os := fun d os => Calls.regrown_of (rmended_calls b _ (Lk.Small.mono hb (by omega)))
  have q5 : ∀ d os, Calls Tryd.prog 9 #[r.v] (Go.Sort.grow (redrawn W1 d) os) fun e w'' => e = .returned (r.mend.v) ∧ ∃ p : Regrown, w'' = Go.Sort.grow (redrawn W1 p.d) p.os := fun d os => Calls.regrown_of (rmended_calls r _ (Lk.Small.mono hr (by omega)))
  have q6 : ∀ d os, Calls Tryd.prog 14 #[b.mend.v, r.mend.v] (Go.Sort.grow (redrawn W1 d) os) fun e w'' => e = .returned ((relativeK b.mend r.mend).v) ∧ ∃ p : Regrown, w'' = Go.Sort.grow (redrawn W1 p.d) p.os := fun d os => Calls.regrown_of (rrelative_calls b.mend r.mend _ (Lk.Small.mono (Lk.mend_small hb) (by omega)) (Lk.Small.mono (Lk.mend_small hr) (by omega)))
  have q7 : ∀ d os, Calls Tryd.prog 7 #[(relativeK b.mend r.mend).v] (Go.Sort.grow (redrawn W1 d) os) fun e w'' => e = .returned ((relativeK b.mend r.mend).v) ∧ ∃ p : Regrown, w'' = Go.Sort.grow (redrawn W1 p.d) p.os := fun d os => Calls.regrown_of (to_calls _ _)
  have q8 : ∀ d os, Calls Tryd.prog 10 #[] (Go.Sort.grow (redrawn W1 d) os) fun e w'' => e = .returned (.bool true) ∧ ∃ p : Regrown, w'' = Go.Sort.grow (redrawn W1 p.d) p.os := fun d os => Calls.regrown_of (awake_calls _ (hT.below (D' d os)))
  have z1 : ∀ W, (binOp .eql 24 (relativeK b.mend r.mend).v (relativeK b.mend r.mend).v).run Tryd.prog W = .ok (.bool true) W := fun W => by rw [eql_links, sameK_refl]
  have z2 : ∀ x y W, (eqGuard .eql 24 x y (relativeK b.mend r.mend).v (relativeK b.mend r.mend).v).run Tryd.prog W = .ok () W := fun x y W => eql_guard _ _ x y W
  obtain ⟨V, hV⟩ : ∃ V, (relativeK b.mend r.mend).v = V := ⟨_, rfl⟩
  obtain ⟨M, hM⟩ : ∃ M, b.mend.v = M := ⟨_, rfl⟩
  obtain ⟨N, hN⟩ : ∃ N, r.mend.v = N := ⟨_, rfl⟩
  rw [hV] at q3 q6 q7 z1 z2
  rw [hM] at q4 q6
  rw [hN] at q5 q6
  clear hV hM hN hT hb hr
  obtain ⟨bsc, bho, bpa, bqu, bfr, bhs, bhh, bhq, bhf⟩ := b
  obtain ⟨rsc, rho, rpa, rqu, rfr, rhs, rhh, rhq, rhf⟩ := r
  unfold cellsOf at *
  unfold Lk.v at *
  simp only at *
  have y0 := cell_regrown hKb 0 _ rfl
  have u0 := cell_regrown hKr 0 _ rfl
  have y1 := cell_regrown hKb 1 _ rfl
  have u1 := cell_regrown hKr 1 _ rfl
  have y2 := cell_regrown hKb 2 _ rfl
  have u2 := cell_regrown hKr 2 _ rfl
  have y3 := cell_regrown hKb 3 _ rfl
  have u3 := cell_regrown hKr 3 _ rfl
  have y4 := cell_regrown hKb 4 _ rfl
  have u4 := cell_regrown hKr 4 _ rfl
  have y5 := cell_regrown hKb 5 _ rfl
  have u5 := cell_regrown hKr 5 _ rfl
  have y6 := cell_regrown hKb 6 _ rfl
  have u6 := cell_regrown hKr 6 _ rfl
  have y7 := cell_regrown hKb 7 _ rfl
  have u7 := cell_regrown hKr 7 _ rfl
  have y8 := cell_regrown hKb 8 _ rfl
  have u8 := cell_regrown hKr 8 _ rfl
  have HW1 := hid_of hW1
  clear hW1 hKb hKr
  go_enter Tryd.func5, Tryd.ntmps5
  go_wp2_with fail
  rw [HW1.out]
  refine wp_region_quiet_below mixed (by kernel_rfl) ?_
  repeat (go_big_quiet_step (first | with_reducible exact q1 _ _ | with_reducible exact q2 _ _ | with_reducible exact q3 _ _ | with_reducible exact q4 _ _ | with_reducible exact q5 _ _ | with_reducible exact q6 _ _ | with_reducible exact q7 _ _ | with_reducible exact q8 _ _))
  refine wpQuiet_nil ?_
  intro _ hw'
  obtain ⟨⟨dq, osq⟩, hw''⟩ := hw'
  have hb2 := D' dq osq
  rw [← hw''] at hb2
  clear hw'' q1 q2 q3 q4 q5 q6 q7 q8 D D' mixed
  go_wp2_with fail
  go_ret
  exact ⟨rfl, hb2⟩
theorem walk (w : World) (hT : Tb w) (b : Lk) (hb : b.sc.length + b.ho.length + b.pa.length + b.qu.length + b.fr.length ≤ 1048576) (r : Lk) (hr : r.sc.length + r.ho.length + r.pa.length + r.qu.length + r.fr.length ≤ 1048576) :
    Calls Tryd.prog 5 #[b.v, r.v] w fun e w' => e = .returned (.bool true) ∧ Below w.heap.size w w' :=
  walk_on w hT b r ⟨by omega, by omega, by omega, by omega, by omega⟩ ⟨by omega, by omega, by omega, by omega, by omega⟩

set_option maxRecDepth 100000 in
theorem contract (H : Type) (enc : TypeId × Value → H) (W : World) (base : Nat) (args : Array Value) (ds gs : List (DataW H)) (before : List MemPlace)
    (hval : ∀ (j : Nat) t v, Tryd.f5.params[j]? = some t → args[j]? = some v → Value.okWide Tryd.prog W .any base t v)
    (hW : DataW.Whole enc Tryd.prog Tryd.f5.params.toList Rows.linkRelatesSpec.vars false W args.toList ds gs before) (hL : laidMetH Tryd.prog Rows.linkRelatesUptoRow.laid W) (hk : Rows.uptoSmall H (ds ++ gs) = true) :
    Calls Tryd.prog 5 args W fun e W' => ∃ v, e = .returned v ∧ Rows.linkRelatesSpec.post enc Tryd.prog Tryd.f5 false true false false W args v W' := by
  have hW' := hW
  have hlt := hW.lt
  obtain ⟨p, q, hA0, hV, rfl, hfz, hnd⟩ := hW
  have hA : DataW.TrodAll enc Tryd.prog W 0 (fun _ => true) true Tryd.f5.params.toList args.toList ds p := hA0
  rw [Tryd.params5] at hA hval
  obtain ⟨v0, vs0, d0, ds0, p0, q0, hargs, rfl, rfl, h0, r0⟩ := trodAll_cons hA
  obtain ⟨v1, vs1, d1, ds1, p1, q1, rfl, rfl, rfl, h1, r1⟩ := trodAll_cons r0
  obtain ⟨rfl, rfl, rfl⟩ := trodAll_nil r1
  obtain rfl : args = #[v0, v1] := by cases args; simp_all
  obtain ⟨rfl, rfl⟩ := trodVars_none hV
  clear hA0
  simp only [List.append_nil] at hW' hlt hk
  have hbulk := of_decide_eq_true hk
  simp only [Rows.uptoBulkAll] at hbulk
  obtain ⟨k0, rfl, l0⟩ := L.link_of_read (hval 0 23 v0 rfl rfl) h0
  obtain ⟨k1, rfl, l1⟩ := L.link_of_read (hval 1 23 v1 rfl rfl) h1
  refine (walk W (tabs_of_laid hL) k0 (by omega) k1 (by omega)).mono fun e W' ⟨he, hb⟩ => ?_
  subst he
  exact ⟨_, rfl, post_below hW' (fun _ _ _ => trodAll_cons_mk (shut_bool Tryd.underlying4 _) trodAll_mk0) (trodAll_cons_mk (stays (by kernel_rfl) (of_decide_eq_true (by kernel_rfl)) h0 hb (fun x hx => hlt x (by simp [hx]))) (trodAll_cons_mk (stays (by kernel_rfl) (of_decide_eq_true (by kernel_rfl)) h1 hb (fun x hx => hlt x (by simp [hx]))) trodAll_mk0)) rfl hb⟩

set_option maxRecDepth 100000 in
theorem laid_met (os : Os) : laidMet Tryd.prog Rows.linkRelatesUptoRow.laid ((withTabs (World.holding Tryd.prog os ⟨#[], #[], []⟩)).forCall (fun _ _ => 0) ⟨#[], #[Value.agg #[.string ⟨#[]⟩, .string ⟨#[]⟩, .string ⟨#[]⟩, .string ⟨#[]⟩, .string ⟨#[]⟩, .bool false, .bool false, .bool false, .bool false], Value.agg #[.string ⟨#[]⟩, .string ⟨#[]⟩, .string ⟨#[]⟩, .string ⟨#[]⟩, .string ⟨#[]⟩, .bool false, .bool false, .bool false, .bool false]], []⟩).memory :=
  laidMet_of_run' 8 (by kernel_rfl) (by kernel_rfl)
set_option maxRecDepth 100000 in
theorem reads (os : Os) {H : Type} (enc : TypeId × Value → H) : ∃ places, DataW.whole enc Tryd.prog ((withTabs (World.holding Tryd.prog os ⟨#[], #[], []⟩)).forCall (fun _ _ => 0) ⟨#[], #[Value.agg #[.string ⟨#[]⟩, .string ⟨#[]⟩, .string ⟨#[]⟩, .string ⟨#[]⟩, .string ⟨#[]⟩, .bool false, .bool false, .bool false, .bool false], Value.agg #[.string ⟨#[]⟩, .string ⟨#[]⟩, .string ⟨#[]⟩, .string ⟨#[]⟩, .string ⟨#[]⟩, .bool false, .bool false, .bool false, .bool false]], []⟩).memory Tryd.f5.params.toList Rows.linkRelatesSpec.vars false #[Value.agg #[.string ⟨#[]⟩, .string ⟨#[]⟩, .string ⟨#[]⟩, .string ⟨#[]⟩, .string ⟨#[]⟩, .bool false, .bool false, .bool false, .bool false], Value.agg #[.string ⟨#[]⟩, .string ⟨#[]⟩, .string ⟨#[]⟩, .string ⟨#[]⟩, .string ⟨#[]⟩, .bool false, .bool false, .bool false, .bool false]].toList 8 = some ([.agg [.lit (.string []), .lit (.string []), .lit (.string []), .lit (.string []), .lit (.string []), .lit (.bool false), .lit (.bool false), .lit (.bool false), .lit (.bool false)], .agg [.lit (.string []), .lit (.string []), .lit (.string []), .lit (.string []), .lit (.string []), .lit (.bool false), .lit (.bool false), .lit (.bool false), .lit (.bool false)]], [], places) :=
  ⟨[], by kernel_rfl⟩

set_option maxRecDepth 100000 in
theorem lifted (os : Os) (started : os.Started) (H : Type) (enc : TypeId × Value → H) (F : Stop.Interp) :
    ReturnsInHanded {} Tryd.checked os 5 .any ((Rows.OpenSpec.upto Rows.linkRelatesSpec).preRow enc Tryd.prog Tryd.f5 Rows.linkRelatesUptoRow.domain false Rows.linkRelatesUptoRow.laid) (((Rows.OpenSpec.upto Rows.linkRelatesSpec).at F).post enc Tryd.prog Tryd.f5 false true false false) := by
  obtain ⟨places, hx⟩ := reads os enc
  refine returnsInHanded_of_row (C := Tryd.checked) (s := Rows.OpenSpec.upto Rows.linkRelatesSpec) own started (by kernel_rfl) Tryd.func5
    (witness_row_at (enc := enc) (C := Tryd.checked) false (withTabs (World.holding Tryd.prog os ⟨#[], #[], []⟩)) #[Value.agg #[.string ⟨#[]⟩, .string ⟨#[]⟩, .string ⟨#[]⟩, .string ⟨#[]⟩, .string ⟨#[]⟩, .bool false, .bool false, .bool false, .bool false], Value.agg #[.string ⟨#[]⟩, .string ⟨#[]⟩, .string ⟨#[]⟩, .string ⟨#[]⟩, .string ⟨#[]⟩, .bool false, .bool false, .bool false, .bool false]] rfl (by kernel_rfl) (by kernel_rfl) (by kernel_rfl)
      (OpenSpec.preRow_of_cond 8 hx (by kernel_rfl) (fun k hk => by cases hk; kernel_rfl) (by kernel_rfl) (laid_met os))) ?_
  intro W base args ds gs before hval hW _ hcond _ hL _ _
  exact contract H enc W base args ds gs before hval hW hL (hcond _ rfl)

set_option maxRecDepth 100000 in
theorem said : Rows.LinkRelatesUptoSaid :=
  OpenClaim.holds_of_cond 5 Tryd.f5 rfl rfl rfl rfl rfl rfl rfl ⟨rfl, rfl, rfl, rfl, rfl⟩ rfl rfl rfl rfl rfl (by kernel_rfl) Tryd.func5 (by kernel_rfl)
    (of_decide_eq_true (by kernel_rfl)) (by unfold Func.isWrapper; first | (rw [if_pos (by decide +kernel)]; kernel_rfl) | (rw [if_neg (by decide +kernel)]; exact ⟨rfl, rfl⟩))
    (fun os started H enc _ F => by rw [OpenClaim.pre_eq_preRow]; exact lifted os started H enc F)

theorem plain (f : FuncId) (fn : Func) (hf : Tryd.pinned.checked.prog.funcNamed "sieve/sievelaw12.LinkRelates" = some f) (hfn : Tryd.pinned.checked.prog.funcs[f]? = some fn) :
    false = Tryd.pinned.checked.prog.looks [] ∧ ∀ (j : Nat) t, fn.params[j]? = some t → Tryd.pinned.checked.prog.wantsStandIn t = false := by
  obtain rfl : f = 5 := Option.some.inj ((show Tryd.prog.funcNamed "sieve/sievelaw12.LinkRelates" = some 5 by kernel_rfl).symm.trans hf) |>.symm
  obtain rfl : fn = Tryd.f5 := (Option.some.inj (Tryd.func5.symm.trans hfn)).symm
  refine ⟨by kernel_rfl, fun j t ht => ?_⟩
  rw [Tryd.params5] at ht
  have hm := Array.mem_of_getElem? ht
  simp only [List.mem_toArray, List.mem_cons, List.not_mem_nil, or_false] at hm
  rcases hm with rfl | rfl
  · exact (show Tryd.prog.wantsStandIn 23 = false by kernel_rfl)
  · exact (show Tryd.prog.wantsStandIn 23 = false by kernel_rfl)

theorem card : Rows.LinkRelatesUptoCardSaid :=
  Claim7.holds_tied_plain_at .later [] _ _ _ _ said (fun _ h => by cases h) (by kernel_rfl) (fun _ h => by cases h) linkRelatesUpto_row_tie rfl ⟨rfl, rfl⟩ (by kernel_rfl) rfl plain (by kernel_rfl)

end Go.Proofs.YtnnajpdliokodaaDoor.LpRelL
