/- What is proved here: the statement LinkBack (the parts of a link, joined, are the link; parted again they are the parts) holds for texts up to the size that the statement's narrower form names, with no other condition but what the card says of the listed tables. -/
import Derived.Test.YtnnabheejojfdaaDoorCards
import Derived.Test.YtnnabheejojfdaaDoorTie
import Derived.Test.YtnnabheejojfdaaDoorLpSplit
import Derived.Test.YtnnabheejojfdaaDoorLpJoin
import Derived.Test.YtnnabheejojfdaaDoorBun11
import Derived.Test.YtnnabheejojfdaaDoorLkBackM
import Derived.Test.YtnnabheejojfdaaDoorBun12
import Derived.Test.YtnnabheejojfdaaDoorLpAwake
import Derived.Lib.QuietBelow
import Derived.BigQuiet
import Derived.ProofKit
import Derived.OpenShut
namespace Go.Proofs.YtnnabheejojfdaaDoor.LpBack
open Go.ChangeShapes Go.WideShapes Go.ChangeAt Go.RowKit U N L

theorem host_le (B : List UInt8) : (hostK B).2.1.length ≤ B.length ∧ (hostK B).2.2.length ≤ B.length := by
  rcases hostK_cases B with ⟨_, k2, k3⟩ | ⟨C, eB, hC⟩
  · rw [k2, k3]; simp
  · rw [hC, eB]; simp; omega
theorem parts_small (sc : List UInt8) (hb : Bool) (r : List UInt8) (n : Nat) (h1 : sc.length ≤ n) (h2 : r.length ≤ n) : (partsK sc hb r).Small n := by
  have hA : (aheadK r).length ≤ r.length := by unfold aheadK; simp; omega
  have hB := host_le ((aheadK r).take (upToL [63] (aheadK r)))
  have hC : ((aheadK r).take (upToL [63] (aheadK r))).length ≤ (aheadK r).length := by simp; omega
  refine ⟨h1, ?_, ?_, ?_, ?_⟩
  · show (hostK ((aheadK r).take (upToL [63] (aheadK r)))).2.1.length ≤ n; omega
  · show (hostK ((aheadK r).take (upToL [63] (aheadK r)))).2.2.length ≤ n; omega
  · show ((aheadK r).drop (upToL [63] (aheadK r) + 1)).length ≤ n; simp; omega
  · show (r.drop (upToL [35] r + 1)).length ≤ n; simp; omega
theorem split_small (s : List UInt8) (n : Nat) (h : s.length ≤ n) : (splitK s).Small n := by
  cases hc : colonL s with
  | none => rw [split_none hc]; exact parts_small _ _ _ _ (by simp) h
  | some k => rw [split_some hc]; exact parts_small _ _ _ _ (by simp [lower]; omega) (by simp; omega)
theorem cell_regrown {W : World} {B : Nat} {cs : Array Value} {t : TypeId} (h : Blk W B cs t) (j : Nat) (v : Value) (hj : cs[j]? = some v) (d : Nat) (os : Array Obj) : (Go.Sort.grow (redrawn W d) os).cell? ⟨B, j, none⟩ = some v := by
  have := (h.below (below_regrown W d os)).cell j
  rw [this, hj]
set_option maxRecDepth 100000 in
set_option maxHeartbeats 4000000 in
theorem walk_on (w : World) (hT : Tb w) (hm : MaxOk w) (bs : List UInt8) (hb : bs.length ≤ 1048576) : Calls Tryd.prog 6 #[.string ⟨bs.toArray⟩] w fun e w' => e = .returned (.bool true) ∧ Below w.heap.size w w' := by
  have mixed : Tryd.prog.follows .mixedOrders = true := by kernel_rfl
  have hsl := stripL_le bs
  have hv := val_strip bs
  have hba := bare_stripL bs
  have H1 : Hid (∀ W, Below w.heap.size w W → Calls Tryd.prog 8 #[.string ⟨bs.toArray⟩] W fun e W' => e = .returned (.string ⟨(stripL bs).toArray⟩) ∧ Below W.heap.size W W') := fun W h => strip_calls bs W (hT.below h) (by omega)
  have H2 : Hid (∀ W, Below w.heap.size w W → Calls Tryd.prog 17 #[.string ⟨bs.toArray⟩] W fun e W' => e = .returned (splitK (stripL bs)).v ∧ Below W.heap.size W W') := fun W h => split_calls bs W (hT.below h) (hm.below h) (by omega)
  have H4 : Hid (∀ W, Below w.heap.size w W → Calls Tryd.prog 9 #[.string ⟨bs.toArray⟩] W fun e W' => e = .returned (schemeV (stripL bs)) ∧ Below W.heap.size W W') := fun W h => scheme_calls bs W (hT.below h) (by omega)
  have HA : Hid (∀ W, Below w.heap.size w W → Calls Tryd.prog 13 #[] W fun e w' => e = .returned (.bool true) ∧ Below W.heap.size W w') := fun W h => awake_calls W (hT.below h)
  obtain ⟨s, hs⟩ : ∃ s, stripL bs = s := ⟨_, rfl⟩
  rw [hs] at H1 H2 H4 hsl hv hba
  clear hs
  have hsm := split_small s 4194304 (by omega)
  have H3 : Hid (∀ W, Below w.heap.size w W → Calls Tryd.prog 20 #[(splitK s).v] W fun e W' => e = .returned (.string ⟨(joinK (splitK s)).toArray⟩) ∧ Below W.heap.size W W') := fun W h => by
    have := join_calls (splitK s) W (hT.below h) ⟨Nat.le_trans hsm.sc (by omega), Nat.le_trans hsm.ho (by omega), Nat.le_trans hsm.pa (by omega), Nat.le_trans hsm.qu (by omega), Nat.le_trans hsm.fr (by omega)⟩
    rw [split_val hv] at this
    exact this
  have H5 : Hid (∀ (j : List UInt8) W, j.length ≤ 10000000 → stripL j = j → splitK j = splitK s → Below w.heap.size w W → Calls Tryd.prog 17 #[.string ⟨j.toArray⟩] W fun e W' => e = .returned (splitK s).v ∧ Below W.heap.size W W') := fun j W hj e1 e2 h => by
    have := split_calls j W (hT.below h) (hm.below h) (by omega)
    rw [e1, e2] at this
    exact this
  have z1 : ∀ W, (binOp .eql 41 (splitK s).v (splitK s).v).run Tryd.prog W = .ok (.bool true) W := fun W => by rw [eql_links, sameK_refl]
  have z2 : ∀ x y W, (eqGuard .eql 41 x y (splitK s).v (splitK s).v).run Tryd.prog W = .ok () W := fun x y W => eql_guard _ _ x y W
  clear hsm
  cases hc : colonL s with
  | none =>
    have hj := join_none hc
    have hst := strip_bare hv hba
    have hh : (splitK s).hs = false := by rw [split_none hc]; rfl
    rw [hj] at H3
    have H6 := hid_of (fun W h => H5.out s W (by omega) hst rfl h)
    clear H5 hj hst hv hba hc H4 hT hm
    obtain ⟨l, hl⟩ : ∃ l, splitK s = l := ⟨_, rfl⟩
    rw [hl] at H2 H3 H6 z1 z2 hh
    clear hl
    obtain ⟨sc, ho, pa, qu, fr, h1, h2, h3, h4⟩ := l
    simp only at hh
    subst hh
    unfold Lk.v at *
    simp only at *
    go_enter Tryd.func6, Tryd.ntmps6
    go_wp2_with fail
    (go_at_call 8; refine (H1.out _ (Below.refl _ _)).mono ?_; rintro e w1 ⟨rfl, b1⟩)
    go_wp2_with fail
    (go_at_call 17; refine (H2.out _ b1).mono ?_; rintro e w2 ⟨rfl, g2⟩)
    have b2 := b1.trans (g2.mono b1.size)
    clear g2
    go_wp2_with fail
    have HK2 := hid_of (Blk.new w2 #[.string ⟨sc.toArray⟩, .string ⟨ho.toArray⟩, .string ⟨pa.toArray⟩, .string ⟨qu.toArray⟩, .string ⟨fr.toArray⟩, .bool false, .bool h2, .bool h3, .bool h4] 41)
    have b3 := b2.alloc b2.size (.cells #[.string ⟨sc.toArray⟩, .string ⟨ho.toArray⟩, .string ⟨pa.toArray⟩, .string ⟨qu.toArray⟩, .string ⟨fr.toArray⟩, .bool false, .bool h2, .bool h3, .bool h4] 41)
    (go_at_call 20; refine (H3.out _ b3).mono ?_; rintro e w4 ⟨rfl, g4⟩)
    have HK4 := hid_of (HK2.out.below g4)
    have b4 := b3.trans (g4.mono b3.size)
    clear g4 HK2 b3
    obtain ⟨g, hg⟩ : ∃ g, w2.heap.size = g := ⟨_, rfl⟩
    rw [hg] at HK4 ⊢
    clear hg b2 b1
    obtain ⟨c0, c1, c2, c3, c4, c5, c6, c7, c8, -⟩ := HK4.out.nine
    have D : ∀ d os, Below w4.heap.size w4 (Go.Sort.grow (redrawn w4 d) os) := fun d os => below_regrown w4 d os
    have D' : ∀ d os, Below w.heap.size w (Go.Sort.grow (redrawn w4 d) os) := fun d os => b4.trans ((D d os).mono b4.size)
    have y0 := cell_regrown HK4.out 0 _ rfl
    have y1 := cell_regrown HK4.out 1 _ rfl
    have y2 := cell_regrown HK4.out 2 _ rfl
    have y3 := cell_regrown HK4.out 3 _ rfl
    have y4 := cell_regrown HK4.out 4 _ rfl
    have y5 := cell_regrown HK4.out 5 _ rfl
    have y6 := cell_regrown HK4.out 6 _ rfl
    have y7 := cell_regrown HK4.out 7 _ rfl
    have y8 := cell_regrown HK4.out 8 _ rfl
    have q1 : ∀ d os, Calls Tryd.prog 17 #[.string ⟨s.toArray⟩] (Go.Sort.grow (redrawn w4 d) os) fun e w'' => e = .returned (.agg #[.string ⟨sc.toArray⟩, .string ⟨ho.toArray⟩, .string ⟨pa.toArray⟩, .string ⟨qu.toArray⟩, .string ⟨fr.toArray⟩, .bool false, .bool h2, .bool h3, .bool h4]) ∧ ∃ p : Regrown, w'' = Go.Sort.grow (redrawn w4 p.d) p.os := fun d os => Calls.regrown_of (H6.out _ (D' d os))
    have q2 : ∀ d os, Calls Tryd.prog 13 #[] (Go.Sort.grow (redrawn w4 d) os) fun e w'' => e = .returned (.bool true) ∧ ∃ p : Regrown, w'' = Go.Sort.grow (redrawn w4 p.d) p.os := fun d os => Calls.regrown_of (HA.out _ (D' d os))
    have q3 := q2
    go_wp2_with fail
    refine wp_region_quiet_below mixed (by kernel_rfl) ?_
    repeat (go_big_quiet_step (first | with_reducible exact q1 _ _ | with_reducible exact q2 _ _ | with_reducible exact q3 _ _))
    refine wpQuiet_nil ?_
    intro _ hw'
    obtain ⟨⟨dq, osq⟩, hw''⟩ := hw'
    have hb2 := D' dq osq
    rw [← hw''] at hb2
    clear hw'' q1 q2 q3 D D' y0 y1 y2 y3 y4 y5 y6 y7 y8
    go_wp2_with fail
    go_ret
    exact ⟨rfl, hb2⟩
  | some n =>
    obtain ⟨X, R, hS, hX⟩ := colon_parts hc
    have hj := hS.join
    have hst := strip_bare (hS.val hv) (hS.bare hba)
    have hsp := hS.split_lower
    have hh : (splitK s).hs = true := by rw [hS.split]; rfl
    have hsc : (splitK s).sc = lower X := by rw [hS.split]; rfl
    have hsv : schemeV s = .tuple #[.string ⟨(lower X).toArray⟩, .bool true] := by unfold schemeV; rw [hS.colon]; simp only; rw [hS.take]
    have hlen : (lower X ++ 58 :: R).length = s.length := by rw [hS.all]; simp [lower]
    have hXl : (lower X).length = X.length := by simp [lower]
    have p1 : s.take X.length = X := hS.take
    have p2 : s.drop X.length = 58 :: R := by rw [hS.all]; simp
    have p3 : (lower X ++ 58 :: R).take (lower X).length = lower X := by simp
    have p4 : (lower X ++ 58 :: R).drop (lower X).length = 58 :: R := by simp
    have hns : X.length ≤ s.length := by rw [hS.all]; simp
    have hnj : (lower X).length ≤ (lower X ++ 58 :: R).length := by simp
    rw [hXl] at p3 p4 hnj
    have H7 := hid_of (fun W => lower_text X W (by omega))
    rw [hj] at H3
    rw [hsv] at H4
    have H6 := hid_of (fun W h => H5.out (lower X ++ 58 :: R) W (by omega) hst hsp h)
    clear H5 hj hst hsp hv hba hc hT hm hS hsv
    obtain ⟨Y, hY⟩ : ∃ Y, lower X = Y := ⟨_, rfl⟩
    obtain ⟨j, hjj⟩ : ∃ j, Y ++ 58 :: R = j := ⟨_, rfl⟩
    obtain ⟨r, hr⟩ : ∃ r, 58 :: R = r := ⟨_, rfl⟩
    rw [hY] at H3 H4 H6 H7 hlen p3 p4 hnj hXl hsc
    rw [hjj] at H3 H6 hlen p3 p4 hnj
    rw [hr] at p2 p4
    rw [hX] at p1 p2 p3 p4 hns hnj hXl
    have t1 := slice_h s n hns (n : Int) rfl
    have t2 := slice_l s n hns (n : Int) rfl
    have t3 := slice_h j n hnj (n : Int) rfl
    have t4 := slice_l j n hnj (n : Int) rfl
    rw [p1] at t1
    rw [p2] at t2
    rw [p3] at t3
    rw [p4] at t4
    have ss := arr_size s
    have sj := arr_size j
    rw [hlen] at sj
    have sY := arr_size Y
    rw [hXl] at sY
    clear p1 p2 p3 p4 hY hjj hr hX hXl hlen
    obtain ⟨l, hl⟩ : ∃ l, splitK s = l := ⟨_, rfl⟩
    rw [hl] at H2 H3 H6 z1 z2 hh hsc
    clear hl
    obtain ⟨sc, ho, pa, qu, fr, h1, h2, h3, h4⟩ := l
    simp only at hh hsc
    subst hh
    subst hsc
    unfold Lk.v at *
    simp only at *
    go_enter Tryd.func6, Tryd.ntmps6
    go_wp2_with fail
    (go_at_call 8; refine (H1.out _ (Below.refl _ _)).mono ?_; rintro e w1 ⟨rfl, b1⟩)
    go_wp2_with fail
    (go_at_call 17; refine (H2.out _ b1).mono ?_; rintro e w2 ⟨rfl, g2⟩)
    have b2 := b1.trans (g2.mono b1.size)
    clear g2
    go_wp2_with fail
    have HK2 := hid_of (Blk.new w2 #[.string ⟨sc.toArray⟩, .string ⟨ho.toArray⟩, .string ⟨pa.toArray⟩, .string ⟨qu.toArray⟩, .string ⟨fr.toArray⟩, .bool true, .bool h2, .bool h3, .bool h4] 41)
    have b3 := b2.alloc b2.size (.cells #[.string ⟨sc.toArray⟩, .string ⟨ho.toArray⟩, .string ⟨pa.toArray⟩, .string ⟨qu.toArray⟩, .string ⟨fr.toArray⟩, .bool true, .bool h2, .bool h3, .bool h4] 41)
    (go_at_call 20; refine (H3.out _ b3).mono ?_; rintro e w4 ⟨rfl, g4⟩)
    have HK4 := hid_of (HK2.out.below g4)
    have b4 := b3.trans (g4.mono b3.size)
    clear g4 HK2 b3
    obtain ⟨g, hg⟩ : ∃ g, w2.heap.size = g := ⟨_, rfl⟩
    rw [hg] at HK4 ⊢
    clear hg b2 b1
    obtain ⟨c0, c1, c2, c3, c4, c5, c6, c7, c8, -⟩ := HK4.out.nine
    go_wp2_with fail
    (go_at_call 9; refine (H4.out _ b4).mono ?_; rintro e w5 ⟨rfl, g5⟩)
    have HK5 := hid_of (HK4.out.below g5)
    have b5 := b4.trans (g5.mono b4.size)
    clear g5 HK4 c0 c1 c2 c3 c4 c5 c6 c7 c8
    obtain ⟨c0, c1, c2, c3, c4, c5, c6, c7, c8, -⟩ := HK5.out.nine
    have D : ∀ d os, Below w5.heap.size w5 (Go.Sort.grow (redrawn w5 d) os) := fun d os => below_regrown w5 d os
    have D' : ∀ d os, Below w.heap.size w (Go.Sort.grow (redrawn w5 d) os) := fun d os => b5.trans ((D d os).mono b5.size)
    have y0 := cell_regrown HK5.out 0 _ rfl
    have y1 := cell_regrown HK5.out 1 _ rfl
    have y2 := cell_regrown HK5.out 2 _ rfl
    have y3 := cell_regrown HK5.out 3 _ rfl
    have y4 := cell_regrown HK5.out 4 _ rfl
    have y5 := cell_regrown HK5.out 5 _ rfl
    have y6 := cell_regrown HK5.out 6 _ rfl
    have y7 := cell_regrown HK5.out 7 _ rfl
    have y8 := cell_regrown HK5.out 8 _ rfl
    have q1 : ∀ d os, Calls Tryd.prog 17 #[.string ⟨j.toArray⟩] (Go.Sort.grow (redrawn w5 d) os) fun e w'' => e = .returned (.agg #[.string ⟨sc.toArray⟩, .string ⟨ho.toArray⟩, .string ⟨pa.toArray⟩, .string ⟨qu.toArray⟩, .string ⟨fr.toArray⟩, .bool true, .bool h2, .bool h3, .bool h4]) ∧ ∃ p : Regrown, w'' = Go.Sort.grow (redrawn w5 p.d) p.os := fun d os => Calls.regrown_of (H6.out _ (D' d os))
    have q2 : ∀ d os, Calls Tryd.prog 13 #[] (Go.Sort.grow (redrawn w5 d) os) fun e w'' => e = .returned (.bool true) ∧ ∃ p : Regrown, w'' = Go.Sort.grow (redrawn w5 p.d) p.os := fun d os => Calls.regrown_of (HA.out _ (D' d os))
    have q3 : ∀ d os, Calls Tryd.prog 23 #[.string ⟨X.toArray⟩] (Go.Sort.grow (redrawn w5 d) os) fun e w'' => e = .returned (.string ⟨sc.toArray⟩) ∧ ∃ p : Regrown, w'' = Go.Sort.grow (redrawn w5 p.d) p.os := fun d os => Calls.regrown_of (H7.out _)
    go_wp2_with fail
    refine wp_region_quiet_below mixed (by kernel_rfl) ?_
    repeat (go_big_quiet_step (first | with_reducible exact q1 _ _ | with_reducible exact q2 _ _ | with_reducible exact q3 _ _))
    refine wpQuiet_nil ?_
    intro _ hw'
    obtain ⟨⟨dq, osq⟩, hw''⟩ := hw'
    have hb2 := D' dq osq
    rw [← hw''] at hb2
    clear hw'' q1 q2 q3 D D' y0 y1 y2 y3 y4 y5 y6 y7 y8
    go_wp2_with fail
    go_ret
    exact ⟨rfl, hb2⟩
theorem walk (w : World) (hT : Tb w) (hm : MaxOk w) (s : ByteArray) (_hs0 : s.size ≤ 9223372036854775807) (hs : s.size ≤ 1048576) :
    Calls Tryd.prog 6 #[.string s] w fun e w' => e = .returned (.bool true) ∧ Below w.heap.size w w' := by
  have h := walk_on w hT hm s.data.toList (by rw [N.size_data]; exact hs)
  rw [Lib.mk_data] at h
  exact h

set_option maxRecDepth 100000 in
theorem contract (H : Type) (enc : TypeId × Value → H) (W : World) (base : Nat) (args : Array Value) (ds gs : List (DataW H)) (before : List MemPlace)
    (hval : ∀ (j : Nat) t v, Tryd.f6.params[j]? = some t → args[j]? = some v → Value.okWide Tryd.prog W .any base t v)
    (hW : DataW.Whole enc Tryd.prog Tryd.f6.params.toList Rows.linkBackSpec.vars false W args.toList ds gs before) (hL : laidMetH Tryd.prog Rows.linkBackUptoRow.laid W)(hsh : W.ShapedOpen Tryd.prog) (hk : Rows.uptoSmall H (ds ++ gs) = true) :
    Calls Tryd.prog 6 args W fun e W' => ∃ v, e = .returned v ∧ Rows.linkBackSpec.post enc Tryd.prog Tryd.f6 false true false false W args v W' := by
  have hW' := hW
  have hlt := hW.lt
  obtain ⟨p, q, hA0, hV, rfl, hfz, hnd⟩ := hW
  have hA : DataW.TrodAll enc Tryd.prog W 0 (fun _ => true) true Tryd.f6.params.toList args.toList ds p := hA0
  rw [Tryd.params6] at hA hval
  obtain ⟨v0, vs0, d0, ds0, p0, q0, hargs, rfl, rfl, h0, r0⟩ := trodAll_cons hA
  obtain ⟨rfl, rfl, rfl⟩ := trodAll_nil r0
  obtain rfl : args = #[v0] := by cases args; simp_all
  obtain ⟨rfl, rfl⟩ := trodVars_none hV
  clear hA0
  simp only [List.append_nil] at hW' hlt hk
  have hbulk := of_decide_eq_true hk
  simp only [Rows.uptoBulkAll] at hbulk
  have h0' := h0
  obtain ⟨s0, rfl, rfl, e0, ws0⟩ := Go.ChangeMaps.open_string Tryd.underlying9 (hval 0 9 v0 rfl rfl) h0
  refine (walk W (tabs_of_laid hL) (Tryd.laysM145.s1_3 W hsh) s0 ws0 (by simp only [L.bulk_str, N.size_data] at hbulk; omega)).mono fun e W' ⟨he, hb⟩ => ?_
  subst he
  exact ⟨_, rfl, post_below hW' (fun _ _ _ => trodAll_cons_mk (shut_bool Tryd.underlying4 _) trodAll_mk0) (trodAll_cons_mk (stays (by kernel_rfl) (of_decide_eq_true (by kernel_rfl)) h0' hb (fun x hx => hlt x (by simp [hx]))) trodAll_mk0) rfl hb⟩

set_option maxRecDepth 100000 in
theorem laid_met (os : Os) : laidMet Tryd.prog Rows.linkBackUptoRow.laid ((withTabs (World.holding Tryd.prog os ⟨#[], #[], []⟩)).forCall (fun _ _ => 0) ⟨#[], #[Value.string ⟨#[]⟩], []⟩).memory :=
  laidMet_of_run' 8 (by kernel_rfl) (by kernel_rfl)
set_option maxRecDepth 100000 in
theorem reads (os : Os) {H : Type} (enc : TypeId × Value → H) : ∃ places, DataW.whole enc Tryd.prog ((withTabs (World.holding Tryd.prog os ⟨#[], #[], []⟩)).forCall (fun _ _ => 0) ⟨#[], #[Value.string ⟨#[]⟩], []⟩).memory Tryd.f6.params.toList Rows.linkBackSpec.vars false #[Value.string ⟨#[]⟩].toList 8 = some ([.lit (.string [])], [], places) :=
  ⟨[], by kernel_rfl⟩

set_option maxRecDepth 100000 in
theorem lifted (os : Os) (started : os.Started) (H : Type) (enc : TypeId × Value → H) (F : Stop.Interp) :
    ReturnsInHanded {} Tryd.checked os 6 .any ((Rows.OpenSpec.upto Rows.linkBackSpec).preRow enc Tryd.prog Tryd.f6 Rows.linkBackUptoRow.domain false Rows.linkBackUptoRow.laid) (((Rows.OpenSpec.upto Rows.linkBackSpec).at F).post enc Tryd.prog Tryd.f6 false true false false) := by
  obtain ⟨places, hx⟩ := reads os enc
  refine returnsInHanded_of_row (C := Tryd.checked) (s := Rows.OpenSpec.upto Rows.linkBackSpec) own started (by kernel_rfl) Tryd.func6
    (witness_row_at (enc := enc) (C := Tryd.checked) false (withTabs (World.holding Tryd.prog os ⟨#[], #[], []⟩)) #[Value.string ⟨#[]⟩] rfl (by kernel_rfl) (by kernel_rfl) (by kernel_rfl)
      (OpenSpec.preRow_of_cond 8 hx (by kernel_rfl) (fun k hk => by cases hk; kernel_rfl) (by kernel_rfl) (laid_met os))) ?_
  intro W base args ds gs before hval hW _ hcond _ hL hsh _
  exact contract H enc W base args ds gs before hval hW hL hsh (hcond _ rfl)

set_option maxRecDepth 100000 in
theorem said : Rows.LinkBackUptoSaid :=
  OpenClaim.holds_of_cond 6 Tryd.f6 rfl rfl rfl rfl rfl rfl rfl ⟨rfl, rfl, rfl, rfl, rfl⟩ rfl rfl rfl rfl rfl (by kernel_rfl) Tryd.func6 (by kernel_rfl)
    (of_decide_eq_true (by kernel_rfl)) (by unfold Func.isWrapper; first | (rw [if_pos (by decide +kernel)]; kernel_rfl) | (rw [if_neg (by decide +kernel)]; exact ⟨rfl, rfl⟩))
    (fun os started H enc _ F => by rw [OpenClaim.pre_eq_preRow]; exact lifted os started H enc F)

theorem plain (f : FuncId) (fn : Func) (hf : Tryd.pinned.checked.prog.funcNamed "sieve/sievelaw12.LinkBack" = some f) (hfn : Tryd.pinned.checked.prog.funcs[f]? = some fn) :
    false = Tryd.pinned.checked.prog.looks [] ∧ ∀ (j : Nat) t, fn.params[j]? = some t → Tryd.pinned.checked.prog.wantsStandIn t = false := by
  obtain rfl : f = 6 := Option.some.inj ((show Tryd.prog.funcNamed "sieve/sievelaw12.LinkBack" = some 6 by kernel_rfl).symm.trans hf) |>.symm
  obtain rfl : fn = Tryd.f6 := (Option.some.inj (Tryd.func6.symm.trans hfn)).symm
  refine ⟨by kernel_rfl, fun j t ht => ?_⟩
  rw [Tryd.params6] at ht
  have hm := Array.mem_of_getElem? ht
  simp only [List.mem_toArray, List.mem_cons, List.not_mem_nil, or_false] at hm
  subst hm
  · exact (show Tryd.prog.wantsStandIn 9 = false by kernel_rfl)

theorem card : Rows.LinkBackUptoCardSaid :=
  Claim7.holds_tied_plain_at .later [] _ _ _ _ said (fun _ h => by cases h) (by kernel_rfl) (fun _ h => by cases h) linkBackUpto_row_tie rfl ⟨rfl, rfl⟩ (by kernel_rfl) rfl plain (by kernel_rfl)

end Go.Proofs.YtnnabheejojfdaaDoor.LpBack
