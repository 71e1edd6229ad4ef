/- What is proved here: the statement LinkRoads (what resolving keeps) holds for texts up to the size that the statement's narrower form names, with no other condition but what the card says of the listed tables. -/
import Derived.Test.YthkigcpbckjhjaaDoorCards
import Derived.Test.YthkigcpbckjhjaaDoorTie
import Derived.Test.YthkigcpbckjhjaaDoorLpResolve
import Derived.Test.YthkigcpbckjhjaaDoorLpSplit
import Derived.Test.YthkigcpbckjhjaaDoorBun12
import Derived.Test.YthkigcpbckjhjaaDoorBun13
import Derived.Test.YthkigcpbckjhjaaDoorLpAwake
import Derived.Lib.QuietBelow
import Derived.BigQuiet
import Derived.ProofKit
import Derived.OpenShut
namespace Go.Proofs.YthkigcpbckjhjaaDoor.LpRoads
open Go.ChangeShapes Go.WideShapes Go.ChangeAt Go.RowKit U N L

theorem host_le (B : List UInt8) : (hostK B).2.1.length ≤ B.length ∧ (hostK B).2.2.length ≤ B.length := by
  rcases hostK_cases B with ⟨_, k2, k3⟩ | ⟨C, eB, hC⟩
  · rw [k2, k3]; simp
  · rw [hC, eB]; simp; omega
theorem parts_small (sc : List UInt8) (hb : Bool) (r : List UInt8) (n : Nat) (h1 : sc.length ≤ n) (h2 : r.length ≤ n) : (partsK sc hb r).Small n := by
  have hA : (aheadK r).length ≤ r.length := by unfold aheadK; simp; omega
  have hB := host_le ((aheadK r).take (upToL [63] (aheadK r)))
  have hC : ((aheadK r).take (upToL [63] (aheadK r))).length ≤ (aheadK r).length := by simp; omega
  refine ⟨h1, ?_, ?_, ?_, ?_⟩
  · show (hostK ((aheadK r).take (upToL [63] (aheadK r)))).2.1.length ≤ n; omega
  · show (hostK ((aheadK r).take (upToL [63] (aheadK r)))).2.2.length ≤ n; omega
  · show ((aheadK r).drop (upToL [63] (aheadK r) + 1)).length ≤ n; simp; omega
  · show (r.drop (upToL [35] r + 1)).length ≤ n; simp; omega
theorem split_small (s : List UInt8) (n : Nat) (h : s.length ≤ n) : (splitK s).Small n := by
  cases hc : colonL s with
  | none => rw [split_none hc]; exact parts_small _ _ _ _ (by simp) h
  | some k => rw [split_some hc]; exact parts_small _ _ _ _ (by simp [lower]; omega) (by simp; omega)
theorem small_mono {l : Lk} {n m : Nat} (h : l.Small n) (hm : n ≤ m) : l.Small m := ⟨Nat.le_trans h.sc hm, Nat.le_trans h.ho hm, Nat.le_trans h.pa hm, Nat.le_trans h.qu hm, Nat.le_trans h.fr hm⟩
theorem cell_regrown {W : World} {B : Nat} {cs : Array Value} {t : TypeId} (h : Blk W B cs t) (j : Nat) (v : Value) (hj : cs[j]? = some v) (d : Nat) (os : Array Obj) : (Go.Sort.grow (redrawn W d) os).cell? ⟨B, j, none⟩ = some v := by
  have := (h.below (below_regrown W d os)).cell j
  rw [this, hj]
theorem two_new (w : World) (b r : Array Value) (W : World) (hW : (w.alloc (.cells b 24)).alloc (.cells r 24) = W) : Blk W w.heap.size b 24 ∧ Blk W (w.heap.size + 1) r 24 ∧ Below w.heap.size w W := by
  subst hW
  have z1 : (w.alloc (.cells b 24)).heap.size = w.heap.size + 1 := Array.size_push _
  refine ⟨(Blk.new w _ _).alloc _, ?_, ((Below.refl _ w).alloc (Nat.le_refl _) _).alloc (by omega) _⟩
  have := Blk.new (w.alloc (.cells b 24)) r 24
  rw [z1] at this
  exact this
theorem resolve_len (b r : Lk) (n : Nat) (hb : b.pa.length ≤ n) (hr : r.pa.length ≤ n) : (resolveK b r).pa.length ≤ 2 * n + 1 := by
  have d1 := dotsM_le r.pa
  have d2 := dotsM_le (folderK b ++ r.pa)
  have d3 := folder_le b
  rw [List.length_append] at d2
  unfold resolveK
  split
  · show (dotsM r.pa).length ≤ _; omega
  split
  · show (dotsM r.pa).length ≤ _; omega
  split
  · show b.pa.length ≤ _; omega
  split
  · show (dotsM r.pa).length ≤ _; omega
  · show (dotsM (folderK b ++ r.pa)).length ≤ _; omega
theorem resolve_else (b r : Lk) (h : r.hs = false) : ∃ vho vpa vqu vhh vhq, resolveK b r = ⟨b.sc, vho, vpa, vqu, r.fr, b.hs, vhh, vhq, r.hf⟩ := by
  unfold resolveK
  rw [if_neg (by rw [h]; decide)]
  split
  · exact ⟨_, _, _, _, _, rfl⟩
  split
  · exact ⟨_, _, _, _, _, rfl⟩
  split
  · exact ⟨_, _, _, _, _, rfl⟩
  · exact ⟨_, _, _, _, _, rfl⟩
def noK : Lk := ⟨[], [], [], [], [], false, false, false, false⟩
set_option maxRecDepth 100000 in
set_option maxHeartbeats 4000000 in
theorem walk_on (w : World) (hT : Tb w) (hm : MaxOk w) (bs rs : List UInt8) (hb : bs.length ≤ 1048576) (hr : rs.length ≤ 1048576) : Calls Tryd.prog 4 #[.string ⟨bs.toArray⟩, .string ⟨rs.toArray⟩] w fun e w' => e = .returned (.bool true) ∧ Below w.heap.size w w' := by
  have mixed : Tryd.prog.follows .mixedOrders = true := by kernel_rfl
  have l1 := stripL_le bs
  have l2 := stripL_le rs
  have v1 := val_strip bs
  have v2 := val_strip rs
  have HA : Hid (∀ W, Below w.heap.size w W → Calls Tryd.prog 10 #[] W fun e w' => e = .returned (.bool true) ∧ Below W.heap.size W w') := fun W h => awake_calls W (hT.below h)
  have H1 : Hid (∀ W, Below w.heap.size w W → Calls Tryd.prog 11 #[.string ⟨bs.toArray⟩] W fun e W' => e = .returned (splitK (stripL bs)).v ∧ Below W.heap.size W W') := fun W h => split_calls bs W (hT.below h) (hm.below h) (by omega)
  have H2 : Hid (∀ W, Below w.heap.size w W → Calls Tryd.prog 11 #[.string ⟨rs.toArray⟩] W fun e W' => e = .returned (splitK (stripL rs)).v ∧ Below W.heap.size W W') := fun W h => split_calls rs W (hT.below h) (hm.below h) (by omega)
  have m1 := split_small (stripL bs) 4194304 (by omega)
  have m2 := split_small (stripL rs) 4194304 (by omega)
  have e1 := split_val v1
  have e2 := split_val v2
  have p1 := (split_vals v1).2.2.1
  have p2 := (split_vals v2).2.2.1
  obtain ⟨b, hbb⟩ : ∃ b, splitK (stripL bs) = b := ⟨_, rfl⟩
  obtain ⟨r, hrr⟩ : ∃ r, splitK (stripL rs) = r := ⟨_, rfl⟩
  rw [hbb] at H1 m1 e1 p1
  rw [hrr] at H2 m2 e2 p2
  clear hbb hrr
  have H3 : Hid (∀ W, Below w.heap.size w W → Calls Tryd.prog 6 #[b.v, r.v] W fun e W' => e = .returned (resolveK b r).v ∧ Below W.heap.size W W') := fun W h => by
    have := resolve_calls b r W (hT.below h) (small_mono m1 (by omega)) (small_mono m2 (by omega))
    rw [e1, e2] at this
    exact this
  have HDA : Hid (∀ (p : List UInt8) W, p.length ≤ 100000000 → Below w.heap.size w W → Calls Tryd.prog 12 #[.string ⟨p.toArray⟩] W fun e W' => e = .returned (.string ⟨(dotsM (mendL p)).toArray⟩) ∧ Below W.heap.size W W') := fun p W hp h => dots_calls p W (hT.below h) (by omega)
  have z1 : ∀ W, (binOp .eql 24 r.v noK.v).run Tryd.prog W = .ok (.bool (sameK r noK)) W := fun W => eql_links r noK W
  have z2 : ∀ x y W, (eqGuard .eql 24 x y r.v noK.v).run Tryd.prog W = .ok () W := fun x y W => eql_guard _ _ x y W
  cases hh : r.hs with
  | true =>
    have hres : resolveK b r = { r with pa := dotsM r.pa } := by unfold resolveK; rw [if_pos hh]
    have HD : Hid (∀ W, Below w.heap.size w W → Calls Tryd.prog 12 #[.string ⟨r.pa.toArray⟩] W fun e W' => e = .returned (.string ⟨(dotsM r.pa).toArray⟩) ∧ Below W.heap.size W W') := fun W h => by
      have := HDA.out r.pa W (Nat.le_trans m2.pa (by omega)) h
      rw [p2.mend] at this
      exact this
    rw [hres] at H3
    clear HDA z1 z2 hres m1 m2 e1 e2 p1 p2 v1 v2 hT hm l1 l2
    obtain ⟨bsc, bho, bpa, bqu, bfr, bhs, bhh, bhq, bhf⟩ := b
    obtain ⟨rsc, rho, rpa, rqu, rfr, rhs, rhh, rhq, rhf⟩ := r
    simp only at hh
    subst hh
    simp only at HD H3
    generalize dotsM rpa = P at HD H3
    unfold Lk.v at *
    simp only at *
    go_enter Tryd.func4, Tryd.ntmps4
    go_wp2_with fail
    (go_at_call 11; refine (H1.out _ (Below.refl _ _)).mono ?_; rintro e w1 ⟨rfl, b1⟩)
    go_wp2_with fail
    (go_at_call 11; refine (H2.out _ b1).mono ?_; rintro e w2 ⟨rfl, g2⟩)
    have b2 := b1.trans (g2.mono b1.size)
    clear g2
    go_wp2_with fail
    have hgw0 := b2.size
    obtain ⟨hKb, hKr, hB3⟩ := two_new w2 #[.string ⟨bsc.toArray⟩, .string ⟨bho.toArray⟩, .string ⟨bpa.toArray⟩, .string ⟨bqu.toArray⟩, .string ⟨bfr.toArray⟩, .bool bhs, .bool bhh, .bool bhq, .bool bhf] #[.string ⟨rsc.toArray⟩, .string ⟨rho.toArray⟩, .string ⟨rpa.toArray⟩, .string ⟨rqu.toArray⟩, .string ⟨rfr.toArray⟩, .bool true, .bool rhh, .bool rhq, .bool rhf] _ rfl
    have b3 := b2.trans (hB3.mono b2.size)
    (go_at_call 6; refine (H3.out _ b3).mono ?_; rintro e w4 ⟨rfl, g4⟩)
    have hKb4 := (hKb.below g4).alloc (.cells #[.string ⟨rsc.toArray⟩, .string ⟨rho.toArray⟩, .string ⟨P.toArray⟩, .string ⟨rqu.toArray⟩, .string ⟨rfr.toArray⟩, .bool true, .bool rhh, .bool rhq, .bool rhf] 24)
    have hKr4 := (hKr.below g4).alloc (.cells #[.string ⟨rsc.toArray⟩, .string ⟨rho.toArray⟩, .string ⟨P.toArray⟩, .string ⟨rqu.toArray⟩, .string ⟨rfr.toArray⟩, .bool true, .bool rhh, .bool rhq, .bool rhf] 24)
    have hKt4 := Blk.new w4 #[.string ⟨rsc.toArray⟩, .string ⟨rho.toArray⟩, .string ⟨P.toArray⟩, .string ⟨rqu.toArray⟩, .string ⟨rfr.toArray⟩, .bool true, .bool rhh, .bool rhq, .bool rhf] 24
    have b4 := (b3.trans (g4.mono b3.size)).alloc (b3.trans (g4.mono b3.size)).size (.cells #[.string ⟨rsc.toArray⟩, .string ⟨rho.toArray⟩, .string ⟨P.toArray⟩, .string ⟨rqu.toArray⟩, .string ⟨rfr.toArray⟩, .bool true, .bool rhh, .bool rhq, .bool rhf] 24)
    have hlt : w2.heap.size + 1 < w4.heap.size := (hKr.below g4).lt
    clear g4 hKb hKr hB3 b3 b2 b1
    obtain ⟨gt, hgt⟩ : ∃ gt, w4.heap.size = gt := ⟨_, rfl⟩
    rw [hgt] at hKt4 hlt
    go_upto_region 3 with fail
    generalize w4.alloc (.cells #[.string ⟨rsc.toArray⟩, .string ⟨rho.toArray⟩, .string ⟨P.toArray⟩, .string ⟨rqu.toArray⟩, .string ⟨rfr.toArray⟩, .bool true, .bool rhh, .bool rhq, .bool rhf] 24) = w5 at *
    clear hgt
    obtain ⟨g, hg⟩ : ∃ g, w2.heap.size = g := ⟨_, rfl⟩
    rw [hg] at hKb4 hKr4 hlt hgw0 ⊢
    have hgw := hgw0
    clear hg
    obtain ⟨c0, c1, c2, c3, c4, c5, c6, c7, c8, cz⟩ := hKb4.nine
    obtain ⟨d0, d1, d2, d3, d4, d5, d6, d7, d8, dz⟩ := hKr4.nine
    obtain ⟨e0, e1, e2, e3, e4, e5, e6, e7, e8, ez⟩ := hKt4.nine
    go_wp2_with fail
    have D : ∀ d os, Below w5.heap.size w5 (Go.Sort.grow (redrawn w5 d) os) := fun d os => below_regrown w5 d os
    have D' : ∀ d os, Below w.heap.size w (Go.Sort.grow (redrawn w5 d) os) := fun d os => b4.trans ((D d os).mono b4.size)
    have x0 := cell_regrown hKb4 0 _ rfl
    have x1 := cell_regrown hKb4 1 _ rfl
    have x2 := cell_regrown hKb4 2 _ rfl
    have x3 := cell_regrown hKb4 3 _ rfl
    have x4 := cell_regrown hKb4 4 _ rfl
    have x5 := cell_regrown hKb4 5 _ rfl
    have x6 := cell_regrown hKb4 6 _ rfl
    have x7 := cell_regrown hKb4 7 _ rfl
    have x8 := cell_regrown hKb4 8 _ rfl
    have y0 := cell_regrown hKr4 0 _ rfl
    have y1 := cell_regrown hKr4 1 _ rfl
    have y2 := cell_regrown hKr4 2 _ rfl
    have y3 := cell_regrown hKr4 3 _ rfl
    have y4 := cell_regrown hKr4 4 _ rfl
    have y5 := cell_regrown hKr4 5 _ rfl
    have y6 := cell_regrown hKr4 6 _ rfl
    have y7 := cell_regrown hKr4 7 _ rfl
    have y8 := cell_regrown hKr4 8 _ rfl
    have z0 := cell_regrown hKt4 0 _ rfl
    have z1 := cell_regrown hKt4 1 _ rfl
    have z2 := cell_regrown hKt4 2 _ rfl
    have z3 := cell_regrown hKt4 3 _ rfl
    have z4 := cell_regrown hKt4 4 _ rfl
    have z5 := cell_regrown hKt4 5 _ rfl
    have z6 := cell_regrown hKt4 6 _ rfl
    have z7 := cell_regrown hKt4 7 _ rfl
    have z8 := cell_regrown hKt4 8 _ rfl
    have q1 : ∀ d os, Calls Tryd.prog 12 #[.string ⟨rpa.toArray⟩] (Go.Sort.grow (redrawn w5 d) os) fun e w'' => e = .returned (.string ⟨P.toArray⟩) ∧ ∃ p : Regrown, w'' = Go.Sort.grow (redrawn w5 p.d) p.os := fun d os => Calls.regrown_of (HD.out _ (D' d os))
    have q2 : ∀ d os, Calls Tryd.prog 10 #[] (Go.Sort.grow (redrawn w5 d) os) fun e w'' => e = .returned (.bool true) ∧ ∃ p : Regrown, w'' = Go.Sort.grow (redrawn w5 p.d) p.os := fun d os => Calls.regrown_of (HA.out _ (D' d os))
    refine wp_region_quiet_below mixed (by kernel_rfl) ?_
    repeat (go_big_quiet_step (first | with_reducible exact q1 _ _ | with_reducible exact q2 _ _))
    refine wpQuiet_nil ?_
    intro _ hw'
    obtain ⟨⟨dq, osq⟩, hw''⟩ := hw'
    have hb2 := D' dq osq
    rw [← hw''] at hb2
    clear hw'' D D' q1 q2
    go_wp2_with fail
    go_ret
    exact ⟨rfl, hb2⟩
  | false =>
    cases hz : sameK r noK with
    | true =>
      have hr0 := sameK_eq hz
      subst hr0
      have hres : resolveK b noK = { b with fr := [], hf := false } := rfl
      rw [hres] at H3
      rw [hz] at z1
      have z3 : ∀ W, (binOp .eql 24 (Lk.v { b with fr := [], hf := false }) (Lk.v { b with fr := [], hf := false })).run Tryd.prog W = .ok (.bool true) W := fun W => by rw [eql_links, sameK_refl]
      have z4 : ∀ x y W, (eqGuard .eql 24 x y (Lk.v { b with fr := [], hf := false }) (Lk.v { b with fr := [], hf := false })).run Tryd.prog W = .ok () W := fun x y W => eql_guard _ _ x y W
      clear HDA hres m1 m2 e1 e2 p1 p2 v1 v2 hT hm l1 l2 hh hz
      obtain ⟨bsc, bho, bpa, bqu, bfr, bhs, bhh, bhq, bhf⟩ := b
      unfold noK at *
      unfold Lk.v at *
      simp only at *
      go_enter Tryd.func4, Tryd.ntmps4
      go_wp2_with fail
      (go_at_call 11; refine (H1.out _ (Below.refl _ _)).mono ?_; rintro e w1 ⟨rfl, b1⟩)
      go_wp2_with fail
      (go_at_call 11; refine (H2.out _ b1).mono ?_; rintro e w2 ⟨rfl, g2⟩)
      have b2 := b1.trans (g2.mono b1.size)
      clear g2
      go_wp2_with fail
      have hgw0 := b2.size
      obtain ⟨hKb, hKr, hB3⟩ := two_new w2 #[.string ⟨bsc.toArray⟩, .string ⟨bho.toArray⟩, .string ⟨bpa.toArray⟩, .string ⟨bqu.toArray⟩, .string ⟨bfr.toArray⟩, .bool bhs, .bool bhh, .bool bhq, .bool bhf] #[.string ⟨#[]⟩, .string ⟨#[]⟩, .string ⟨#[]⟩, .string ⟨#[]⟩, .string ⟨#[]⟩, .bool false, .bool false, .bool false, .bool false] _ rfl
      have b3 := b2.trans (hB3.mono b2.size)
      (go_at_call 6; refine (H3.out _ b3).mono ?_; rintro e w4 ⟨rfl, g4⟩)
      have hKb4 := (hKb.below g4).alloc (.cells #[.string ⟨bsc.toArray⟩, .string ⟨bho.toArray⟩, .string ⟨bpa.toArray⟩, .string ⟨bqu.toArray⟩, .string ⟨#[]⟩, .bool bhs, .bool bhh, .bool bhq, .bool false] 24)
      have hKr4 := (hKr.below g4).alloc (.cells #[.string ⟨bsc.toArray⟩, .string ⟨bho.toArray⟩, .string ⟨bpa.toArray⟩, .string ⟨bqu.toArray⟩, .string ⟨#[]⟩, .bool bhs, .bool bhh, .bool bhq, .bool false] 24)
      have hKt4 := Blk.new w4 #[.string ⟨bsc.toArray⟩, .string ⟨bho.toArray⟩, .string ⟨bpa.toArray⟩, .string ⟨bqu.toArray⟩, .string ⟨#[]⟩, .bool bhs, .bool bhh, .bool bhq, .bool false] 24
      have b4 := (b3.trans (g4.mono b3.size)).alloc (b3.trans (g4.mono b3.size)).size (.cells #[.string ⟨bsc.toArray⟩, .string ⟨bho.toArray⟩, .string ⟨bpa.toArray⟩, .string ⟨bqu.toArray⟩, .string ⟨#[]⟩, .bool bhs, .bool bhh, .bool bhq, .bool false] 24)
      have hlt : w2.heap.size + 1 < w4.heap.size := (hKr.below g4).lt
      clear g4 hKb hKr hB3 b3 b2 b1
      obtain ⟨gt, hgt⟩ : ∃ gt, w4.heap.size = gt := ⟨_, rfl⟩
      rw [hgt] at hKt4 hlt
      go_upto_region 3 with fail
      generalize w4.alloc (.cells #[.string ⟨bsc.toArray⟩, .string ⟨bho.toArray⟩, .string ⟨bpa.toArray⟩, .string ⟨bqu.toArray⟩, .string ⟨#[]⟩, .bool bhs, .bool bhh, .bool bhq, .bool false] 24) = w5 at *
      clear hgt
      obtain ⟨g, hg⟩ : ∃ g, w2.heap.size = g := ⟨_, rfl⟩
      rw [hg] at hKb4 hKr4 hlt hgw0 ⊢
      have hgw := hgw0
      clear hg
      obtain ⟨c0, c1, c2, c3, c4, c5, c6, c7, c8, cz⟩ := hKb4.nine
      obtain ⟨d0, d1, d2, d3, d4, d5, d6, d7, d8, dz⟩ := hKr4.nine
      obtain ⟨e0, e1, e2, e3, e4, e5, e6, e7, e8, ez⟩ := hKt4.nine
      go_wp2_with fail
      (go_at_call 10; refine (HA.out _ (below_setCell (below_setCell b4 hgw 4 _) hgw 8 _)).mono ?_; rintro e w9 ⟨rfl, h9⟩)
      go_wp2_with fail
      go_ret
      exact ⟨rfl, (below_setCell (below_setCell b4 hgw 4 _) hgw 8 _).trans (h9.mono (by have := b4.size; simpa [World.setCell] using this))⟩
    | false =>
      rw [hz] at z1
      obtain ⟨vho, vpa, vqu, vhh, vhq, hres⟩ := resolve_else b r hh
      have hdots := fun h0 => resolve_dots (b := b) (r := r) p1 p2 h0
      rw [hres] at H3 hdots
      simp only at hdots
      have hvl : (r.pa == []) = false → vpa.length ≤ 100000000 := fun h0 => by
        have := resolve_len b r 4194304 m1.pa m2.pa
        rw [hres] at this
        simp only at this
        omega
      cases hpe : (r.pa == []) with
      | true =>
        clear HDA hres m1 m2 e1 e2 p1 p2 v1 v2 hT hm l1 l2 hz hdots hvl
        obtain ⟨bsc, bho, bpa, bqu, bfr, bhs, bhh, bhq, bhf⟩ := b
        obtain ⟨rsc, rho, rpa, rqu, rfr, rhs, rhh, rhq, rhf⟩ := r
        simp only at hh hpe
        subst hh
        unfold noK at *
        unfold Lk.v at *
        simp only at *
        go_enter Tryd.func4, Tryd.ntmps4
        go_wp2_with fail
        (go_at_call 11; refine (H1.out _ (Below.refl _ _)).mono ?_; rintro e w1 ⟨rfl, b1⟩)
        go_wp2_with fail
        (go_at_call 11; refine (H2.out _ b1).mono ?_; rintro e w2 ⟨rfl, g2⟩)
        have b2 := b1.trans (g2.mono b1.size)
        clear g2
        go_wp2_with fail
        have hgw0 := b2.size
        obtain ⟨hKb, hKr, hB3⟩ := two_new w2 #[.string ⟨bsc.toArray⟩, .string ⟨bho.toArray⟩, .string ⟨bpa.toArray⟩, .string ⟨bqu.toArray⟩, .string ⟨bfr.toArray⟩, .bool bhs, .bool bhh, .bool bhq, .bool bhf] #[.string ⟨rsc.toArray⟩, .string ⟨rho.toArray⟩, .string ⟨rpa.toArray⟩, .string ⟨rqu.toArray⟩, .string ⟨rfr.toArray⟩, .bool false, .bool rhh, .bool rhq, .bool rhf] _ rfl
        have b3 := b2.trans (hB3.mono b2.size)
        (go_at_call 6; refine (H3.out _ b3).mono ?_; rintro e w4 ⟨rfl, g4⟩)
        have hKb4 := (hKb.below g4).alloc (.cells #[.string ⟨bsc.toArray⟩, .string ⟨vho.toArray⟩, .string ⟨vpa.toArray⟩, .string ⟨vqu.toArray⟩, .string ⟨rfr.toArray⟩, .bool bhs, .bool vhh, .bool vhq, .bool rhf] 24)
        have hKr4 := (hKr.below g4).alloc (.cells #[.string ⟨bsc.toArray⟩, .string ⟨vho.toArray⟩, .string ⟨vpa.toArray⟩, .string ⟨vqu.toArray⟩, .string ⟨rfr.toArray⟩, .bool bhs, .bool vhh, .bool vhq, .bool rhf] 24)
        have hKt4 := Blk.new w4 #[.string ⟨bsc.toArray⟩, .string ⟨vho.toArray⟩, .string ⟨vpa.toArray⟩, .string ⟨vqu.toArray⟩, .string ⟨rfr.toArray⟩, .bool bhs, .bool vhh, .bool vhq, .bool rhf] 24
        have b4 := (b3.trans (g4.mono b3.size)).alloc (b3.trans (g4.mono b3.size)).size (.cells #[.string ⟨bsc.toArray⟩, .string ⟨vho.toArray⟩, .string ⟨vpa.toArray⟩, .string ⟨vqu.toArray⟩, .string ⟨rfr.toArray⟩, .bool bhs, .bool vhh, .bool vhq, .bool rhf] 24)
        have hlt : w2.heap.size + 1 < w4.heap.size := (hKr.below g4).lt
        clear g4 hKb hKr hB3 b3 b2 b1
        obtain ⟨gt, hgt⟩ : ∃ gt, w4.heap.size = gt := ⟨_, rfl⟩
        rw [hgt] at hKt4 hlt
        go_upto_region 3 with fail
        generalize w4.alloc (.cells #[.string ⟨bsc.toArray⟩, .string ⟨vho.toArray⟩, .string ⟨vpa.toArray⟩, .string ⟨vqu.toArray⟩, .string ⟨rfr.toArray⟩, .bool bhs, .bool vhh, .bool vhq, .bool rhf] 24) = w5 at *
        clear hgt
        obtain ⟨g, hg⟩ : ∃ g, w2.heap.size = g := ⟨_, rfl⟩
        rw [hg] at hKb4 hKr4 hlt hgw0 ⊢
        have hgw := hgw0
        clear hg
        obtain ⟨c0, c1, c2, c3, c4, c5, c6, c7, c8, cz⟩ := hKb4.nine
        obtain ⟨d0, d1, d2, d3, d4, d5, d6, d7, d8, dz⟩ := hKr4.nine
        obtain ⟨e0, e1, e2, e3, e4, e5, e6, e7, e8, ez⟩ := hKt4.nine
        have nb1 : (bhs != bhs) = false := by simp
        have nb2 : (rhf != rhf) = false := by simp
        go_wp2_with fail
        have D : ∀ d os, Below w5.heap.size w5 (Go.Sort.grow (redrawn w5 d) os) := fun d os => below_regrown w5 d os
        have D' : ∀ d os, Below w.heap.size w (Go.Sort.grow (redrawn w5 d) os) := fun d os => b4.trans ((D d os).mono b4.size)
        have x0 := cell_regrown hKb4 0 _ rfl
        have x1 := cell_regrown hKb4 1 _ rfl
        have x2 := cell_regrown hKb4 2 _ rfl
        have x3 := cell_regrown hKb4 3 _ rfl
        have x4 := cell_regrown hKb4 4 _ rfl
        have x5 := cell_regrown hKb4 5 _ rfl
        have x6 := cell_regrown hKb4 6 _ rfl
        have x7 := cell_regrown hKb4 7 _ rfl
        have x8 := cell_regrown hKb4 8 _ rfl
        have y0 := cell_regrown hKr4 0 _ rfl
        have y1 := cell_regrown hKr4 1 _ rfl
        have y2 := cell_regrown hKr4 2 _ rfl
        have y3 := cell_regrown hKr4 3 _ rfl
        have y4 := cell_regrown hKr4 4 _ rfl
        have y5 := cell_regrown hKr4 5 _ rfl
        have y6 := cell_regrown hKr4 6 _ rfl
        have y7 := cell_regrown hKr4 7 _ rfl
        have y8 := cell_regrown hKr4 8 _ rfl
        have z0 := cell_regrown hKt4 0 _ rfl
        have z1 := cell_regrown hKt4 1 _ rfl
        have z2 := cell_regrown hKt4 2 _ rfl
        have z3 := cell_regrown hKt4 3 _ rfl
        have z4 := cell_regrown hKt4 4 _ rfl
        have z5 := cell_regrown hKt4 5 _ rfl
        have z6 := cell_regrown hKt4 6 _ rfl
        have z7 := cell_regrown hKt4 7 _ rfl
        have z8 := cell_regrown hKt4 8 _ rfl
        have q1 : ∀ d os, Calls Tryd.prog 10 #[] (Go.Sort.grow (redrawn w5 d) os) fun e w'' => e = .returned (.bool true) ∧ ∃ p : Regrown, w'' = Go.Sort.grow (redrawn w5 p.d) p.os := fun d os => Calls.regrown_of (HA.out _ (D' d os))
        refine wp_region_quiet_below mixed (by kernel_rfl) ?_
        repeat (go_big_quiet_step (first | with_reducible exact q1 _ _))
        refine wpQuiet_nil ?_
        intro _ hw'
        obtain ⟨⟨dq, osq⟩, hw''⟩ := hw'
        have hb2 := D' dq osq
        rw [← hw''] at hb2
        clear hw'' D D' q1
        go_wp2_with fail
        go_ret
        exact ⟨rfl, hb2⟩
      | false =>
        have HD : Hid (∀ W, Below w.heap.size w W → Calls Tryd.prog 12 #[.string ⟨vpa.toArray⟩] W fun e W' => e = .returned (.string ⟨vpa.toArray⟩) ∧ Below W.heap.size W W') := fun W h => by
          have := HDA.out vpa W (hvl hpe) h
          rw [hdots hpe] at this
          exact this
        clear HDA hres m1 m2 e1 e2 p1 p2 v1 v2 hT hm l1 l2 hz hdots hvl
        obtain ⟨bsc, bho, bpa, bqu, bfr, bhs, bhh, bhq, bhf⟩ := b
        obtain ⟨rsc, rho, rpa, rqu, rfr, rhs, rhh, rhq, rhf⟩ := r
        simp only at hh hpe
        subst hh
        unfold noK at *
        unfold Lk.v at *
        simp only at *
        go_enter Tryd.func4, Tryd.ntmps4
        go_wp2_with fail
        (go_at_call 11; refine (H1.out _ (Below.refl _ _)).mono ?_; rintro e w1 ⟨rfl, b1⟩)
        go_wp2_with fail
        (go_at_call 11; refine (H2.out _ b1).mono ?_; rintro e w2 ⟨rfl, g2⟩)
        have b2 := b1.trans (g2.mono b1.size)
        clear g2
        go_wp2_with fail
        have hgw0 := b2.size
        obtain ⟨hKb, hKr, hB3⟩ := two_new w2 #[.string ⟨bsc.toArray⟩, .string ⟨bho.toArray⟩, .string ⟨bpa.toArray⟩, .string ⟨bqu.toArray⟩, .string ⟨bfr.toArray⟩, .bool bhs, .bool bhh, .bool bhq, .bool bhf] #[.string ⟨rsc.toArray⟩, .string ⟨rho.toArray⟩, .string ⟨rpa.toArray⟩, .string ⟨rqu.toArray⟩, .string ⟨rfr.toArray⟩, .bool false, .bool rhh, .bool rhq, .bool rhf] _ rfl
        have b3 := b2.trans (hB3.mono b2.size)
        (go_at_call 6; refine (H3.out _ b3).mono ?_; rintro e w4 ⟨rfl, g4⟩)
        have hKb4 := (hKb.below g4).alloc (.cells #[.string ⟨bsc.toArray⟩, .string ⟨vho.toArray⟩, .string ⟨vpa.toArray⟩, .string ⟨vqu.toArray⟩, .string ⟨rfr.toArray⟩, .bool bhs, .bool vhh, .bool vhq, .bool rhf] 24)
        have hKr4 := (hKr.below g4).alloc (.cells #[.string ⟨bsc.toArray⟩, .string ⟨vho.toArray⟩, .string ⟨vpa.toArray⟩, .string ⟨vqu.toArray⟩, .string ⟨rfr.toArray⟩, .bool bhs, .bool vhh, .bool vhq, .bool rhf] 24)
        have hKt4 := Blk.new w4 #[.string ⟨bsc.toArray⟩, .string ⟨vho.toArray⟩, .string ⟨vpa.toArray⟩, .string ⟨vqu.toArray⟩, .string ⟨rfr.toArray⟩, .bool bhs, .bool vhh, .bool vhq, .bool rhf] 24
        have b4 := (b3.trans (g4.mono b3.size)).alloc (b3.trans (g4.mono b3.size)).size (.cells #[.string ⟨bsc.toArray⟩, .string ⟨vho.toArray⟩, .string ⟨vpa.toArray⟩, .string ⟨vqu.toArray⟩, .string ⟨rfr.toArray⟩, .bool bhs, .bool vhh, .bool vhq, .bool rhf] 24)
        have hlt : w2.heap.size + 1 < w4.heap.size := (hKr.below g4).lt
        clear g4 hKb hKr hB3 b3 b2 b1
        obtain ⟨gt, hgt⟩ : ∃ gt, w4.heap.size = gt := ⟨_, rfl⟩
        rw [hgt] at hKt4 hlt
        go_upto_region 3 with fail
        generalize w4.alloc (.cells #[.string ⟨bsc.toArray⟩, .string ⟨vho.toArray⟩, .string ⟨vpa.toArray⟩, .string ⟨vqu.toArray⟩, .string ⟨rfr.toArray⟩, .bool bhs, .bool vhh, .bool vhq, .bool rhf] 24) = w5 at *
        clear hgt
        obtain ⟨g, hg⟩ : ∃ g, w2.heap.size = g := ⟨_, rfl⟩
        rw [hg] at hKb4 hKr4 hlt hgw0 ⊢
        have hgw := hgw0
        clear hg
        obtain ⟨c0, c1, c2, c3, c4, c5, c6, c7, c8, cz⟩ := hKb4.nine
        obtain ⟨d0, d1, d2, d3, d4, d5, d6, d7, d8, dz⟩ := hKr4.nine
        obtain ⟨e0, e1, e2, e3, e4, e5, e6, e7, e8, ez⟩ := hKt4.nine
        have nb1 : (bhs != bhs) = false := by simp
        have nb2 : (rhf != rhf) = false := by simp
        go_wp2_with fail
        have D : ∀ d os, Below w5.heap.size w5 (Go.Sort.grow (redrawn w5 d) os) := fun d os => below_regrown w5 d os
        have D' : ∀ d os, Below w.heap.size w (Go.Sort.grow (redrawn w5 d) os) := fun d os => b4.trans ((D d os).mono b4.size)
        have x0 := cell_regrown hKb4 0 _ rfl
        have x1 := cell_regrown hKb4 1 _ rfl
        have x2 := cell_regrown hKb4 2 _ rfl
        have x3 := cell_regrown hKb4 3 _ rfl
        have x4 := cell_regrown hKb4 4 _ rfl
        have x5 := cell_regrown hKb4 5 _ rfl
        have x6 := cell_regrown hKb4 6 _ rfl
        have x7 := cell_regrown hKb4 7 _ rfl
        have x8 := cell_regrown hKb4 8 _ rfl
        have y0 := cell_regrown hKr4 0 _ rfl
        have y1 := cell_regrown hKr4 1 _ rfl
        have y2 := cell_regrown hKr4 2 _ rfl
        have y3 := cell_regrown hKr4 3 _ rfl
        have y4 := cell_regrown hKr4 4 _ rfl
        have y5 := cell_regrown hKr4 5 _ rfl
        have y6 := cell_regrown hKr4 6 _ rfl
        have y7 := cell_regrown hKr4 7 _ rfl
        have y8 := cell_regrown hKr4 8 _ rfl
        have z0 := cell_regrown hKt4 0 _ rfl
        have z1 := cell_regrown hKt4 1 _ rfl
        have z2 := cell_regrown hKt4 2 _ rfl
        have z3 := cell_regrown hKt4 3 _ rfl
        have z4 := cell_regrown hKt4 4 _ rfl
        have z5 := cell_regrown hKt4 5 _ rfl
        have z6 := cell_regrown hKt4 6 _ rfl
        have z7 := cell_regrown hKt4 7 _ rfl
        have z8 := cell_regrown hKt4 8 _ rfl
        have q1 : ∀ d os, Calls Tryd.prog 12 #[.string ⟨vpa.toArray⟩] (Go.Sort.grow (redrawn w5 d) os) fun e w'' => e = .returned (.string ⟨vpa.toArray⟩) ∧ ∃ p : Regrown, w'' = Go.Sort.grow (redrawn w5 p.d) p.os := fun d os => Calls.regrown_of (HD.out _ (D' d os))
        have q2 : ∀ d os, Calls Tryd.prog 10 #[] (Go.Sort.grow (redrawn w5 d) os) fun e w'' => e = .returned (.bool true) ∧ ∃ p : Regrown, w'' = Go.Sort.grow (redrawn w5 p.d) p.os := fun d os => Calls.regrown_of (HA.out _ (D' d os))
        refine wp_region_quiet_below mixed (by kernel_rfl) ?_
        repeat (go_big_quiet_step (first | with_reducible exact q1 _ _ | with_reducible exact q2 _ _))
        refine wpQuiet_nil ?_
        intro _ hw'
        obtain ⟨⟨dq, osq⟩, hw''⟩ := hw'
        have hb2 := D' dq osq
        rw [← hw''] at hb2
        clear hw'' D D' q1 q2
        go_wp2_with fail
        go_ret
        exact ⟨rfl, hb2⟩
theorem walk (w : World) (hT : Tb w) (hm : MaxOk w) (s : ByteArray) (_hs0 : s.size ≤ 9223372036854775807) (hs : s.size ≤ 1048576) (t : ByteArray) (_ht0 : t.size ≤ 9223372036854775807) (ht : t.size ≤ 1048576) :
    Calls Tryd.prog 4 #[.string s, .string t] w fun e w' => e = .returned (.bool true) ∧ Below w.heap.size w w' := by
  have h := walk_on w hT hm s.data.toList t.data.toList (by rw [N.size_data]; exact hs) (by rw [N.size_data]; exact ht)
  rw [Lib.mk_data, Lib.mk_data] at h
  exact h

set_option maxRecDepth 100000 in
theorem contract (H : Type) (enc : TypeId × Value → H) (W : World) (base : Nat) (args : Array Value) (ds gs : List (DataW H)) (before : List MemPlace)
    (hval : ∀ (j : Nat) t v, Tryd.f4.params[j]? = some t → args[j]? = some v → Value.okWide Tryd.prog W .any base t v)
    (hW : DataW.Whole enc Tryd.prog Tryd.f4.params.toList Rows.linkRoadsSpec.vars false W args.toList ds gs before) (hL : laidMetH Tryd.prog Rows.linkRoadsUptoRow.laid W)(hsh : W.ShapedOpen Tryd.prog) (hk : Rows.uptoSmall H (ds ++ gs) = true) :
    Calls Tryd.prog 4 args W fun e W' => ∃ v, e = .returned v ∧ Rows.linkRoadsSpec.post enc Tryd.prog Tryd.f4 false true false false W args v W' := by
  have hW' := hW
  have hlt := hW.lt
  obtain ⟨p, q, hA0, hV, rfl, hfz, hnd⟩ := hW
  have hA : DataW.TrodAll enc Tryd.prog W 0 (fun _ => true) true Tryd.f4.params.toList args.toList ds p := hA0
  rw [Tryd.params4] at hA hval
  obtain ⟨v0, vs0, d0, ds0, p0, q0, hargs, rfl, rfl, h0, r0⟩ := trodAll_cons hA
  obtain ⟨v1, vs1, d1, ds1, p1, q1, rfl, rfl, rfl, h1, r1⟩ := trodAll_cons r0
  obtain ⟨rfl, rfl, rfl⟩ := trodAll_nil r1
  obtain rfl : args = #[v0, v1] := by cases args; simp_all
  obtain ⟨rfl, rfl⟩ := trodVars_none hV
  clear hA0
  simp only [List.append_nil] at hW' hlt hk
  have hbulk := of_decide_eq_true hk
  simp only [Rows.uptoBulkAll] at hbulk
  have h0' := h0
  obtain ⟨s0, rfl, rfl, e0, ws0⟩ := Go.ChangeMaps.open_string Tryd.underlying9 (hval 0 9 v0 rfl rfl) h0
  have h1' := h1
  obtain ⟨s1, rfl, rfl, e1, ws1⟩ := Go.ChangeMaps.open_string Tryd.underlying9 (hval 1 9 v1 rfl rfl) h1
  refine (walk W (tabs_of_laid hL) (Tryd.laysM145.s1_3 W hsh) s0 ws0 (by simp only [L.bulk_str, N.size_data] at hbulk; omega) s1 ws1 (by simp only [L.bulk_str, N.size_data] at hbulk; omega)).mono fun e W' ⟨he, hb⟩ => ?_
  subst he
  exact ⟨_, rfl, post_below hW' (fun _ _ _ => trodAll_cons_mk (shut_bool Tryd.underlying4 _) trodAll_mk0) (trodAll_cons_mk (stays (by kernel_rfl) (of_decide_eq_true (by kernel_rfl)) h0' hb (fun x hx => hlt x (by simp [hx]))) (trodAll_cons_mk (stays (by kernel_rfl) (of_decide_eq_true (by kernel_rfl)) h1' hb (fun x hx => hlt x (by simp [hx]))) trodAll_mk0)) rfl hb⟩

set_option maxRecDepth 100000 in
theorem laid_met (os : Os) : laidMet Tryd.prog Rows.linkRoadsUptoRow.laid ((withTabs (World.holding Tryd.prog os ⟨#[], #[], []⟩)).forCall (fun _ _ => 0) ⟨#[], #[Value.string ⟨#[]⟩, Value.string ⟨#[]⟩], []⟩).memory :=
  laidMet_of_run' 8 (by kernel_rfl) (by kernel_rfl)
set_option maxRecDepth 100000 in
theorem reads (os : Os) {H : Type} (enc : TypeId × Value → H) : ∃ places, DataW.whole enc Tryd.prog ((withTabs (World.holding Tryd.prog os ⟨#[], #[], []⟩)).forCall (fun _ _ => 0) ⟨#[], #[Value.string ⟨#[]⟩, Value.string ⟨#[]⟩], []⟩).memory Tryd.f4.params.toList Rows.linkRoadsSpec.vars false #[Value.string ⟨#[]⟩, Value.string ⟨#[]⟩].toList 8 = some ([.lit (.string []), .lit (.string [])], [], places) :=
  ⟨[], by kernel_rfl⟩

set_option maxRecDepth 100000 in
theorem lifted (os : Os) (started : os.Started) (H : Type) (enc : TypeId × Value → H) (F : Stop.Interp) :
    ReturnsInHanded {} Tryd.checked os 4 .any ((Rows.OpenSpec.upto Rows.linkRoadsSpec).preRow enc Tryd.prog Tryd.f4 Rows.linkRoadsUptoRow.domain false Rows.linkRoadsUptoRow.laid) (((Rows.OpenSpec.upto Rows.linkRoadsSpec).at F).post enc Tryd.prog Tryd.f4 false true false false) := by
  obtain ⟨places, hx⟩ := reads os enc
  refine returnsInHanded_of_row (C := Tryd.checked) (s := Rows.OpenSpec.upto Rows.linkRoadsSpec) own started (by kernel_rfl) Tryd.func4
    (witness_row_at (enc := enc) (C := Tryd.checked) false (withTabs (World.holding Tryd.prog os ⟨#[], #[], []⟩)) #[Value.string ⟨#[]⟩, Value.string ⟨#[]⟩] rfl (by kernel_rfl) (by kernel_rfl) (by kernel_rfl)
      (OpenSpec.preRow_of_cond 8 hx (by kernel_rfl) (fun k hk => by cases hk; kernel_rfl) (by kernel_rfl) (laid_met os))) ?_
  intro W base args ds gs before hval hW _ hcond _ hL hsh _
  exact contract H enc W base args ds gs before hval hW hL hsh (hcond _ rfl)

set_option maxRecDepth 100000 in
theorem said : Rows.LinkRoadsUptoSaid :=
  OpenClaim.holds_of_cond 4 Tryd.f4 rfl rfl rfl rfl rfl rfl rfl ⟨rfl, rfl, rfl, rfl, rfl⟩ rfl rfl rfl rfl rfl (by kernel_rfl) Tryd.func4 (by kernel_rfl)
    (of_decide_eq_true (by kernel_rfl)) (by unfold Func.isWrapper; first | (rw [if_pos (by decide +kernel)]; kernel_rfl) | (rw [if_neg (by decide +kernel)]; exact ⟨rfl, rfl⟩))
    (fun os started H enc _ F => by rw [OpenClaim.pre_eq_preRow]; exact lifted os started H enc F)

theorem plain (f : FuncId) (fn : Func) (hf : Tryd.pinned.checked.prog.funcNamed "sieve/sievelaw12.LinkRoads" = some f) (hfn : Tryd.pinned.checked.prog.funcs[f]? = some fn) :
    false = Tryd.pinned.checked.prog.looks [] ∧ ∀ (j : Nat) t, fn.params[j]? = some t → Tryd.pinned.checked.prog.wantsStandIn t = false := by
  obtain rfl : f = 4 := Option.some.inj ((show Tryd.prog.funcNamed "sieve/sievelaw12.LinkRoads" = some 4 by kernel_rfl).symm.trans hf) |>.symm
  obtain rfl : fn = Tryd.f4 := (Option.some.inj (Tryd.func4.symm.trans hfn)).symm
  refine ⟨by kernel_rfl, fun j t ht => ?_⟩
  rw [Tryd.params4] at ht
  have hm := Array.mem_of_getElem? ht
  simp only [List.mem_toArray, List.mem_cons, List.not_mem_nil, or_false] at hm
  rcases hm with rfl | rfl
  · exact (show Tryd.prog.wantsStandIn 9 = false by kernel_rfl)
  · exact (show Tryd.prog.wantsStandIn 9 = false by kernel_rfl)

theorem card : Rows.LinkRoadsUptoCardSaid :=
  Claim7.holds_tied_plain_at .later [] _ _ _ _ said (fun _ h => by cases h) (by kernel_rfl) (fun _ h => by cases h) linkRoadsUpto_row_tie rfl ⟨rfl, rfl⟩ (by kernel_rfl) rfl plain (by kernel_rfl)

end Go.Proofs.YthkigcpbckjhjaaDoor.LpRoads
