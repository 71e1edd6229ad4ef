/- What is proved here: the contract of value.Tidy at each kind, out of the contract of the kind's own rule. -/
import Derived.Lib.QuietBelow
import Derived.BigQuiet
import Derived.Deep.Cut
import Derived.Test.YtfbfigjjnpamiaaGreatDoorLkBlk
import Derived.Test.YtfbfigjjnpamiaaGreatDoorVWords
namespace Go.Proofs.YtfbfigjjnpamiaaGreatDoor.V
open Go.RowKit Go.Shelf Go.Proofs.YtfbfigjjnpamiaaGreatDoor.N Go.Proofs.YtfbfigjjnpamiaaGreatDoor.U Go.Proofs.YtfbfigjjnpamiaaGreatDoor.L

def ruleF : List FuncId := [45, 46, 47, 48, 49, 50, 51, 52, 53]
def rulesV : Value := .agg #[.func (.func 45) #[] #[], .func (.func 46) #[] #[], .func (.func 47) #[] #[], .func (.func 48) #[] #[], .func (.func 49) #[] #[], .func (.func 50) #[] #[], .func (.func 51) #[] #[], .func (.func 52) #[] #[], .func (.func 53) #[] #[]]
def noRules : Array Value := #[.nilFunc, .nilFunc, .nilFunc, .nilFunc, .nilFunc, .nilFunc, .nilFunc, .nilFunc, .nilFunc]
theorem results_rules {tmps : Array Value} {W : World} {A : Nat} {v0 v1 v2 v3 v4 v5 v6 v7 v8 : Value} {t : TypeId} (h2 : tmps[0]?.getD undef = .pointer (some ⟨A, 0, none⟩)) (h : Blk W A #[v0, v1, v2, v3, v4, v5, v6, v7, v8] t) :
    (results Tryz.f32 tmps).run Tryz.prog W = .ok (.agg #[v0, v1, v2, v3, v4, v5, v6, v7, v8]) W := by
  obtain ⟨c0, c1, c2, c3, c4, c5, c6, c7, c8, -⟩ := h.nine
  simp [results, Tryz.results32, go_sem, h2, c0, c1, c2, c3, c4, c5, c6, c7, c8]
set_option maxRecDepth 100000 in
set_option maxHeartbeats 2000000 in
theorem rules_calls (w : World) : Calls Tryz.prog 32 #[] w fun e w' => e = .returned rulesV ∧ Below w.heap.size w w' := by
  have hb0 : Below w.heap.size w (w.alloc (.cells noRules 58)) := (Below.refl _ w).alloc (Nat.le_refl _) _
  have HK := Blk.new w noRules 58
  obtain ⟨W, hW⟩ : ∃ W, w.alloc (.cells noRules 58) = W := ⟨_, rfl⟩
  rw [hW] at hb0 HK
  unfold noRules at hW HK
  have HW := hid_of hW
  obtain ⟨c0, c1, c2, c3, c4, c5, c6, c7, c8, hfz⟩ := HK.nine
  have HKH := hid_of HK
  clear hW HK
  go_enter Tryz.func32, Tryz.ntmps32
  go_upto_region 1 with fail
  rw [HW.out]
  have hst : ∀ (a : Addr) (n : FuncId) (m : Mode) (u : World), (store a (.func (.func n) #[] #[]) m).run Tryz.prog u = stored Tryz.prog u a (.func (.func n) #[] #[]) m := fun a n m u => run_store Tryz.prog u a _ m rfl
  go_wp2
  exact bodyPost_ret (results_rules rfl (Blk.put9 HKH.out _ _ _ _ _ _ _ _ _)) rfl ⟨rfl, below_put9 hb0 (Nat.le_refl _) _ _ _ _ _ _ _ _ _⟩
set_option maxRecDepth 100000 in
theorem rule_at (k : Nat) (f : FuncId) (hf : ruleF[k]? = some f) (w : World) : (Instr.index 58 rulesV (.int .i64 k)).run Tryz.prog w = .ok (.func (.func f) #[] #[]) w := by
  obtain ⟨i0, hi, hz⟩ : ∃ i, Tryz.prog.info? 57 = some i ∧ i.size = 1 := ⟨_, Option.eq_some_of_isSome (by kernel_rfl), by kernel_rfl⟩
  have hk : k < 9 := (List.getElem?_eq_some_iff.1 hf).1
  have hks : k = 0 ∨ k = 1 ∨ k = 2 ∨ k = 3 ∨ k = 4 ∨ k = 5 ∨ k = 6 ∨ k = 7 ∨ k = 8 := by omega
  rcases hks with rfl | rfl | rfl | rfl | rfl | rfl | rfl | rfl | rfl
  all_goals
    obtain rfl := Option.some.inj hf
    simp [rulesV, Instr.index, run_underlying Tryz.underlying58, asIntOf, sizeOf, typeInfo, hi, hz, Go.part, Tryz.isAgg57, go_sem]
theorem cell_regrown {W : World} {B : Nat} {cs : Array Value} {t : TypeId} (h : Blk W B cs t) (j : Nat) (v : Value) (hj : cs[j]? = some v) (d : Nat) (os : Array Obj) : (Go.Sort.grow (redrawn W d) os).cell? ⟨B, j, none⟩ = some v := by
  have := (h.below (below_regrown W d os)).cell j
  rw [this, hj]
set_option maxRecDepth 100000 in
set_option maxHeartbeats 4000000 in
/-- **Tidy at one of the kinds.** -/
theorem tidy_at (k : Nat) (f : FuncId) (hf : ruleF[k]? = some f) (nm : ByteArray) (wa sa : Option Addr) (wn wc sn sc : Nat) (rel : Bool) (v : List UInt8) (w : World) (hT : Tb w) (hl : v.length ≤ 10000000000) (T : ByteArray) (ok : Bool)
    (he : ∀ args W, (callFunc f args).run Tryz.prog W = .ok (.enter f args) W)
    (hC : ∀ W, Below w.heap.size w W → Calls Tryz.prog f #[.agg #[.string ⟨(clB v).toArray⟩, .slice wa wn wc, .slice sa sn sc, .bool rel]] W fun e W' => e = .returned (.tuple #[.string T, .bool ok]) ∧ Below W.heap.size W W') :
    Calls Tryz.prog 20 #[.agg #[.string nm, .int .i64 k, .slice wa wn wc], .slice sa sn sc, .bool rel, .string ⟨v.toArray⟩] w fun e W' => e = .returned (.tuple #[.string T, .bool ok, .int .i64 0]) ∧ Below w.heap.size w W' := by
  have mixed : Tryz.prog.follows .mixedOrders = true := by kernel_rfl
  have hk : k < 9 := (List.getElem?_eq_some_iff.1 hf).1
  have hix := rule_at k f hf
  have k0 : decide ((k : Int) < 0) = false := by rw [decide_eq_false_iff_not]; omega
  have k8 : decide ((k : Int) > 8) = false := by rw [decide_eq_false_iff_not]; omega
  obtain ⟨W1, hW1⟩ : ∃ W1, w.alloc (.cells #[.string nm, .int .i64 k, .slice wa wn wc] 39) = W1 := ⟨_, rfl⟩
  have HB1 : Hid (Below w.heap.size w W1) := by rw [← hW1]; exact (Below.refl _ w).alloc (Nat.le_refl _) _
  have HK1 : Hid (Blk W1 w.heap.size #[.string nm, .int .i64 k, .slice wa wn wc] 39) := by rw [← hW1]; exact Blk.new w _ _
  have D : ∀ d os, Below W1.heap.size W1 (Go.Sort.grow (redrawn W1 d) os) := fun d os => below_regrown W1 d os
  have D' : ∀ d os, Below w.heap.size w (Go.Sort.grow (redrawn W1 d) os) := fun d os => HB1.out.trans ((D d os).mono HB1.out.size)
  have q1 : ∀ d os, Calls Tryz.prog 32 #[] (Go.Sort.grow (redrawn W1 d) os) fun e w'' => e = .returned rulesV ∧ ∃ p : Regrown, w'' = Go.Sort.grow (redrawn W1 p.d) p.os := fun d os => Calls.regrown_of (rules_calls _)
  have x0 : W1.cell? ⟨w.heap.size, 0, none⟩ = some (.string nm) := HK1.out.cell 0
  have x1 : W1.cell? ⟨w.heap.size, 1, none⟩ = some (.int .i64 k) := HK1.out.cell 1
  have x2 : W1.cell? ⟨w.heap.size, 2, none⟩ = some (.slice wa wn wc) := HK1.out.cell 2
  have y1 := cell_regrown HK1.out 1 _ rfl
  have HW1 := hid_of hW1
  have HC := hid_of hC
  have HT := hid_of hT
  obtain ⟨R, hR⟩ : ∃ R, rulesV = R := ⟨_, rfl⟩
  rw [hR] at hix q1
  clear hW1 hC hT hf hR hk
  go_enter Tryz.func20, Tryz.ntmps20
  go_upto_region 1 with fail
  rw [HW1.out]
  go_upto_region 3 with fail
  clear x0 x1 x2
  refine wp_region_quiet_below mixed (by kernel_rfl) ?_
  repeat (go_big_quiet_step (with_reducible exact q1 _ _))
  refine wpQuiet_nil ?_
  intro _ hw'
  obtain ⟨⟨dq, osq⟩, rfl⟩ := hw'
  have hb2 := D' dq osq
  have hk2 := HK1.out.below (D dq osq)
  obtain ⟨W2, hW2⟩ : ∃ W2, Go.Sort.grow (redrawn W1 dq) osq = W2 := ⟨_, rfl⟩
  simp only [hW2] at hb2 hk2 ⊢
  clear hW2 q1 D D' y1 HB1 HK1
  have D : ∀ d os, Below W2.heap.size W2 (Go.Sort.grow (redrawn W2 d) os) := fun d os => below_regrown W2 d os
  have D' : ∀ d os, Below w.heap.size w (Go.Sort.grow (redrawn W2 d) os) := fun d os => hb2.trans ((D d os).mono hb2.size)
  have q1 : ∀ d os, Calls Tryz.prog 24 #[.string ⟨v.toArray⟩] (Go.Sort.grow (redrawn W2 d) os) fun e w'' => e = .returned (.string ⟨(clB v).toArray⟩) ∧ ∃ p : Regrown, w'' = Go.Sort.grow (redrawn W2 p.d) p.os := fun d os => Calls.regrown_of (clean_calls v _ (HT.out.below (D' d os)) hl)
  have q2 : ∀ d os, Calls Tryz.prog f #[.agg #[.string ⟨(clB v).toArray⟩, .slice wa wn wc, .slice sa sn sc, .bool rel]] (Go.Sort.grow (redrawn W2 d) os) fun e w'' => e = .returned (.tuple #[.string T, .bool ok]) ∧ ∃ p : Regrown, w'' = Go.Sort.grow (redrawn W2 p.d) p.os := fun d os => Calls.regrown_of (HC.out _ (D' d os))
  have y2 := cell_regrown hk2 2 _ rfl
  go_wp2_with fail
  refine wp_region_quiet_below mixed (by kernel_rfl) ?_
  repeat (go_big_quiet_step (first | with_reducible exact q1 _ _ | with_reducible exact q2 _ _))
  refine wpQuiet_nil ?_
  intro _ hw'
  obtain ⟨⟨dr, osr⟩, hw''⟩ := hw'
  have hb3 := D' dr osr
  rw [← hw''] at hb3
  clear hw'' q1 q2 D D' y2 mixed
  go_wp2_with fail
  go_ret3
  exact ⟨rfl, hb3⟩
end Go.Proofs.YtfbfigjjnpamiaaGreatDoor.V
