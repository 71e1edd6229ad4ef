/- What is proved here: Same of sieveref07 says yes to the same tokens, with or without their places. -/
import Derived.Test.YtelfejbhlolppaaDoorTRMerge
import Derived.Lib.QuietBelow
import Derived.BigQuiet
namespace Go.Proofs.YtelfejbhlolppaaDoor.T
open Go.RowKit N

theorem three_of {α : Type} {l : List α} (h : l.length = 3) : ∃ a b c, l = [a, b, c] := by
  match l, h with
  | [a, b, c], _ => exact ⟨a, b, c, rfl⟩
theorem part_int {cs : Array Value} {k : Nat} {v : Value} (w : World) (h : cs[k]? = some v) : (part 3 cs k).run Tryd.prog w = .ok v w := by
  have ha : (isAgg 3).run Tryd.prog w = .ok false w := by kernel_rfl
  simp [part, ha, Result.andThen, h]
theorem eq_place_in (d : Nat) (a b c : Int) (w : World) : (Op.equalIn (d + 2) 26 (.agg #[.int .i64 a, .int .i64 b, .int .i64 c]) (.agg #[.int .i64 a, .int .i64 b, .int .i64 c])).run Tryd.prog w = .ok true w := by
  have e1 : ((Tryd.prog.fieldsOf 26).toList.map fun f => (f.type, f.offset)) = [(3, 0), (3, 1), (3, 2)] := by kernel_rfl
  have e2 : ((Tryd.prog.fieldsOf 26).toList.map fun f => (f.name == "_")) = [false, false, false] := by kernel_rfl
  obtain ⟨f0, f1, f2, hf⟩ : ∃ f0 f1 f2 : Field, (Tryd.prog.fieldsOf 26).toList = [f0, f1, f2] := by
    have h2 : (Tryd.prog.fieldsOf 26).toList.length = 3 := by kernel_rfl
    exact three_of h2
  rw [hf] at e1 e2
  simp only [List.map_cons, List.map_nil, List.cons.injEq, Prod.mk.injEq, and_true, beq_eq_false_iff_ne] at e1 e2
  obtain ⟨⟨h0, o0⟩, ⟨h1, o1⟩, h2, o2⟩ := e1
  obtain ⟨m0, m1, m2⟩ := e2
  have hu : Tryd.prog.underlying 3 = some (.int .i64) := by kernel_rfl
  rw [run_equalIn_struct w (d + 1) 26 _ _ (by kernel_rfl) (by kernel_rfl), hf]
  unfold Op.eqFields
  rw [if_pos m0, h0, o0]
  simp only [Sem.run_bind]
  rw [part_int w (v := .int .i64 a) rfl]
  simp only [Result.andThen_ok]
  rw [part_int w (v := .int .i64 a) rfl]
  simp only [Result.andThen_ok]
  rw [run_equalIn_int w d 3 .i64 .i64 a a hu]
  simp only [Result.andThen_ok, beq_self_eq_true, Bool.not_true, Bool.false_eq_true, if_false]
  unfold Op.eqFields
  rw [if_pos m1, h1, o1]
  simp only [Sem.run_bind]
  rw [part_int w (v := .int .i64 b) rfl]
  simp only [Result.andThen_ok]
  rw [part_int w (v := .int .i64 b) rfl]
  simp only [Result.andThen_ok]
  rw [run_equalIn_int w d 3 .i64 .i64 b b hu]
  simp only [Result.andThen_ok, beq_self_eq_true, Bool.not_true, Bool.false_eq_true, if_false]
  unfold Op.eqFields
  rw [if_pos m2, h2, o2]
  simp only [Sem.run_bind]
  rw [part_int w (v := .int .i64 c) rfl]
  simp only [Result.andThen_ok]
  rw [part_int w (v := .int .i64 c) rfl]
  simp only [Result.andThen_ok]
  rw [run_equalIn_int w d 3 .i64 .i64 c c hu]
  simp only [Result.andThen_ok, beq_self_eq_true, Bool.not_true, Bool.false_eq_true, if_false]
  unfold Op.eqFields
  simp
theorem neq_place (a b c : Int) (w : World) : (binOp .neq 26 (.agg #[.int .i64 a, .int .i64 b, .int .i64 c]) (.agg #[.int .i64 a, .int .i64 b, .int .i64 c])).run Tryd.prog w = .ok (.bool false) w := by
  rw [run_neq_struct, eq_place_in 9998 a b c w]; rfl

set_option maxRecDepth 100000 in
set_option maxHeartbeats 4000000 in
/-- **The same tokens are the same.** -/
theorem samel_calls (L : TL) (v v' : Value) (w : World) (p : Bool) (hH : HasT w v L) (hH' : HasT w v' L) (hbk : bulkL L ≤ 1048576) :
    Calls Tryd.prog 18 #[v, v', .bool p] w fun e w' => e = .returned (.bool true) ∧ Below w.heap.size w w' := by
  obtain ⟨va, vc, rfl⟩ := hH.slice
  obtain ⟨va', vc', rfl⟩ := hH'.slice
  have HS : Hid (HasT w (.slice va L.length vc) L) := hH
  have HS' : Hid (HasT w (.slice va' L.length vc') L) := hH'
  have hLn := bulkL_len L
  have hll : (L.length : Int) ≤ 1048576 := by omega
  clear hH hH'
  go_enter Tryd.func18, Tryd.ntmps18
  go_wp2
  go_loopw [7, 15] (fun _ i wr => ∃ k : Nat, k ≤ L.length ∧ i = .int .i64 k ∧ Hid (Below w.heap.size w wr)) (fun _ i _ => L.length - (intOf i).toNat)
  case atStart => exact ⟨0, by omega, rfl, Below.refl _ _⟩
  case round =>
    obtain ⟨k, hk, rfl, hB⟩ := hrel
    have hzr := hB.out.size
    by_cases hlt : k < L.length
    · obtain ⟨tb, off, rfl, av, d0, d1, d2, d3, d4, d5, d6, d7, hA⟩ := (HS.out.below hB.out).at k hlt
      obtain ⟨tb', off', rfl, av', e0, e1, e2, e3, e4, e5, e6, e7, hA'⟩ := (HS'.out.below hB.out).at k hlt
      have hbt := bulkL_at L k hlt
      rcases hx : L[k] with ⟨t, l⟩
      rw [hx] at d0 d1 d2 d4 d5 d6 d7 hA e0 e1 e2 e4 e5 e6 e7 hA' hbt
      simp only at d0 d1 d2 d4 d5 d6 d7 hA e0 e1 e2 e4 e5 e6 e7 hA'
      unfold bulkT at hbt
      simp only at hbt
      clear hx
      have hl : (l.length : Int) ≤ 1000000000000 := by omega
      have EC : Hid (∀ W, Below wr.heap.size wr W → Calls Tryd.prog 13 #[t.val av, t.val av'] W fun e w' => e = .returned (.bool true) ∧ Below W.heap.size W w') := fun W hb => by
        have h := requal_calls t t l l av av' W (hA.below hb) (hA'.below hb) hl
        rw [eqTok_self] at h; exact h
      unfold T.Tok.val at EC
      obtain ⟨aa, ac, rfl⟩ := hA.slice
      obtain ⟨aa', ac', rfl⟩ := hA'.slice
      have D : ∀ d os, Below wr.heap.size wr (Go.Sort.grow (redrawn wr d) os) := fun d os => below_regrown wr d os
      have x0 : ∀ d os, (Go.Sort.grow (redrawn wr d) os).cell? ⟨tb, off + k * 8, none⟩ = some (.int .i64 t.kind) := fun d os => cell_regrown d0 d os
      have x1 : ∀ d os, (Go.Sort.grow (redrawn wr d) os).cell? ⟨tb, off + k * 8 + 1, none⟩ = some (.string t.name) := fun d os => cell_regrown d1 d os
      have x2 : ∀ d os, (Go.Sort.grow (redrawn wr d) os).cell? ⟨tb, off + k * 8 + 2, none⟩ = some (.string t.text) := fun d os => cell_regrown d2 d os
      have x3 : ∀ d os, (Go.Sort.grow (redrawn wr d) os).cell? ⟨tb, off + k * 8 + 3, none⟩ = some (.slice aa l.length ac) := fun d os => cell_regrown d3 d os
      have x4 : ∀ d os, (Go.Sort.grow (redrawn wr d) os).cell? ⟨tb, off + k * 8 + 4, none⟩ = some (.bool t.self) := fun d os => cell_regrown d4 d os
      have x5 : ∀ d os, (Go.Sort.grow (redrawn wr d) os).cell? ⟨tb, off + k * 8 + 5, none⟩ = some (.int .i64 t.p0) := fun d os => cell_regrown d5 d os
      have x6 : ∀ d os, (Go.Sort.grow (redrawn wr d) os).cell? ⟨tb, off + k * 8 + 6, none⟩ = some (.int .i64 t.p1) := fun d os => cell_regrown d6 d os
      have x7 : ∀ d os, (Go.Sort.grow (redrawn wr d) os).cell? ⟨tb, off + k * 8 + 7, none⟩ = some (.int .i64 t.p2) := fun d os => cell_regrown d7 d os
      have y0 : ∀ d os, (Go.Sort.grow (redrawn wr d) os).cell? ⟨tb', off' + k * 8, none⟩ = some (.int .i64 t.kind) := fun d os => cell_regrown e0 d os
      have y1 : ∀ d os, (Go.Sort.grow (redrawn wr d) os).cell? ⟨tb', off' + k * 8 + 1, none⟩ = some (.string t.name) := fun d os => cell_regrown e1 d os
      have y2 : ∀ d os, (Go.Sort.grow (redrawn wr d) os).cell? ⟨tb', off' + k * 8 + 2, none⟩ = some (.string t.text) := fun d os => cell_regrown e2 d os
      have y3 : ∀ d os, (Go.Sort.grow (redrawn wr d) os).cell? ⟨tb', off' + k * 8 + 3, none⟩ = some (.slice aa' l.length ac') := fun d os => cell_regrown e3 d os
      have y4 : ∀ d os, (Go.Sort.grow (redrawn wr d) os).cell? ⟨tb', off' + k * 8 + 4, none⟩ = some (.bool t.self) := fun d os => cell_regrown e4 d os
      have y5 : ∀ d os, (Go.Sort.grow (redrawn wr d) os).cell? ⟨tb', off' + k * 8 + 5, none⟩ = some (.int .i64 t.p0) := fun d os => cell_regrown e5 d os
      have y6 : ∀ d os, (Go.Sort.grow (redrawn wr d) os).cell? ⟨tb', off' + k * 8 + 6, none⟩ = some (.int .i64 t.p1) := fun d os => cell_regrown e6 d os
      have y7 : ∀ d os, (Go.Sort.grow (redrawn wr d) os).cell? ⟨tb', off' + k * 8 + 7, none⟩ = some (.int .i64 t.p2) := fun d os => cell_regrown e7 d os
      have q : ∀ d os, Calls Tryd.prog 13 #[.agg #[.int .i64 t.kind, .string t.name, .string t.text, .slice aa l.length ac, .bool t.self, .int .i64 t.p0, .int .i64 t.p1, .int .i64 t.p2], .agg #[.int .i64 t.kind, .string t.name, .string t.text, .slice aa' l.length ac', .bool t.self, .int .i64 t.p0, .int .i64 t.p1, .int .i64 t.p2]] (Go.Sort.grow (redrawn wr d) os) fun e w'' => e = .returned (.bool true) ∧ ∃ p : Regrown, w'' = Go.Sort.grow (redrawn wr p.d) p.os := fun d os => Calls.regrown_of (EC.out _ (D d os))
      have hnp : ∀ w, (binOp .neq 26 (.agg #[.int .i64 t.p0, .int .i64 t.p1, .int .i64 t.p2]) (.agg #[.int .i64 t.p0, .int .i64 t.p1, .int .i64 t.p2])).run Tryd.prog w = .ok (.bool false) w := neq_place t.p0 t.p1 t.p2
      have hgd : Tryd.prog.eqGuardType Tryd.prog.depth 26 = false := by kernel_rfl
      have mixed : Tryd.prog.follows .mixedOrders = true := by kernel_rfl
      clear hA hA' hbt
      cases p
      all_goals
        go_wp2_with fail
        refine wp_region_quiet_below mixed (by kernel_rfl) ?_
        repeat (go_big_quiet_step (with_reducible exact q _ _))
        refine wpQuiet_nil ?_
        intro _ hw'
        obtain ⟨⟨dq, osq⟩, hw''⟩ := hw'
        have hb2 : Below wr.heap.size wr (Go.Sort.grow (redrawn wr dq) osq) := D dq osq
        rw [← hw''] at hb2
        clear hw'' q D mixed x0 x1 x2 x3 x4 x5 x6 x7 y0 y1 y2 y3 y4 y5 y6 y7 d0 d1 d2 d3 d4 d5 d6 d7 e0 e1 e2 e3 e4 e5 e6 e7
        have HB2 : Hid (Below w.heap.size w _) := hB.out.trans (hb2.mono hzr)
        clear hb2
        go_wp2
        all_goals first
          | exact ⟨⟨k + 1, by omega, by go_num, HB2⟩, by simp [intOf]; omega⟩
          | (go_roundw
             case rel => exact ⟨k + 1, by omega, by go_num, HB2⟩
             case measure => simp [intOf]; omega)
          | trace_state
    · obtain rfl : k = L.length := by omega
      go_wp2
      go_ret
      exact ⟨rfl, hB.out⟩
end Go.Proofs.YtelfejbhlolppaaDoor.T
