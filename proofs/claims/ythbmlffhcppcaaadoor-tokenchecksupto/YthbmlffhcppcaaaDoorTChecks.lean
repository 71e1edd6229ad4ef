/- What is proved here: the statement TokenChecks (Check, Equal and Attr of any tokens are the document's) holds for any tokens and any name, where the arguments hold at most 1048576 values together, with no other condition but what the card says of the table of words. -/
import Derived.Test.YthbmlffhcppcaaaDoorCards
import Derived.Test.YthbmlffhcppcaaaDoorTie
import Derived.Test.YthbmlffhcppcaaaDoorTOpen
import Derived.Lib.QuietBelow
import Derived.BigQuiet
namespace Go.Proofs.YthbmlffhcppcaaaDoor.TChecks
open Go.ChangeShapes Go.WideShapes Go.ChangeAt Go.RowKit T N

set_option maxRecDepth 100000 in
set_option maxHeartbeats 4000000 in
theorem walk (w : World) (hT : Words w) (ta : T.Tok) (la : AL) (av : Value) (hA : HasA w av la) (hza : ta.name.size + ta.text.size + (la.length + sumA la) + 1 ≤ 1048576) (tb : T.Tok) (lb : AL) (bv : Value) (hB : HasA w bv lb) (hzb : tb.name.size + tb.text.size + (lb.length + sumA lb) + 1 ≤ 1048576) (name : ByteArray) (_wn : name.size ≤ maxLen) (_hn : name.size ≤ 1048576) :
    Calls Tryd.prog 4 #[ta.val av, tb.val bv, .string name] w fun e w' => e = .returned (.bool true) ∧ Below w.heap.size w w' := by
  obtain ⟨sa1, sa2, sa3⟩ := sizes_of (Nat.le_refl _) hza
  obtain ⟨sb1, sb2, sb3⟩ := sizes_of (Nat.le_refl _) hzb
  have hla := sa1.1
  have LV : Hid (∀ W, Below w.heap.size w W → Calls Tryd.prog 9 #[] W fun e w' => e = .returned (.bool true) ∧ Below W.heap.size W w') := fun W hb => lives_calls W (hT.below hb)
  have HA : Hid (HasA w av la) := hA
  have K1 : Hid (∀ W, Below w.heap.size w W → Calls Tryd.prog 10 #[ta.val av] W fun e w' => e = .returned (.int .i64 (okZ (checkB ta la))) ∧ Below W.heap.size W w') := fun W hb => check_calls ta la av W (hA.below hb) sa1 sa2
  have K2 : Hid (∀ W, Below w.heap.size w W → Calls Tryd.prog 11 #[ta.val av] W fun e w' => e = .returned (.bool (checkB ta la)) ∧ Below W.heap.size W w') := fun W hb => may_calls ta la av W (hA.below hb) sa1 sa2
  have K3 : Hid (∀ W, Below w.heap.size w W → Calls Tryd.prog 12 #[ta.val av, tb.val bv] W fun e w' => e = .returned (.bool (eqTok ta la tb lb)) ∧ Below W.heap.size W w') := fun W hb => tequal_calls ta tb la lb av bv W (hA.below hb) (hB.below hb) hla
  have K4 : Hid (∀ W, Below w.heap.size w W → Calls Tryd.prog 13 #[ta.val av, tb.val bv] W fun e w' => e = .returned (.bool (eqTok ta la tb lb)) ∧ Below W.heap.size W w') := fun W hb => requal_calls ta tb la lb av bv W (hA.below hb) (hB.below hb) hla
  have K5 : Hid (∀ W, Below w.heap.size w W → Calls Tryd.prog 12 #[ta.val av, ta.val av] W fun e w' => e = .returned (.bool true) ∧ Below W.heap.size W w') := fun W hb => by
    have h := tequal_calls ta ta la la av av W (hA.below hb) (hA.below hb) hla
    rw [eqTok_self] at h; exact h
  have K6 : Hid (∀ W, Below w.heap.size w W → Calls Tryd.prog 14 #[ta.val av, .string name] W fun e w' => e = .returned (.tuple #[.string (attrV la name).1, .bool (attrV la name).2]) ∧ Below W.heap.size W w') := fun W hb => attr_calls ta la av name W (hA.below hb) hla
  obtain ⟨E, hE⟩ : ∃ E, eqTok ta la tb lb = E := ⟨_, rfl⟩
  obtain ⟨aa, ac, rfl⟩ := hA.slice
  obtain ⟨V, F, hVF⟩ : ∃ V F, attrV la name = (V, F) := ⟨_, _, rfl⟩
  have HVF : Hid (attrV la name = (V, F)) := hVF
  rw [hVF] at K6
  rw [hE] at K3 K4
  clear hVF hE hT hA hB hza hzb sa1 sa2 sa3 sb1 sb2 sb3
  unfold T.Tok.val at *
  obtain ⟨kind, tname, text, self, p0, p1, p2⟩ := ta
  obtain ⟨kind', tname', text', self', p0', p1', p2'⟩ := tb
  simp only at K1 K2 K3 K4 K5 K6 ⊢
  have hP : ∃ P c, (∀ W, Below w.heap.size w W → Calls Tryd.prog 10 #[.agg #[.int .i64 kind, .string tname, .string text, .slice aa la.length ac, .bool self, .int .i64 p0, .int .i64 p1, .int .i64 p2]] W fun e w' => e = .returned (.int .i64 c) ∧ Below W.heap.size W w') ∧ (∀ W, Below w.heap.size w W → Calls Tryd.prog 11 #[.agg #[.int .i64 kind, .string tname, .string text, .slice aa la.length ac, .bool self, .int .i64 p0, .int .i64 p1, .int .i64 p2]] W fun e w' => e = .returned (.bool P) ∧ Below W.heap.size W w') ∧ ((P = true ∧ c = 0) ∨ (P = false ∧ c = 70)) := by
    refine ⟨_, _, K1.out, K2.out, ?_⟩
    cases checkB _ la
    · exact .inr ⟨rfl, rfl⟩
    · exact .inl ⟨rfl, rfl⟩
  obtain ⟨P, c, k1, k2, hPc⟩ := hP
  have KC : Hid (∀ W, Below w.heap.size w W → Calls Tryd.prog 10 #[.agg #[.int .i64 kind, .string tname, .string text, .slice aa la.length ac, .bool self, .int .i64 p0, .int .i64 p1, .int .i64 p2]] W fun e w' => e = .returned (.int .i64 c) ∧ Below W.heap.size W w') := k1
  have KM : Hid (∀ W, Below w.heap.size w W → Calls Tryd.prog 11 #[.agg #[.int .i64 kind, .string tname, .string text, .slice aa la.length ac, .bool self, .int .i64 p0, .int .i64 p1, .int .i64 p2]] W fun e w' => e = .returned (.bool P) ∧ Below W.heap.size W w') := k2
  clear k1 k2 K1 K2
  obtain ⟨W0, hW0⟩ : ∃ W0, w.alloc (.cells #[.int .i64 kind, .string tname, .string text, .slice aa la.length ac, .bool self, .int .i64 p0, .int .i64 p1, .int .i64 p2] 28) = W0 := ⟨_, rfl⟩
  have hz0 : W0.heap.size = w.heap.size + 1 := by rw [← hW0]; simp
  obtain ⟨W1, hW1⟩ : ∃ W1, W0.alloc (.cells #[.int .i64 kind', .string tname', .string text', bv, .bool self', .int .i64 p0', .int .i64 p1', .int .i64 p2'] 28) = W1 := ⟨_, rfl⟩
  have hz1 : W1.heap.size = w.heap.size + 2 := by rw [← hW1]; simp; omega
  have b0 : Below w.heap.size w W0 := by rw [← hW0]; exact (Below.refl _ w).alloc (Nat.le_refl _) _
  have b1 : Below W0.heap.size W0 W1 := by rw [← hW1]; exact (Below.refl _ W0).alloc (Nat.le_refl _) _
  have hT0 : W1.heap[w.heap.size]? = some (.cells #[.int .i64 kind, .string tname, .string text, .slice aa la.length ac, .bool self, .int .i64 p0, .int .i64 p1, .int .i64 p2] 28 (0, 0)) := (b1.block w.heap.size (by omega)).trans (by rw [← hW0]; exact new_at _ _ _)
  have hT1 : W1.heap[w.heap.size + 1]? = some (.cells #[.int .i64 kind', .string tname', .string text', bv, .bool self', .int .i64 p0', .int .i64 p1', .int .i64 p2'] 28 (0, 0)) := by rw [← hz0, ← hW1]; exact new_at _ _ _
  have HB1 : Hid (Below w.heap.size w W1) := b0.trans (b1.mono b0.size)
  have HT0 : Hid (W1.heap[w.heap.size]? = some (.cells #[.int .i64 kind, .string tname, .string text, .slice aa la.length ac, .bool self, .int .i64 p0, .int .i64 p1, .int .i64 p2] 28 (0, 0))) := hT0
  -- the first test: five calls, in any order
  have mixed : Tryd.prog.follows .mixedOrders = true := by kernel_rfl
  have D : ∀ d os, Below W1.heap.size W1 (Go.Sort.grow (redrawn W1 d) os) := fun d os => below_regrown W1 d os
  have D' : ∀ d os, Below w.heap.size w (Go.Sort.grow (redrawn W1 d) os) := fun d os => HB1.out.trans ((D d os).mono HB1.out.size)
  have x0 : ∀ d os, (Go.Sort.grow (redrawn W1 d) os).cell? ⟨w.heap.size, 0, none⟩ = some (.int .i64 kind) := fun d os => cell_regrown (cell_at hT0) d os
  have x1 : ∀ d os, (Go.Sort.grow (redrawn W1 d) os).cell? ⟨w.heap.size, 1, none⟩ = some (.string tname) := fun d os => cell_regrown (cell_at hT0) d os
  have x2 : ∀ d os, (Go.Sort.grow (redrawn W1 d) os).cell? ⟨w.heap.size, 2, none⟩ = some (.string text) := fun d os => cell_regrown (cell_at hT0) d os
  have x3 : ∀ d os, (Go.Sort.grow (redrawn W1 d) os).cell? ⟨w.heap.size, 3, none⟩ = some (.slice aa la.length ac) := fun d os => cell_regrown (cell_at hT0) d os
  have x4 : ∀ d os, (Go.Sort.grow (redrawn W1 d) os).cell? ⟨w.heap.size, 4, none⟩ = some (.bool self) := fun d os => cell_regrown (cell_at hT0) d os
  have x5 : ∀ d os, (Go.Sort.grow (redrawn W1 d) os).cell? ⟨w.heap.size, 5, none⟩ = some (.int .i64 p0) := fun d os => cell_regrown (cell_at hT0) d os
  have x6 : ∀ d os, (Go.Sort.grow (redrawn W1 d) os).cell? ⟨w.heap.size, 6, none⟩ = some (.int .i64 p1) := fun d os => cell_regrown (cell_at hT0) d os
  have x7 : ∀ d os, (Go.Sort.grow (redrawn W1 d) os).cell? ⟨w.heap.size, 7, none⟩ = some (.int .i64 p2) := fun d os => cell_regrown (cell_at hT0) d os
  have y0 : ∀ d os, (Go.Sort.grow (redrawn W1 d) os).cell? ⟨w.heap.size + 1, 0, none⟩ = some (.int .i64 kind') := fun d os => cell_regrown (cell_at hT1) d os
  have y1 : ∀ d os, (Go.Sort.grow (redrawn W1 d) os).cell? ⟨w.heap.size + 1, 1, none⟩ = some (.string tname') := fun d os => cell_regrown (cell_at hT1) d os
  have y2 : ∀ d os, (Go.Sort.grow (redrawn W1 d) os).cell? ⟨w.heap.size + 1, 2, none⟩ = some (.string text') := fun d os => cell_regrown (cell_at hT1) d os
  have y3 : ∀ d os, (Go.Sort.grow (redrawn W1 d) os).cell? ⟨w.heap.size + 1, 3, none⟩ = some bv := fun d os => cell_regrown (cell_at hT1) d os
  have y4 : ∀ d os, (Go.Sort.grow (redrawn W1 d) os).cell? ⟨w.heap.size + 1, 4, none⟩ = some (.bool self') := fun d os => cell_regrown (cell_at hT1) d os
  have y5 : ∀ d os, (Go.Sort.grow (redrawn W1 d) os).cell? ⟨w.heap.size + 1, 5, none⟩ = some (.int .i64 p0') := fun d os => cell_regrown (cell_at hT1) d os
  have y6 : ∀ d os, (Go.Sort.grow (redrawn W1 d) os).cell? ⟨w.heap.size + 1, 6, none⟩ = some (.int .i64 p1') := fun d os => cell_regrown (cell_at hT1) d os
  have y7 : ∀ d os, (Go.Sort.grow (redrawn W1 d) os).cell? ⟨w.heap.size + 1, 7, none⟩ = some (.int .i64 p2') := fun d os => cell_regrown (cell_at hT1) d os
  have q1 : ∀ d os, Calls Tryd.prog 10 #[.agg #[.int .i64 kind, .string tname, .string text, .slice aa la.length ac, .bool self, .int .i64 p0, .int .i64 p1, .int .i64 p2]] (Go.Sort.grow (redrawn W1 d) os) fun e w'' => e = .returned (.int .i64 c) ∧ ∃ p : Regrown, w'' = Go.Sort.grow (redrawn W1 p.d) p.os := fun d os => Calls.regrown_of (KC.out _ (D' d os))
  have q2 : ∀ d os, Calls Tryd.prog 11 #[.agg #[.int .i64 kind, .string tname, .string text, .slice aa la.length ac, .bool self, .int .i64 p0, .int .i64 p1, .int .i64 p2]] (Go.Sort.grow (redrawn W1 d) os) fun e w'' => e = .returned (.bool P) ∧ ∃ p : Regrown, w'' = Go.Sort.grow (redrawn W1 p.d) p.os := fun d os => Calls.regrown_of (KM.out _ (D' d os))
  have q3 : ∀ d os, Calls Tryd.prog 12 #[.agg #[.int .i64 kind, .string tname, .string text, .slice aa la.length ac, .bool self, .int .i64 p0, .int .i64 p1, .int .i64 p2], .agg #[.int .i64 kind', .string tname', .string text', bv, .bool self', .int .i64 p0', .int .i64 p1', .int .i64 p2']] (Go.Sort.grow (redrawn W1 d) os) fun e w'' => e = .returned (.bool E) ∧ ∃ p : Regrown, w'' = Go.Sort.grow (redrawn W1 p.d) p.os := fun d os => Calls.regrown_of (K3.out _ (D' d os))
  have q4 : ∀ d os, Calls Tryd.prog 13 #[.agg #[.int .i64 kind, .string tname, .string text, .slice aa la.length ac, .bool self, .int .i64 p0, .int .i64 p1, .int .i64 p2], .agg #[.int .i64 kind', .string tname', .string text', bv, .bool self', .int .i64 p0', .int .i64 p1', .int .i64 p2']] (Go.Sort.grow (redrawn W1 d) os) fun e w'' => e = .returned (.bool E) ∧ ∃ p : Regrown, w'' = Go.Sort.grow (redrawn W1 p.d) p.os := fun d os => Calls.regrown_of (K4.out _ (D' d os))
  have q5 : ∀ d os, Calls Tryd.prog 12 #[.agg #[.int .i64 kind, .string tname, .string text, .slice aa la.length ac, .bool self, .int .i64 p0, .int .i64 p1, .int .i64 p2], .agg #[.int .i64 kind, .string tname, .string text, .slice aa la.length ac, .bool self, .int .i64 p0, .int .i64 p1, .int .i64 p2]] (Go.Sort.grow (redrawn W1 d) os) fun e w'' => e = .returned (.bool true) ∧ ∃ p : Regrown, w'' = Go.Sort.grow (redrawn W1 p.d) p.os := fun d os => Calls.regrown_of (K5.out _ (D' d os))
  have hEE : (E != E) = false := by simp
  go_enter Tryd.func4, Tryd.ntmps4
  rcases hPc with ⟨rfl, rfl⟩ | ⟨rfl, rfl⟩
  all_goals
    go_wp2_with fail
    refine wp_region_quiet_below mixed (by kernel_rfl) ?_
    repeat (go_big_quiet_step (first | with_reducible exact q1 _ _ | with_reducible exact q2 _ _ | with_reducible exact q3 _ _ | with_reducible exact q4 _ _ | with_reducible exact q5 _ _))
    refine wpQuiet_nil ?_
    intro _ hw'
    obtain ⟨⟨dq, osq⟩, hw''⟩ := hw'
    have hb2 : Below W1.heap.size W1 (Go.Sort.grow (redrawn W1 dq) osq) := D dq osq
    rw [← hw''] at hb2
    clear hw'' q1 q2 q3 q4 q5 D D' mixed x0 x1 x2 x3 x4 x5 x6 x7 y0 y1 y2 y3 y4 y5 y6 y7
    rename_i w2
    have hT2 := (hb2.block w.heap.size (by omega)).trans HT0.out
    have HB2 : Hid (Below w.heap.size w w2) := HB1.out.trans (hb2.mono HB1.out.size)
    have s2 := hb2.size
    have z0 : w2.cell? ⟨w.heap.size, 0, none⟩ = some (.int .i64 kind) := cell_at hT2
    have z1 : w2.cell? ⟨w.heap.size, 1, none⟩ = some (.string tname) := cell_at hT2
    have z2 : w2.cell? ⟨w.heap.size, 2, none⟩ = some (.string text) := cell_at hT2
    have z3 : w2.cell? ⟨w.heap.size, 3, none⟩ = some (.slice aa la.length ac) := cell_at hT2
    have z4 : w2.cell? ⟨w.heap.size, 4, none⟩ = some (.bool self) := cell_at hT2
    have z5 : w2.cell? ⟨w.heap.size, 5, none⟩ = some (.int .i64 p0) := cell_at hT2
    have z6 : w2.cell? ⟨w.heap.size, 6, none⟩ = some (.int .i64 p1) := cell_at hT2
    have z7 : w2.cell? ⟨w.heap.size, 7, none⟩ = some (.int .i64 p2) := cell_at hT2
    clear hb2
    go_wp2_with fail
    refine (KC.out w2 HB2.out).mono ?_
    rintro e w3 ⟨rfl, hb3⟩
    have hT3 := (hb3.block w.heap.size (by omega)).trans hT2
    have HB3 : Hid (Below w.heap.size w w3) := HB2.out.trans (hb3.mono HB2.out.size)
    have s3 := hb3.size
    clear z0 z1 z2 z3 z4 z5 z6 z7 hb3
    have z0 : w3.cell? ⟨w.heap.size, 0, none⟩ = some (.int .i64 kind) := cell_at hT3
    have z1 : w3.cell? ⟨w.heap.size, 1, none⟩ = some (.string tname) := cell_at hT3
    have z2 : w3.cell? ⟨w.heap.size, 2, none⟩ = some (.string text) := cell_at hT3
    have z3 : w3.cell? ⟨w.heap.size, 3, none⟩ = some (.slice aa la.length ac) := cell_at hT3
    have z4 : w3.cell? ⟨w.heap.size, 4, none⟩ = some (.bool self) := cell_at hT3
    have z5 : w3.cell? ⟨w.heap.size, 5, none⟩ = some (.int .i64 p0) := cell_at hT3
    have z6 : w3.cell? ⟨w.heap.size, 6, none⟩ = some (.int .i64 p1) := cell_at hT3
    have z7 : w3.cell? ⟨w.heap.size, 7, none⟩ = some (.int .i64 p2) := cell_at hT3
    go_wp2_with fail
    refine (K6.out w3 HB3.out).mono ?_
    rintro e w4 ⟨rfl, hb4⟩
    have z3' : w4.cell? ⟨w.heap.size, 3, none⟩ = some (.slice aa la.length ac) := cell_at ((hb4.block w.heap.size (by omega)).trans hT3)
    have HB4 : Hid (Below w.heap.size w w4) := HB3.out.trans (hb4.mono HB3.out.size)
    have HA4 : Hid (HasA w4 (.slice aa la.length ac) la) := HA.out.below HB4.out
    clear z0 z1 z2 z3 z4 z5 z6 z7 hb4 hT2 hT3 K3 K4 K5 K6 KC KM HA hW0 hW1 hT0 hT1 HT0 b0 b1
    go_wp2
    go_loopw [11, 50] (fun _ i wr => ∃ k : Nat, k ≤ la.length ∧ i = .int .i64 k ∧ Hid (Below w4.heap.size w4 wr) ∧ Hid (∀ j (h : j < la.length), j < k → la[j].1 ≠ name)) (fun _ i _ => la.length - (intOf i).toNat)
    case atStart => exact ⟨0, by omega, rfl, Below.refl _ _, fun j _ hj => by omega⟩
    case round =>
      obtain ⟨k, hk, rfl, hB, hne⟩ := hrel
      have s1 := hB.out.size
      by_cases hlt : k < la.length
      · obtain ⟨b, off, rfl, d0, d1⟩ := (HA4.out.below hB.out).at k hlt
        rcases hx : la[k] with ⟨n, x⟩
        rw [hx] at d0 d1
        simp only at d0 d1
        have HX : Hid (la[k] = (n, x)) := hx
        clear hx
        obtain ⟨W5, hW5⟩ : ∃ W5, wr.alloc (.cells #[.string n, .string x] 36) = W5 := ⟨_, rfl⟩
        have b5 : Below wr.heap.size wr W5 := by rw [← hW5]; exact (Below.refl _ wr).alloc (Nat.le_refl _) _
        have u0 : W5.cell? ⟨wr.heap.size, 0, none⟩ = some (.string n) := by rw [← hW5, C.cell_new]; rfl
        have u1 : W5.cell? ⟨wr.heap.size, 1, none⟩ = some (.string x) := by rw [← hW5, C.cell_new]; rfl
        have HB5 : Hid (Below w4.heap.size w4 W5) := hB.out.trans (b5.mono s1)
        clear b5
        by_cases hn : n = name
        · have q1 : (n.toList == name.toList) = true := by rw [beq_bytes]; simpa using hn
          have HV := HVF.out.symm.trans (attrV_at la name k hlt hne.out (by rw [HX.out]; exact hn))
          rw [HX.out] at HV
          simp only [Prod.mk.injEq] at HV
          obtain ⟨hV1, hV2⟩ := HV
          subst hV1
          subst hV2
          have qq : (V.toList == V.toList) = true := by simp
          have hBw : Below w.heap.size w W5 := HB4.out.trans (HB5.out.mono HB4.out.size)
          have HBw : Hid (Below w.heap.size w W5) := hBw
          have LC : Hid (Calls Tryd.prog 9 #[] W5 fun e w' => e = .returned (.bool true) ∧ Below W5.heap.size W5 w') := LV.out W5 hBw
          clear hn hBw
          go_wp2_with (go_at_call 9; refine LC.out.mono ?_; rintro e w6 ⟨rfl, hb6⟩)
          all_goals go_ret
          all_goals exact ⟨rfl, HBw.out.trans (hb6.mono HBw.out.size)⟩
        · have q1 : (n.toList == name.toList) = false := by rw [beq_bytes]; simpa using hn
          have HN : Hid (∀ j (h : j < la.length), j < k + 1 → la[j].1 ≠ name) := fun j h hj => by
            by_cases e : j = k
            · subst e; rw [HX.out]; exact hn
            · exact hne.out j h (by omega)
          clear hn
          go_wp2
          go_roundw
          case rel => exact ⟨k + 1, by omega, by go_num, HB5, HN⟩
          case measure => simp [intOf]; omega
      · obtain rfl : k = la.length := by omega
        have HV := HVF.out.symm.trans (attrV_none la name (fun j h => hne.out j h h))
        simp only [Prod.mk.injEq] at HV
        obtain ⟨rfl, rfl⟩ := HV
        have hBw : Below w.heap.size w wr := HB4.out.trans (hB.out.mono HB4.out.size)
        have HBw : Hid (Below w.heap.size w wr) := hBw
        have LC : Hid (Calls Tryd.prog 9 #[] wr fun e w' => e = .returned (.bool true) ∧ Below wr.heap.size wr w') := LV.out wr hBw
        clear hBw
        go_wp2_with (go_at_call 9; refine LC.out.mono ?_; rintro e w6 ⟨rfl, hb6⟩)
        all_goals go_ret
        all_goals exact ⟨rfl, HBw.out.trans (hb6.mono HBw.out.size)⟩

set_option maxRecDepth 100000 in
theorem contract (H : Type) (enc : TypeId × Value → H) (W : World) (base : Nat) (args : Array Value) (ds gs : List (DataW H)) (before : List MemPlace)
    (hval : ∀ (j : Nat) t v, Tryd.f4.params[j]? = some t → args[j]? = some v → Value.okWide Tryd.prog W .any base t v)
    (hW : DataW.Whole enc Tryd.prog Tryd.f4.params.toList Rows.tokenChecksSpec.vars false W args.toList ds gs before) (hL : laidMetH Tryd.prog Rows.tokenChecksUptoRow.laid W) (hk : Rows.uptoSmall H (ds ++ gs) = true) :
    Calls Tryd.prog 4 args W fun e W' => ∃ v, e = .returned v ∧ Rows.tokenChecksSpec.post enc Tryd.prog Tryd.f4 false true false false W args v W' := by
  have hW' := hW
  have hlt := hW.lt
  obtain ⟨p, q, hA0, hV, rfl, hfz, hnd⟩ := hW
  have hA : DataW.TrodAll enc Tryd.prog W 0 (fun _ => true) true Tryd.f4.params.toList args.toList ds p := hA0
  rw [Tryd.params4] at hA hval
  obtain ⟨v0, vs0, d0, ds0, p0, q0, hargs, rfl, rfl, h0, r0⟩ := trodAll_cons hA
  obtain ⟨v1, vs1, d1, ds1, p1, q1, rfl, rfl, rfl, h1, r1⟩ := trodAll_cons r0
  obtain ⟨v2, vs2, d2, ds2, p2, q2, rfl, rfl, rfl, h2, r2⟩ := trodAll_cons r1
  obtain ⟨rfl, rfl, rfl⟩ := trodAll_nil r2
  obtain rfl : args = #[v0, v1, v2] := by cases args; simp_all
  obtain ⟨rfl, rfl⟩ := trodVars_none hV
  clear hA0
  simp only [List.append_nil] at hW' hlt hk
  have hbulk := of_decide_eq_true hk
  simp only [Rows.uptoBulkAll] at hbulk
  obtain ⟨t0, L0, a0, rfl, ha0, l0⟩ := T.tok_of_read (hval 0 28 v0 rfl rfl) h0
  obtain ⟨t1, L1, a1, rfl, ha1, l1⟩ := T.tok_of_read (hval 1 28 v1 rfl rfl) h1
  have h2' := h2
  obtain ⟨s2, rfl, rfl, e2, ws2⟩ := Go.ChangeMaps.open_string Tryd.underlying9 (hval 2 9 v2 rfl rfl) h2
  refine (walk W (tabs_of_laid hL) t0 L0 a0 ha0 (by omega) t1 L1 a1 ha1 (by omega) s2 ws2 (by simp only [T.bulk_str, N.size_data] at hbulk; omega)).mono fun e W' ⟨he, hb⟩ => ?_
  subst he
  exact ⟨_, rfl, post_below hW' (fun _ _ _ => trodAll_cons_mk (shut_bool Tryd.underlying4 _) trodAll_mk0) (trodAll_cons_mk (stays (by kernel_rfl) (of_decide_eq_true (by kernel_rfl)) h0 hb (fun x hx => hlt x (by simp [hx]))) (trodAll_cons_mk (stays (by kernel_rfl) (of_decide_eq_true (by kernel_rfl)) h1 hb (fun x hx => hlt x (by simp [hx]))) (trodAll_cons_mk (stays (by kernel_rfl) (of_decide_eq_true (by kernel_rfl)) h2' hb (fun x hx => hlt x (by simp [hx]))) trodAll_mk0))) rfl hb⟩

set_option maxRecDepth 100000 in
theorem laid_met (os : Os) : laidMet Tryd.prog Rows.tokenChecksUptoRow.laid ((withTabs (World.holding Tryd.prog os ⟨#[], #[], []⟩)).forCall (fun _ _ => 0) ⟨#[], #[Value.agg #[.int .i64 0, .string ⟨#[]⟩, .string ⟨#[]⟩, .slice none 0 0, .bool false, .int .i64 0, .int .i64 0, .int .i64 0], Value.agg #[.int .i64 0, .string ⟨#[]⟩, .string ⟨#[]⟩, .slice none 0 0, .bool false, .int .i64 0, .int .i64 0, .int .i64 0], Value.string ⟨#[]⟩], []⟩).memory :=
  laidMet_of_run' 8 (by kernel_rfl) (by kernel_rfl)
set_option maxRecDepth 100000 in
theorem reads (os : Os) {H : Type} (enc : TypeId × Value → H) : ∃ places, DataW.whole enc Tryd.prog ((withTabs (World.holding Tryd.prog os ⟨#[], #[], []⟩)).forCall (fun _ _ => 0) ⟨#[], #[Value.agg #[.int .i64 0, .string ⟨#[]⟩, .string ⟨#[]⟩, .slice none 0 0, .bool false, .int .i64 0, .int .i64 0, .int .i64 0], Value.agg #[.int .i64 0, .string ⟨#[]⟩, .string ⟨#[]⟩, .slice none 0 0, .bool false, .int .i64 0, .int .i64 0, .int .i64 0], Value.string ⟨#[]⟩], []⟩).memory Tryd.f4.params.toList Rows.tokenChecksSpec.vars false #[Value.agg #[.int .i64 0, .string ⟨#[]⟩, .string ⟨#[]⟩, .slice none 0 0, .bool false, .int .i64 0, .int .i64 0, .int .i64 0], Value.agg #[.int .i64 0, .string ⟨#[]⟩, .string ⟨#[]⟩, .slice none 0 0, .bool false, .int .i64 0, .int .i64 0, .int .i64 0], Value.string ⟨#[]⟩].toList 8 = some ([.agg [.lit (.int .i64 0), .lit (.string []), .lit (.string []), .nil, .lit (.bool false), .agg [.lit (.int .i64 0), .lit (.int .i64 0), .lit (.int .i64 0)]], .agg [.lit (.int .i64 0), .lit (.string []), .lit (.string []), .nil, .lit (.bool false), .agg [.lit (.int .i64 0), .lit (.int .i64 0), .lit (.int .i64 0)]], .lit (.string [])], [], places) :=
  ⟨[], by kernel_rfl⟩

set_option maxRecDepth 100000 in
theorem lifted (os : Os) (started : os.Started) (H : Type) (enc : TypeId × Value → H) (F : Stop.Interp) :
    ReturnsInHanded {} Tryd.checked os 4 .any ((Rows.OpenSpec.upto Rows.tokenChecksSpec).preRow enc Tryd.prog Tryd.f4 Rows.tokenChecksUptoRow.domain false Rows.tokenChecksUptoRow.laid) (((Rows.OpenSpec.upto Rows.tokenChecksSpec).at F).post enc Tryd.prog Tryd.f4 false true false false) := by
  obtain ⟨places, hx⟩ := reads os enc
  refine returnsInHanded_of_row (C := Tryd.checked) (s := Rows.OpenSpec.upto Rows.tokenChecksSpec) own started (by kernel_rfl) Tryd.func4
    (witness_row_at (enc := enc) (C := Tryd.checked) false (withTabs (World.holding Tryd.prog os ⟨#[], #[], []⟩)) #[Value.agg #[.int .i64 0, .string ⟨#[]⟩, .string ⟨#[]⟩, .slice none 0 0, .bool false, .int .i64 0, .int .i64 0, .int .i64 0], Value.agg #[.int .i64 0, .string ⟨#[]⟩, .string ⟨#[]⟩, .slice none 0 0, .bool false, .int .i64 0, .int .i64 0, .int .i64 0], Value.string ⟨#[]⟩] rfl (by kernel_rfl) (by kernel_rfl) (by kernel_rfl)
      (OpenSpec.preRow_of_cond 8 hx (by kernel_rfl) (fun k hk => by cases hk; kernel_rfl) (by kernel_rfl) (laid_met os))) ?_
  intro W base args ds gs before hval hW _ hcond _ hL _ _
  exact contract H enc W base args ds gs before hval hW hL (hcond _ rfl)

set_option maxRecDepth 100000 in
theorem said : Rows.TokenChecksUptoSaid :=
  OpenClaim.holds_of_cond 4 Tryd.f4 rfl rfl rfl rfl rfl rfl rfl ⟨rfl, rfl, rfl, rfl, rfl⟩ rfl rfl rfl rfl rfl (by kernel_rfl) Tryd.func4 (by kernel_rfl)
    (of_decide_eq_true (by kernel_rfl)) (by unfold Func.isWrapper; first | (rw [if_pos (by decide +kernel)]; kernel_rfl) | (rw [if_neg (by decide +kernel)]; exact ⟨rfl, rfl⟩))
    (fun os started H enc _ F => by rw [OpenClaim.pre_eq_preRow]; exact lifted os started H enc F)

theorem plain (f : FuncId) (fn : Func) (hf : Tryd.pinned.checked.prog.funcNamed "sieve/sievelaw07.TokenChecks" = some f) (hfn : Tryd.pinned.checked.prog.funcs[f]? = some fn) :
    false = Tryd.pinned.checked.prog.looks [] ∧ ∀ (j : Nat) t, fn.params[j]? = some t → Tryd.pinned.checked.prog.wantsStandIn t = false := by
  obtain rfl : f = 4 := Option.some.inj ((show Tryd.prog.funcNamed "sieve/sievelaw07.TokenChecks" = some 4 by kernel_rfl).symm.trans hf) |>.symm
  obtain rfl : fn = Tryd.f4 := (Option.some.inj (Tryd.func4.symm.trans hfn)).symm
  refine ⟨by kernel_rfl, fun j t ht => ?_⟩
  rw [Tryd.params4] at ht
  have hm := Array.mem_of_getElem? ht
  simp only [List.mem_toArray, List.mem_cons, List.not_mem_nil, or_false] at hm
  rcases hm with rfl | rfl | rfl
  · exact (show Tryd.prog.wantsStandIn 28 = false by kernel_rfl)
  · exact (show Tryd.prog.wantsStandIn 28 = false by kernel_rfl)
  · exact (show Tryd.prog.wantsStandIn 9 = false by kernel_rfl)

theorem card : Rows.TokenChecksUptoCardSaid :=
  Claim7.holds_tied_plain_at .later [] _ _ _ _ said (fun _ h => by cases h) (by kernel_rfl) (fun _ h => by cases h) tokenChecksUpto_row_tie rfl ⟨rfl, rfl⟩ (by kernel_rfl) rfl plain (by kernel_rfl)

end Go.Proofs.YthbmlffhcppcaaaDoor.TChecks
