/- What is proved here: the statement ChunkAll (a source read by a loop, left anywhere; what is left is read by the next one) holds for any script and any numbers, where the arguments hold at most 1048576 values together, with no other condition. -/
import Derived.Test.YtkdkkdajciacmaaCSt
namespace Go.Proofs.Ytkdkkdajciacmaa.CAllL
open Go.ChangeShapes Go.WideShapes Go.ChangeAt Go.RowKit C CInv
attribute [local go_sem] Oper.semAt_some

theorem equalIn_func (w : World) (d : Nat) (f : Fn) (x y : Array Value) : (Op.equalIn (d + 1) 35 (.func f x y) .nilFunc).run Try.prog w = .ok false w := by
  simp [Op.equalIn, run_underlying Try.underlying35]
/-- An iterator is not nil. -/
theorem eql_func (w : World) (f : Fn) (x y : Array Value) : (binOp .eql 35 (.func f x y) .nilFunc).run Try.prog w = .ok (.bool false) w := by
  simp only [binOp]
  simp [Op.equal, Op.maxDepth, equalIn_func w 9999]

set_option maxRecDepth 100000 in
set_option maxHeartbeats 4000000 in
theorem walk (w : World) (lv : Value) (l : Scr) (hS : HasS w lv l) (hl : l.length + (l.map fun x => x.1.length).sum ≤ 1048576) (n : Int) (wn : (Lit.int .i64 n).wf = true) (stop : Int) (_ws : (Lit.int .i64 stop).wf = true) :
    Calls Try.prog 3 #[lv, .int .i64 n, .int .i64 stop] w fun e w' => e = .returned (.bool true) ∧ Below w.heap.size w w' := by
  obtain ⟨la, lc, rfl⟩ := hS.slice
  have hn1 := wf_bounds wn
  simp [IntKind.min, IntKind.max, IntKind.signed, IntKind.bits] at hn1
  have HS : Hid (HasS w (.slice la l.length lc) l) := hS
  have HD : Hid (∀ x ∈ l, x.1.length ≤ 100000000000000) := fun x hx => by have := le_sum l x hx; omega
  have HSZ : Hid (sizeS l l.length ≤ 1048576) := by show _ ≤ _; simp only [sizeS, List.take_length]; omega
  have hll : (l.length : Int) ≤ 1048576 := by omega
  clear hS wn
  refine (callsIn_wide (n := 6)).1 ?_
  refine callsIn_of_wp_marks Try.func3 rfl trivial ?_ rfl
  simp only [Try.ntmps3, List.size_toArray, List.length_cons, List.length_nil, Nat.reduceAdd, Nat.reduceSub, Array.replicate_succ, Array.replicate_zero, List.push_toArray, List.append_toArray, List.nil_append, List.cons_append]
  gi_wp2_with fail
  obtain ⟨w0, hw0⟩ : ∃ w0, ((w.alloc (.cells #[.int .i64 n] 3)).alloc (.cells #[.int .i64 stop] 3)).alloc (.cells #[.bool false] 4) = w0 := ⟨_, rfl⟩
  have hb0 : Below w.heap.size w w0 := by rw [← hw0]; exact (((Below.refl _ w).alloc (Nat.le_refl _) _).alloc (by simp) _).alloc (by simp; omega) _
  have z0 : w0.heap.size = w.heap.size + 3 := by rw [← hw0]; simp
  have bn0 : Boxed w0 w.heap.size 3 (.int .i64 n) := by rw [← hw0]; exact ((Boxed.new w 3 (.int .i64 n)).alloc _).alloc _
  have bs0 : Boxed w0 (w.heap.size + 1) 3 (.int .i64 stop) := by rw [← hw0]; have := (Boxed.new (w.alloc (.cells #[.int .i64 n] 3)) 3 (.int .i64 stop)).alloc (.cells #[.bool false] 4); simpa using this
  have bR0 : Boxed w0 (w.heap.size + 1 + 1) 4 (.bool false) := by rw [← hw0]; have := Boxed.new ((w.alloc (.cells #[.int .i64 n] 3)).alloc (.cells #[.int .i64 stop] 3)) 4 (.bool false); simpa using this
  rw [hw0]
  clear hw0
  refine ⟨trivial, (callsIn_wide.2 (steps_calls l _ w0 (HS.out.below hb0) (by omega) HD.out)).mono ?_⟩
  rintro e w1 ⟨gv, rfl, hO1, hb1⟩
  have s1 := hb1.size
  have hw1 : Below w.heap.size w w1 := hb0.trans (hb1.mono (by omega))
  have bn1 : Boxed w1 w.heap.size 3 (.int .i64 n) := (hb1.block _ (by omega)).trans bn0
  have bs1 : Boxed w1 (w.heap.size + 1) 3 (.int .i64 stop) := (hb1.block _ (by omega)).trans bs0
  have bR1 : Boxed w1 (w.heap.size + 1 + 1) 4 (.bool false) := (hb1.block _ (by omega)).trans bR0
  obtain ⟨ga, gc, rfl⟩ := hO1.slice
  have HO1 : Hid (OwnS w0.heap.size 56 w1 (.slice ga l.length gc) l) := hO1
  clear hO1 hb1 bn0 bs0 bR0 hb0
  gi_wp2_with fail
  cases hlg : large l with
  | true =>
    refine ⟨trivial, (callsIn_wide.2 (new_large l _ w1 (hasS_owns HO1.out) (by omega) HD.out hlg)).mono ?_⟩
    rintro e w2 ⟨rfl, hb2⟩
    have hw2 : Below w.heap.size w w2 := hw1.trans (hb2.mono hw1.size)
    have bR2 : Boxed w2 (w.heap.size + 1 + 1) 4 (.bool false) := (hb2.block _ (by omega)).trans bR1
    gi_wp2_with fail
    refine ⟨trivial, (callsIn_wide.2 (num_calls _ _)).mono ?_⟩
    rintro e w' ⟨rfl, hx'⟩
    obtain rfl : w2 = w' := hx'.symm
    gi_wp2_with fail
    refine ⟨trivial, (callsIn_wide.2 (rlarge_calls l _ w2 (HS.out.below hw2) (by omega) HD.out)).mono ?_⟩
    rintro e w3 ⟨rfl, hb3⟩
    rw [hlg]
    have hw3 : Below w.heap.size w w3 := hw2.trans (hb3.mono hw2.size)
    gi_wp2_with fail
    refine ⟨trivial, (callsIn_wide.2 (awake_calls _)).mono ?_⟩
    rintro e w4 ⟨rfl, hb4⟩
    have hw4 : Below w.heap.size w w4 := hw3.trans (hb4.mono hw3.size)
    have bR4 : Boxed w4 (w.heap.size + 1 + 1) 4 (.bool false) := (hb4.block _ (by have := hw3.size; have := hb3.size; have := hb2.size; omega)).trans ((hb3.block _ (by have := hb2.size; omega)).trans bR2)
    have c4 := bR4.cell
    have f4 := bR4.frozen
    have c5 := (bR4.set (.bool true)).cell
    gi_wp2
    refine ⟨.bool true, by simp [results, Try.f3, go_sem, c5], rfl, hw4.setCell (p := ⟨w.heap.size + 1 + 1, 0, none⟩) (show w.heap.size ≤ w.heap.size + 1 + 1 by omega) _⟩
  | false =>
    refine ⟨trivial, (callsIn_wide.2 (new_small l _ w1 (hasS_owns HO1.out) (by omega) HD.out hlg)).mono ?_⟩
    rintro e w2 ⟨g, hg1, rfl, hR2, hb2⟩
    have hw2 : Below w.heap.size w w2 := hw1.trans (hb2.mono hw1.size)
    have s2 := hb2.size
    have hg2 : g < w2.heap.size := by obtain ⟨_, hB, _⟩ := hR2; exact hB.lt
    have bn2 : Boxed w2 w.heap.size 3 (.int .i64 n) := (hb2.block _ (by omega)).trans bn1
    have bs2 : Boxed w2 (w.heap.size + 1) 3 (.int .i64 stop) := (hb2.block _ (by omega)).trans bs1
    have bR2 : Boxed w2 (w.heap.size + 1 + 1) 4 (.bool false) := (hb2.block _ (by omega)).trans bR1
    clear hb2 bn1 bs1 bR1 HO1
    gi_wp2_with fail
    refine ⟨trivial, (callsIn_wide.2 (num_calls _ _)).mono ?_⟩
    rintro e w' ⟨rfl, hx'⟩
    obtain rfl : w2 = w' := hx'.symm
    clear hx'
    gi_wp2_with fail
    refine ⟨trivial, (callsIn_wide.2 (rnew_calls l _ w2 (HS.out.below hw2) (by omega) HD.out)).mono ?_⟩
    rintro e w3 ⟨rv, rfl, hBl3, hO3, hb3⟩
    have s3 := hb3.size
    have hgr := hBl3.lt
    have hw3 : Below w.heap.size w w3 := hw2.trans (hb3.mono hw2.size)
    have HR3 : Hid (Src w1.heap.size w3 g (reach l) 0 0 0) := hR2.below hb3
    have HV3 : Hid (RSu rv (w2.heap.size + 1) w3.heap.size w3 w2.heap.size l 0 0 0) := ⟨⟨hBl3, by omega, hO3⟩, OwnU.of hO3⟩
    have bn3 : Boxed w3 w.heap.size 3 (.int .i64 n) := (hb3.block _ (by omega)).trans bn2
    have bs3 : Boxed w3 (w.heap.size + 1) 3 (.int .i64 stop) := (hb3.block _ (by omega)).trans bs2
    have bR3 : Boxed w3 (w.heap.size + 1 + 1) 4 (.bool false) := (hb3.block _ (by omega)).trans bR2
    clear hR2 hBl3 hO3 hb3 bn2 bs2 bR2 hw2
    gi_wp2_with fail
    obtain ⟨X0, hX0⟩ : ∃ X0, (w3.alloc (.cells #[.pointer (some ⟨w2.heap.size, 0, none⟩)] 32)).alloc (.cells #[.int .i64 0] 3) = X0 := ⟨_, rfl⟩
    have hb3X : Below w3.heap.size w3 X0 := by rw [← hX0]; exact ((Below.refl _ w3).alloc (Nat.le_refl _) _).alloc (by simp) _
    have zX : X0.heap.size = w3.heap.size + 2 := by rw [← hX0]; simp
    have br : Boxed X0 w3.heap.size 32 (.pointer (some ⟨w2.heap.size, 0, none⟩)) := by rw [← hX0]; exact (Boxed.new w3 _ _).alloc _
    have bo : Boxed X0 (w3.heap.size + 1) 3 (.int .i64 0) := by rw [← hX0]; have := Boxed.new (w3.alloc (.cells #[.pointer (some ⟨w2.heap.size, 0, none⟩)] 32)) 3 (.int .i64 0); simpa using this
    have bn : Boxed X0 w.heap.size 3 (.int .i64 n) := (hb3X.block _ (by omega)).trans bn3
    have bs : Boxed X0 (w.heap.size + 1) 3 (.int .i64 stop) := (hb3X.block _ (by omega)).trans bs3
    have bR : Boxed X0 (w.heap.size + 1 + 1) 4 (.bool false) := (hb3X.block _ (by omega)).trans bR3
    have hwX : Below w.heap.size w X0 := hw3.trans (hb3X.mono hw3.size)
    have HRX : Hid (Src w1.heap.size X0 g (reach l) 0 0 0) := HR3.out.below hb3X
    have HVX : Hid (RSu rv (w2.heap.size + 1) w3.heap.size X0 w2.heap.size l 0 0 0) := RSu.kept HV3.out (grown_below (row := none) hb3X) (fun _ e => by cases e)
    rw [hX0]
    clear hX0 hb3X bn3 bs3 bR3 HR3 HV3 hw3
    have ZX : Hid (X0.heap.size = w3.heap.size + 2) := zX
    have ztop : w3.heap.size + 2 ≤ X0.heap.size := by omega
    clear zX
    have hG4 := hwX.size
    refine wpIn_loop_rounds 3 ?_
    have bo0 := bo
    have bn0 := bn
    have bs0 := bs
    have bR0 := bR
    have br0 := br
    have hwX0 := hwX
    have HR0 := HRX
    have HV0 := HVX
    have HI0 : Hid (Inv l 0 0 0) := Inv.start l
    clear bo bn bs bR br hwX HRX HVX
    have co0 := bo0.cell
    have cnA0 : ∀ o1 o2, ((X0.alloc o1).alloc o2).cell? ⟨w.heap.size, 0, none⟩ = some (.int .i64 n) := fun o1 o2 => ((bn0.alloc o1).alloc o2).cell
    rw [roundsIn_succ]
    gi_wp2_with fail
    have hb0A0 : Below X0.heap.size X0 ((X0.alloc (.cells #[.int .i64 0] 3)).alloc (.cells #[.bool false] 4)) := ((Below.refl _ X0).alloc (Nat.le_refl _) _).alloc (by simp) _
    refine ⟨trivial, (callsIn_wide.2 (all_boxes _ g (reach l) 0 0 0 n (HR0.out.below hb0A0))).mono ?_⟩
    rintro e V ⟨Bm0, Bs0, Bn0, rfl, bm0, bsp0, bnn0, hBm0, hBs0, hBn0, hbV0⟩
    have hq := eql_func
    gi_wp2_with fail
    clear hq
    simp only [World.size_alloc] at hBm0 hBs0 hBn0
    have hXV0 : Below X0.heap.size X0 V := hb0A0.trans (hbV0.mono (by simp; omega))
    have bk0 : Boxed V X0.heap.size 3 (.int .i64 0) := (hbV0.block _ (by simp; omega)).trans ((Boxed.new X0 _ _).alloc _)
    have bov0 : Boxed V (X0.heap.size + 1) 4 (.bool false) := (hbV0.block _ (by simp)).trans (show Boxed _ _ _ _ by have := Boxed.new (X0.alloc (.cells #[.int .i64 0] 3)) 4 (.bool false); rwa [World.size_alloc] at this)
    have sV0 := hXV0.size
    have hBoV0 := bov0.lt
    have hwV0 : Below w.heap.size w V := hwX0.trans (hXV0.mono hwX0.size)
    have bnV0 : Boxed V w.heap.size 3 (.int .i64 n) := (hXV0.block _ bn0.lt).trans bn0
    have bsV0 : Boxed V (w.heap.size + 1) 3 (.int .i64 stop) := (hXV0.block _ bs0.lt).trans bs0
    have bRV0 : Boxed V (w.heap.size + 1 + 1) 4 (.bool false) := (hXV0.block _ bR0.lt).trans bR0
    have brV0 : Boxed V w3.heap.size 32 (.pointer (some ⟨w2.heap.size, 0, none⟩)) := (hXV0.block _ br0.lt).trans br0
    have boV0 : Boxed V (w3.heap.size + 1) 3 (.int .i64 0) := (hXV0.block _ bo0.lt).trans bo0
    have HRV0 : Hid (Src w1.heap.size V g (reach l) 0 0 0) := HR0.out.below hXV0
    have HVV0 : Hid (RSu rv (w2.heap.size + 1) w3.heap.size V w2.heap.size l 0 0 0) := RSu.kept HV0.out (grown_below (row := none) hXV0) (fun _ e => by cases e)
    have hG0 : Geo w1.heap.size g w2.heap.size w3.heap.size X0.heap.size (X0.heap.size + 1) V := ⟨hg1, hg2, hgr, by omega, by omega, by omega⟩
    have hlB0 := bo0.lt
    clear hb0A0 hbV0 cnA0 co0
    by_cases hn : n < 1
    · have hcase := hn
      refine wpIn_rangeFunc_by rfl (by omega) (gf := 26) (lb := #[.pointer (some ⟨Bm0, 0, none⟩), .pointer (some ⟨Bs0, 0, none⟩), .pointer (some ⟨Bn0, 0, none⟩)]) rfl trivial (enters_of Try.func26 (by kernel_rfl) rfl)
        (fun W => ∃ o, StE rv w1.heap.size g w2.heap.size w3.heap.size X0.heap.size (X0.heap.size + 1) l V o W) (fun _ _ => False) ?iterl ?donel ?stopl
      case iterl =>
        intro oR oB oX W1 _ _ _ hbW1 hzW1 hD1 hL1 hyield
        have hst := St.start HI0.out HRV0.out HVV0.out bk0 bov0 hbW1 hD1 hL1
        refine (all1_arg 5 (by omega) _ g w1.heap.size Bm0 Bs0 Bn0 n (reach l) 0 0 0 (StE rv w1.heap.size g w2.heap.size w3.heap.size X0.heap.size (X0.heap.size + 1) l V oR) Never W1 hst.src
          (hst.box bm0 (by omega) (by omega) (by omega) (by omega)).cell (hst.box bsp0 (by omega) (by omega) (by omega) (by omega)).cell (hst.box bnn0 (by omega) (by omega) (by omega) (by omega)).cell hn ?_).mono ?_
        · intro Wa hba
          have hst2 := hst.below hG0 hba
          refine hyield _ Wa _ rfl hst2.lp ?_
          gi_wp2_with fail
          refine ⟨hst2.lp, ?_⟩
          have hst3 := hst2.put hG0 oB
          obtain ⟨Wb, hWb⟩ : ∃ Wb, Wa.putObj (V.heap.size + 1) oB = Wb := ⟨_, rfl⟩
          rw [hWb] at hst3 ⊢
          clear hWb hst2 hba
          have cO := hst3.ovr.cell
          have cN := (hst3.box bnV0 (by omega) (by omega) (by omega) (by omega)).cell
          have hnd : decide ((n : Int) < 1) = true := by simpa using hn
          gi_wp2_with fail
          refine ⟨trivial, ((callsIn_wide.2 (alike_calls [] [] (.slice none 0 0) (.slice none 0 0) 1 1 Wb.heap.size Wb.heap.size Wb (by simp) (World.ownsRow_nil _ _ _ _) (.inl ⟨rfl, _, _, rfl⟩))).inRound _).mono ?_⟩
          rintro e We ⟨rfl, hg9⟩
          rw [show (decide ((1 : Int) = 1) && decide (([] : List UInt8) = [])) = true from rfl]
          have hst6 := hst3.grown hG0 hg9 (fun j e => by simp [Value.ownBlock] at e)
          have cO6 := hst6.ovr.cell
          have fO6 := hst6.ovr.frozen
          have HST : Hid (St rv w1.heap.size g w2.heap.size w3.heap.size X0.heap.size (X0.heap.size + 1) l V 0 0 0 0 0 0 0 true oB (We.setCell ⟨X0.heap.size + 1, 0, none⟩ (.bool true))) := hst6.setO hG0 true
          clear hst6 hst3 hg9
          gi_wp2
          exact ⟨HST.out.lp, .inl ⟨rfl, _, _, _, _, HST.out.put hG0 oR⟩⟩
        · rintro e W' ⟨he, (⟨i, p, t, kk, h⟩ | h)⟩
          · exact ⟨he, h.dfr, .inl ⟨h.lp, fun o' => ⟨o', i, p, t, kk, h.put hG0 o'⟩⟩⟩
          · exact (show False from h).elim
      case stopl => exact fun c W h => h.elim
      case donel =>
        rintro W ⟨o, i, p, t, kk, hst⟩ hD
        have hov : true = true ∨ kk = stop := .inl rfl
        have cO := hst.ovr.cell
        have cK := hst.cnt.cell
        have co := (hst.box boV0 (by omega) (by omega) (by omega) (by omega)).cell
        have cs := (hst.box bsV0 (by omega) (by omega) (by omega) (by omega)).cell
        have zW := hst.size
        have hVW : Below w.heap.size V W := hst.keep.below hwV0.size (fun k hk => by
          have := hwX0.size
          rintro (h | h | h | h | h) <;> omega)
        have hwW : Below w.heap.size w W := hwV0.trans (hVW.mono (Nat.le_refl _))
        obtain ⟨RB, hRB⟩ : ∃ RB, W.heap.size = RB := ⟨_, rfl⟩
        obtain ⟨X1, hX1⟩ : ∃ X1, W.alloc (.cells #[.int .i64 1] 3) = X1 := ⟨_, rfl⟩
        have hbX1 : Below W.heap.size W X1 := by rw [← hX1]; exact (Below.refl _ W).alloc (Nat.le_refl _) _
        have zX1 : W.heap.size + 1 ≤ X1.heap.size := by rw [← hX1]; simp
        have bo1 : Boxed X1 RB 3 (.int .i64 1) := by rw [← hX1, ← hRB]; exact Boxed.new W _ _
        have bn1 : Boxed X1 w.heap.size 3 (.int .i64 n) := (hbX1.block _ (hst.box bnV0 (by omega) (by omega) (by omega) (by omega)).lt).trans (hst.box bnV0 (by omega) (by omega) (by omega) (by omega))
        have bs1 : Boxed X1 (w.heap.size + 1) 3 (.int .i64 stop) := (hbX1.block _ (hst.box bsV0 (by omega) (by omega) (by omega) (by omega)).lt).trans (hst.box bsV0 (by omega) (by omega) (by omega) (by omega))
        have bR1 : Boxed X1 (w.heap.size + 1 + 1) 4 (.bool false) := (hbX1.block _ (hst.box bRV0 (by omega) (by omega) (by omega) (by omega)).lt).trans (hst.box bRV0 (by omega) (by omega) (by omega) (by omega))
        have br1 : Boxed X1 w3.heap.size 32 (.pointer (some ⟨w2.heap.size, 0, none⟩)) := (hbX1.block _ (hst.box brV0 (by omega) (by omega) (by omega) (by omega)).lt).trans (hst.box brV0 (by omega) (by omega) (by omega) (by omega))
        have hwX1 : Below w.heap.size w X1 := hwW.trans (hbX1.mono hwW.size)
        have HR1 : Hid (Src w1.heap.size X1 g (reach l) i p t) := hst.src.below hbX1
        have HV1 : Hid (RSu rv (w2.heap.size + 1) w3.heap.size X1 w2.heap.size l i p t) := RSu.kept hst.ref (grown_below (row := none) hbX1) (fun _ e => by cases e)
        have HI1 : Hid (Inv l i p t) := hst.inv
        have HD1 : Hid (X1.heap[V.heap.size]? = some (.deferred (some []))) := (hbX1.block _ (lt_of_at hst.dfr)).trans hst.dfr
        have hRB1 : V.heap.size + 2 ≤ RB := by omega
        have hRB2 : RB < X1.heap.size := by omega
        clear hD hst hVW hwW hbX1 zX1
        gi_wp2_with fail
        try rw [hRB]
        try rw [hX1]
        clear hRB hX1 cO cK co cs hov
        clear bm0 bsp0 bnn0 hBm0 hBs0 hBn0 hXV0 bk0 bov0 hwV0 bnV0 bsV0 bRV0 brV0 boV0 HRV0 HVV0 hG0 hlB0 bo0 bn0 bs0 bR0 br0 hwX0 HR0 HV0 HI0
        have co1 := bo1.cell
        have cnA1 : ∀ o1 o2, ((X1.alloc o1).alloc o2).cell? ⟨w.heap.size, 0, none⟩ = some (.int .i64 n) := fun o1 o2 => ((bn1.alloc o1).alloc o2).cell
        rw [roundsIn_succ]
        gi_wp2_with fail
        have hb0A1 : Below X1.heap.size X1 ((X1.alloc (.cells #[.int .i64 0] 3)).alloc (.cells #[.bool false] 4)) := ((Below.refl _ X1).alloc (Nat.le_refl _) _).alloc (by simp) _
        refine ⟨trivial, (callsIn_wide.2 (all_boxes _ g (reach l) i p t n (HR1.out.below hb0A1))).mono ?_⟩
        rintro e V2 ⟨Bm1, Bs1, Bn1, rfl, bm1, bsp1, bnn1, hBm1, hBs1, hBn1, hbV1⟩
        have hq := eql_func
        gi_wp2_with fail
        clear hq
        simp only [World.size_alloc] at hBm1 hBs1 hBn1
        have hXV1 : Below X1.heap.size X1 V2 := hb0A1.trans (hbV1.mono (by simp; omega))
        have bk1 : Boxed V2 X1.heap.size 3 (.int .i64 0) := (hbV1.block _ (by simp; omega)).trans ((Boxed.new X1 _ _).alloc _)
        have bov1 : Boxed V2 (X1.heap.size + 1) 4 (.bool false) := (hbV1.block _ (by simp)).trans (show Boxed _ _ _ _ by have := Boxed.new (X1.alloc (.cells #[.int .i64 0] 3)) 4 (.bool false); rwa [World.size_alloc] at this)
        have sV1 := hXV1.size
        have hBoV1 := bov1.lt
        have hwV1 : Below w.heap.size w V2 := hwX1.trans (hXV1.mono hwX1.size)
        have bnV1 : Boxed V2 w.heap.size 3 (.int .i64 n) := (hXV1.block _ bn1.lt).trans bn1
        have bsV1 : Boxed V2 (w.heap.size + 1) 3 (.int .i64 stop) := (hXV1.block _ bs1.lt).trans bs1
        have bRV1 : Boxed V2 (w.heap.size + 1 + 1) 4 (.bool false) := (hXV1.block _ bR1.lt).trans bR1
        have brV1 : Boxed V2 w3.heap.size 32 (.pointer (some ⟨w2.heap.size, 0, none⟩)) := (hXV1.block _ br1.lt).trans br1
        have boV1 : Boxed V2 RB 3 (.int .i64 1) := (hXV1.block _ bo1.lt).trans bo1
        have HRV1 : Hid (Src w1.heap.size V2 g (reach l) i p t) := HR1.out.below hXV1
        have HVV1 : Hid (RSu rv (w2.heap.size + 1) w3.heap.size V2 w2.heap.size l i p t) := RSu.kept HV1.out (grown_below (row := none) hXV1) (fun _ e => by cases e)
        have hG1 : Geo w1.heap.size g w2.heap.size w3.heap.size X1.heap.size (X1.heap.size + 1) V2 := ⟨hg1, hg2, hgr, by omega, by omega, by omega⟩
        have hlB1 := bo1.lt
        clear hb0A1 hbV1 cnA1 co1
        refine wpIn_rangeFunc_by rfl (by omega) (gf := 26) (lb := #[.pointer (some ⟨Bm1, 0, none⟩), .pointer (some ⟨Bs1, 0, none⟩), .pointer (some ⟨Bn1, 0, none⟩)]) rfl trivial (enters_of Try.func26 (by kernel_rfl) rfl)
          (fun W => ∃ o, StE rv w1.heap.size g w2.heap.size w3.heap.size X1.heap.size (X1.heap.size + 1) l V2 o W) (fun _ _ => False) ?_ ?_ ?_
        · intro oR oB oX W1 _ _ _ hbW1 hzW1 hD1 hL1 hyield
          have hst := St.start HI1.out HRV1.out HVV1.out bk1 bov1 hbW1 hD1 hL1
          refine (all1_arg 5 (by omega) _ g w1.heap.size Bm1 Bs1 Bn1 n (reach l) i p t (StE rv w1.heap.size g w2.heap.size w3.heap.size X1.heap.size (X1.heap.size + 1) l V2 oR) Never W1 hst.src
            (hst.box bm1 (by omega) (by omega) (by omega) (by omega)).cell (hst.box bsp1 (by omega) (by omega) (by omega) (by omega)).cell (hst.box bnn1 (by omega) (by omega) (by omega) (by omega)).cell hn ?_).mono ?_
          · intro Wa hba
            have hst2 := hst.below hG1 hba
            refine hyield _ Wa _ rfl hst2.lp ?_
            gi_wp2_with fail
            refine ⟨hst2.lp, ?_⟩
            have hst3 := hst2.put hG1 oB
            obtain ⟨Wb, hWb⟩ : ∃ Wb, Wa.putObj (V2.heap.size + 1) oB = Wb := ⟨_, rfl⟩
            rw [hWb] at hst3 ⊢
            clear hWb hst2 hba
            have cO := hst3.ovr.cell
            have cN := (hst3.box bnV1 (by omega) (by omega) (by omega) (by omega)).cell
            have hnd : decide ((n : Int) < 1) = true := by simpa using hn
            gi_wp2_with fail
            refine ⟨trivial, ((callsIn_wide.2 (alike_calls [] [] (.slice none 0 0) (.slice none 0 0) 1 1 Wb.heap.size Wb.heap.size Wb (by simp) (World.ownsRow_nil _ _ _ _) (.inl ⟨rfl, _, _, rfl⟩))).inRound _).mono ?_⟩
            rintro e We ⟨rfl, hg9⟩
            rw [show (decide ((1 : Int) = 1) && decide (([] : List UInt8) = [])) = true from rfl]
            have hst6 := hst3.grown hG1 hg9 (fun j e => by simp [Value.ownBlock] at e)
            have cO6 := hst6.ovr.cell
            have fO6 := hst6.ovr.frozen
            have HST : Hid (St rv w1.heap.size g w2.heap.size w3.heap.size X1.heap.size (X1.heap.size + 1) l V2 i p t i p t 0 true oB (We.setCell ⟨X1.heap.size + 1, 0, none⟩ (.bool true))) := hst6.setO hG1 true
            clear hst6 hst3 hg9
            gi_wp2
            exact ⟨HST.out.lp, .inl ⟨rfl, _, _, _, _, HST.out.put hG1 oR⟩⟩
          · rintro e W' ⟨he, (⟨i, p, t, kk, h⟩ | h)⟩
            · exact ⟨he, h.dfr, .inl ⟨h.lp, fun o' => ⟨o', i, p, t, kk, h.put hG1 o'⟩⟩⟩
            · exact (show False from h).elim
        · rintro W ⟨o, i2, p2, t2, kk2, hst⟩ hD2
          have cO := hst.ovr.cell
          have co := (hst.box boV1 (by omega) (by omega) (by omega) (by omega)).cell
          have zW := hst.size
          have hVW : Below w.heap.size V2 W := hst.keep.below hwV1.size (fun k hk => by
            have := hwX1.size
            rintro (h | h | h | h | h) <;> omega)
          have hwW : Below w.heap.size w W := hwV1.trans (hVW.mono (Nat.le_refl _))
          have bRW := hst.box bRV1 (by omega) (by omega) (by omega) (by omega)
          have hD1V : V2.heap[V.heap.size]? = some (.deferred (some [])) := (hXV1.block _ (by omega)).trans HD1.out
          have hD1W : W.heap[V.heap.size]? = some (.deferred (some [])) := (hst.keep.block _ (by omega) (fun h => by rcases h with h | h | h | h | h <;> omega)).trans hD1V
          gi_wp2_with fail
          rw [roundsIn_succ]
          gi_wp2_with fail
          obtain ⟨X2, hX2⟩ : ∃ X2, W.alloc (.cells #[.int .i64 2] 3) = X2 := ⟨_, rfl⟩
          have hbX2 : Below W.heap.size W X2 := by rw [← hX2]; exact (Below.refl _ W).alloc (Nat.le_refl _) _
          rw [hX2]
          clear hX2
          refine ⟨trivial, (callsIn_wide.2 (awake_calls X2)).mono ?_⟩
          rintro e Y ⟨rfl, hbY⟩
          have hWY : Below W.heap.size W Y := hbX2.trans (hbY.mono hbX2.size)
          have hwY : Below w.heap.size w Y := hwW.trans (hWY.mono hwW.size)
          have bRY : Boxed Y (w.heap.size + 1 + 1) 4 (.bool false) := (hWY.block _ bRW.lt).trans bRW
          have cRY := bRY.cell
          have fRY := bRY.frozen
          have hKa := (hWY.block _ (lt_of_at hD1W)).trans hD1W
          have hKb := (hWY.block _ (lt_of_at hD2)).trans hD2
          have hltR := bRW.lt
          clear hbX2 hbY hWY hVW hwW hD1V hD1W hD2 hst cO co
          have hRs := (bRY.set (.bool true)).cell
          gi_wp2
          have hKb' : (Y.setCell ⟨w.heap.size + 1 + 1, 0, none⟩ (.bool true)).heap[V2.heap.size]? = some (.deferred (some [])) := (Below.heap_setCell _ _ _ V2.heap.size (by show V2.heap.size ≠ w.heap.size + 1 + 1; omega)).trans hKb
          have hKa' : ((Y.setCell ⟨w.heap.size + 1 + 1, 0, none⟩ (.bool true)).putObj V2.heap.size (.deferred none)).heap[V.heap.size]? = some (.deferred (some [])) := (World.putObj_heap_other (by omega)).trans ((Below.heap_setCell _ _ _ V.heap.size (by show V.heap.size ≠ w.heap.size + 1 + 1; omega)).trans hKa)
          refine ⟨by simp, .inl ⟨_, _, rfl, run_takeDeferred hKb', ?_⟩⟩
          refine ⟨by simp, .inl ⟨_, _, rfl, run_takeDeferred hKa', ?_⟩⟩
          have hc9 : (((Y.setCell ⟨w.heap.size + 1 + 1, 0, none⟩ (.bool true)).putObj V2.heap.size (.deferred none)).putObj V.heap.size (.deferred none)).cell? ⟨w.heap.size + 1 + 1, 0, none⟩ = some (.bool true) := by
            rw [World.cell?_of_block (World.putObj_heap_other (by show w.heap.size + 1 + 1 ≠ V.heap.size; omega)), World.cell?_of_block (World.putObj_heap_other (by show w.heap.size + 1 + 1 ≠ V2.heap.size; omega))]
            exact hRs
          refine ⟨.bool true, by simp [results, Try.f3, go_sem, hc9], rfl, ?_⟩
          have y1 := lt_of_at hKb'
          have y2 := lt_of_at hKa'
          exact ((hwY.setCell (p := ⟨w.heap.size + 1 + 1, 0, none⟩) (show w.heap.size ≤ w.heap.size + 1 + 1 by omega) _).grown (grownBy_putObj' _ V2.heap.size _) (by omega) (fun k e => by cases e; omega)).grown (grownBy_putObj' _ V.heap.size _) (by omega) (fun k e => by cases e; omega)
        · exact fun c W h => h.elim
    · obtain ⟨nn, rfl⟩ : ∃ nn : Nat, n = (nn : Int) := ⟨n.toNat, by omega⟩
      refine wpIn_rangeFunc_by rfl (by omega) (gf := 26) (lb := #[.pointer (some ⟨Bm0, 0, none⟩), .pointer (some ⟨Bs0, 0, none⟩), .pointer (some ⟨Bn0, 0, none⟩)]) rfl trivial (enters_of Try.func26 (by kernel_rfl) rfl)
        (fun W => ∃ o, StE rv w1.heap.size g w2.heap.size w3.heap.size X0.heap.size (X0.heap.size + 1) l V o W)
        (fun c W => c = .exit 2 ∧ ∃ o, StX rv w1.heap.size g w2.heap.size w3.heap.size X0.heap.size (X0.heap.size + 1) l V stop o W) ?iter ?done ?stop
      case iter =>
        intro oR oB oX W1 _ _ _ hbW1 hzW1 hD1 hL1 hyield
        have hst := St.start HI0.out HRV0.out HVV0.out bk0 bov0 hbW1 hD1 hL1
        refine (all1_in 5 (by omega) _ g w1.heap.size nn Bm0 Bs0 Bn0 l
          (fun i p t W => ∃ kk : Int, 0 ≤ kk ∧ kk ≤ (i + t : Nat) ∧ St rv w1.heap.size g w2.heap.size w3.heap.size X0.heap.size (X0.heap.size + 1) l V i p t i p t kk false oR W)
          (StE rv w1.heap.size g w2.heap.size w3.heap.size X0.heap.size (X0.heap.size + 1) l V oR)
          (StX rv w1.heap.size g w2.heap.size w3.heap.size X0.heap.size (X0.heap.size + 1) l V stop (oX (.exit 2)))
          ?_ ?_ (by omega) (by omega) HD.out (by omega) (by have := HSZ.out; omega) 0 0 0 W1 ⟨0, by omega, by omega, hst⟩).mono ?_
        · rintro i p t W ⟨kk, _, _, h⟩
          exact ⟨h.inv, h.src, (h.box bm0 (by omega) (by omega) (by omega) (by omega)).cell, (h.box bsp0 (by omega) (by omega) (by omega) (by omega)).cell, (h.box bnn0 (by omega) (by omega) (by omega) (by omega)).cell⟩
        · rintro i p t Wp ⟨kk, hk0, hk1, hst1⟩ d Wa ho1 hS1 hg7
          have hst2 := hst1.read hG0 (hst1.inv.step nn) hS1 hg7
          refine hyield _ Wa _ rfl hst2.lp ?_
          gi_wp2_with fail
          refine ⟨hst2.lp, ?_⟩
          have hst3 := hst2.put hG0 oB
          have ho3 := own_kept ho1 (grownBy_putObj' Wa (V.heap.size + 1) oB) (fun j e => by cases e; have := hst1.size; omega)
          have z1 := hst1.size
          obtain ⟨Wb, hWb⟩ : ∃ Wb, Wa.putObj (V.heap.size + 1) oB = Wb := ⟨_, rfl⟩
          rw [hWb] at hst3 ho3 ⊢
          have HI1 : Hid (Inv l i p t) := hst1.inv
          clear hWb hst2 ho1 hS1 hg7 hst1
          have hpl : ∀ h : i < l.length, p ≤ l[i].1.length := fun h => by
            rcases HI1.out.cases with ⟨h1, h2, e⟩ | ⟨h1, _⟩
            · rw [e]; exact HI1.out.part_le h1
            · omega
          have hbd := HI1.out.bound
          have hil := HI1.out.le_l
          have hbd2 := (HI1.out.step nn).bound
          have hszl := HSZ.out
          have hXl : (rdX l i p nn).length ≤ 1048576 := by
            have h1 := rdX_length l i p nn
            omega
          have RC : Hid (Calls Try.prog 13 #[.pointer (some ⟨w2.heap.size, 0, none⟩), .int .i64 nn] Wb fun e W' => ∃ d, e = .returned (.tuple #[d, .int .i64 (rdE l i p)]) ∧ W'.ownsRow Wb.heap.size 5 1 d (rdX l i p nn).length (bvs (rdX l i p nn)) ∧ RSv rv (w2.heap.size + 1) W' w2.heap.size l (rdN l i p nn).1 (rdN l i p nn).2 (t + rdK l i p nn) ∧ Wb.grownBy W' (some w2.heap.size)) :=
            rdread_calls Wb w2.heap.size l i p t nn hst3.ref.1 (by omega) HI1.out.le_l hpl HD.out (by omega) (by omega) (by omega)
          have HGO : Hid (rdE l i p = 0 → i < (rdN l i p nn).1 ∨ (i = (rdN l i p nn).1 ∧ 1 ≤ rdK l i p nn)) := rd_goes l i p nn (by omega) hpl
          obtain ⟨d1, d2, rfl⟩ := owns_slice ho3
          have cO := hst3.ovr.cell
          have cN := (hst3.box bnV0 (by omega) (by omega) (by omega) (by omega)).cell
          have cr := (hst3.box brV0 (by omega) (by omega) (by omega) (by omega)).cell
          have hnd : decide ((nn : Int) < 1) = false := by simp; omega
          clear hpl
          gi_wp2_with fail
          refine ⟨trivial, ((callsIn_wide.2 RC.out).inRound _).mono ?_⟩
          rintro e Wc ⟨d8, rfl, ho8, hV8, hg8⟩
          have hst4 := hst3.rref hG0 hV8 hg8
          have z3 := hst3.size
          have ho4 := own_kept ho3 hg8 (fun j e => by cases e; omega)
          have hst5 := hst4.setO hG0 (rdE l i p != 0)
          have ho5 := own_kept ho4 (grown_set Wc (X0.heap.size + 1) 0 (.bool (rdE l i p != 0))) (fun j e => by cases e; omega)
          have ho9 := own_kept ho8 (grown_set Wc (X0.heap.size + 1) 0 (.bool (rdE l i p != 0))) (fun j e => by cases e; omega)
          obtain ⟨e1, e2, rfl⟩ := owns_slice ho8
          have cO4 := hst4.ovr.cell
          have fO4 := hst4.ovr.frozen
          have HC : Hid (rdE l i p = 0 → kk + 1 ≤ (((rdN l i p nn).1 + (t + rdK l i p nn) : Nat) : Int) ∧ kk + 1 ≤ ((rdN l i p nn).1 : Int) + ((t : Int) + (rdK l i p nn : Int))) := fun he => by
            have := HGO.out he
            omega
          clear hst3 ho3 hV8 hg8 ho4 ho8 RC HGO cO cN cr
          gi_wp2_with fail
          obtain ⟨Wd, hWd⟩ : ∃ Wd, Wc.setCell ⟨X0.heap.size + 1, 0, none⟩ (.bool (rdE l i p != 0)) = Wd := ⟨_, rfl⟩
          rw [hWd] at hst5 ho5 ho9 ⊢
          clear hWd hst4 cO4 fO4
          refine ⟨trivial, ((callsIn_wide.2 (alike_calls (rdX l i p nn) (rdX l i p nn) _ _ (rdE l i p) (rdE l i p) Wp.heap.size Wd.heap.size Wd (by omega) ho5 (hasB_owns ho9))).inRound _).mono ?_⟩
          rintro e We ⟨rfl, hg9⟩
          rw [show (decide (rdE l i p = rdE l i p) && decide (rdX l i p nn = rdX l i p nn)) = true by rw [decide_eq_true rfl, decide_eq_true rfl]; rfl]
          have hst6 := hst5.grown hG0 hg9 (fun j e => by have := (ho5.lt j e).1; omega)
          clear hg9 hst5 ho5 ho9
          have hwr : IntKind.i64.wrap (kk + 1) = kk + 1 := by rw [IntKind.wrap_i64]; omega
          have cK := hst6.cnt.cell
          have fK := hst6.cnt.frozen
          have hst7 := hst6.setK hG0 (kk + 1)
          have cK7 := hst7.cnt.cell
          have cr7 := (hst7.box boV0 (by omega) (by omega) (by omega) (by omega)).cell
          have cs7 := (hst7.box bsV0 (by omega) (by omega) (by omega) (by omega)).cell
          have HST : Hid (St rv w1.heap.size g w2.heap.size w3.heap.size X0.heap.size (X0.heap.size + 1) l V (rdN l i p nn).1 (rdN l i p nn).2 (t + rdK l i p nn) (rdN l i p nn).1 (rdN l i p nn).2 (t + rdK l i p nn) (kk + 1) (rdE l i p != 0) oB (We.setCell ⟨X0.heap.size, 0, none⟩ (.int .i64 (kk + 1)))) := hst7
          clear hst6 hst7
          by_cases hks : kk + 1 = stop
          · have tks : ((kk + 1 : Int) == stop) = true := by simpa using hks
            have HKS : Hid (kk + 1 = stop) := hks
            clear hks
            gi_wp2
            refine ⟨HST.out.lp, Or.inr ⟨rfl, ?_⟩⟩
            have := HST.out.put hG0 (oX (.exit 2))
            rw [HKS.out] at this ⊢
            exact ⟨_, _, _, _, this⟩
          · have tks : ((kk + 1 : Int) == stop) = false := by simpa using hks
            clear hks
            gi_wp2
            refine ⟨HST.out.lp, Or.inl ⟨rfl, fun he => ⟨kk + 1, Int.add_nonneg hk0 (by decide), ?_, ?_⟩, fun he => ?_⟩⟩
            · first | with_reducible exact (HC.out he).2 | with_reducible exact (HC.out he).1
            · have := HST.out.put hG0 oR
              rw [show (rdE l i p != 0) = false by simpa using he] at this
              exact this
            · have := HST.out.put hG0 oR
              rw [show (rdE l i p != 0) = true by simpa using he] at this
              exact ⟨_, _, _, kk + 1, this⟩
        · rintro e W' ⟨he, (⟨i, p, t, kk, h⟩ | ⟨i, p, t, ov, h⟩)⟩
          · exact ⟨he, h.dfr, .inl ⟨h.lp, fun o' => ⟨o', i, p, t, kk, h.put hG0 o'⟩⟩⟩
          · exact ⟨he, h.dfr, .inr ⟨_, h.lp, fun o' => ⟨rfl, o', i, p, t, ov, h.put hG0 o'⟩⟩⟩
      case' done =>
        rintro W ⟨o, i, p, t, kk, hst⟩ hD
        obtain ⟨ov, hst, hov⟩ : ∃ ov, St rv w1.heap.size g w2.heap.size w3.heap.size X0.heap.size (X0.heap.size + 1) l V i p t i p t kk ov o W ∧ (ov = true ∨ kk = stop) := ⟨true, hst, .inl rfl⟩
      case' stop =>
        rintro c W ⟨rfl, o, i, p, t, ov, hst⟩ hD
        obtain ⟨kk, hst, hov⟩ : ∃ kk, St rv w1.heap.size g w2.heap.size w3.heap.size X0.heap.size (X0.heap.size + 1) l V i p t i p t kk ov o W ∧ (ov = true ∨ kk = stop) := ⟨stop, hst, .inr rfl⟩
      all_goals
        have cO := hst.ovr.cell
        have cK := hst.cnt.cell
        have co := (hst.box boV0 (by omega) (by omega) (by omega) (by omega)).cell
        have cs := (hst.box bsV0 (by omega) (by omega) (by omega) (by omega)).cell
        have hk2 : ov = false → (kk != stop) = false := fun h => by
          rcases hov with h' | h'
          · rw [h] at h'; cases h'
          · simp [h']
        have zW := hst.size
        have hVW : Below w.heap.size V W := hst.keep.below hwV0.size (fun k hk => by
          have := hwX0.size
          rintro (h | h | h | h | h) <;> omega)
        have hwW : Below w.heap.size w W := hwV0.trans (hVW.mono (Nat.le_refl _))
        obtain ⟨RB, hRB⟩ : ∃ RB, W.heap.size = RB := ⟨_, rfl⟩
        obtain ⟨X1, hX1⟩ : ∃ X1, W.alloc (.cells #[.int .i64 1] 3) = X1 := ⟨_, rfl⟩
        have hbX1 : Below W.heap.size W X1 := by rw [← hX1]; exact (Below.refl _ W).alloc (Nat.le_refl _) _
        have zX1 : W.heap.size + 1 ≤ X1.heap.size := by rw [← hX1]; simp
        have bo1 : Boxed X1 RB 3 (.int .i64 1) := by rw [← hX1, ← hRB]; exact Boxed.new W _ _
        have bn1 : Boxed X1 w.heap.size 3 (.int .i64 nn) := (hbX1.block _ (hst.box bnV0 (by omega) (by omega) (by omega) (by omega)).lt).trans (hst.box bnV0 (by omega) (by omega) (by omega) (by omega))
        have bs1 : Boxed X1 (w.heap.size + 1) 3 (.int .i64 stop) := (hbX1.block _ (hst.box bsV0 (by omega) (by omega) (by omega) (by omega)).lt).trans (hst.box bsV0 (by omega) (by omega) (by omega) (by omega))
        have bR1 : Boxed X1 (w.heap.size + 1 + 1) 4 (.bool false) := (hbX1.block _ (hst.box bRV0 (by omega) (by omega) (by omega) (by omega)).lt).trans (hst.box bRV0 (by omega) (by omega) (by omega) (by omega))
        have br1 : Boxed X1 w3.heap.size 32 (.pointer (some ⟨w2.heap.size, 0, none⟩)) := (hbX1.block _ (hst.box brV0 (by omega) (by omega) (by omega) (by omega)).lt).trans (hst.box brV0 (by omega) (by omega) (by omega) (by omega))
        have hwX1 : Below w.heap.size w X1 := hwW.trans (hbX1.mono hwW.size)
        have HR1 : Hid (Src w1.heap.size X1 g (reach l) i p t) := hst.src.below hbX1
        have HV1 : Hid (RSu rv (w2.heap.size + 1) w3.heap.size X1 w2.heap.size l i p t) := RSu.kept hst.ref (grown_below (row := none) hbX1) (fun _ e => by cases e)
        have HI1 : Hid (Inv l i p t) := hst.inv
        have HD1 : Hid (X1.heap[V.heap.size]? = some (.deferred (some []))) := (hbX1.block _ (lt_of_at hst.dfr)).trans hst.dfr
        have hRB1 : V.heap.size + 2 ≤ RB := by omega
        have hRB2 : RB < X1.heap.size := by omega
        clear hD hst hVW hwW hbX1 zX1
        cases ov
        case' true =>
          gi_wp2_with fail
          try rw [hRB]
          try rw [hX1]
          clear hRB hX1 cO cK co cs hk2 hov
        case' false =>
          have hk3 := hk2 rfl
          gi_wp2_with fail
          try rw [hRB]
          try rw [hX1]
          clear hRB hX1 cO cK co cs hk2 hov hk3
        all_goals
          clear bm0 bsp0 bnn0 hBm0 hBs0 hBn0 hXV0 bk0 bov0 hwV0 bnV0 bsV0 bRV0 brV0 boV0 HRV0 HVV0 hG0 hlB0 bo0 bn0 bs0 bR0 br0 hwX0 HR0 HV0 HI0
          have co1 := bo1.cell
          have cnA1 : ∀ o1 o2, ((X1.alloc o1).alloc o2).cell? ⟨w.heap.size, 0, none⟩ = some (.int .i64 nn) := fun o1 o2 => ((bn1.alloc o1).alloc o2).cell
          rw [roundsIn_succ]
          gi_wp2_with fail
          have hb0A1 : Below X1.heap.size X1 ((X1.alloc (.cells #[.int .i64 0] 3)).alloc (.cells #[.bool false] 4)) := ((Below.refl _ X1).alloc (Nat.le_refl _) _).alloc (by simp) _
          refine ⟨trivial, (callsIn_wide.2 (all_boxes _ g (reach l) i p t nn (HR1.out.below hb0A1))).mono ?_⟩
          rintro e V2 ⟨Bm1, Bs1, Bn1, rfl, bm1, bsp1, bnn1, hBm1, hBs1, hBn1, hbV1⟩
          have hq := eql_func
          gi_wp2_with fail
          clear hq
          simp only [World.size_alloc] at hBm1 hBs1 hBn1
          have hXV1 : Below X1.heap.size X1 V2 := hb0A1.trans (hbV1.mono (by simp; omega))
          have bk1 : Boxed V2 X1.heap.size 3 (.int .i64 0) := (hbV1.block _ (by simp; omega)).trans ((Boxed.new X1 _ _).alloc _)
          have bov1 : Boxed V2 (X1.heap.size + 1) 4 (.bool false) := (hbV1.block _ (by simp)).trans (show Boxed _ _ _ _ by have := Boxed.new (X1.alloc (.cells #[.int .i64 0] 3)) 4 (.bool false); rwa [World.size_alloc] at this)
          have sV1 := hXV1.size
          have hBoV1 := bov1.lt
          have hwV1 : Below w.heap.size w V2 := hwX1.trans (hXV1.mono hwX1.size)
          have bnV1 : Boxed V2 w.heap.size 3 (.int .i64 nn) := (hXV1.block _ bn1.lt).trans bn1
          have bsV1 : Boxed V2 (w.heap.size + 1) 3 (.int .i64 stop) := (hXV1.block _ bs1.lt).trans bs1
          have bRV1 : Boxed V2 (w.heap.size + 1 + 1) 4 (.bool false) := (hXV1.block _ bR1.lt).trans bR1
          have brV1 : Boxed V2 w3.heap.size 32 (.pointer (some ⟨w2.heap.size, 0, none⟩)) := (hXV1.block _ br1.lt).trans br1
          have boV1 : Boxed V2 RB 3 (.int .i64 1) := (hXV1.block _ bo1.lt).trans bo1
          have HRV1 : Hid (Src w1.heap.size V2 g (reach l) i p t) := HR1.out.below hXV1
          have HVV1 : Hid (RSu rv (w2.heap.size + 1) w3.heap.size V2 w2.heap.size l i p t) := RSu.kept HV1.out (grown_below (row := none) hXV1) (fun _ e => by cases e)
          have hG1 : Geo w1.heap.size g w2.heap.size w3.heap.size X1.heap.size (X1.heap.size + 1) V2 := ⟨hg1, hg2, hgr, by omega, by omega, by omega⟩
          have hlB1 := bo1.lt
          clear hb0A1 hbV1 cnA1 co1
          refine wpIn_rangeFunc_by rfl (by omega) (gf := 26) (lb := #[.pointer (some ⟨Bm1, 0, none⟩), .pointer (some ⟨Bs1, 0, none⟩), .pointer (some ⟨Bn1, 0, none⟩)]) rfl trivial (enters_of Try.func26 (by kernel_rfl) rfl)
            (fun W => ∃ o, StE rv w1.heap.size g w2.heap.size w3.heap.size X1.heap.size (X1.heap.size + 1) l V2 o W) (fun _ _ => False) ?_ ?_ ?_
          · intro oR oB oX W1 _ _ _ hbW1 hzW1 hD1 hL1 hyield
            have hst := St.start HI1.out HRV1.out HVV1.out bk1 bov1 hbW1 hD1 hL1
            refine (all1_in 5 (by omega) _ g w1.heap.size nn Bm1 Bs1 Bn1 l
              (fun i p t W => ∃ kk : Int, 0 ≤ kk ∧ kk ≤ (i + t : Nat) ∧ St rv w1.heap.size g w2.heap.size w3.heap.size X1.heap.size (X1.heap.size + 1) l V2 i p t i p t kk false oR W)
              (StE rv w1.heap.size g w2.heap.size w3.heap.size X1.heap.size (X1.heap.size + 1) l V2 oR)
              Never
              ?_ ?_ (by omega) (by omega) HD.out (by omega) (by have := HSZ.out; omega) i p t W1 ⟨0, by omega, by omega, hst⟩).mono ?_
            · rintro i p t W ⟨kk, _, _, h⟩
              exact ⟨h.inv, h.src, (h.box bm1 (by omega) (by omega) (by omega) (by omega)).cell, (h.box bsp1 (by omega) (by omega) (by omega) (by omega)).cell, (h.box bnn1 (by omega) (by omega) (by omega) (by omega)).cell⟩
            · rintro i p t Wp ⟨kk, hk0, hk1, hst1⟩ d Wa ho1 hS1 hg7
              have hst2 := hst1.read hG1 (hst1.inv.step nn) hS1 hg7
              refine hyield _ Wa _ rfl hst2.lp ?_
              gi_wp2_with fail
              refine ⟨hst2.lp, ?_⟩
              have hst3 := hst2.put hG1 oB
              have ho3 := own_kept ho1 (grownBy_putObj' Wa (V2.heap.size + 1) oB) (fun j e => by cases e; have := hst1.size; omega)
              have z1 := hst1.size
              obtain ⟨Wb, hWb⟩ : ∃ Wb, Wa.putObj (V2.heap.size + 1) oB = Wb := ⟨_, rfl⟩
              rw [hWb] at hst3 ho3 ⊢
              have HI1 : Hid (Inv l i p t) := hst1.inv
              clear hWb hst2 ho1 hS1 hg7 hst1
              have hpl : ∀ h : i < l.length, p ≤ l[i].1.length := fun h => by
                rcases HI1.out.cases with ⟨h1, h2, e⟩ | ⟨h1, _⟩
                · rw [e]; exact HI1.out.part_le h1
                · omega
              have hbd := HI1.out.bound
              have hil := HI1.out.le_l
              have hbd2 := (HI1.out.step nn).bound
              have hszl := HSZ.out
              have hXl : (rdX l i p nn).length ≤ 1048576 := by
                have h1 := rdX_length l i p nn
                omega
              have RC : Hid (Calls Try.prog 13 #[.pointer (some ⟨w2.heap.size, 0, none⟩), .int .i64 nn] Wb fun e W' => ∃ d, e = .returned (.tuple #[d, .int .i64 (rdE l i p)]) ∧ W'.ownsRow Wb.heap.size 5 1 d (rdX l i p nn).length (bvs (rdX l i p nn)) ∧ RSv rv (w2.heap.size + 1) W' w2.heap.size l (rdN l i p nn).1 (rdN l i p nn).2 (t + rdK l i p nn) ∧ Wb.grownBy W' (some w2.heap.size)) :=
                rdread_calls Wb w2.heap.size l i p t nn hst3.ref.1 (by omega) HI1.out.le_l hpl HD.out (by omega) (by omega) (by omega)
              have HGO : Hid (rdE l i p = 0 → i < (rdN l i p nn).1 ∨ (i = (rdN l i p nn).1 ∧ 1 ≤ rdK l i p nn)) := rd_goes l i p nn (by omega) hpl
              obtain ⟨d1, d2, rfl⟩ := owns_slice ho3
              have cO := hst3.ovr.cell
              have cN := (hst3.box bnV1 (by omega) (by omega) (by omega) (by omega)).cell
              have cr := (hst3.box brV1 (by omega) (by omega) (by omega) (by omega)).cell
              have hnd : decide ((nn : Int) < 1) = false := by simp; omega
              clear hpl
              gi_wp2_with fail
              refine ⟨trivial, ((callsIn_wide.2 RC.out).inRound _).mono ?_⟩
              rintro e Wc ⟨d8, rfl, ho8, hV8, hg8⟩
              have hst4 := hst3.rref hG1 hV8 hg8
              have z3 := hst3.size
              have ho4 := own_kept ho3 hg8 (fun j e => by cases e; omega)
              have hst5 := hst4.setO hG1 (rdE l i p != 0)
              have ho5 := own_kept ho4 (grown_set Wc (X1.heap.size + 1) 0 (.bool (rdE l i p != 0))) (fun j e => by cases e; omega)
              have ho9 := own_kept ho8 (grown_set Wc (X1.heap.size + 1) 0 (.bool (rdE l i p != 0))) (fun j e => by cases e; omega)
              obtain ⟨e1, e2, rfl⟩ := owns_slice ho8
              have cO4 := hst4.ovr.cell
              have fO4 := hst4.ovr.frozen
              have HC : Hid (rdE l i p = 0 → kk + 1 ≤ (((rdN l i p nn).1 + (t + rdK l i p nn) : Nat) : Int) ∧ kk + 1 ≤ ((rdN l i p nn).1 : Int) + ((t : Int) + (rdK l i p nn : Int))) := fun he => by
                have := HGO.out he
                omega
              clear hst3 ho3 hV8 hg8 ho4 ho8 RC HGO cO cN cr
              gi_wp2_with fail
              obtain ⟨Wd, hWd⟩ : ∃ Wd, Wc.setCell ⟨X1.heap.size + 1, 0, none⟩ (.bool (rdE l i p != 0)) = Wd := ⟨_, rfl⟩
              rw [hWd] at hst5 ho5 ho9 ⊢
              clear hWd hst4 cO4 fO4
              refine ⟨trivial, ((callsIn_wide.2 (alike_calls (rdX l i p nn) (rdX l i p nn) _ _ (rdE l i p) (rdE l i p) Wp.heap.size Wd.heap.size Wd (by omega) ho5 (hasB_owns ho9))).inRound _).mono ?_⟩
              rintro e We ⟨rfl, hg9⟩
              rw [show (decide (rdE l i p = rdE l i p) && decide (rdX l i p nn = rdX l i p nn)) = true by rw [decide_eq_true rfl, decide_eq_true rfl]; rfl]
              have hst6 := hst5.grown hG1 hg9 (fun j e => by have := (ho5.lt j e).1; omega)
              clear hg9 hst5 ho5 ho9
              have hwr : IntKind.i64.wrap (kk + 1) = kk + 1 := by rw [IntKind.wrap_i64]; omega
              have cK := hst6.cnt.cell
              have fK := hst6.cnt.frozen
              have hst7 := hst6.setK hG1 (kk + 1)
              have cK7 := hst7.cnt.cell
              have cr7 := (hst7.box boV1 (by omega) (by omega) (by omega) (by omega)).cell
              have cs7 := (hst7.box bsV1 (by omega) (by omega) (by omega) (by omega)).cell
              have HST : Hid (St rv w1.heap.size g w2.heap.size w3.heap.size X1.heap.size (X1.heap.size + 1) l V2 (rdN l i p nn).1 (rdN l i p nn).2 (t + rdK l i p nn) (rdN l i p nn).1 (rdN l i p nn).2 (t + rdK l i p nn) (kk + 1) (rdE l i p != 0) oB (We.setCell ⟨X1.heap.size, 0, none⟩ (.int .i64 (kk + 1)))) := hst7
              clear hst6 hst7
              gi_wp2
              refine ⟨HST.out.lp, Or.inl ⟨rfl, fun he => ⟨kk + 1, Int.add_nonneg hk0 (by decide), ?_, ?_⟩, fun he => ?_⟩⟩
              · first | with_reducible exact (HC.out he).2 | with_reducible exact (HC.out he).1
              · have := HST.out.put hG1 oR
                rw [show (rdE l i p != 0) = false by simpa using he] at this
                exact this
              · have := HST.out.put hG1 oR
                rw [show (rdE l i p != 0) = true by simpa using he] at this
                exact ⟨_, _, _, kk + 1, this⟩
            · rintro e W' ⟨he, (⟨i, p, t, kk, h⟩ | h)⟩
              · exact ⟨he, h.dfr, .inl ⟨h.lp, fun o' => ⟨o', i, p, t, kk, h.put hG1 o'⟩⟩⟩
              · exact (show False from h).elim
          · rintro W ⟨o, i2, p2, t2, kk2, hst⟩ hD2
            have cO := hst.ovr.cell
            have co := (hst.box boV1 (by omega) (by omega) (by omega) (by omega)).cell
            have zW := hst.size
            have hVW : Below w.heap.size V2 W := hst.keep.below hwV1.size (fun k hk => by
              have := hwX1.size
              rintro (h | h | h | h | h) <;> omega)
            have hwW : Below w.heap.size w W := hwV1.trans (hVW.mono (Nat.le_refl _))
            have bRW := hst.box bRV1 (by omega) (by omega) (by omega) (by omega)
            have hD1V : V2.heap[V.heap.size]? = some (.deferred (some [])) := (hXV1.block _ (by omega)).trans HD1.out
            have hD1W : W.heap[V.heap.size]? = some (.deferred (some [])) := (hst.keep.block _ (by omega) (fun h => by rcases h with h | h | h | h | h <;> omega)).trans hD1V
            gi_wp2_with fail
            rw [roundsIn_succ]
            gi_wp2_with fail
            obtain ⟨X2, hX2⟩ : ∃ X2, W.alloc (.cells #[.int .i64 2] 3) = X2 := ⟨_, rfl⟩
            have hbX2 : Below W.heap.size W X2 := by rw [← hX2]; exact (Below.refl _ W).alloc (Nat.le_refl _) _
            rw [hX2]
            clear hX2
            refine ⟨trivial, (callsIn_wide.2 (awake_calls X2)).mono ?_⟩
            rintro e Y ⟨rfl, hbY⟩
            have hWY : Below W.heap.size W Y := hbX2.trans (hbY.mono hbX2.size)
            have hwY : Below w.heap.size w Y := hwW.trans (hWY.mono hwW.size)
            have bRY : Boxed Y (w.heap.size + 1 + 1) 4 (.bool false) := (hWY.block _ bRW.lt).trans bRW
            have cRY := bRY.cell
            have fRY := bRY.frozen
            have hKa := (hWY.block _ (lt_of_at hD1W)).trans hD1W
            have hKb := (hWY.block _ (lt_of_at hD2)).trans hD2
            have hltR := bRW.lt
            clear hbX2 hbY hWY hVW hwW hD1V hD1W hD2 hst cO co
            have hRs := (bRY.set (.bool true)).cell
            gi_wp2
            have hKb' : (Y.setCell ⟨w.heap.size + 1 + 1, 0, none⟩ (.bool true)).heap[V2.heap.size]? = some (.deferred (some [])) := (Below.heap_setCell _ _ _ V2.heap.size (by show V2.heap.size ≠ w.heap.size + 1 + 1; omega)).trans hKb
            have hKa' : ((Y.setCell ⟨w.heap.size + 1 + 1, 0, none⟩ (.bool true)).putObj V2.heap.size (.deferred none)).heap[V.heap.size]? = some (.deferred (some [])) := (World.putObj_heap_other (by omega)).trans ((Below.heap_setCell _ _ _ V.heap.size (by show V.heap.size ≠ w.heap.size + 1 + 1; omega)).trans hKa)
            refine ⟨by simp, .inl ⟨_, _, rfl, run_takeDeferred hKb', ?_⟩⟩
            refine ⟨by simp, .inl ⟨_, _, rfl, run_takeDeferred hKa', ?_⟩⟩
            have hc9 : (((Y.setCell ⟨w.heap.size + 1 + 1, 0, none⟩ (.bool true)).putObj V2.heap.size (.deferred none)).putObj V.heap.size (.deferred none)).cell? ⟨w.heap.size + 1 + 1, 0, none⟩ = some (.bool true) := by
              rw [World.cell?_of_block (World.putObj_heap_other (by show w.heap.size + 1 + 1 ≠ V.heap.size; omega)), World.cell?_of_block (World.putObj_heap_other (by show w.heap.size + 1 + 1 ≠ V2.heap.size; omega))]
              exact hRs
            refine ⟨.bool true, by simp [results, Try.f3, go_sem, hc9], rfl, ?_⟩
            have y1 := lt_of_at hKb'
            have y2 := lt_of_at hKa'
            exact ((hwY.setCell (p := ⟨w.heap.size + 1 + 1, 0, none⟩) (show w.heap.size ≤ w.heap.size + 1 + 1 by omega) _).grown (grownBy_putObj' _ V2.heap.size _) (by omega) (fun k e => by cases e; omega)).grown (grownBy_putObj' _ V.heap.size _) (by omega) (fun k e => by cases e; omega)
          · exact fun c W h => h.elim

set_option maxRecDepth 100000 in
theorem contract (H : Type) (enc : TypeId × Value → H) (W : World) (base : Nat) (args : Array Value) (ds gs : List (DataW H)) (before : List MemPlace)
    (hval : ∀ (j : Nat) t v, Try.f3.params[j]? = some t → args[j]? = some v → Value.okWide Try.prog W .any base t v)
    (hW : DataW.Whole enc Try.prog Try.f3.params.toList Rows.chunkAllSpec.vars false W args.toList ds gs before)  (hk : Rows.uptoSmall H (ds ++ gs) = true) :
    Calls Try.prog 3 args W fun e W' => ∃ v, e = .returned v ∧ Rows.chunkAllSpec.post enc Try.prog Try.f3 false true false false W args v W' := by
  have hW' := hW
  have hlt := hW.lt
  obtain ⟨p, q, hA0, hV, rfl, hfz, hnd⟩ := hW
  have hA : DataW.TrodAll enc Try.prog W 0 (fun _ => true) true Try.f3.params.toList args.toList ds p := hA0
  rw [Try.params3] at hA hval
  obtain ⟨v0, vs0, d0, ds0, p0, q0, hargs, rfl, rfl, h0, r0⟩ := trodAll_cons hA
  obtain ⟨v1, vs1, d1, ds1, p1, q1, rfl, rfl, rfl, h1, r1⟩ := trodAll_cons r0
  obtain ⟨v2, vs2, d2, ds2, p2, q2, rfl, rfl, rfl, h2, r2⟩ := trodAll_cons r1
  obtain ⟨rfl, rfl, rfl⟩ := trodAll_nil r2
  obtain rfl : args = #[v0, v1, v2] := by cases args; simp_all
  obtain ⟨rfl, rfl⟩ := trodVars_none hV
  clear hA0
  simp only [List.append_nil] at hW' hlt hk
  have hbulk := of_decide_eq_true hk
  simp only [Rows.uptoBulkAll] at hbulk
  have e0 := okWide_slice Try.underlying22 (hval 0 22 v0 rfl rfl)
  obtain ⟨s0, hs0, l0⟩ := script_of_read e0 h0
  have h1' := h1
  obtain ⟨x1, rfl, e1, -, w1⟩ := open_int Try.underlying3 (hval 1 3 v1 rfl rfl) h1
  have h2' := h2
  obtain ⟨x2, rfl, e2, -, w2⟩ := open_int Try.underlying3 (hval 2 3 v2 rfl rfl) h2
  refine (walk W v0 s0 hs0 (by omega) x1 w1 x2 w2).mono fun e W' ⟨he, hb⟩ => ?_
  subst he
  exact ⟨_, rfl, post_below hW' (fun _ _ _ => trodAll_cons_mk (shut_bool Try.underlying4 _) trodAll_mk0) (trodAll_cons_mk (stays (by kernel_rfl) (of_decide_eq_true (by kernel_rfl)) h0 hb (fun x hx => hlt x (by simp [hx]))) (trodAll_cons_mk (stays (by kernel_rfl) (of_decide_eq_true (by kernel_rfl)) h1' hb (fun x hx => hlt x (by simp [hx]))) (trodAll_cons_mk (stays (by kernel_rfl) (of_decide_eq_true (by kernel_rfl)) h2' hb (fun x hx => hlt x (by simp [hx]))) trodAll_mk0))) rfl hb⟩

set_option maxRecDepth 100000 in
theorem laid_met (os : Os) : laidMet Try.prog Rows.chunkAllUptoRow.laid ((World.holding Try.prog os ⟨#[], #[], []⟩).forCall (fun _ _ => 0) ⟨#[], #[Value.slice none 0 0, Value.int .i64 0, Value.int .i64 0], []⟩).memory :=
  laidMet_of_run' 8 (by kernel_rfl) (by kernel_rfl)
set_option maxRecDepth 100000 in
theorem reads (os : Os) {H : Type} (enc : TypeId × Value → H) : ∃ places, DataW.whole enc Try.prog ((World.holding Try.prog os ⟨#[], #[], []⟩).forCall (fun _ _ => 0) ⟨#[], #[Value.slice none 0 0, Value.int .i64 0, Value.int .i64 0], []⟩).memory Try.f3.params.toList Rows.chunkAllSpec.vars false #[Value.slice none 0 0, Value.int .i64 0, Value.int .i64 0].toList 8 = some ([.nil, .lit (.int .i64 0), .lit (.int .i64 0)], [], places) :=
  ⟨[], by kernel_rfl⟩

set_option maxRecDepth 100000 in
theorem lifted (os : Os) (started : os.Started) (H : Type) (enc : TypeId × Value → H) (F : Stop.Interp) :
    ReturnsInHanded {} Try.checked os 3 .any ((Rows.OpenSpec.upto Rows.chunkAllSpec).preRow enc Try.prog Try.f3 Rows.chunkAllUptoRow.domain false Rows.chunkAllUptoRow.laid) (((Rows.OpenSpec.upto Rows.chunkAllSpec).at F).post enc Try.prog Try.f3 false true false false) := by
  obtain ⟨places, hx⟩ := reads os enc
  refine returnsInHanded_of_row (C := Try.checked) (s := Rows.OpenSpec.upto Rows.chunkAllSpec) own started (by kernel_rfl) Try.func3
    (witness_row_at (enc := enc) (C := Try.checked) false (World.holding Try.prog os ⟨#[], #[], []⟩) #[Value.slice none 0 0, Value.int .i64 0, Value.int .i64 0] rfl (by kernel_rfl) (by kernel_rfl) (by kernel_rfl)
      (OpenSpec.preRow_of_cond 8 hx (by kernel_rfl) (fun k hk => by cases hk; kernel_rfl) (by kernel_rfl) (laid_met os))) ?_
  intro W base args ds gs before hval hW _ hcond _ hL _ _
  exact contract H enc W base args ds gs before hval hW (hcond _ rfl)

set_option maxRecDepth 100000 in
theorem said : Rows.ChunkAllUptoSaid :=
  OpenClaim.holds_of_cond 3 Try.f3 rfl rfl rfl rfl rfl rfl rfl ⟨rfl, rfl, rfl, rfl, rfl⟩ rfl rfl rfl rfl rfl (by kernel_rfl) Try.func3 (by kernel_rfl)
    (of_decide_eq_true (by kernel_rfl)) (by unfold Func.isWrapper; first | (rw [if_pos (by decide +kernel)]; kernel_rfl) | (rw [if_neg (by decide +kernel)]; exact ⟨rfl, rfl⟩))
    (fun os started H enc _ F => by rw [OpenClaim.pre_eq_preRow]; exact lifted os started H enc F)


end Go.Proofs.Ytkdkkdajciacmaa.CAllL
