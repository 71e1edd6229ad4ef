/- What is proved here: the statement ChunkKeeps (nothing is lost: what is read, and what is taken of a buffer, one behind the other, is the script's bytes, all of them at the end, which is an error just if the script fails) holds for any script and any numbers, where the arguments hold at most 1048576 values together, with no other condition. -/
import Derived.Maps.AppendAt
import Derived.Test.YtfnbbbflgilfoaaCTake
namespace Go.Proofs.Ytfnbbbflgilfoaa.CKeeps
open Go.ChangeShapes Go.WideShapes Go.ChangeAt Go.RowKit C CInv

theorem over_rdE (l : Scr) (i p : Nat) (he : rdE l i p ≠ 0) : C.over l i p = true := by
  unfold rdE at he
  unfold C.over
  by_cases h : i < l.length
  · rw [dif_pos h] at he ⊢
    by_cases hf : (l[i].2 && decide (p = l[i].1.length)) = true
    · exact hf
    · rw [if_neg hf] at he; exact absurd rfl he
  · rw [dif_neg h]
theorem HasP.row {P : Nat → Prop} {W W' : World} {v : Value} {H : List UInt8} (h : HasP P W v H) {row : Option Nat} {s0 : Nat} (hg : W.grownBy W' row) (hr : ∀ j, row = some j → ∀ k, P k → k = j → False) (_hz : s0 ≤ W.heap.size) : HasP P W' v H :=
  h.below hg (fun j e hx => hr j e j hx rfl)
theorem HasP.turn {P P' : Nat → Prop} {W W' : World} {v : Value} {H : List UInt8} (h : HasP P W v H) {row : Option Nat} (hg : W.grownBy W' row) (hr : ∀ j, row = some j → ¬ P j) (hp : ∀ j, j < W.heap.size → P j → P' j) : HasP P' W' v H := by
  obtain ⟨a2, cap2, e, ec, e1, e2⟩ := h
  refine ⟨a2, cap2, e, ec, e1, fun ad e' j u hu => ?_⟩
  obtain ⟨c1, c2⟩ := e2 ad e' j u hu
  refine ⟨?_, hp _ (cell_lt c1) c2⟩
  rw [World.cell?_of_block (w := W) (hg.block _ (cell_lt c1) (fun e'' => hr _ e''.symm c2))]
  exact c1
/-- **A row is appended to a row of one's own**: where the new one lies. -/
theorem append_ownR {w : World} {ops : Array Oper} {rest : List Oper} {o : Oper} {a : Act} {Q : Exit → Act → World → Prop} (hgd : o.guard = none) (s x : Operand)
    (ho : o.op = .call { callee := .builtin .append, args := #[s, x], argTypes := #[37, 37] }) (s0 : Nat) (v : Value) (H : List UInt8) (hs : a.eval s = v) (hown : w.ownsRow s0 5 1 v H.length (bvs H))
    (xv : Value) (X : List UInt8) (hx : a.eval x = xv) (base : Nat) (hX : w.ownsRow base 5 1 xv X.length (bvs X)) (hs0 : s0 ≤ w.heap.size) (hl : H.length + X.length ≤ 100000000000000)
    (h : ∀ v' w', w'.ownsRow s0 5 1 v' (H ++ X).length (bvs (H ++ X)) → w.grownBy w' v.ownBlock → (v'.ownBlock = v.ownBlock ∨ v'.ownBlock = some w.heap.size) → wpList Try.prog ops Q rest (a.put o.dst v') w') : wpList Try.prog ops Q (o :: rest) a w := by
  obtain ⟨i0, hi, hz0, hz1, hz2⟩ := info_parts infoByte
  have hbv : bvs (H ++ X) = bvs H ++ bvs X := by simp [bvs]
  have key : ∀ ad m c, xv = .slice (some ad) m c → m = X.length ∧ ∀ j u, (bvs X)[j]? = some u → w.cell? (ad.add j) = some u := fun ad m c e => by
    rcases hX.2 with ⟨e', e0⟩ | ⟨g, cap, cur, e', _⟩
    · rw [e] at e'; cases e'
    · have hX' := hX
      rw [e'] at hX'
      rw [e] at e'
      cases e'
      refine ⟨rfl, fun j u hu => ?_⟩
      have hj : j < (bvs X).length := (List.getElem?_eq_some_iff.1 hu).1
      rw [bvs_length] at hj
      rw [add_none, Nat.zero_add, hX'.cellAt j (by omega)]
      exact hu
  obtain ⟨ax, cx, hxv⟩ := owns_slice hX
  cases ax with
  | none =>
    rcases hX.2 with ⟨e', e0⟩ | ⟨g, cap, cur, e', _⟩
    · have e1 : X = [] := List.length_eq_zero_iff.1 e0
      subst e1
      exact wpList_append_own_none hgd s x _ ho s0 _ i0 1 Try.underlying37 hi v _ _ hs hown (hx.trans e') (h v w (by simpa [bvs] using hown) (World.grownBy.refl _ _) (.inl rfl))
    · rw [hxv] at e'; cases e'
  | some ad =>
    obtain ⟨_, hc⟩ := key ad _ _ hxv
    exact wpList_append_own_at w hgd s x _ ho s0 _ i0 (.int .u8 0) 1 1 Try.underlying37 hi hz0 hz1 hz2 rfl (by decide) v _ _ hs hown ad X.length cx (bvs X) (hx.trans hxv) (by rw [bvs_length]; omega) hc (bvs_one X) (by unfold maxLen; omega) (by omega) hs0 (fun v' w' r1 r2 _ r4 => h v' w' (by rw [List.length_append, hbv]; exact r1) r2 r4)
theorem held_keep {s0 : Nat} {P : Nat → Prop} {W W' : World} {v : Value} {H : List UInt8} (h : HeldSt s0 (fun _ => False) W v H) (hk : KeepP P W W') (hp : ∀ k, s0 ≤ k → k < W.heap.size → ¬ P k) : HeldSt s0 (fun _ => False) W' v H := by
  rcases h with ⟨a, rfl, h1, h2⟩ | h
  · exact .inl ⟨a, rfl, h1, fun ad e j u hu => (h2 ad e j u hu).2.2.elim⟩
  · exact .inr (hk.owns h (fun k e => hp k (h.lt k e).1 (h.lt k e).2))

set_option maxRecDepth 100000 in
set_option maxHeartbeats 4000000 in
theorem walk (w : World) (lv : Value) (l : Scr) (hS : HasS w lv l) (hl : l.length + (l.map fun x => x.1.length).sum ≤ 1048576) (n : Int) (wn : (Lit.int .i64 n).wf = true) (size : Int) (_ws : (Lit.int .i64 size).wf = true) :
    Calls Try.prog 4 #[lv, .int .i64 n, .int .i64 size] w fun e w' => e = .returned (.bool true) ∧ Below w.heap.size w w' := by
  obtain ⟨la, lc, rfl⟩ := hS.slice
  have hn1 := wf_bounds wn
  simp [IntKind.min, IntKind.max, IntKind.signed, IntKind.bits] at hn1
  have HS : Hid (HasS w (.slice la l.length lc) l) := hS
  have HD : Hid (∀ x ∈ l, x.1.length ≤ 100000000000000) := fun x hx => by have := le_sum l x hx; omega
  have hsum : (l.map fun x => x.1.length).sum ≤ 1048576 := by omega
  have HSZ : Hid (sizeS l l.length ≤ 1048576) := by show _ ≤ _; simp only [sizeS, List.take_length]; omega
  have hll : (l.length : Int) ≤ 1048576 := by omega
  clear hS wn
  by_cases hbad : n < 1 ∨ size < 1 ∨ 1048576 < size
  · go_enter Try.func4, Try.ntmps4
    rcases hbad with hb | hb | hb
    · have d1 : decide (n < 1) = true := by simpa using hb
      go_wp2_with (go_at_call 9; refine (awake_calls _).mono ?_; rintro e w1 ⟨rfl, hb1⟩)
      go_ret
      exact ⟨rfl, hb1⟩
    · by_cases hn : n < 1
      · have d1 : decide (n < 1) = true := by simpa using hn
        go_wp2_with (go_at_call 9; refine (awake_calls _).mono ?_; rintro e w1 ⟨rfl, hb1⟩)
        go_ret
        exact ⟨rfl, hb1⟩
      · have d1 : decide (n < 1) = false := by simpa using hn
        have d2 : decide (size < 1) = true := by simpa using hb
        go_wp2_with (go_at_call 9; refine (awake_calls _).mono ?_; rintro e w1 ⟨rfl, hb1⟩)
        go_ret
        exact ⟨rfl, hb1⟩
    · by_cases hn : n < 1
      · have d1 : decide (n < 1) = true := by simpa using hn
        go_wp2_with (go_at_call 9; refine (awake_calls _).mono ?_; rintro e w1 ⟨rfl, hb1⟩)
        go_ret
        exact ⟨rfl, hb1⟩
      · have d1 : decide (n < 1) = false := by simpa using hn
        have d2 : decide (size < 1) = false := by simp; omega
        have d3 : decide (1048576 < size) = true := by simpa using hb
        go_wp2_with (go_at_call 9; refine (awake_calls _).mono ?_; rintro e w1 ⟨rfl, hb1⟩)
        go_ret
        exact ⟨rfl, hb1⟩
  · obtain ⟨nn, rfl⟩ : ∃ nn : Nat, n = (nn : Int) := ⟨n.toNat, by omega⟩
    obtain ⟨sz, rfl⟩ : ∃ sz : Nat, size = (sz : Int) := ⟨size.toNat, by omega⟩
    have d1 : decide ((nn : Int) < 1) = false := by simp; omega
    have d2 : decide ((sz : Int) < 1) = false := by simp; omega
    have d3 : decide (1048576 < (sz : Int)) = false := by simp; omega
    have b1 : 1 ≤ nn := by omega
    have b2 : 1 ≤ sz := by omega
    have b3 : sz ≤ 1048576 := by omega
    clear hbad
    go_enter Try.func4, Try.ntmps4
    go_wp2_with fail
    refine (steps_calls l _ w HS.out (by omega) HD.out).mono ?_
    rintro e w1 ⟨gv, rfl, hO1, hb1⟩
    go_wp2_with fail
    refine (bytes_calls l _ _ w1 hO1 (by omega) (by omega)).mono ?_
    rintro e w2 ⟨av, rfl, hA2, hb2⟩
    obtain ⟨aa, ac, rfl⟩ := owns_slice hA2
    have HAL : Hid (∀ k, (Value.slice aa (bytesOf l).1.length ac).ownBlock = some k → k < w2.heap.size) := fun k e => (hA2.lt k e).2
    have s1 := hb1.size
    have s2 := hb2.size
    have hw2 : Below w.heap.size w w2 := hb1.trans (hb2.mono s1)
    go_wp2_with fail
    refine (steps_calls l _ w2 (HS.out.below hw2) (by omega) HD.out).mono ?_
    rintro e w3 ⟨gv3, rfl, hO3, hb3⟩
    have s3 := hb3.size
    have hw3 : Below w.heap.size w w3 := hw2.trans (hb3.mono hw2.size)
    have HA3 : Hid (w3.ownsRow w1.heap.size 5 1 (.slice aa (bytesOf l).1.length ac) (bytesOf l).1.length (bvs (bytesOf l).1)) := owns_below hA2 hb3
    clear hO1 hb1 hA2 hb2
    go_wp2_with fail
    cases hlg : large l with
    | true =>
      refine (new_large l _ w3 (hasS_owns hO3) (by omega) HD.out hlg).mono ?_
      rintro e w4 ⟨rfl, hb4⟩
      have hw4 : Below w.heap.size w w4 := hw3.trans (hb4.mono hw3.size)
      go_wp2_with fail
      refine (steps_calls l _ w4 (HS.out.below hw4) (by omega) HD.out).mono ?_
      rintro e w5 ⟨gv5, rfl, hO5, hb5⟩
      have hw5 : Below w.heap.size w w5 := hw4.trans (hb5.mono hw4.size)
      go_wp2_with fail
      refine (new_large l _ w5 (hasS_owns hO5) (by omega) HD.out hlg).mono ?_
      rintro e w6 ⟨rfl, hb6⟩
      have hw6 : Below w.heap.size w w6 := hw5.trans (hb6.mono hw5.size)
      go_wp2_with (first
        | (go_at_call 7; refine (num_calls _ _).mono ?_; rintro e w' ⟨rfl, hx'⟩; obtain rfl : w6 = w' := hx'.symm)
        | (go_at_call 8; refine (rlarge_calls l _ w6 (HS.out.below hw6) (by omega) HD.out).mono ?_; rintro e w7 ⟨rfl, hb7⟩; rw [hlg])
        | (go_at_call 9; refine (awake_calls _).mono ?_; rintro e w8 ⟨rfl, hb8⟩))
      go_ret
      have hw7 : Below w.heap.size w w7 := hw6.trans (hb7.mono hw6.size)
      exact ⟨rfl, hw7.trans (hb8.mono hw7.size)⟩
    | false =>
      refine (new_small l _ w3 (hasS_owns hO3) (by omega) HD.out hlg).mono ?_
      rintro e w4 ⟨g, hg3, rfl, hR4, hb4⟩
      have s4 := hb4.size
      have hw4 : Below w.heap.size w w4 := hw3.trans (hb4.mono hw3.size)
      go_wp2_with fail
      refine (steps_calls l _ w4 (HS.out.below hw4) (by omega) HD.out).mono ?_
      rintro e w5 ⟨gv5, rfl, hO5, hb5⟩
      have s5 := hb5.size
      have hw5 : Below w.heap.size w w5 := hw4.trans (hb5.mono hw4.size)
      go_wp2_with fail
      refine (new_small l _ w5 (hasS_owns hO5) (by omega) HD.out hlg).mono ?_
      rintro e w6 ⟨g2, hg5, rfl, hR6, hb6⟩
      have s6 := hb6.size
      have hw6 : Below w.heap.size w w6 := hw5.trans (hb6.mono hw5.size)
      have hb46 : Below w4.heap.size w4 w6 := hb5.trans (hb6.mono s5)
      have HR : Hid (Src w3.heap.size w6 g (reach l) 0 0 0) := hR4.below hb46
      have HR2 : Hid (Src w5.heap.size w6 g2 (reach l) 0 0 0) := hR6
      have HA6 : Hid (w6.ownsRow w1.heap.size 5 1 (.slice aa (bytesOf l).1.length ac) (bytesOf l).1.length (bvs (bytesOf l).1)) := owns_below (owns_below HA3.out hb4) hb46
      have hglt : g < w4.heap.size := by obtain ⟨_, hB, _⟩ := hR4; exact hB.lt
      have hg2lt : g2 < w6.heap.size := by obtain ⟨_, hB, _⟩ := hR6; exact hB.lt
      clear hR4 hR6 hO3 hO5 hb3 hb4 hb5 hb6 hb46 HA3
      go_wp2_with (go_at_call 7; refine (num_calls _ _).mono ?_; rintro e w' ⟨rfl, hx'⟩; obtain rfl : w6 = w' := hx'.symm; clear hx')
      have hbd0 := total l
      have hFBle : (bytesOf l).1.length ≤ 1048576 := by
        have h1 := reach_size l (reach l).length (Nat.le_refl _)
        have hrl : (reach l).length ≤ l.length := by
          by_cases h0 : (reach l).length = 0
          · omega
          · obtain ⟨h', _⟩ := reach_get l ((reach l).length - 1) (by omega)
            omega
        have h2 := sizeS_mono l (reach l).length (l.length - (reach l).length)
        rw [show (reach l).length + (l.length - (reach l).length) = l.length by omega] at h2
        have := HSZ.out
        omega
      have hrl : (reach l).length ≤ l.length := by
        by_cases h0 : (reach l).length = 0
        · omega
        · obtain ⟨h', _⟩ := reach_get l ((reach l).length - 1) (by omega)
          omega
      have HRD : Hid (∀ x ∈ reach l, x.1.length ≤ 100000000000000) := fun x hx => by
        obtain ⟨j, hj, rfl⟩ := List.mem_iff_getElem.1 hx
        obtain ⟨h', e⟩ := reach_get l j hj
        rw [← e]; exact HD.out _ (List.getElem_mem _)
      obtain ⟨FB, hFB⟩ : ∃ FB, (bytesOf l).1 = FB := ⟨_, rfl⟩
      have HFB : Hid ((bytesOf l).1 = FB) := hFB
      rw [hFB] at HA6 HAL hFBle ⊢
      clear hFB hbd0
      go_loopw [13, 14, 15] (fun vg ve vc wr => ∃ (G : List UInt8) (ga : Option Addr) (gc i p t c : Nat) (E : Int), vg = .slice ga G.length gc ∧ ve = .int .i64 E ∧ vc = .int .i64 c ∧ Hid (G = FB.take t) ∧ Hid (Inv l i p t) ∧ Hid (Src w3.heap.size wr g (reach l) i p t) ∧ Hid (Src w5.heap.size wr g2 (reach l) 0 0 0) ∧ Hid (HeldSt w6.heap.size (fun _ => False) wr vg G) ∧ Hid (KeepP (fun j => j = g ∨ w6.heap.size ≤ j) w6 wr) ∧ ((E = 0 ∧ c ≤ i + t) ∨ (E ≠ 0 ∧ E = rdE l i p)))
        (fun _ ve _ wr => if intOf ve = 0 then 1 + (sizeS l l.length + (reach l).length - (intOf ((wr.cell? ⟨g, 2, none⟩).getD (.int .i64 0))).toNat - (intOf ((wr.cell? ⟨g, 4, none⟩).getD (.int .i64 0))).toNat) else 0)
      case atStart => exact ⟨[], none, 0, 0, 0, 0, 0, 0, rfl, rfl, rfl, (by show _ = _; simp), Inv.start l, HR, HR2, (by show HeldSt _ _ _ _ []; exact .inr (World.ownsRow_nil _ _ _ _)), KeepP.refl _ _, .inl ⟨rfl, by omega⟩⟩
      case round =>
        obtain ⟨G, ga, gc, i, p, t, c, E, rfl, rfl, rfl, hG, hI, hR, hRb, hH, hK, hE⟩ := hrel
        have hkw := hK.out.size
        by_cases he0 : E = 0
        · subst he0
          have hc : c ≤ i + t := by rcases hE with h | h; · exact h.2
                                    · exact absurd rfl h.1
          have hil := hI.out.le_l
          have htl := told_le hI.out
          rw [HFB.out] at htl
          have tc : decide (((FB.length : Int) + (l.length : Int)) < (c : Int)) = false := by simp; omega
          have hpl : ∀ h : i < l.length, p ≤ l[i].1.length := fun h => by
            rcases hI.out.cases with ⟨h1, h2, e⟩ | ⟨h1, _⟩
            · rw [e]; exact hI.out.part_le h1
            · omega
          have hIN := hI.out.step nn
          have htl2 := told_le hIN
          rw [HFB.out] at htl2
          have hKn : rdK l i p nn ≤ nn := by unfold rdK; split <;> omega
          have HGO : Hid (rdE l i p = 0 → i < (rdN l i p nn).1 ∨ (i = (rdN l i p nn).1 ∧ 1 ≤ rdK l i p nn)) := rd_goes l i p nn b1 hpl
          have RC : Hid (Calls Try.prog 15 #[.pointer (some ⟨g, 0, none⟩), .int .i64 nn] wr fun e W' => ∃ d, e = .returned (.tuple #[d, .int .i64 (rdE l i p)]) ∧ W'.ownsRow wr.heap.size 5 1 d (rdX l i p nn).length (bvs (rdX l i p nn)) ∧ Src w3.heap.size W' g (reach l) (rdN l i p nn).1 (rdN l i p nn).2 (t + rdK l i p nn) ∧ wr.grownBy W' (some g)) := by
            have h := cread_calls wr g (reach l) i p t nn hR.out b1 hI.out.le hI.out.part_le HRD.out (by omega) (by omega) (by omega)
            obtain ⟨q1, q2, q3, q4, q5⟩ := hI.out.same nn
            rw [q1, q2, q3, q4] at h
            exact h
          obtain ⟨G3, hG3⟩ : ∃ G3, G ++ rdX l i p nn = G3 := ⟨_, rfl⟩
          have HG3 : Hid (G ++ rdX l i p nn = G3) := hG3
          have HT3 : Hid (G3 = FB.take (t + rdK l i p nn)) := by
            show G3 = _
            rw [← hG3, hG.out, ← HFB.out]
            exact (told_on hI.out nn).symm
          have hl3 : G3.length ≤ FB.length := by rw [HT3.out]; simp; omega
          have hXl := rdX_length l i p nn
          obtain ⟨xl, hxl⟩ : ∃ xl, (rdX l i p nn).length = xl := ⟨_, rfl⟩
          have hxn : xl ≤ nn := by omega
          have hGl : G.length ≤ FB.length := by rw [hG.out]; simp; omega
          have HXL : Hid ((rdX l i p nn).length = xl) := hxl
          have HIN : Hid (Inv l (rdN l i p nn).1 (rdN l i p nn).2 (t + rdK l i p nn)) := hIN
          have HCE : Hid (wr.cell? ⟨g, 2, none⟩ = some (.int .i64 i) ∧ wr.cell? ⟨g, 4, none⟩ = some (.int .i64 t)) := Src.cellAt hR.out
          have t3 : decide ((FB.length : Int) < (G3.length : Int)) = false := by simp; omega
          have t4 : decide (FB.length < G3.length) = false := by simp; omega
          have t5 : decide (nn < xl) = false := by simp; omega
          have sz1 : G.length + (rdX l i p nn).length ≤ 100000000000000 := by omega
          clear hG3 hXl hxl hIN hpl
          have hg6 : g < w6.heap.size := by omega
          have hwc : IntKind.i64.wrap ((c : Int) + 1) = (c : Int) + 1 := by rw [IntKind.wrap_i64]; omega
          go_wp2_with (first
            | (go_at_call 15; refine RC.out.mono ?_; rintro e w7 ⟨d, rfl, ho7, hS7, hg7⟩; obtain ⟨da, dc, rfl⟩ := owns_slice ho7; have HO7 : Hid (w7.ownsRow wr.heap.size 5 1 (.slice da xl dc) (rdX l i p nn).length (bvs (rdX l i p nn))) := (by rw [← HXL.out]; exact ho7); have HE7 : Hid (HeldSt w6.heap.size (fun _ => False) w7 (.slice ga G.length gc) G) := hH.out.kept hg7 (fun j e => by cases e; exact ⟨hg6, fun hx => hx⟩); have z7 : w6.heap.size ≤ w7.heap.size := Nat.le_trans hkw hg7.size; rw [HXL.out]; clear ho7)
            | (at_builtin; refine append_held rfl _ _ rfl w6.heap.size (fun _ => False) (.slice ga G.length gc) G rfl HE7.out (.slice da xl dc) (rdX l i p nn) rfl _ HO7.out z7 sz1 ?_; intro v8 w8 hh8 hgr8; rw [HG3.out] at hh8; obtain ⟨a8, c8, rfl, _⟩ := hh8.slice; have HH8 : Hid (HeldSt w6.heap.size (fun _ => False) w8 (.slice a8 G3.length c8) G3) := hh8; clear hh8)
            | (go_at_call 7; refine (num_calls _ _).mono ?_; rintro e w' ⟨rfl, hx'⟩; obtain rfl : w8 = w' := hx'.symm; clear hx'))
          obtain ⟨row, hg8, hrow⟩ := hgr8
          have HS8 : Hid (Src w3.heap.size w8 g (reach l) (rdN l i p nn).1 (rdN l i p nn).2 (t + rdK l i p nn)) := Src.kept hS7 hg8 (fun k e => by have := hrow k e; exact ⟨by omega, .inr (by omega)⟩)
          have HB8 : Hid (Src w5.heap.size w8 g2 (reach l) 0 0 0) := Src.kept (Src.kept hRb.out hg7 (fun k e => by cases e; exact ⟨by omega, .inl (by omega)⟩)) hg8 (fun k e => by have := hrow k e; exact ⟨by omega, .inr (by omega)⟩)
          have HK8 : Hid (KeepP (fun j => j = g ∨ w6.heap.size ≤ j) w6 w8) := (hK.out.grown hg7 (fun j e => by cases e; exact .inl rfl)).grown hg8 (fun j e => .inr (hrow j e))
          go_roundw
          case rel =>
            refine ⟨G3, a8, c8, _, _, _, c + 1, rdE l i p, rfl, rfl, by go_num, HT3, HIN, HS8, HB8, HH8, HK8, ?_⟩
            by_cases he : rdE l i p = 0
            · have := HGO.out he
              exact .inl ⟨he, by omega⟩
            · exact .inr ⟨he, by rw [(rdE_stays l i p nn he).1, (rdE_stays l i p nn he).2]⟩
          case measure =>
            have m1 := Src.cellAt HS8.out
            have m3 := HIN.out.bound
            have m4 := HIN.out.le
            rw [m1.1, m1.2, HCE.out.1, HCE.out.2]
            by_cases he : rdE l i p = 0
            · have := HGO.out he
              simp [intOf, he]
              omega
            · simp [intOf, he]
              omega
        · have hEr : E = rdE l i p := by rcases hE with h | h; · exact absurd h.1 he0
                                         · exact h.2
          have hne : rdE l i p ≠ 0 := by rw [← hEr]; exact he0
          obtain ⟨q1, q2⟩ := rdE_end hI.out hne
          rw [HFB.out] at q1
          have hGF : G = FB := by rw [hG.out, q1, List.take_length]
          have hov : C.over (reach l) i p = true := by rw [(hI.out.same 1).2.2.2.2]; exact over_rdE l i p hne
          subst hGF
          have hcg := conv_bytes ((HasP.of_held (Q := fun _ => True) hH.out (fun _ h => h.elim) (fun _ _ => trivial)).take G.length gc (Nat.le_refl _) (by obtain ⟨a', cp', e', he'⟩ := hH.out.slice; cases e'; exact he'))
          rw [List.take_length] at hcg
          have HAr : Hid (wr.ownsRow w1.heap.size 5 1 (.slice aa G.length ac) G.length (bvs G)) := hK.out.owns HA6.out (fun k e => by have := HAL.out k e; rintro (h | h) <;> omega)
          have hca := conv_bytes (hasB_owns HAr.out)
          have te : (E == 0) = false := by simpa using he0
          obtain ⟨fl, hfl⟩ : ∃ fl, (bytesOf l).2 = fl := ⟨_, rfl⟩
          have t1 : (E == 20) = fl := by rw [← hfl]; rcases q2 with ⟨h1, h2⟩ | ⟨h1, h2⟩ <;> simp [hEr, h1, h2]
          have t0 : (fl != fl) = false := by simp
          have t2 : ((E == 21) == fl) = false := by rw [← hfl]; rcases q2 with ⟨h1, h2⟩ | ⟨h1, h2⟩ <;> simp [hEr, h1, h2]
          have HQ : Hid ((bytesOf l).2 = fl) := hfl
          have HT : Hid (t = G.length) := q1
          have HR3 : Hid (Src w3.heap.size wr g (reach l) i p t) := hR.out
          have HLE : Hid (i ≤ (reach l).length) := hI.out.le
          have HOV : Hid (C.over (reach l) i p = true) := hov
          have hKs : Hid (KeepP (fun j => j = g ∨ w6.heap.size ≤ j) w6 wr) := hK
          have hw0 : Below w.heap.size w wr := hw6.trans (hK.out.below hw6.size (fun k hk => by have := hw3.size; rintro (h | h) <;> omega))
          rw [hfl]
          clear hEr hne q1 q2 hov hfl hE hG hI hR hH
          go_wp2_with (first
            | (go_at_call 16; refine (over_calls wr g (reach l) i p t HR3.out HLE.out).mono ?_; rintro e w7 ⟨rfl, hb7⟩; rw [HOV.out])
            | (go_at_call 17; refine (told_calls w7 g (reach l) i p t (HR3.out.below hb7)).mono ?_; rintro e w' ⟨rfl, hx'⟩; obtain rfl : w7 = w' := hx'.symm; rw [HT.out]; clear hx')
            | (go_at_call 18; refine (newBuffer_calls w7 g2 (reach l) 0 0 0 sz (hRb.out.below hb7) (by omega) (by omega)).mono ?_; rintro e w8 ⟨b, rfl, hbuf8, hb8, hbw8⟩)
            | (go_at_call 7; refine (num_calls _ _).mono ?_; rintro e w' ⟨rfl, hx'⟩; obtain rfl : w8 = w' := hx'.symm; clear hx'))
          have hb7w : Below w.heap.size w w7 := hw0.trans (hb7.mono hw0.size)
          have hw8 : Below w.heap.size w w8 := hb7w.trans (hbw8.mono hb7w.size)
          have s7 := hb7.size
          have s8 := hbw8.size
          have hbl8 := Blk.lt hbuf8
          have HS8 : Hid (Src w5.heap.size w8 g2 (reach l) 0 0 0) := (hRb.out.below hb7).below hbw8
          have HA8 : Hid (w8.ownsRow w1.heap.size 5 1 (.slice aa G.length ac) G.length (bvs G)) := owns_below (owns_below HAr.out hb7) hbw8
          have HB8 : Hid (BufAt w8 b g2 sz 0 (.slice none 0 0)) := hbuf8
          have hx6 := hKs.out.size
          obtain ⟨need, hneed⟩ : ∃ k, min nn sz = k := ⟨_, rfl⟩
          have hmin : min (nn : Int) (sz : Int) = (need : Int) := by omega
          have hn2 : 1 ≤ need := by omega
          have hn3 : need ≤ sz := by omega
          have hgb : g2 < b := by omega
          clear hbuf8 hbw8 hb7 hb7w hcg hca HR3 hRb hneed t2 te HOV HLE
          go_loopw [20, 21, 22] (fun vt vs vc wq => ∃ (T : List UInt8) (ta : Option Addr) (tc : Nat) (Hh : List UInt8) (ha : Option Addr) (hcp i p t tk st c : Nat), vt = .slice ta T.length tc ∧ vs = .int .i64 st ∧ vc = .int .i64 c ∧ Hid (T = G.take tk) ∧ tk ≤ t ∧ Hid (Hh = (G.drop tk).take (t - tk)) ∧ Hid (Inv l i p t) ∧ Hid (Src w5.heap.size wq g2 (reach l) i p t) ∧ Hid (BufAt wq b g2 sz tk (.slice ha Hh.length hcp)) ∧ Hid (HasP (fun j => j ≠ g2 ∧ j ≠ b ∧ (Value.slice ta T.length tc).ownBlock ≠ some j) wq (.slice ha Hh.length hcp) Hh) ∧ Hid (wq.ownsRow w8.heap.size 5 1 (.slice ta T.length tc) T.length (bvs T)) ∧ Hid (KeepP (fun j => j = g2 ∨ j = b ∨ w8.heap.size ≤ j) w8 wq) ∧ c ≤ tk + i ∧ 100 * st ≤ i ∧ Hh.length ≤ sz ∧ Hh.length ≤ hcp)
            (fun _ _ _ wq => G.length + (reach l).length + 1 - (intOf ((wq.cell? ⟨g2, 2, none⟩).getD (.int .i64 0))).toNat - (intOf ((wq.cell? ⟨b, 3, none⟩).getD (.int .i64 0))).toNat)
          case atStart => exact ⟨[], none, 0, [], none, 0, 0, 0, 0, 0, 0, 0, rfl, rfl, rfl, (by show _ = _; simp), by omega, (by show _ = _; simp), Inv.start l, HS8, HB8, (by show HasP _ _ _ []; exact ⟨none, 0, rfl, Nat.le_refl _, fun _ => rfl, fun ad e => by cases e⟩), (by show World.ownsRow _ _ _ _ _ _ _; exact World.ownsRow_nil _ _ _ _), KeepP.refl _ _, by omega, by omega, by simp, by simp⟩
          case round =>
            obtain ⟨T, ta, tc, Hh, ha, hcp, i2, p2, t2, tk, st, c2, rfl, rfl, rfl, hT, htk, hHh, hI, hS, hBf, hP, hH, hK2, hc2, hst, hsz2, hcp2⟩ := hrel
            have hil := hI.out.le_l
            have hir := hI.out.le
            have htl := told_le hI.out
            rw [HFB.out] at htl
            have hkw := hK2.out.size
            have tcal : decide ((G.length : Int) + 2 * (l.length : Int) + 2 < (c2 : Int)) = false := by simp; omega
            have tst : decide ((st : Int) ≤ 65536) = true := by simp; omega
            have TC : Hid (Calls Try.prog 19 #[.pointer (some ⟨b, 0, none⟩), .int .i64 need] wr fun e W' => ∃ (E : Int) (d : Value) (H' : List UInt8) (i' p' t' : Nat), e = .returned (.tuple #[d, .int .i64 E]) ∧ W'.ownsRow wr.heap.size 5 1 d (H'.take need).length (bvs (H'.take need)) ∧ TakeEnd (fun j => (Value.slice ta T.length tc).ownBlock ≠ some j) w5.heap.size b g2 wr.heap.size sz tk need l wr i2 t2 Hh E H' i' p' t' W') :=
              take_calls _ wr (fun j hj e => by have := (hH.out.lt j e).2; omega) b g2 l i2 p2 t2 sz tk need ha hcp Hh hBf.out hI.out hS.out hP.out hcp2 hgb hsz2 (by omega) hn3 (by rw [HFB.out]; omega) (by omega) HD.out (by omega)
            have HCE : Hid (wr.cell? ⟨g2, 2, none⟩ = some (.int .i64 i2) ∧ wr.cell? ⟨b, 3, none⟩ = some (.int .i64 tk)) := ⟨(Src.cellAt hS.out).1, Blk.cell hBf.out 3⟩
            go_wp2_with fail
            refine TC.out.mono ?_
            rintro e w9 ⟨E2, d, H', i3, p3, t3, rfl, ho9, hTE⟩
            obtain ⟨hv9, f1, f2, f3, f4, f5, f6, f7, f8, f9, f10, f11⟩ := hTE
            obtain ⟨kk, hkk⟩ : ∃ kk, (H'.take need).length = kk := ⟨_, rfl⟩
            have htl3 := told_le f1
            rw [HFB.out] at htl3 f7
            have hH' : H' = (G.drop tk).take (t3 - tk) := by
              rw [f7, hHh.out, show t3 - tk = (t2 - tk) + (t3 - t2) by omega, List.take_add, List.drop_drop, show tk + (t2 - tk) = t2 by omega]
            have hHl : H'.length = t3 - tk := by rw [hH']; simp; omega
            have hkv : kk = min need (t3 - tk) := by rw [← hkk, List.length_take, hHl]
            obtain ⟨T3, hT3⟩ : ∃ T3, T ++ H'.take need = T3 := ⟨_, rfl⟩
            have HT3 : Hid (T3 = G.take (tk + kk)) := by
              show T3 = _
              rw [← hT3, hT.out, hH', List.take_take, ← hkv, List.take_add]
            have hDr : H'.drop need = (G.drop (tk + kk)).take (t3 - (tk + kk)) := by
              rw [hH', List.drop_take, List.drop_drop]
              by_cases hle : need ≤ t3 - tk
              · rw [show kk = need by omega, show t3 - tk - need = t3 - (tk + need) by omega]
              · rw [show t3 - tk - need = 0 by omega, show t3 - (tk + kk) = 0 by omega, List.take_zero, List.take_zero]
            have hl3 : T3.length = tk + kk := by rw [HT3.out]; simp; omega
            have HH9 : Hid (w9.ownsRow w8.heap.size 5 1 (.slice ta T.length tc) T.length (bvs T)) := f10.owns hH.out (fun k e hx => by have h1 := hH.out.lt k e; rcases hx with h | h | h <;> omega)
            have z9 : w8.heap.size ≤ w9.heap.size := Nat.le_trans hkw f10.size
            obtain ⟨da, dc, hdv⟩ := owns_slice ho9
            rw [hkk] at hdv
            subst hdv
            have HO9 : Hid (w9.ownsRow wr.heap.size 5 1 (.slice da kk dc) (H'.take need).length (bvs (H'.take need))) := ho9
            have HT3b : Hid (T ++ H'.take need = T3) := hT3
            have sz9 : T.length + (H'.take need).length ≤ 100000000000000 := by rw [hT.out]; simp; omega
            have hK9 : Hid (KeepP (fun j => j = g2 ∨ j = b ∨ w8.heap.size ≤ j) w8 w9) := ⟨f10.os.trans hK2.out.os, f10.tape.trans hK2.out.tape, f10.output.trans hK2.out.output, z9, fun j hj hx => (f10.block j (by omega) (fun hx' => hx (by have h' : j = g2 ∨ j = b ∨ wr.heap.size ≤ j := hx'; show j = g2 ∨ j = b ∨ w8.heap.size ≤ j; omega))).trans (hK2.out.block j hj hx)⟩
            have hk1 : kk ≤ need := by omega
            have hk2 : kk ≤ t3 - tk := by omega
            have hk3 : need ≤ kk ∨ t3 - tk ≤ kk := by omega
            clear hkv
            obtain ⟨D9, hD9⟩ : ∃ D9, H'.drop need = D9 := ⟨_, rfl⟩
            rw [hD9] at f4 hDr
            obtain ⟨h9, q9, hv9e, hq9, _⟩ := id f4
            subst hv9e
            have HF : Hid (Inv l i3 p3 t3 ∧ Src w5.heap.size w9 g2 (reach l) i3 p3 t3 ∧ BufAt w9 b g2 sz (tk + kk : Nat) (.slice h9 (D9).length q9) ∧ HasP (fun j => j ≠ g2 ∧ j ≠ b ∧ (Value.slice ta T.length tc).ownBlock ≠ some j) w9 (.slice h9 (D9).length q9) (D9)) := ⟨f1, f2, by rw [← hkk]; exact f3, f4⟩
            have HDR : Hid (D9 = (G.drop (tk + kk)).take (t3 - (tk + kk))) := hDr
            have HIN3 : Hid (Inv l i3 p3 t3) := f1
            have HQ9 : Hid ((D9).length ≤ q9) := hq9
            have HDL : Hid (D9.length = t3 - tk - need ∧ H'.length = t3 - tk ∧ H'.length ≤ sz) := ⟨by rw [← hD9, List.length_drop, hHl], hHl, f8⟩
            have hil3 := f1.le_l
            have hir3 := f1.le
            have HL3 : Hid (T3.length = tk + kk) := hl3
            have t3a : decide (G.length < T3.length) = false := by simp; omega
            have hwc : IntKind.i64.wrap ((c2 : Int) + 1) = (c2 : Int) + 1 := by rw [IntKind.wrap_i64]; omega
            have hws : IntKind.i64.wrap ((st : Int) + 1) = (st : Int) + 1 := by rw [IntKind.wrap_i64]; omega
            have hdl1 : D9.length ≤ sz := by have := HDL.out; omega
            have hhl : H'.length ≤ t3 - tk := by have := HDL.out; omega
            clear hH' hHl hT3 hDr hl3 hD9 f1 f2 f3 f4 f6 f7 ho9 hq9 hkk hS hBf hP hH hI hT hHh TC
            go_wp2_with (at_builtin; refine append_ownR rfl _ _ rfl w8.heap.size (.slice ta T.length tc) T rfl HH9.out (.slice da kk dc) (H'.take need) rfl _ HO9.out z9 sz9 ?_; intro va wa hha hga hob; rw [HT3b.out] at hha; obtain ⟨a3, c3, rfl⟩ := owns_slice hha; have HHa : Hid (wa.ownsRow w8.heap.size 5 1 (.slice a3 T3.length c3) T3.length (bvs T3)) := hha; clear hha)
            have hrow : ∀ j, (Value.slice ta T.length tc).ownBlock = some j → w8.heap.size ≤ j := fun j e => (HH9.out.lt j e).1
            have HSa : Hid (Src w5.heap.size wa g2 (reach l) i3 p3 t3) := Src.kept HF.out.2.1 hga (fun k e => by have := hrow k e; exact ⟨by omega, .inr (by omega)⟩)
            have HBa : Hid (BufAt wa b g2 sz (tk + kk : Nat) (.slice h9 (D9).length q9)) := (hga.block b (Blk.lt HF.out.2.2.1) (fun e => by have := hrow b e.symm; omega)).trans HF.out.2.2.1
            have hnew : ∀ j, j < w9.heap.size → (Value.slice ta T.length tc).ownBlock ≠ some j → (Value.slice a3 T3.length c3).ownBlock ≠ some j := fun j hj hx e => by
              rcases hob with h | h
              · exact hx (h ▸ e)
              · rw [h] at e
                cases e
                omega
            have HPa : Hid (HasP (fun j => j ≠ g2 ∧ j ≠ b ∧ (Value.slice a3 T3.length c3).ownBlock ≠ some j) wa (.slice h9 (D9).length q9) (D9)) := HasP.turn HF.out.2.2.2 hga (fun j e hx => hx.2.2 e) (fun j hj hx => ⟨hx.1, hx.2.1, hnew j hj hx.2.2⟩)
            have HKa : Hid (KeepP (fun j => j = g2 ∨ j = b ∨ w8.heap.size ≤ j) w8 wa) := hK9.out.grown hga (fun j e => .inr (.inr (hrow j e)))
            clear hga hob hnew hrow
            rcases f11 with ⟨e0, hle⟩ | ⟨e0, e1, hlt⟩ | ⟨e0, hlt, hi⟩
            · subst e0
              go_wp2_with (first
                | (go_at_call 7; refine (num_calls _ _).mono ?_; rintro e w' ⟨rfl, hx'⟩; obtain rfl : wa = w' := hx'.symm; clear hx')
                | (go_at_call 20; refine (taken_calls _ b g2 sz (tk + kk : Nat) _ HBa.out).mono ?_; rintro e w' ⟨rfl, hx'⟩; obtain rfl : wa = w' := hx'.symm; clear hx')
                | (go_at_call 21; refine (has_calls _ b g2 sz (tk + kk : Nat) _ _ _ HBa.out).mono ?_; rintro e w' ⟨rfl, hx'⟩; obtain rfl : wa = w' := hx'.symm; clear hx')
                | (go_at_call 9; refine (awake_calls _).mono ?_; rintro e wz ⟨rfl, hbz⟩))
              go_roundw
              case rel => exact ⟨T3, a3, c3, D9, h9, q9, i3, p3, t3, tk + kk, st, c2 + 1, rfl, by go_num, by go_num, HT3, by omega, HDR, HIN3, HSa, HBa, HPa, HHa, HKa, by omega, by omega, hdl1, HQ9.out⟩
              case measure =>
                have m1 := (Src.cellAt HSa.out).1
                have m2 : wa.cell? ⟨b, 3, none⟩ = some (.int .i64 (tk + kk : Nat)) := Blk.cell HBa.out 3
                have m4 := HIN3.out.le
                rw [m1, m2, HCE.out.1, HCE.out.2]
                simp [intOf]
                omega
            · have HE : Hid (t3 = G.length ∧ ((E2 = 20 ∧ fl = true) ∨ (E2 = 21 ∧ fl = false))) := by
                have h := rdE_end HIN3.out (by rw [← e0]; exact e1)
                rw [HFB.out, HQ.out] at h
                refine ⟨h.1, ?_⟩
                rcases h.2 with ⟨h1, h2⟩ | ⟨h1, h2⟩
                · exact .inl ⟨e0.trans h1, h2⟩
                · exact .inr ⟨e0.trans h1, h2⟩
              have q1 := HE.out.1
              have hTG : T3 = G := by have hd := HDL.out; rw [HT3.out, List.take_of_length_le (by omega)]
              subst hTG
              have te20 : (E2 == 20) = fl := by rcases HE.out.2 with ⟨h1, h2⟩ | ⟨h1, h2⟩ <;> simp [h1, h2]
              have te22 : (E2 == 22) = false := by rcases HE.out.2 with ⟨h1, _⟩ | ⟨h1, _⟩ <;> simp [h1]
              have te0 : (E2 != 0) = true := by simpa using e1
              have tff : (fl == fl) = true := by simp
              have ttk : ((tk : Int) + (kk : Int) == (T3.length : Int)) = true := by have := HL3.out; simp; omega
              have td0 : (((D9.length : Nat) : Int) == 0) = true := by have hd := HDL.out; rw [show D9.length = 0 by omega]; rfl
              have td1 : ((D9.length : Int) == 0) = true := td0
              have hc1 := conv_bytes (hasB_owns HHa.out)
              have hc2 := conv_bytes (hasB_owns (HKa.out.owns HA8.out (fun k e hx => by have := HAL.out k e; rcases hx with h | h | h <;> omega)))
              clear e0 q1
              go_wp2_with (first
                | (go_at_call 7; refine (num_calls _ _).mono ?_; rintro e w' ⟨rfl, hx'⟩; obtain rfl : wa = w' := hx'.symm; clear hx')
                | (go_at_call 20; refine (taken_calls _ b g2 sz (tk + kk : Nat) _ HBa.out).mono ?_; rintro e w' ⟨rfl, hx'⟩; obtain rfl : wa = w' := hx'.symm; clear hx')
                | (go_at_call 21; refine (has_calls _ b g2 sz (tk + kk : Nat) _ _ _ HBa.out).mono ?_; rintro e w' ⟨rfl, hx'⟩; obtain rfl : wa = w' := hx'.symm; clear hx')
                | (go_at_call 9; refine (awake_calls _).mono ?_; rintro e wz ⟨rfl, hbz⟩))
              go_ret
              have hwa : Below w.heap.size w wa := hw8.trans (HKa.out.below hw8.size (fun k hk => by have := hw3.size; rintro (h | h | h) <;> omega))
              exact ⟨rfl, hwa.trans (hbz.mono hwa.size)⟩
            · subst e0
              go_wp2_with (first
                | (go_at_call 7; refine (num_calls _ _).mono ?_; rintro e w' ⟨rfl, hx'⟩; obtain rfl : wa = w' := hx'.symm; clear hx')
                | (go_at_call 20; refine (taken_calls _ b g2 sz (tk + kk : Nat) _ HBa.out).mono ?_; rintro e w' ⟨rfl, hx'⟩; obtain rfl : wa = w' := hx'.symm; clear hx')
                | (go_at_call 21; refine (has_calls _ b g2 sz (tk + kk : Nat) _ _ _ HBa.out).mono ?_; rintro e w' ⟨rfl, hx'⟩; obtain rfl : wa = w' := hx'.symm; clear hx')
                | (go_at_call 9; refine (awake_calls _).mono ?_; rintro e wz ⟨rfl, hbz⟩))
              go_roundw
              case rel => exact ⟨T3, a3, c3, D9, h9, q9, i3, p3, t3, tk + kk, (st + 1), c2 + 1, rfl, by go_num, by go_num, HT3, by omega, HDR, HIN3, HSa, HBa, HPa, HHa, HKa, by omega, by omega, hdl1, HQ9.out⟩
              case measure =>
                have m1 := (Src.cellAt HSa.out).1
                have m2 : wa.cell? ⟨b, 3, none⟩ = some (.int .i64 (tk + kk : Nat)) := Blk.cell HBa.out 3
                have m4 := HIN3.out.le
                rw [m1, m2, HCE.out.1, HCE.out.2]
                simp [intOf]
                omega


set_option maxRecDepth 100000 in
theorem contract (H : Type) (enc : TypeId × Value → H) (W : World) (base : Nat) (args : Array Value) (ds gs : List (DataW H)) (before : List MemPlace)
    (hval : ∀ (j : Nat) t v, Try.f4.params[j]? = some t → args[j]? = some v → Value.okWide Try.prog W .any base t v)
    (hW : DataW.Whole enc Try.prog Try.f4.params.toList Rows.chunkKeepsSpec.vars false W args.toList ds gs before)  (hk : Rows.uptoSmall H (ds ++ gs) = true) :
    Calls Try.prog 4 args W fun e W' => ∃ v, e = .returned v ∧ Rows.chunkKeepsSpec.post enc Try.prog Try.f4 false true false false W args v W' := by
  have hW' := hW
  have hlt := hW.lt
  obtain ⟨p, q, hA0, hV, rfl, hfz, hnd⟩ := hW
  have hA : DataW.TrodAll enc Try.prog W 0 (fun _ => true) true Try.f4.params.toList args.toList ds p := hA0
  rw [Try.params4] at hA hval
  obtain ⟨v0, vs0, d0, ds0, p0, q0, hargs, rfl, rfl, h0, r0⟩ := trodAll_cons hA
  obtain ⟨v1, vs1, d1, ds1, p1, q1, rfl, rfl, rfl, h1, r1⟩ := trodAll_cons r0
  obtain ⟨v2, vs2, d2, ds2, p2, q2, rfl, rfl, rfl, h2, r2⟩ := trodAll_cons r1
  obtain ⟨rfl, rfl, rfl⟩ := trodAll_nil r2
  obtain rfl : args = #[v0, v1, v2] := by cases args; simp_all
  obtain ⟨rfl, rfl⟩ := trodVars_none hV
  clear hA0
  simp only [List.append_nil] at hW' hlt hk
  have hbulk := of_decide_eq_true hk
  simp only [Rows.uptoBulkAll] at hbulk
  have e0 := okWide_slice Try.underlying22 (hval 0 22 v0 rfl rfl)
  obtain ⟨s0, hs0, l0⟩ := script_of_read e0 h0
  have h1' := h1
  obtain ⟨x1, rfl, e1, -, w1⟩ := open_int Try.underlying3 (hval 1 3 v1 rfl rfl) h1
  have h2' := h2
  obtain ⟨x2, rfl, e2, -, w2⟩ := open_int Try.underlying3 (hval 2 3 v2 rfl rfl) h2
  refine (walk W v0 s0 hs0 (by omega) x1 w1 x2 w2).mono fun e W' ⟨he, hb⟩ => ?_
  subst he
  exact ⟨_, rfl, post_below hW' (fun _ _ _ => trodAll_cons_mk (shut_bool Try.underlying4 _) trodAll_mk0) (trodAll_cons_mk (stays (by kernel_rfl) (of_decide_eq_true (by kernel_rfl)) h0 hb (fun x hx => hlt x (by simp [hx]))) (trodAll_cons_mk (stays (by kernel_rfl) (of_decide_eq_true (by kernel_rfl)) h1' hb (fun x hx => hlt x (by simp [hx]))) (trodAll_cons_mk (stays (by kernel_rfl) (of_decide_eq_true (by kernel_rfl)) h2' hb (fun x hx => hlt x (by simp [hx]))) trodAll_mk0))) rfl hb⟩

set_option maxRecDepth 100000 in
theorem laid_met (os : Os) : laidMet Try.prog Rows.chunkKeepsUptoRow.laid ((World.holding Try.prog os ⟨#[], #[], []⟩).forCall (fun _ _ => 0) ⟨#[], #[Value.slice none 0 0, Value.int .i64 0, Value.int .i64 0], []⟩).memory :=
  laidMet_of_run' 8 (by kernel_rfl) (by kernel_rfl)
set_option maxRecDepth 100000 in
theorem reads (os : Os) {H : Type} (enc : TypeId × Value → H) : ∃ places, DataW.whole enc Try.prog ((World.holding Try.prog os ⟨#[], #[], []⟩).forCall (fun _ _ => 0) ⟨#[], #[Value.slice none 0 0, Value.int .i64 0, Value.int .i64 0], []⟩).memory Try.f4.params.toList Rows.chunkKeepsSpec.vars false #[Value.slice none 0 0, Value.int .i64 0, Value.int .i64 0].toList 8 = some ([.nil, .lit (.int .i64 0), .lit (.int .i64 0)], [], places) :=
  ⟨[], by kernel_rfl⟩

set_option maxRecDepth 100000 in
theorem lifted (os : Os) (started : os.Started) (H : Type) (enc : TypeId × Value → H) (F : Stop.Interp) :
    ReturnsInHanded {} Try.checked os 4 .any ((Rows.OpenSpec.upto Rows.chunkKeepsSpec).preRow enc Try.prog Try.f4 Rows.chunkKeepsUptoRow.domain false Rows.chunkKeepsUptoRow.laid) (((Rows.OpenSpec.upto Rows.chunkKeepsSpec).at F).post enc Try.prog Try.f4 false true false false) := by
  obtain ⟨places, hx⟩ := reads os enc
  refine returnsInHanded_of_row (C := Try.checked) (s := Rows.OpenSpec.upto Rows.chunkKeepsSpec) own started (by kernel_rfl) Try.func4
    (witness_row_at (enc := enc) (C := Try.checked) false (World.holding Try.prog os ⟨#[], #[], []⟩) #[Value.slice none 0 0, Value.int .i64 0, Value.int .i64 0] rfl (by kernel_rfl) (by kernel_rfl) (by kernel_rfl)
      (OpenSpec.preRow_of_cond 8 hx (by kernel_rfl) (fun k hk => by cases hk; kernel_rfl) (by kernel_rfl) (laid_met os))) ?_
  intro W base args ds gs before hval hW _ hcond _ hL _ _
  exact contract H enc W base args ds gs before hval hW (hcond _ rfl)

set_option maxRecDepth 100000 in
theorem said : Rows.ChunkKeepsUptoSaid :=
  OpenClaim.holds_of_cond 4 Try.f4 rfl rfl rfl rfl rfl rfl rfl ⟨rfl, rfl, rfl, rfl, rfl⟩ rfl rfl rfl rfl rfl (by kernel_rfl) Try.func4 (by kernel_rfl)
    (of_decide_eq_true (by kernel_rfl)) (by unfold Func.isWrapper; first | (rw [if_pos (by decide +kernel)]; kernel_rfl) | (rw [if_neg (by decide +kernel)]; exact ⟨rfl, rfl⟩))
    (fun os started H enc _ F => by rw [OpenClaim.pre_eq_preRow]; exact lifted os started H enc F)


end Go.Proofs.Ytfnbbbflgilfoaa.CKeeps
