/- What is proved here: the document's gap, squeezed and good of layer 12. -/
import Derived.Test.YthjjigobkndgjaaGreatDoorBun16
namespace Go.Proofs.YthjjigobkndgjaaGreatDoor.L
open Go.RowKit Go.Shelf Go.Proofs.YthjjigobkndgjaaGreatDoor.N Go.Proofs.YthjjigobkndgjaaGreatDoor.U

set_option maxRecDepth 100000 in
set_option maxHeartbeats 1000000 in
theorem gap_calls (c : UInt8) (w : World) : Calls Tryz.prog 25 #[.int .u8 c.toNat] w fun e w' => e = .returned (.bool (gapS c)) ∧ w' = w := by
  have HB := hid_of (rblank_calls (c.toNat : Int) w)
  have HV : Hid (gapS c = ((c == 13) || blankZ (c.toNat : Int))) := rfl
  have w32 : wrap32 (c.toNat : Int) = c.toNat := by have := c.toNat_lt; unfold wrap32; omega
  have e13 : ((c.toNat : Int) == 13) = (c == 13) := eq_byte c 13
  cases h13 : (c == 13) with
  | true =>
    rw [h13] at HV e13
    go_enter Tryz.func25, Tryz.ntmps25
    go_wp2_with fail
    go_ret
    exact ⟨by rw [HV.out]; rfl, rfl⟩
  | false =>
    rw [h13] at HV e13
    go_enter Tryz.func25, Tryz.ntmps25
    go_wp2_with fail
    (go_at_call 59; refine HB.out.mono ?_; rintro e w' ⟨rfl, hx⟩; obtain rfl : w = w' := hx.symm)
    go_wp2_with fail
    go_ret
    exact ⟨by rw [HV.out]; rfl, rfl⟩
set_option maxRecDepth 100000 in
set_option maxHeartbeats 2000000 in
/-- **squeezed.** -/
theorem squeezed_calls (s : List UInt8) (w : World) (hl : s.length ≤ 10000000000) : Calls Tryz.prog 26 #[.string ⟨s.toArray⟩] w fun e w' => e = .returned (.string ⟨(sqF gapS s).1.toArray⟩) ∧ w' = w := by
  have ss := arr_size s
  go_enter Tryz.func26, Tryz.ntmps26
  go_wp2_with fail
  go_loopw [3, 4, 8] (fun vo vb vi wr => ∃ k : Nat, k ≤ s.length ∧ vi = .int .i64 k ∧ vo = .string ⟨(sqF gapS (s.take k)).1.toArray⟩ ∧ vb = .bool (sqF gapS (s.take k)).2 ∧ wr = w) (fun _ _ vi _ => s.length - (intOf vi).toNat)
  case atStart => exact ⟨0, by omega, rfl, rfl, rfl, by trivial⟩
  case round =>
    obtain ⟨k, hk, rfl, rfl, rfl, hwr⟩ := hrel
    obtain rfl : w = wr := hwr.symm
    clear hwr
    by_cases hlt : k < s.length
    · obtain ⟨c, hc⟩ : ∃ c, s.getD k 0 = c := ⟨_, rfl⟩
      have hix := byte_at s k c hlt hc (k : Int) rfl
      have hsl : ∀ W, (Instr.slice 9 (.string ⟨s.toArray⟩) (some (.int .i64 (k : Int))) (some (.int .i64 ((k : Int) + 1))) none).run Tryz.prog W = .ok (.string ⟨[c].toArray⟩) W := by
        have h := slice_lh s k (k + 1) (by omega) hlt (k : Int) ((k : Int) + 1) rfl (by omega)
        have e : (s.take (k + 1)).drop k = [c] := by
          rw [List.take_succ_eq_append_getElem hlt, List.drop_append, ← hc, getD_at s k hlt]
          simp [Nat.min_eq_left (Nat.le_of_lt hlt)]
        rw [e] at h
        exact h
      have HSN : Hid (sqF gapS (s.take (k + 1)) = sqStep gapS (sqF gapS (s.take k)) c) := by show _ = _; rw [List.take_succ_eq_append_getElem hlt, sqF_snoc, ← getD_at s k hlt, hc]
      have hol := sqF_le gapS (s.take k)
      have hol2 : (sqF gapS (s.take k)).1.length ≤ 20000000000 := by rw [List.length_take] at hol; omega
      obtain ⟨⟨o, b⟩, hob⟩ : ∃ x, sqF gapS (s.take k) = x := ⟨_, rfl⟩
      rw [hob] at HSN hol2 ⊢
      simp only at HSN hol2 ⊢
      have HG := hid_of (gap_calls c w)
      clear hc hob hol
      have so := arr_size o
      cases hg : gapS c with
      | true =>
        rw [hg] at HG
        have HS2 : Hid (sqF gapS (s.take (k + 1)) = (o, !o.isEmpty)) := by show _ = _; rw [HSN.out]; unfold sqStep; rw [hg]; rfl
        clear HSN hg
        cases he : (o == []) with
        | true =>
          have he2 : o.isEmpty = true := by rw [List.isEmpty_iff]; simpa using he
          rw [he2] at HS2
          go_wp2_with fail
          (go_at_call 25; refine HG.out.mono ?_; rintro e w' ⟨rfl, hx⟩; obtain rfl : w = w' := hx.symm)
          go_wp2_with fail
          exact ⟨⟨k + 1, by omega, by go_num, by rw [HS2.out], by rw [HS2.out]; rfl, by trivial⟩, by simp [intOf]; omega⟩
        | false =>
          have he2 : o.isEmpty = false := by rw [List.isEmpty_eq_false_iff]; intro e; subst e; simp at he
          rw [he2] at HS2
          go_wp2_with fail
          (go_at_call 25; refine HG.out.mono ?_; rintro e w' ⟨rfl, hx⟩; obtain rfl : w = w' := hx.symm)
          go_wp2_with fail
          exact ⟨⟨k + 1, by omega, by go_num, by rw [HS2.out], by rw [HS2.out]; rfl, by trivial⟩, by simp [intOf]; omega⟩
      | false =>
        rw [hg] at HG
        cases b with
        | true =>
          have HS2 : Hid (sqF gapS (s.take (k + 1)) = (o ++ [32] ++ [c], false)) := by show _ = _; rw [HSN.out]; unfold sqStep; rw [hg]; rfl
          have t1 := cat_text o [32]
          have t2 := cat_text (o ++ [32]) [c]
          have so1 : (⟨(o ++ [32]).toArray⟩ : ByteArray).size = o.length + 1 := by rw [arr_size, List.length_append]; rfl
          clear HSN hg
          go_wp2_with fail
          (go_at_call 25; refine HG.out.mono ?_; rintro e w' ⟨rfl, hx⟩; obtain rfl : w = w' := hx.symm)
          go_wp2_with fail
          exact ⟨⟨k + 1, by omega, by go_num, by rw [HS2.out]; first | rfl | (rw [cat_text]; simp) | simp, by rw [HS2.out], by trivial⟩, by simp [intOf]; omega⟩
        | false =>
          have HS2 : Hid (sqF gapS (s.take (k + 1)) = (o ++ [c], false)) := by show _ = _; rw [HSN.out]; unfold sqStep; rw [hg]; simp
          have t2 := cat_text o [c]
          clear HSN hg
          go_wp2_with fail
          (go_at_call 25; refine HG.out.mono ?_; rintro e w' ⟨rfl, hx⟩; obtain rfl : w = w' := hx.symm)
          go_wp2_with fail
          exact ⟨⟨k + 1, by omega, by go_num, by rw [HS2.out], by rw [HS2.out], by trivial⟩, by simp [intOf]; omega⟩
    · obtain rfl : k = s.length := by omega
      rw [List.take_length]
      go_wp2_with fail
      go_ret
      exact ⟨rfl, rfl⟩
set_option maxRecDepth 100000 in
set_option maxHeartbeats 4000000 in
/-- **good.** -/
theorem good_calls (d : List UInt8) (w : World) (hl : d.length ≤ 10000000000) : Calls Tryz.prog 27 #[.string ⟨d.toArray⟩] w fun e w' => e = .returned (.bool (goodP d)) ∧ Below w.heap.size w w' := by
  have mixed : Tryz.prog.follows .mixedOrders = true := by kernel_rfl
  cases hd : (d == []) with
  | true =>
    have HV : Hid (goodP d = true) := by show _ = _; unfold goodP; rw [hd]; rfl
    go_enter Tryz.func27, Tryz.ntmps27
    go_wp2_with fail
    go_ret
    exact ⟨by rw [HV.out]; rfl, Below.refl _ _⟩
  | false =>
    have hne : d ≠ [] := fun e => by subst e; simp at hd
    have hp : 0 < d.length := List.length_pos_iff.2 hne
    have hix := byte_at d (d.length - 1) _ (by omega) rfl ((d.length : Int) - 1) (by omega)
    have hsl := slice_h d (d.length - 1) (by omega) ((d.length : Int) - 1) (by omega)
    have hnu : d = d.take (d.length - 1) ++ [d.getD (d.length - 1) 0] := by
      have h1 := List.take_succ_eq_append_getElem (l := d) (i := d.length - 1) (by omega)
      rw [show d.length - 1 + 1 = d.length by omega, List.take_length] at h1
      rw [getD_at d _ (by omega)]
      exact h1
    have HG : Hid (goodP d = goodL (d.take (d.length - 1)) (d.getD (d.length - 1) 0)) := (congrArg goodP hnu).trans (good_doc _ _)
    have hnl : (d.take (d.length - 1)).length ≤ 10000000000 := by rw [List.length_take]; omega
    clear hnu hne
    obtain ⟨n, hn⟩ : ∃ n, d.take (d.length - 1) = n := ⟨_, rfl⟩
    obtain ⟨u, hu⟩ : ∃ u, d.getD (d.length - 1) 0 = u := ⟨_, rfl⟩
    rw [hn] at hsl HG hnl
    rw [hu] at hix HG
    clear hn hu
    have ss := arr_size d
    have sn := arr_size n
    have e119 : ((u.toNat : Int) == 119) = (u == 119) := eq_byte u 119
    have e120 : ((u.toNat : Int) == 120) = (u == 120) := eq_byte u 120
    have n119 : ((u.toNat : Int) != 119) = !(u == 119) := by rw [← e119]; rfl
    have n120 : ((u.toNat : Int) != 120) = !(u == 120) := by rw [← e120]; rfl
    have HNU := hid_of (fun W => numeral_calls n W (by omega))
    have HUP : Hid (∀ W, Calls Tryz.prog 61 #[.string ⟨n.toArray⟩, .string ⟨#[46]⟩] W fun e W' => e = .returned (.int .i64 (upToL [46] n : Nat)) ∧ Below W.heap.size W W') := fun W => upTo_calls n [46] W (by omega) (by simp)
    have hule := upToL_le [46] n
    have HGL : Hid (goodL n u = if u != 119 && u != 120 then false else if numeralB n then true else (u == 120) && (decide (upToL [46] n < n.length) && (numeralB (n.take (upToL [46] n)) && numeralB (n.drop (upToL [46] n + 1))))) := rfl
    obtain ⟨t, ht⟩ : ∃ t, upToL [46] n = t := ⟨_, rfl⟩
    rw [ht] at HUP hule HGL
    clear ht
    have y1 := slice_h n t hule (t : Int) rfl
    have y2 : t < n.length → ∀ W, (Instr.slice 9 (.string ⟨n.toArray⟩) (some (.int .i64 ((t : Int) + 1))) none none).run Tryz.prog W = .ok (.string ⟨(n.drop (t + 1)).toArray⟩) W := fun h => slice_l n (t + 1) h ((t : Int) + 1) (by omega)
    have HN1 := hid_of (fun W => numeral_calls (n.take t) W (by rw [List.length_take]; omega))
    have HN2 := hid_of (fun W => numeral_calls (n.drop (t + 1)) W (by rw [List.length_drop]; omega))
    generalize n.take t = A at *
    generalize n.drop (t + 1) = B at *
    have wl : IntKind.i64.wrap ((d.length : Int) - 1) = (d.length : Int) - 1 := by rw [IntKind.wrap_i64]; omega
    rw [HGL.out] at HG
    clear HGL
    go_enter Tryz.func27, Tryz.ntmps27
    go_wp2_with fail
    have D1 : ∀ dd os, Below w.heap.size w (Go.Sort.grow (redrawn w dd) os) := fun dd os => below_regrown w dd os
    refine wp_region_quiet_below mixed (by kernel_rfl) ?_
    repeat (go_big_quiet_step (fail))
    refine wpQuiet_nil ?_
    intro W1 hw'
    obtain ⟨⟨dq, osq⟩, hw''⟩ := hw'
    have hb1 : Below w.heap.size w W1 := by rw [hw'']; exact D1 dq osq
    have HB1 := hid_of hb1
    clear hw'' D1 hb1 hsl hix wl
    have hcs : ((u == 119) = false ∧ (u == 120) = false) ∨ ((u == 119) = true ∧ (u == 120) = false) ∨ ((u == 119) = false ∧ (u == 120) = true) := by
      by_cases h1 : u = 119
      · subst h1; right; left; exact ⟨rfl, rfl⟩
      · by_cases h2 : u = 120
        · subst h2; right; right; exact ⟨rfl, rfl⟩
        · left; exact ⟨beq_eq_false_iff_ne.2 h1, beq_eq_false_iff_ne.2 h2⟩
    have hb119 : (u != 119) = !(u == 119) := rfl
    have hb120 : (u != 120) = !(u == 120) := rfl
    rw [hb119, hb120] at HG
    clear hb119 hb120
    rcases hcs with ⟨x1, x2⟩ | ⟨x1, x2⟩ | ⟨x1, x2⟩
    · rw [x1] at e119 n119 HG
      rw [x2] at e120 n120 HG
      have HV : Hid (goodP d = false) := by show _ = _; rw [HG.out]; rfl
      clear HG x1 x2
      go_wp2_with fail
      go_ret
      exact ⟨by rw [HV.out]; rfl, HB1.out⟩
    · rw [x1] at e119 n119 HG
      rw [x2] at e120 n120 HG
      clear x1 x2
      cases hnb : numeralB n with
      | true =>
        rw [hnb] at HG HNU
        have HV : Hid (goodP d = true) := by show _ = _; rw [HG.out]; rfl
        clear HG
        go_wp2_with fail
        (go_at_call 60; refine (HNU.out W1).mono ?_; rintro e w' ⟨rfl, hx⟩; obtain rfl : W1 = w' := hx.symm)
        go_wp2_with fail
        go_ret
        exact ⟨by rw [HV.out]; rfl, HB1.out⟩
      | false =>
        rw [hnb] at HG HNU
        have HV : Hid (goodP d = false) := by show _ = _; rw [HG.out]; rfl
        clear HG
        go_wp2_with fail
        (go_at_call 60; refine (HNU.out W1).mono ?_; rintro e w' ⟨rfl, hx⟩; obtain rfl : W1 = w' := hx.symm)
        go_wp2_with fail
        (go_at_call 61; refine (HUP.out W1).mono ?_; rintro e w2 ⟨rfl, hb2⟩)
        go_wp2_with fail
        go_ret
        exact ⟨by rw [HV.out]; rfl, HB1.out.trans (hb2.mono HB1.out.size)⟩
    · rw [x1] at e119 n119 HG
      rw [x2] at e120 n120 HG
      clear x1 x2
      cases hnb : numeralB n with
      | true =>
        rw [hnb] at HG HNU
        have HV : Hid (goodP d = true) := by show _ = _; rw [HG.out]; rfl
        clear HG
        go_wp2_with fail
        (go_at_call 60; refine (HNU.out W1).mono ?_; rintro e w' ⟨rfl, hx⟩; obtain rfl : W1 = w' := hx.symm)
        go_wp2_with fail
        go_ret
        exact ⟨by rw [HV.out]; rfl, HB1.out⟩
      | false =>
        rw [hnb] at HG HNU
        have HV : Hid (goodP d = (decide (t < n.length) && (numeralB A && numeralB B))) := by show _ = _; rw [HG.out]; rfl
        clear HG
        by_cases htl : t < n.length
        · rw [decide_eq_true htl] at HV
          have y2 := y2 htl
          cases hA : numeralB A with
          | false =>
            rw [hA] at HN1 HV
            go_wp2_with fail
            (go_at_call 60; refine (HNU.out W1).mono ?_; rintro e w' ⟨rfl, hx⟩; obtain rfl : W1 = w' := hx.symm)
            go_wp2_with fail
            (go_at_call 61; refine (HUP.out W1).mono ?_; rintro e w2 ⟨rfl, hb2⟩)
            go_wp2_with fail
            (go_at_call 60; refine (HN1.out w2).mono ?_; rintro e w' ⟨rfl, hx⟩; obtain rfl : w2 = w' := hx.symm)
            go_wp2_with fail
            go_ret
            exact ⟨by rw [HV.out]; rfl, HB1.out.trans (hb2.mono HB1.out.size)⟩
          | true =>
            rw [hA] at HN1 HV
            go_wp2_with fail
            (go_at_call 60; refine (HNU.out W1).mono ?_; rintro e w' ⟨rfl, hx⟩; obtain rfl : W1 = w' := hx.symm)
            go_wp2_with fail
            (go_at_call 61; refine (HUP.out W1).mono ?_; rintro e w2 ⟨rfl, hb2⟩)
            go_wp2_with fail
            (go_at_call 60; refine (HN1.out w2).mono ?_; rintro e w' ⟨rfl, hx⟩; obtain rfl : w2 = w' := hx.symm)
            go_wp2_with fail
            (go_at_call 60; refine (HN2.out w2).mono ?_; rintro e w' ⟨rfl, hx⟩; obtain rfl : w2 = w' := hx.symm)
            go_wp2_with fail
            go_ret
            exact ⟨by rw [HV.out]; rfl, HB1.out.trans (hb2.mono HB1.out.size)⟩
        · rw [decide_eq_false htl] at HV
          have dt : decide ((t : Int) < (n.length : Int)) = false := by rw [decide_eq_false_iff_not]; omega
          go_wp2_with fail
          (go_at_call 60; refine (HNU.out W1).mono ?_; rintro e w' ⟨rfl, hx⟩; obtain rfl : W1 = w' := hx.symm)
          go_wp2_with fail
          (go_at_call 61; refine (HUP.out W1).mono ?_; rintro e w2 ⟨rfl, hb2⟩)
          go_wp2_with fail
          go_ret
          exact ⟨by rw [HV.out]; rfl, HB1.out.trans (hb2.mono HB1.out.size)⟩
end Go.Proofs.YthjjigobkndgjaaGreatDoor.L
