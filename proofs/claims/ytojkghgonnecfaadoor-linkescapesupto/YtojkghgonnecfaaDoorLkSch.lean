/- What is proved here: the document's Scheme, Kind and Check of layer 12. -/
import Derived.Test.YtojkghgonnecfaaDoorLkKind
namespace Go.Proofs.YtojkghgonnecfaaDoor.L
open Go.RowKit Go.Shelf Go.Proofs.YtojkghgonnecfaaDoor.N Go.Proofs.YtojkghgonnecfaaDoor.U

theorem strip_le (l : List UInt8) : (stripM l).length ≤ l.length := by
  unfold stripM
  have h1 := List.length_filter_le (fun c => !gapC c) ((l.dropWhile lowC).reverse.dropWhile lowC).reverse
  have h2 := (List.dropWhile_sublist lowC (l := (l.dropWhile lowC).reverse)).length_le
  have h3 := (List.dropWhile_sublist lowC (l := l)).length_le
  simp only [List.length_reverse] at h1 h2
  omega
/-- A link, stripped. -/
def stripL (bs : List UInt8) : List UInt8 := stripM (mendL bs)
theorem stripL_le (bs : List UInt8) : (stripL bs).length ≤ 4 * bs.length := by
  have h1 := strip_le (mendL bs)
  have h2 := mend_le bs
  unfold stripL
  omega
/-- What Scheme tells of a stripped text. -/
def schemeV (l : List UInt8) : Value := match colonL l with | some n => .tuple #[.string ⟨(lower (l.take n)).toArray⟩, .bool true] | none => .tuple #[.string ⟨#[]⟩, .bool false]
set_option maxRecDepth 100000 in
set_option maxHeartbeats 2000000 in
/-- **Scheme.** -/
theorem rscheme_calls (bs : List UInt8) (w : World) (hl : bs.length ≤ 10000000000) : Calls Tryd.prog 11 #[.string ⟨bs.toArray⟩] w fun e W' => e = .returned (schemeV (stripL bs)) ∧ Below w.heap.size w W' := by
  have HS : Hid (Calls Tryd.prog 13 #[.string ⟨bs.toArray⟩] w fun e W' => e = .returned (.string ⟨(stripL bs).toArray⟩) ∧ Below w.heap.size w W') := rstrip_calls bs w hl
  have hsl := stripL_le bs
  obtain ⟨l, hL⟩ : ∃ l, stripL bs = l := ⟨_, rfl⟩
  rw [hL] at HS hsl ⊢
  clear hL
  have HC := hid_of (fun W => colon_calls l W (by omega))
  cases hc : colonL l with
  | none =>
    have hz : colonZ l = -1 := by unfold colonZ; rw [hc]
    have HV : Hid (schemeV l = .tuple #[.string ⟨#[]⟩, .bool false]) := by show _ = _; unfold schemeV; rw [hc]
    rw [hz] at HC
    clear hc hz
    go_enter Tryd.func11, Tryd.ntmps11
    go_wp2_with fail
    (go_at_call 13; refine HS.out.mono ?_; rintro e w1 ⟨rfl, hb1⟩)
    go_wp2_with fail
    (go_at_call 33; refine (HC.out _).mono ?_; rintro e w2 ⟨rfl, hx⟩; obtain rfl : w1 = w2 := hx.symm)
    go_wp2_with fail
    go_ret2
    exact ⟨by rw [HV.out]; rfl, hb1⟩
  | some n =>
    have hn := colonL_lt hc
    have hz : colonZ l = n := by unfold colonZ; rw [hc]
    have HV : Hid (schemeV l = .tuple #[.string ⟨(lower (l.take n)).toArray⟩, .bool true]) := by show _ = _; unfold schemeV; rw [hc]
    rw [hz] at HC
    have hd : decide ((n : Int) < 0) = false := by simp
    have hs := slice_h l n (by omega) (n : Int) rfl
    have HLO := hid_of (fun W => rlower_calls ⟨(l.take n).toArray⟩ W (by rw [arr_size]; simp; omega))
    rw [arr_list] at HLO
    clear hc hz
    go_enter Tryd.func11, Tryd.ntmps11
    go_wp2_with fail
    (go_at_call 13; refine HS.out.mono ?_; rintro e w1 ⟨rfl, hb1⟩)
    go_wp2_with fail
    (go_at_call 33; refine (HC.out _).mono ?_; rintro e w2 ⟨rfl, hx⟩; obtain rfl : w1 = w2 := hx.symm)
    go_wp2_with fail
    (go_at_call 34; refine (HLO.out _).mono ?_; rintro e w3 ⟨rfl, hb3⟩)
    go_wp2_with fail
    go_ret2
    exact ⟨by rw [HV.out]; rfl, hb1.trans (hb3.mono hb1.size)⟩
set_option maxRecDepth 100000 in
set_option maxHeartbeats 2000000 in
/-- **Kind.** -/
theorem rkind_calls (bs : List UInt8) (w : World) (hl : bs.length ≤ 10000000000) : Calls Tryd.prog 15 #[.string ⟨bs.toArray⟩] w fun e W' => e = .returned (.int .i64 (kindL (stripL bs))) ∧ Below w.heap.size w W' := by
  have HS : Hid (Calls Tryd.prog 13 #[.string ⟨bs.toArray⟩] w fun e W' => e = .returned (.string ⟨(stripL bs).toArray⟩) ∧ Below w.heap.size w W') := rstrip_calls bs w hl
  have hsl := stripL_le bs
  obtain ⟨l, hL⟩ : ∃ l, stripL bs = l := ⟨_, rfl⟩
  rw [hL] at HS hsl ⊢
  clear hL
  have sl := arr_size l
  have HC := hid_of (fun W => colon_calls l W (by omega))
  cases hc : colonL l with
  | some n =>
    have hz : colonZ l = n := by unfold colonZ; rw [hc]
    have HV : Hid (kindL l = 1) := by show _ = _; unfold kindL; rw [hc]; rfl
    rw [hz] at HC
    have hd : decide ((n : Int) ≥ 0) = true := by simp
    clear hc hz
    go_enter Tryd.func15, Tryd.ntmps15
    go_wp2_with fail
    (go_at_call 13; refine HS.out.mono ?_; rintro e w1 ⟨rfl, hb1⟩)
    go_wp2_with fail
    (go_at_call 33; refine (HC.out _).mono ?_; rintro e w2 ⟨rfl, hx⟩; obtain rfl : w1 = w2 := hx.symm)
    go_wp2_with fail
    go_ret
    exact ⟨by rw [HV.out]; rfl, hb1⟩
  | none =>
    have hz : colonZ l = -1 := by unfold colonZ; rw [hc]
    rw [hz] at HC
    by_cases h0 : l.length = 0
    · have HV : Hid (kindL l = 0) := by show _ = _; unfold kindL; rw [hc, h0]; rfl
      obtain rfl := List.length_eq_zero_iff.1 h0
      clear hc hz h0
      go_enter Tryd.func15, Tryd.ntmps15
      go_wp2_with fail
      (go_at_call 13; refine HS.out.mono ?_; rintro e w1 ⟨rfl, hb1⟩)
      go_wp2_with fail
      (go_at_call 33; refine (HC.out _).mono ?_; rintro e w2 ⟨rfl, hx⟩; obtain rfl : w1 = w2 := hx.symm)
      go_wp2_with fail
      go_ret
      exact ⟨by rw [HV.out]; rfl, hb1⟩
    · have hp : 0 < l.length := by omega
      have hne : (l == []) = false := by
        rw [beq_eq_false_iff_ne]; intro e; rw [e] at hp; simp at hp
      have HK : Hid (kindL l = if 1 < l.length ∧ slashC (l.getD 0 0) = true ∧ slashC (l.getD 1 0) = true then 2 else if slashC (l.getD 0 0) = true then 3 else if (l.getD 0 0 == 63) = true then 4 else if (l.getD 0 0 == 35) = true then 5 else 6) := by
        show _ = _; unfold kindL; rw [hc, if_neg (by simp), if_neg h0]
      clear hc hz h0
      obtain ⟨c0, hc0⟩ : ∃ c0, l.getD 0 0 = c0 := ⟨_, rfl⟩
      obtain ⟨c1, hc1⟩ : ∃ c1, l.getD 1 0 = c1 := ⟨_, rfl⟩
      rw [hc0, hc1] at HK
      have hi0 := byte_at l 0 c0 hp hc0 0 rfl
      have hi1 : 1 < l.length → ∀ w, (Instr.index 9 (.string ⟨l.toArray⟩) (.int .i64 1)).run Tryd.prog w = .ok (.int .u8 c1.toNat) w := fun h => byte_at l 1 c1 h hc1 1 rfl
      have S0 := hid_of (fun W => slash_calls c0 W)
      have S1 := hid_of (fun W => slash_calls c1 W)
      have e1 : ((c0.toNat : Int) == 63) = (c0 == 63) := eq_byte c0 63
      have e2 : ((c0.toNat : Int) == 35) = (c0 == 35) := eq_byte c0 35
      clear hc0 hc1
      have hcs : ((1 < l.length) ∧ (∀ w, (Instr.index 9 (.string ⟨l.toArray⟩) (.int .i64 1)).run Tryd.prog w = .ok (.int .u8 c1.toNat) w) ∧ decide (1 < l.length) = true ∧ decide ((l.length : Int) > 1) = true) ∨ (¬ (1 < l.length) ∧ decide (1 < l.length) = false ∧ decide ((l.length : Int) > 1) = false) := by
        by_cases h : 1 < l.length
        · exact .inl ⟨h, hi1 h, decide_eq_true h, decide_eq_true (by omega)⟩
        · exact .inr ⟨h, decide_eq_false h, decide_eq_false (by omega)⟩
      clear hi1
      rcases hcs with ⟨h1, hi1, g1, g2⟩ | ⟨h1, g1, g2⟩
      all_goals
        cases b0 : slashC c0 <;> cases b1 : slashC c1 <;> cases b2 : (c0 == 63) <;> cases b3 : (c0 == 35)
        all_goals
          rw [b2] at e1
          rw [b3] at e2
          have HK2 : Hid (kindL l = _) := HK.out
          simp only [Hid, h1, b0, b1, b2, b3, and_true, and_false, and_self, Bool.false_eq_true, if_true, if_false] at HK2
          have HK3 := hid_of HK2
          clear HK HK2 b2 b3 S0 S1
          go_enter Tryd.func15, Tryd.ntmps15
          go_wp2_with (first
            | (go_at_call 13; refine HS.out.mono ?_; rintro e w1 ⟨rfl, hb1⟩)
            | (go_at_call 33; refine (HC.out _).mono ?_; rintro e w2 ⟨rfl, hx⟩; obtain rfl : w1 = w2 := hx.symm)
            | (go_at_call 41; refine (slash_calls _ _).mono ?_; rintro e w2 ⟨rfl, hx⟩; obtain rfl : w1 = w2 := hx.symm))
          go_ret
          exact ⟨by rw [HK3.out]; rfl, hb1⟩
end Go.Proofs.YtojkghgonnecfaaDoor.L
