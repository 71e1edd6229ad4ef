/- What is proved here: the contracts of link.colon, link.Scheme, link.slash and link.Kind. -/
import Derived.Test.YthjjigobkndgjaaGreatDoorLpStrip
namespace Go.Proofs.YthjjigobkndgjaaGreatDoor.L
open Go.RowKit Go.Shelf Go.Proofs.YthjjigobkndgjaaGreatDoor.N Go.Proofs.YthjjigobkndgjaaGreatDoor.U

theorem inner_no {c : UInt8} (h : innerC c = true) : (c == 58) = false := by
  cases e : (c == 58) with
  | false => rfl
  | true =>
    have e' : c = 58 := by simpa using e
    subst e'
    exact absurd h (by decide)
theorem letter_inner {c : UInt8} (h : letterZ (c.toNat : Int) = true) : innerC c = true := by unfold innerC; rw [h]; rfl
/-- What the program's search ends with. -/
theorem colon_end (l : List UInt8) (k : Nat) (hP : ∀ j, j < k → innerC (l.getD j 0) = true) (hL : 0 < k → letterZ ((l.getD 0 0).toNat : Int) = true) (hk : k ≤ l.length)
    (hS : k = l.length ∨ (k < l.length ∧ (letterZ ((l.getD k 0).toNat : Int) = false ∧ (k = 0 ∨ innerC (l.getD k 0) = false)))) :
    colonZ l = if k = 0 ∨ k = l.length ∨ (l.getD k 0 == 58) = false then -1 else (k : Int) := by
  unfold colonZ
  by_cases h0 : k = 0
  · rw [if_pos (.inl h0)]
    have hn : colonL l = none := by
      unfold colonL
      rcases hS with h | ⟨_, h, _⟩
      · have : l = [] := List.length_eq_zero_iff.1 (by omega)
        rw [this]; rfl
      · rw [h0] at h; rw [h]; rfl
    rw [hn]
  · have hlet := hL (by omega)
    have hp : ∀ j, j < k → (l.getD j 0 == 58) = false ∧ innerC (l.getD j 0) = true := fun j hj => ⟨inner_no (hP j hj), hP j hj⟩
    have hcl : colonL l = colonF l := by unfold colonL; rw [hlet]; rfl
    rw [hcl]
    by_cases h1 : k = l.length
    · rw [if_pos (.inr (.inl h1)), colonF_all l (fun j hj => hp j (by omega))]
    · have hlt : k < l.length := by omega
      cases hc : (l.getD k 0 == 58) with
      | true => rw [if_neg (by simp; omega), colonF_at l k hlt hp hc]
      | false =>
        have hi : innerC (l.getD k 0) = false := by
          rcases hS with h | ⟨_, _, h | h⟩
          · omega
          · omega
          · exact h
        rw [if_pos (.inr (.inr rfl)), colonF_no l k hlt hp hc hi]
set_option maxRecDepth 100000 in
set_option maxHeartbeats 4000000 in
theorem pcolon_calls (l : List UInt8) (w : World) (hl : l.length ≤ 1000000000000) : Calls Tryz.prog 42 #[.string ⟨l.toArray⟩] w fun e w' => e = .returned (.int .i64 (colonZ l)) ∧ w' = w := by
  have sl := arr_size l
  go_enter Tryz.func42, Tryz.ntmps42
  go_wp2
  go_step3
  go_wp2
  go_step3
  go_wp2
  go_loopw [3] (fun vi wr => ∃ k : Nat, k ≤ l.length ∧ vi = .int .i64 k ∧ wr = w ∧ Hid (∀ j, j < k → innerC (l.getD j 0) = true) ∧ Hid (0 < k → letterZ ((l.getD 0 0).toNat : Int) = true)) (fun vi _ => l.length - (intOf vi).toNat)
  case atStart => exact ⟨0, by omega, rfl, by trivial, fun j hj => by omega, fun h => by omega⟩
  case round =>
    obtain ⟨k, hk, rfl, hwr, hP, hL⟩ := hrel
    obtain rfl : w = wr := hwr.symm
    clear hwr
    have HEND := hid_of (colon_end l k hP.out hL.out hk)
    by_cases hlt : k < l.length
    · obtain ⟨c, hc⟩ : ∃ c, l.getD k 0 = c := ⟨_, rfl⟩
      have hik := byte_at l k c hlt hc (k : Int) rfl
      have hcl := c.toNat_lt
      have hw : wrap32 (c.toNat : Int) = c.toNat := by unfold wrap32; omega
      have HLE := hid_of (letter_calls (c.toNat : Int) w)
      have HDI := hid_of (digit_calls (c.toNat : Int) w)
      rw [hc] at HEND
      have HC := hid_of hc
      clear hc
      cases hlet : letterZ (c.toNat : Int) with
      | true =>
        have HP2 : Hid (∀ j, j < k + 1 → innerC (l.getD j 0) = true) := fun j hj => by
          by_cases e : j = k
          · rw [e, HC.out]; exact letter_inner hlet
          · exact hP.out j (by omega)
        have HL2 : Hid (0 < k + 1 → letterZ ((l.getD 0 0).toNat : Int) = true) := fun _ => by
          by_cases e : k = 0
          · subst e; rw [HC.out]; exact hlet
          · exact hL.out (by omega)
        rw [hlet] at HLE
        clear hlet
        go_wp2_with (go_at_call 74; refine HLE.out.mono ?_; rintro e w' ⟨rfl, hx⟩; obtain rfl : w = w' := hx.symm)
        exact ⟨⟨k + 1, by omega, by go_num, by trivial, HP2, HL2⟩, by simp [intOf]; omega⟩
      | false =>
        have e43 : ((c.toNat : Int) == 43) = (c == 43) := eq_byte c 43
        have e45 : ((c.toNat : Int) == 45) = (c == 45) := eq_byte c 45
        have e46 : ((c.toNat : Int) == 46) = (c == 46) := eq_byte c 46
        have e58 : ((c.toNat : Int) != 58) = !(c == 58) := by rw [← eq_byte c 58]; rfl
        have HIN : Hid (innerC c = (digitZ c.toNat || c == 43 || c == 45 || c == 46)) := by
          show _ = _
          unfold innerC
          rw [hlet]
          rfl
        by_cases h0 : k = 0
        · have HZ : Hid (colonZ l = -1) := by
            show _ = _
            rw [HEND.out (.inr ⟨hlt, hlet, .inl h0⟩), if_pos (.inl h0)]
          have hkp : decide ((k : Int) > 0) = false := by simp; omega
          have hkp' : decide (0 < k) = false := by simp; omega
          have hk0 : ((k : Int) == 0) = true := by simp; omega
          rw [hlet] at HLE
          clear hlet HEND hP hL h0
          go_wp2_with (go_at_call 74; refine HLE.out.mono ?_; rintro e w' ⟨rfl, hx⟩; obtain rfl : w = w' := hx.symm)
          rw [Exit.noGoto_ret]
          go_ret
          exact ⟨by rw [HZ.out]; rfl, rfl⟩
        · have hkp : decide ((k : Int) > 0) = true := by simp; omega
          have hkp' : decide (0 < k) = true := by simp; omega
          have hk0 : ((k : Int) == 0) = false := by simp; omega
          have hkl : ((k : Int) == (l.length : Int)) = false := by simp; omega
          have HP2 : Hid (innerC c = true → ∀ j, j < k + 1 → innerC (l.getD j 0) = true) := fun h j hj => by
            by_cases e : j = k
            · rw [e, HC.out]; exact h
            · exact hP.out j (by omega)
          have HL2 : Hid (0 < k + 1 → letterZ ((l.getD 0 0).toNat : Int) = true) := fun _ => hL.out (by omega)
          have HZ : Hid (innerC c = false → colonZ l = if (c == 58) = false then -1 else (k : Int)) := fun h => by
            rw [HEND.out (.inr ⟨hlt, hlet, .inr h⟩)]
            have h1 : (k = 0 ∨ k = l.length ∨ (c == 58) = false) ↔ (c == 58) = false := ⟨fun h => by rcases h with h | h | h <;> first | omega | exact h, fun h => .inr (.inr h)⟩
            simp only [h1]
          rw [hlet] at HLE
          clear hlet HEND hP hL HC
          have hcs : (innerC c = true ∧ (digitZ c.toNat = true ∨ (digitZ c.toNat = false ∧ (c == 43) = true) ∨ (digitZ c.toNat = false ∧ (c == 43) = false ∧ (c == 45) = true) ∨ (digitZ c.toNat = false ∧ (c == 43) = false ∧ (c == 45) = false ∧ (c == 46) = true))) ∨ (innerC c = false ∧ digitZ c.toNat = false ∧ (c == 43) = false ∧ (c == 45) = false ∧ (c == 46) = false) := by
            rw [HIN.out]
            cases digitZ (c.toNat : Int) <;> cases (c == 43) <;> cases (c == 45) <;> cases (c == 46) <;> simp
          clear HIN
          rcases hcs with ⟨hin, hcs⟩ | ⟨hin, x1, x2, x3, x4⟩
          · have HB := hid_of (HP2.out hin)
            clear HZ HP2 hin e58
            rcases hcs with x1 | ⟨x1, x2⟩ | ⟨x1, x2, x3⟩ | ⟨x1, x2, x3, x4⟩
            all_goals
              rw [x1] at HDI
              clear x1
              try (rw [x2] at e43; clear x2)
              try (rw [x3] at e45; clear x3)
              try (rw [x4] at e46; clear x4)
              go_wp2_with (first
                | (go_at_call 74; refine HLE.out.mono ?_; rintro e w' ⟨rfl, hx⟩; obtain rfl : w = w' := hx.symm)
                | (go_at_call 75; refine HDI.out.mono ?_; rintro e w' ⟨rfl, hx⟩; obtain rfl : w = w' := hx.symm))
              exact ⟨⟨k + 1, by omega, by go_num, by trivial, HB, HL2⟩, by simp [intOf]; omega⟩
          · have HB := hid_of (HZ.out hin)
            rw [x1] at HDI
            rw [x2] at e43
            rw [x3] at e45
            rw [x4] at e46
            clear HZ HP2 hin x1 x2 x3 x4 HL2
            cases hb58 : (c == 58)
            all_goals
              rw [hb58] at e58 HB
              clear hb58
              go_wp2_with (first
                | (go_at_call 74; refine HLE.out.mono ?_; rintro e w' ⟨rfl, hx⟩; obtain rfl : w = w' := hx.symm)
                | (go_at_call 75; refine HDI.out.mono ?_; rintro e w' ⟨rfl, hx⟩; obtain rfl : w = w' := hx.symm))
              rw [Exit.noGoto_ret]
              go_ret
              exact ⟨by rw [HB.out]; rfl, rfl⟩
    · obtain rfl : k = l.length := by omega
      have HZ : Hid (colonZ l = -1) := by show _ = _; rw [HEND.out (.inl rfl), if_pos (.inr (.inl rfl))]
      clear HEND hP hL
      by_cases h0 : l.length = 0
      · have hk0 : ((l.length : Int) == 0) = true := by rw [h0]; rfl
        clear h0
        go_wp2
        rw [Exit.noGoto_ret]
        go_ret
        exact ⟨by rw [HZ.out]; rfl, rfl⟩
      · have hk0 : ((l.length : Int) == 0) = false := by simp; exact fun e => h0 (by rw [e]; rfl)
        have hk1 : ((l.length : Int) == (l.length : Int)) = true := by simp
        go_wp2
        rw [Exit.noGoto_ret]
        go_ret
        exact ⟨by rw [HZ.out]; rfl, rfl⟩
set_option maxRecDepth 100000 in
set_option maxHeartbeats 2000000 in
/-- **Scheme.** -/
theorem scheme_calls (bs : List UInt8) (w : World) (hT : Tb w) (hl : bs.length ≤ 10000000000) : Calls Tryz.prog 30 #[.string ⟨bs.toArray⟩] w fun e W' => e = .returned (schemeV (stripL bs)) ∧ Below w.heap.size w W' := by
  have HS : Hid (Calls Tryz.prog 41 #[.string ⟨bs.toArray⟩] w fun e W' => e = .returned (.string ⟨(stripL bs).toArray⟩) ∧ Below w.heap.size w W') := strip_calls bs w hT hl
  have hsl := stripL_le bs
  clear hT
  obtain ⟨l, hL⟩ : ∃ l, stripL bs = l := ⟨_, rfl⟩
  rw [hL] at HS hsl ⊢
  clear hL
  have HC := hid_of (fun W => pcolon_calls l W (by omega))
  cases hc : colonL l with
  | none =>
    have hz : colonZ l = -1 := by unfold colonZ; rw [hc]
    have HV : Hid (schemeV l = .tuple #[.string ⟨#[]⟩, .bool false]) := by show _ = _; unfold schemeV; rw [hc]
    rw [hz] at HC
    clear hc hz
    go_enter Tryz.func30, Tryz.ntmps30
    go_wp2_with fail
    (go_at_call 41; refine HS.out.mono ?_; rintro e w1 ⟨rfl, hb1⟩)
    go_wp2_with fail
    (go_at_call 42; refine (HC.out _).mono ?_; rintro e w2 ⟨rfl, hx⟩; obtain rfl : w1 = w2 := hx.symm)
    go_wp2_with fail
    go_ret2
    exact ⟨by rw [HV.out]; rfl, hb1⟩
  | some n =>
    have hn := colonL_lt hc
    have hz : colonZ l = n := by unfold colonZ; rw [hc]
    have HV : Hid (schemeV l = .tuple #[.string ⟨(lower (l.take n)).toArray⟩, .bool true]) := by show _ = _; unfold schemeV; rw [hc]
    rw [hz] at HC
    have hd : decide ((n : Int) < 0) = false := by simp
    have hs := slice_h l n (by omega) (n : Int) rfl
    have HLO := hid_of (fun W => lower_calls ⟨(l.take n).toArray⟩ W (by rw [arr_size]; simp; omega))
    rw [arr_list] at HLO
    clear hc hz
    go_enter Tryz.func30, Tryz.ntmps30
    go_wp2_with fail
    (go_at_call 41; refine HS.out.mono ?_; rintro e w1 ⟨rfl, hb1⟩)
    go_wp2_with fail
    (go_at_call 42; refine (HC.out _).mono ?_; rintro e w2 ⟨rfl, hx⟩; obtain rfl : w1 = w2 := hx.symm)
    go_wp2_with fail
    (go_at_call 43; refine (HLO.out _).mono ?_; rintro e w3 ⟨rfl, hb3⟩)
    go_wp2_with fail
    go_ret2
    exact ⟨by rw [HV.out]; rfl, hb1.trans (hb3.mono hb1.size)⟩
end Go.Proofs.YthjjigobkndgjaaGreatDoor.L
