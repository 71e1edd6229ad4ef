/- What is proved here: the document's hexes and begins of layer 12. -/
import Derived.Test.YtojkghgonnecfaaDoorLkUp
namespace Go.Proofs.YtojkghgonnecfaaDoor.L
open Go.RowKit Go.Shelf Go.Proofs.YtojkghgonnecfaaDoor.N Go.Proofs.YtojkghgonnecfaaDoor.U

def hexC (c : UInt8) : Bool := decide (0 ≤ valueZ c.toNat)
/-- Do two hexadecimal digits stand behind a place? -/
def hexL (s : List UInt8) (k : Nat) : Bool := decide (k + 2 < s.length) && hexC (s.getD (k + 1) 0) && hexC (s.getD (k + 2) 0)
set_option maxRecDepth 100000 in
set_option maxHeartbeats 1000000 in
theorem hexes_calls (s : List UInt8) (k : Nat) (w : World) (hs : s.length ≤ 1000000000000) (hk : k ≤ s.length) : Calls Tryd.prog 54 #[.string ⟨s.toArray⟩, .int .i64 k] w fun e w' => e = .returned (.bool (hexL s k)) ∧ w' = w := by
  have ss := arr_size s
  by_cases h2 : k + 2 < s.length
  · obtain ⟨c1, hc1⟩ : ∃ c1, s.getD (k + 1) 0 = c1 := ⟨_, rfl⟩
    obtain ⟨c2, hc2⟩ : ∃ c2, s.getD (k + 2) 0 = c2 := ⟨_, rfl⟩
    have hi1 := byte_at s (k + 1) c1 (by omega) hc1 ((k : Int) + 1) (by omega)
    have hi2 := byte_at s (k + 2) c2 (by omega) hc2 ((k : Int) + 2) (by omega)
    have l1 := c1.toNat_lt
    have l2 := c2.toNat_lt
    have w1 : wrap32 (c1.toNat : Int) = c1.toNat := by unfold wrap32; omega
    have w2 : wrap32 (c2.toNat : Int) = c2.toNat := by unfold wrap32; omega
    have hd : decide ((k : Int) + 2 < (s.length : Int)) = true := by simp; omega
    have HV : Hid (hexL s k = (hexC c1 && hexC c2)) := by show _ = _; unfold hexL; rw [hc1, hc2, decide_eq_true h2]; simp
    have H1 := hid_of (rhex_calls (c1.toNat : Int) (by omega) (by omega) w)
    have H2 := hid_of (rhex_calls (c2.toNat : Int) (by omega) (by omega) w)
    have e1 : decide (0 ≤ valueZ c1.toNat) = hexC c1 := rfl
    have e2 : decide (0 ≤ valueZ c2.toNat) = hexC c2 := rfl
    rw [e1] at H1
    rw [e2] at H2
    clear hc1 hc2 e1 e2
    cases b1 : hexC c1 with
    | true =>
      rw [b1] at H1 HV
      go_enter Tryd.func54, Tryd.ntmps54
      go_wp2_with fail
      (go_at_call 77; refine H1.out.mono ?_; rintro e w' ⟨rfl, hx⟩; obtain rfl : w = w' := hx.symm)
      go_wp2_with fail
      (go_at_call 77; refine H2.out.mono ?_; rintro e w' ⟨rfl, hx⟩; obtain rfl : w = w' := hx.symm)
      go_wp2_with fail
      go_ret
      exact ⟨by rw [HV.out]; rfl, rfl⟩
    | false =>
      rw [b1] at H1 HV
      go_enter Tryd.func54, Tryd.ntmps54
      go_wp2_with fail
      (go_at_call 77; refine H1.out.mono ?_; rintro e w' ⟨rfl, hx⟩; obtain rfl : w = w' := hx.symm)
      go_wp2_with fail
      go_ret
      exact ⟨by rw [HV.out]; rfl, rfl⟩
  · have hd : decide ((k : Int) + 2 < (s.length : Int)) = false := by simp; omega
    have HV : Hid (hexL s k = false) := by show _ = _; unfold hexL; rw [decide_eq_false h2]; rfl
    go_enter Tryd.func54, Tryd.ntmps54
    go_wp2
    go_ret
    exact ⟨by rw [HV.out]; rfl, rfl⟩
set_option maxRecDepth 100000 in
set_option maxHeartbeats 1000000 in
theorem begins_calls (s p : List UInt8) (w : World) (_hs : s.length ≤ 1000000000000) (_hp : p.length ≤ 1000000000000) : Calls Tryd.prog 59 #[.string ⟨s.toArray⟩, .string ⟨p.toArray⟩] w fun e w' => e = .returned (.bool (p.isPrefixOf s)) ∧ w' = w := by
  have ss := arr_size s
  have sp := arr_size p
  by_cases h : p.length ≤ s.length
  · have hd : decide ((s.length : Int) ≥ (p.length : Int)) = true := by simp; omega
    have hd' : decide (p.length ≤ s.length) = true := by simp; omega
    have hsl := slice_h s p.length h (p.length : Int) rfl
    obtain ⟨t, ht⟩ : ∃ t, s.take p.length = t := ⟨_, rfl⟩
    have HV : Hid (p.isPrefixOf s = (t == p)) := by
      show _ = _
      rw [Bool.eq_iff_iff, List.isPrefixOf_iff_prefix, beq_iff_eq, ← ht, List.prefix_iff_eq_take]
      exact eq_comm
    rw [ht] at hsl
    clear ht
    go_enter Tryd.func59, Tryd.ntmps59
    go_wp2
    go_ret
    exact ⟨by rw [HV.out]; rfl, rfl⟩
  · have hd : decide ((s.length : Int) ≥ (p.length : Int)) = false := by simp; omega
    have hd' : decide (p.length ≤ s.length) = false := by simp; omega
    have HV : Hid (p.isPrefixOf s = false) := by
      show _ = _
      rw [Bool.eq_false_iff]
      intro e
      exact h (List.isPrefixOf_iff_prefix.1 e).length_le
    go_enter Tryd.func59, Tryd.ntmps59
    go_wp2
    go_ret
    exact ⟨by rw [HV.out]; rfl, rfl⟩
end Go.Proofs.YtojkghgonnecfaaDoor.L
