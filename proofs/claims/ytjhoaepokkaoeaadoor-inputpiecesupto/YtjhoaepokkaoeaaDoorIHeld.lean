/- What is proved here: contracts of sievelaw03's held and crAhead; and how they say how many bytes are sure. -/
import Derived.Test.YtjhoaepokkaoeaaDoorRTail
import Derived.Test.YtjhoaepokkaoeaaDoorMathW
namespace Go.Proofs.YtjhoaepokkaoeaaDoor.U
open Go.RowKit Go.Shelf

def heldN (bs : List UInt8) : Nat := if tailN bs = 0 ∧ 0 < bs.length ∧ byteAt bs (bs.length - 1) = 13 then 1 else tailN bs
def crN (bs : List UInt8) (t : Nat) : Bool := decide (0 < t ∧ t < bs.length ∧ byteAt bs (bs.length - t - 1) = 13)
def docN (bs : List UInt8) : Nat := if crN bs (tailN bs) = true then tailN bs + 1 else heldN bs
theorem suffix_13 (X : List UInt8) : [13].isSuffixOf X = decide (0 < X.length ∧ byteAt X (X.length - 1) = 13) := by
  rw [Bool.eq_iff_iff, List.isSuffixOf_iff_suffix, decide_eq_true_eq]
  constructor
  · rintro ⟨Z, rfl⟩
    simp [byteAt]
  · rintro ⟨h0, h⟩
    obtain ⟨x, L, rfl⟩ : ∃ x L, X = L ++ [x] := ⟨X.getLast (List.length_pos_iff.1 h0), X.dropLast, (List.dropLast_concat_getLast (List.length_pos_iff.1 h0)).symm⟩
    simp [byteAt] at h
    have : x = 13 := UInt8.toNat_inj.1 (by simpa using h)
    exact ⟨L, by rw [this]⟩
/-- The document's way to say it. -/
theorem doc_cut (Q : List UInt8) : Q.length - docN Q = cutI Q ∧ docN Q ≤ Q.length := by
  have ht := (tail_le Q).1
  unfold cutI cutC docN heldN crN
  rw [suffix_13]
  have hl : (Q.take (Q.length - tailN Q)).length = Q.length - tailN Q := by simp
  rw [hl]
  generalize htt : tailN Q = t at *
  have e : 0 < Q.length - t → byteAt (Q.take (Q.length - t)) (Q.length - t - 1) = byteAt Q (Q.length - t - 1) := fun h => by
    unfold byteAt
    rw [List.getElem?_take, if_pos (by omega)]
  by_cases h0 : 0 < Q.length - t
  · rw [e h0]
    by_cases hb : byteAt Q (Q.length - t - 1) = 13
    · by_cases h1 : 0 < t
      · simp [hb, h0, h1, show t < Q.length by omega]
        omega
      · obtain rfl : t = 0 := by omega
        simp at hb h0
        simp [hb, h0]
        omega
    · by_cases h1 : 0 < t
      · simp [hb, show t ≠ 0 by omega]
        omega
      · obtain rfl : t = 0 := by omega
        simp at hb
        simp [hb]
  · have h2 : Q.length = t := by omega
    by_cases h1 : 0 < t
    · simp [show ¬ t < Q.length by omega, show t ≠ 0 by omega, show Q.length - t = 0 by omega]
      omega
    · obtain rfl : t = 0 := by omega
      simp [h2]

set_option maxRecDepth 100000 in
set_option maxHeartbeats 1000000 in
theorem cr_calls (a : Option Addr) (c : Nat) (bs : List UInt8) (n₀ t : Nat) (w : World) (hl : (bs.length : Int) ≤ 4398046511104) (ht : (t : Int) ≤ 4) (hH : HasB n₀ w (.slice a bs.length c) bs) :
    Calls Tryd.prog 26 #[.slice a bs.length c, .int .i64 t] w fun e W' => e = .returned (.bool (crN bs t)) ∧ Below w.heap.size w W' := by
  by_cases h0 : 0 < t
  · have g0 : ((0 : Int) < (t : Int)) := by omega
    have d0 : decide ((t : Int) > 0) = true := by simp; omega
    by_cases h1 : t < bs.length
    · have d1 : decide ((bs.length : Int) > (t : Int)) = true := by simp; omega
      obtain ⟨b, off, rfl, hx⟩ : ∃ b off, a = some ⟨b, off, none⟩ ∧ w.cell? ⟨b, off + (bs.length - t - 1), none⟩ = some (.int .u8 (byteAt bs (bs.length - t - 1))) := by
        rcases hH with ⟨e, _⟩ | ⟨hp, b, off, cap, e, hcap, hb, hx⟩
        · rw [e] at h1; simp at h1
        · simp only [Value.slice.injEq] at e
          exact ⟨b, off, e.1, hx _ (by omega)⟩
      have HE : Hid (crN bs t = decide (byteAt bs (bs.length - t - 1) = 13)) := by show crN bs t = _; simp [crN, h0, h1]
      clear hH
      generalize byteAt bs (bs.length - t - 1) = z at *
      obtain ⟨m, hm⟩ : ∃ m : Nat, bs.length - t - 1 = m := ⟨_, rfl⟩
      rw [hm] at hx
      have e1 : (bs.length : Int) - (t : Int) - 1 = (m : Int) := by omega
      have e2 : (m : Int) < (bs.length : Int) := by omega
      have e3 : (0 : Int) ≤ (m : Int) := by omega
      clear hm
      go_enter Tryd.func26, Tryd.ntmps26
      go_wp2
      all_goals go_ret
      all_goals exact ⟨by rw [HE.out]; show Ending.returned (.bool ((z : Int) == 13)) = _; rw [show ((z : Int) == 13) = decide (z = 13) by rw [Bool.eq_iff_iff]; simp; omega], by first | exact Below.refl _ _ | exact (Below.refl _ _).drew⟩
    · have HE : Hid (crN bs t = false) := by show crN bs t = _; simp [crN, h1]
      have d1 : decide ((bs.length : Int) > (t : Int)) = false := by simp; omega
      clear hH
      go_enter Tryd.func26, Tryd.ntmps26
      go_wp2
      all_goals go_ret
      all_goals exact ⟨by rw [HE.out]; rfl, by first | exact Below.refl _ _ | exact (Below.refl _ _).drew⟩
  · have HE : Hid (crN bs t = false) := by show crN bs t = _; simp [crN, h0]
    obtain rfl : t = 0 := by omega
    clear hH
    go_enter Tryd.func26, Tryd.ntmps26
    go_wp2
    all_goals go_ret
    all_goals exact ⟨by rw [HE.out]; rfl, by first | exact Below.refl _ _ | exact (Below.refl _ _).drew⟩

set_option maxRecDepth 100000 in
set_option maxHeartbeats 1000000 in
theorem lheld_calls (a : Option Addr) (c : Nat) (bs : List UInt8) (n₀ : Nat) (w : World) (hl : (bs.length : Int) ≤ 4398046511104) (hn : n₀ ≤ w.heap.size) (hH : HasB n₀ w (.slice a bs.length c) bs) :
    Calls Tryd.prog 25 #[.slice a bs.length c] w fun e W' => e = .returned (.int .i64 (heldN bs)) ∧ Below w.heap.size w W' := by
  have HR : Hid (Calls Tryd.prog 10 #[.slice a bs.length c] w fun e W' => e = .returned (.int .i64 (tailN bs)) ∧ Below w.heap.size w W') := rtail_calls _ bs n₀ w (by omega) hH
  have htl := (tail_le bs).2
  by_cases h0 : tailN bs = 0
  · rw [h0] at HR
    by_cases h1 : 0 < bs.length
    · obtain ⟨b, off, rfl, hb, hx⟩ : ∃ b off, a = some ⟨b, off, none⟩ ∧ b < w.heap.size ∧ w.cell? ⟨b, off + (bs.length - 1), none⟩ = some (.int .u8 (byteAt bs (bs.length - 1))) := by
        rcases hH with ⟨e, _⟩ | ⟨hp, b, off, cap, e, hcap, hb, hx⟩
        · rw [e] at h1; simp at h1
        · simp only [Value.slice.injEq] at e
          exact ⟨b, off, e.1, by omega, hx _ (by omega)⟩
      have HE : Hid (heldN bs = if byteAt bs (bs.length - 1) = 13 then 1 else 0) := by show heldN bs = _; simp [heldN, h0, h1]
      clear hH
      generalize byteAt bs (bs.length - 1) = z at *
      obtain ⟨m, hm⟩ : ∃ m : Nat, bs.length - 1 = m := ⟨_, rfl⟩
      rw [hm] at hx
      have e1 : (bs.length : Int) - 1 = (m : Int) := by omega
      have e2 : (m : Int) < (bs.length : Int) := by omega
      have e3 : (0 : Int) ≤ (m : Int) := by omega
      have d0 : (0 : Int) < (bs.length : Int) := by omega
      clear hm h0
      by_cases hz : z = 13
      · subst hz
        rw [if_pos rfl] at HE
        go_enter Tryd.func25, Tryd.ntmps25
        go_wp2_with (go_at_call 10; refine HR.out.mono ?_; rintro e w1 ⟨rfl, hb1⟩; have hx1 := (hb1.cell (p := ⟨b, off + m, none⟩) hb).trans hx)
        all_goals go_ret
        all_goals exact ⟨by rw [HE.out]; rfl, by first | exact hb1 | exact hb1.drew⟩
      · rw [if_neg hz] at HE
        have hzz : ¬ (z : Int) = 13 := by omega
        go_enter Tryd.func25, Tryd.ntmps25
        go_wp2_with (go_at_call 10; refine HR.out.mono ?_; rintro e w1 ⟨rfl, hb1⟩; have hx1 := (hb1.cell (p := ⟨b, off + m, none⟩) hb).trans hx)
        all_goals go_ret
        all_goals exact ⟨by rw [HE.out]; rfl, by first | exact hb1 | exact hb1.drew⟩
    · have HE : Hid (heldN bs = 0) := by show heldN bs = _; simp [heldN, h0, h1]
      have h2 : bs.length = 0 := by omega
      clear hH h0
      rw [h2] at HR ⊢
      go_enter Tryd.func25, Tryd.ntmps25
      go_wp2_with (go_at_call 10; refine HR.out.mono ?_; rintro e w1 ⟨rfl, hb1⟩)
      all_goals go_ret
      all_goals exact ⟨by rw [HE.out]; rfl, by first | exact hb1 | exact hb1.drew⟩
  · have HE : Hid (heldN bs = tailN bs) := by show heldN bs = _; simp [heldN, h0]
    obtain ⟨t, ht⟩ : ∃ t, tailN bs = t := ⟨_, rfl⟩
    rw [ht] at HR HE h0 htl
    have d0 : ¬ (t : Int) = 0 := by omega
    clear hH ht
    go_enter Tryd.func25, Tryd.ntmps25
    go_wp2_with (go_at_call 10; refine HR.out.mono ?_; rintro e w1 ⟨rfl, hb1⟩)
    all_goals go_ret
    all_goals exact ⟨by rw [HE.out]; rfl, by first | exact hb1 | exact hb1.drew⟩
end Go.Proofs.YtjhoaepokkaoeaaDoor.U
