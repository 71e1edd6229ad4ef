/- What is proved here: the contracts of chunk.large and of sieveref02.Large. -/
import Derived.Test.YtkpjmcoihbebkaaCSteps
namespace Go.Proofs.Ytkpjmcoihbebkaa.C
open Go.RowKit

/-- How many bytes the first k steps have. -/
def sizeS (l : List (List UInt8 × Bool)) (k : Nat) : Nat := ((l.take k).map fun x => x.1.length).sum
set_option maxRecDepth 10000 in
theorem sizeS_succ (l : List (List UInt8 × Bool)) (k : Nat) (h : k < l.length) : sizeS l (k + 1) = sizeS l k + l[k].1.length := by
  unfold sizeS
  rw [List.take_succ_eq_append_getElem h, List.map_append, List.sum_append]; simp
theorem sizeS_mono (l : List (List UInt8 × Bool)) (k j : Nat) : sizeS l k ≤ sizeS l (k + j) := by
  induction j with
  | zero => exact Nat.le_refl _
  | succ j ih =>
    by_cases h : k + j < l.length
    · have := sizeS_succ l (k + j) h
      rw [← Nat.add_assoc]; omega
    · have : sizeS l (k + (j + 1)) = sizeS l (k + j) := by
        unfold sizeS; rw [List.take_of_length_le (by omega), List.take_of_length_le (by omega)]
      omega
/-- Is a script too large? -/
def large (l : List (List UInt8 × Bool)) : Bool := decide (65536 < l.length) || decide (16777216 < sizeS l l.length)

set_option maxRecDepth 100000 in
set_option maxHeartbeats 1000000 in
theorem large_calls (l : List (List UInt8 × Bool)) (r : Value) (w : World) (hS : HasS w r l) (hl : (l.length : Int) ≤ 1000000000000) (hn : ∀ x ∈ l, x.1.length ≤ 100000000000000) :
    Calls Try.prog 15 #[r] w fun e W' => e = .returned (.bool (large l)) ∧ Below w.heap.size w W' := by
  obtain ⟨ra, rc, rfl⟩ := hS.slice
  have HS : Hid (HasS w (.slice ra l.length rc) l) := hS
  have HN : Hid (∀ x ∈ l, x.1.length ≤ 100000000000000) := hn
  clear hS hn
  by_cases hbig : 65536 < l.length
  · have HE : Hid (large l = true) := by show large l = true; simp [large, hbig]
    have hbig' : (65536 : Int) < l.length := by omega
    go_enter Try.func15, Try.ntmps15
    go_wp2
    go_ret
    exact ⟨by show Ending.returned (.bool true) = _; rw [HE.out], Below.refl _ _⟩
  · have HE : Hid (large l = decide (16777216 < sizeS l l.length)) := by show large l = _; simp [large, hbig]
    have hsmall : (l.length : Int) ≤ 65536 := by omega
    go_enter Try.func15, Try.ntmps15
    go_wp2
    go_loopw [3, 5, 11] (fun v _ i wr => ∃ k m : Nat, k ≤ l.length ∧ i = .int .i64 k ∧ Hid (sizeS l k = m) ∧ m ≤ 16777216 ∧ v = .int .i64 (16777216 - m : Int) ∧ Below w.heap.size w wr) (fun _ _ i _ => l.length - (intOf i).toNat)
    case atStart => exact ⟨0, 0, by omega, rfl, by show sizeS l 0 = 0; simp [sizeS], by omega, rfl, Below.refl _ _⟩
    case round =>
      obtain ⟨k, m, hk, rfl, hno, hm, rfl, hB⟩ := hrel
      by_cases hlt : k < l.length
      · obtain ⟨b, off, a, c, rfl, d0, hd, d1⟩ := (HS.out.below hB).at k hlt
        have HH : Hid (sizeS l (k + 1) = m + l[k].1.length) := by show sizeS l (k + 1) = _; rw [sizeS_succ l k hlt, hno.out]
        have HM : Hid (sizeS l (k + 1) ≤ sizeS l l.length) := by
          have := sizeS_mono l (k + 1) (l.length - (k + 1))
          rw [show k + 1 + (l.length - (k + 1)) = l.length by omega] at this
          exact this
        have s1 := hB.size
        have hdl := HN.out l[k] (List.getElem_mem _)
        rcases hkind : l[k] with ⟨dk, fk⟩
        rw [hkind] at HH hd d0 d1 hdl
        simp only at hd d0 d1 hdl
        clear hkind hd hno
        generalize hdn : dk.length = dn at *
        by_cases hgt : 16777216 - m < dn
        · have hgt' : (16777216 - m : Int) < dn := by omega
          go_wp2
          go_ret
          refine ⟨?_, hB.alloc s1 _⟩
          show Ending.returned (.bool true) = _
          have := HM.out
          rw [HH.out] at this
          rw [HE.out, decide_eq_true (by omega)]
        · have hle' : (dn : Int) ≤ (16777216 - m : Int) := by omega
          go_wp2
          go_roundw
          case rel => exact ⟨k + 1, m + dn, by omega, by go_num, by show sizeS l (k + 1) = _; rw [HH.out, ← hdn], by omega, by congr 1; omega, hB.alloc s1 _⟩
          case measure => simp [intOf]; omega
      · obtain rfl : k = l.length := by omega
        go_wp2
        go_ret
        refine ⟨?_, hB⟩
        show Ending.returned (.bool false) = _
        rw [HE.out, hno.out, decide_eq_false (by omega)]

set_option maxRecDepth 100000 in
set_option maxHeartbeats 1000000 in
theorem rlarge_calls (l : List (List UInt8 × Bool)) (r : Value) (w : World) (hS : HasS w r l) (hl : (l.length : Int) ≤ 1000000000000) (hn : ∀ x ∈ l, x.1.length ≤ 100000000000000) :
    Calls Try.prog 7 #[r] w fun e W' => e = .returned (.bool (large l)) ∧ Below w.heap.size w W' := by
  obtain ⟨ra, rc, rfl⟩ := hS.slice
  have HS : Hid (HasS w (.slice ra l.length rc) l) := hS
  have HN : Hid (∀ x ∈ l, x.1.length ≤ 100000000000000) := hn
  clear hS hn
  go_enter Try.func7, Try.ntmps7
  go_wp2
  go_loopw [3, 5, 8] (fun v _ i wr => ∃ k m : Nat, k ≤ l.length ∧ i = .int .i64 k ∧ Hid (sizeS l k = m) ∧ m ≤ 16777216 ∧ v = .int .i64 m ∧ Below w.heap.size w wr) (fun _ _ i _ => l.length - (intOf i).toNat)
  case atStart => exact ⟨0, 0, by omega, rfl, by show sizeS l 0 = 0; simp [sizeS], by omega, rfl, Below.refl _ _⟩
  case round =>
    obtain ⟨k, m, hk, rfl, hno, hm, rfl, hB⟩ := hrel
    by_cases hlt : k < l.length
    · obtain ⟨b, off, a, c, rfl, d0, hd, d1⟩ := (HS.out.below hB).at k hlt
      have HH : Hid (sizeS l (k + 1) = m + l[k].1.length) := by show sizeS l (k + 1) = _; rw [sizeS_succ l k hlt, hno.out]
      have HM : Hid (sizeS l (k + 1) ≤ sizeS l l.length) := by
        have := sizeS_mono l (k + 1) (l.length - (k + 1))
        rw [show k + 1 + (l.length - (k + 1)) = l.length by omega] at this
        exact this
      have s1 := hB.size
      have hdl := HN.out l[k] (List.getElem_mem _)
      rcases hkind : l[k] with ⟨dk, fk⟩
      rw [hkind] at HH hd d0 d1 hdl
      simp only at hd d0 d1 hdl
      clear hkind hd hno
      generalize hdn : dk.length = dn at *
      by_cases hgt : 16777216 < m + dn
      · have hgt' : (16777216 : Int) < m + dn := by omega
        go_wp2
        go_ret
        refine ⟨?_, hB.alloc s1 _⟩
        show Ending.returned (.bool true) = _
        have := HM.out
        rw [HH.out] at this
        rw [show large l = true by simp only [large, Bool.or_eq_true, decide_eq_true_eq]; omega]
      · have hle' : (m + dn : Int) ≤ 16777216 := by omega
        go_wp2
        go_roundw
        case rel => exact ⟨k + 1, m + dn, by omega, by go_num, by show sizeS l (k + 1) = _; rw [HH.out, ← hdn], by omega, by congr 1, hB.alloc s1 _⟩
        case measure => simp [intOf]; omega
    · obtain rfl : k = l.length := by omega
      go_wp2
      go_ret
      refine ⟨?_, hB⟩
      show Ending.returned (.bool (decide ((65536 : Int) < l.length))) = _
      have : large l = decide ((65536 : Int) < l.length) := by
        unfold large
        rw [hno.out, decide_eq_false (p := 16777216 < m) (by omega), Bool.or_false]
        exact decide_eq_decide.2 (by omega)
      rw [this]
end Go.Proofs.Ytkpjmcoihbebkaa.C
