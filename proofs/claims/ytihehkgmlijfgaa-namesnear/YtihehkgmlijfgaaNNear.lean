/- What is proved here: the contracts of names.Near and sieveref04.Near: the nearest of all names, and how far it is. -/
import Derived.Test.YtihehkgmlijfgaaNDist
import Derived.Test.YtihehkgmlijfgaaNKnown
import Derived.Test.YtihehkgmlijfgaaNTrim
namespace Go.Proofs.Ytihehkgmlijfgaa.N
open Go.RowKit C

theorem kn_short_checked : KN.all (fun x => decide (x.length ≤ 100) && (lower x == x)) = true := by decide +kernel
theorem kn_short (x : List UInt8) (h : x ∈ KN) : x.length ≤ 100 := by
  have := List.all_eq_true.1 kn_short_checked x h
  simp only [Bool.and_eq_true, decide_eq_true_eq] at this
  exact this.1
theorem kn_lower (x : List UInt8) (h : x ∈ KN) : lower x = x := by
  have := List.all_eq_true.1 kn_short_checked x h
  simp only [Bool.and_eq_true, beq_iff_eq] at this
  exact this.2

set_option maxRecDepth 100000 in
set_option maxHeartbeats 2000000 in
theorem near_of (s : ByteArray) (w : World) (hs : s.size ≤ 9223372036854775807) (l : List UInt8) (HL : Hid (lower s.data.toList = l)) (K : List (List UInt8)) (HKE : Hid (KN = K)) :
    Calls Try.prog 22 #[.string s] w fun e w' => e = .returned (.tuple #[.string ⟨(nearTo l K).1.toArray⟩, .int .i64 (nearTo l K).2]) ∧ Below w.heap.size w w' := by
  go_enter Try.func22, Try.ntmps22
  go_wp2_with fail
  refine (lower_calls s w hs).mono ?_
  rintro e W1 ⟨rfl, hB1⟩
  rw [HL.out]
  have hll : l.length = s.size := by rw [← HL.out, ← size_data]; simp [lower]
  have HB1 : Hid (Below w.heap.size w W1) := hB1
  have s1 := hB1.size
  clear hB1
  go_wp2_with fail
  refine (known_calls W1).mono ?_
  rintro e W2 ⟨v, rfl, hK, hB2⟩
  rw [HKE.out] at hK
  obtain ⟨a, cap, rfl⟩ := owns_slice hK
  have HK : Hid (HasT W2 (.slice a K.length cap) K) := HasT.of hK
  have HB2 : Hid (Below w.heap.size w W2) := HB1.out.trans (hB2.mono s1)
  have HKS : Hid (∀ x ∈ K, x.length ≤ 100) := by rw [← HKE.out]; exact kn_short
  have hkl : (K.length : Int) ≤ 1000 := by rw [← HKE.out]; decide
  clear hK hB2
  go_wp2
  go_loopw [4, 5, 7, 8, 13] (fun n d _ _ i wr => ∃ k : Nat, k ≤ K.length ∧ i = .int .i64 k ∧ n = .string ⟨(nearTo l (K.take k)).1.toArray⟩ ∧ d = .int .i64 (nearTo l (K.take k)).2 ∧ Hid (HasT wr (.slice a K.length cap) K) ∧ Hid (Below w.heap.size w wr)) (fun _ _ _ _ i _ => K.length - (intOf i).toNat)
  case atStart => exact ⟨0, by omega, rfl, rfl, rfl, HK, HB2⟩
  case round =>
    clear HK HB2
    obtain ⟨k, hk, rfl, rfl, rfl, HK, HB2⟩ := hrel
    by_cases hlt : k < K.length
    · obtain ⟨b, rfl, hb, hcap, hcell⟩ := HK.out.at (by omega)
      have hc := hcell k hlt
      clear hcell
      have hsx : (⟨K[k].toArray⟩ : ByteArray).size ≤ 9223372036854775807 := by have := HKS.out K[k] (List.getElem_mem _); show K[k].toArray.size ≤ _; simp; omega
      have hsl : (⟨l.toArray⟩ : ByteArray).size ≤ 9223372036854775807 := by show l.toArray.size ≤ _; simp; omega
      have HNS := nearTo_succ l K k hlt
      have hnl := nearTo_le l K k hk
      have hdl := dist_le l K[k]
      have HDC : Hid (Calls Try.prog 24 #[.string ⟨l.toArray⟩, .string ⟨K[k].toArray⟩] wr fun e w' => e = .returned (.int .i64 (dist l K[k])) ∧ Below wr.heap.size wr w') := dist_calls ⟨l.toArray⟩ ⟨K[k].toArray⟩ wr hsl hsx
      by_cases hd : dist l K[k] < (nearTo l (K.take k)).2
      · rw [if_pos hd] at HNS
        have HN2 : Hid (Value.string ⟨K[k].toArray⟩ = .string ⟨(nearTo l (K.take (k + 1))).1.toArray⟩ ∧ Value.int .i64 (dist l K[k]) = .int .i64 (nearTo l (K.take (k + 1))).2) := by rw [HNS]; exact ⟨rfl, rfl⟩
        clear HNS
        go_wp2_with (go_at_call 24; refine Calls.mono HDC.out ?_; rintro e W3 ⟨rfl, hB3⟩)
        refine ⟨⟨k + 1, by omega, by go_num, HN2.out.1, HN2.out.2, HK.out.below hB3, HB2.out.trans (hB3.mono HB2.out.size)⟩, by simp [intOf]; omega⟩
      · rw [if_neg hd] at HNS
        have HN2 : Hid (Value.string ⟨(nearTo l (K.take k)).1.toArray⟩ = .string ⟨(nearTo l (K.take (k + 1))).1.toArray⟩ ∧ Value.int .i64 (nearTo l (K.take k)).2 = .int .i64 (nearTo l (K.take (k + 1))).2) := by rw [HNS]; exact ⟨rfl, rfl⟩
        clear HNS
        go_wp2_with (go_at_call 24; refine Calls.mono HDC.out ?_; rintro e W3 ⟨rfl, hB3⟩)
        refine ⟨⟨k + 1, by omega, by go_num, HN2.out.1, HN2.out.2, HK.out.below hB3, HB2.out.trans (hB3.mono HB2.out.size)⟩, by simp [intOf]; omega⟩
    · obtain rfl : k = K.length := by omega
      go_wp2
      go_ret2
      rw [List.take_length]
      exact ⟨rfl, HB2.out⟩
theorem near_calls (s : ByteArray) (w : World) (hs : s.size ≤ 9223372036854775807) :
    Calls Try.prog 22 #[.string s] w fun e w' => e = .returned (.tuple #[.string ⟨(nearTo (lower s.data.toList) KN).1.toArray⟩, .int .i64 (nearTo (lower s.data.toList) KN).2]) ∧ Below w.heap.size w w' := near_of s w hs _ rfl _ rfl

end Go.Proofs.Ytihehkgmlijfgaa.N
