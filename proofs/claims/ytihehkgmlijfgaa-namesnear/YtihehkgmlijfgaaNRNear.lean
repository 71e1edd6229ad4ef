/- What is proved here: the contract of sieveref04.Near: the nearest of all names, and how far it is, as the document has it. -/
import Derived.Test.YtihehkgmlijfgaaNRDist
import Derived.Test.YtihehkgmlijfgaaNRKnown
import Derived.Test.YtihehkgmlijfgaaNNear
namespace Go.Proofs.Ytihehkgmlijfgaa.N
open Go.RowKit C

set_option maxRecDepth 100000 in
set_option maxHeartbeats 2000000 in
theorem rnear_of (s : ByteArray) (w : World) (hs : s.size ≤ 9223372036854775807) (l : List UInt8) (HL : Hid (lower s.data.toList = l)) (K : List (List UInt8)) (HKE : Hid (KN = K)) :
    Calls Try.prog 23 #[.string s] w fun e w' => e = .returned (.tuple #[.string ⟨(nearTo l K).1.toArray⟩, .int .i64 (nearTo l K).2]) ∧ Below w.heap.size w w' := by
  go_enter Try.func23, Try.ntmps23
  go_wp2_with fail
  refine (rlower_calls s w hs).mono ?_
  rintro e W1 ⟨rfl, hB1⟩
  rw [HL.out]
  have hll : l.length = s.size := by rw [← HL.out, ← size_data]; simp [lower]
  have HB1 : Hid (Below w.heap.size w W1) := hB1
  have s1 := hB1.size
  clear hB1
  go_wp2_with fail
  refine (rknown_calls W1).mono ?_
  rintro e W2 ⟨v, rfl, hK, hB2⟩
  rw [HKE.out] at hK
  obtain ⟨a, cap, rfl⟩ := owns_slice hK
  have HK : Hid (HasT W2 (.slice a K.length cap) K) := HasT.of hK
  have HB2 : Hid (Below w.heap.size w W2) := HB1.out.trans (hB2.mono s1)
  have HKS : Hid (∀ x ∈ K, x.length ≤ 100) := by rw [← HKE.out]; exact kn_short
  have hkl : (K.length : Int) ≤ 1000 := by rw [← HKE.out]; decide
  have hk0 : 0 < K.length := by rw [← HKE.out]; decide
  clear hK hB2
  go_wp2
  go_loopw [5, 6, 8, 9, 14] (fun n d _ _ i wr => ∃ k : Nat, k ≤ K.length ∧ i = .int .i64 k ∧ n = .string ⟨(nearTo l (K.take k)).1.toArray⟩ ∧ d = .int .i64 (if k = 0 then -1 else ((nearTo l (K.take k)).2 : Int)) ∧ Hid (HasT wr (.slice a K.length cap) K) ∧ Hid (Below w.heap.size w wr)) (fun _ _ _ _ i _ => K.length - (intOf i).toNat)
  case atStart => exact ⟨0, by omega, rfl, rfl, rfl, HK, HB2⟩
  case round =>
    clear HK HB2
    obtain ⟨k, hk, rfl, rfl, rfl, HK, HB2⟩ := hrel
    by_cases hlt : k < K.length
    · obtain ⟨b, rfl, hb, hcap, hcell⟩ := HK.out.at (by omega)
      have hc := hcell k hlt
      clear hcell
      have hsx : (⟨K[k].toArray⟩ : ByteArray).size ≤ 9223372036854775807 := by have := HKS.out K[k] (List.getElem_mem _); show K[k].toArray.size ≤ _; simp; omega
      have hsl : (⟨l.toArray⟩ : ByteArray).size ≤ 9223372036854775807 := by show l.toArray.size ≤ _; simp; omega
      have HNS := nearTo_succ l K k hlt
      have hnl := nearTo_le l K k hk
      have hdl := dist_le l K[k]
      have HDC : Hid (Calls Try.prog 25 #[.string ⟨l.toArray⟩, .string ⟨K[k].toArray⟩] wr fun e w' => e = .returned (.int .i64 (dist l K[k])) ∧ Below wr.heap.size wr w') := rdist_calls ⟨l.toArray⟩ ⟨K[k].toArray⟩ wr hsl hsx
      by_cases hk1 : k = 0
      · subst hk1
        have h101 : dist l K[0] < (nearTo l (K.take 0)).2 := by show dist l K[0] < 101; omega
        rw [if_pos h101] at HNS
        have HN2 : Hid (Value.string ⟨K[0].toArray⟩ = .string ⟨(nearTo l (K.take (0 + 1))).1.toArray⟩ ∧ Value.int .i64 (dist l K[0]) = .int .i64 (if 0 + 1 = 0 then -1 else ((nearTo l (K.take (0 + 1))).2 : Int))) := by rw [HNS, if_neg (by omega)]; exact ⟨rfl, rfl⟩
        rw [if_pos rfl]
        clear HNS h101 hnl
        go_wp2_with (go_at_call 25; refine Calls.mono HDC.out ?_; rintro e W3 ⟨rfl, hB3⟩)
        refine ⟨⟨0 + 1, by omega, by go_num, HN2.out.1, HN2.out.2, HK.out.below hB3, HB2.out.trans (hB3.mono HB2.out.size)⟩, by simp [intOf]; omega⟩
      · rw [if_neg hk1]
        by_cases hd : dist l K[k] < (nearTo l (K.take k)).2
        · rw [if_pos hd] at HNS
          have HN2 : Hid (Value.string ⟨K[k].toArray⟩ = .string ⟨(nearTo l (K.take (k + 1))).1.toArray⟩ ∧ Value.int .i64 (dist l K[k]) = .int .i64 (if k + 1 = 0 then -1 else ((nearTo l (K.take (k + 1))).2 : Int))) := by rw [HNS, if_neg (by omega)]; exact ⟨rfl, rfl⟩
          clear HNS
          go_wp2_with (go_at_call 25; refine Calls.mono HDC.out ?_; rintro e W3 ⟨rfl, hB3⟩)
          refine ⟨⟨k + 1, by omega, by go_num, HN2.out.1, HN2.out.2, HK.out.below hB3, HB2.out.trans (hB3.mono HB2.out.size)⟩, by simp [intOf]; omega⟩
        · rw [if_neg hd] at HNS
          have HN2 : Hid (Value.string ⟨(nearTo l (K.take k)).1.toArray⟩ = .string ⟨(nearTo l (K.take (k + 1))).1.toArray⟩ ∧ Value.int .i64 (nearTo l (K.take k)).2 = .int .i64 (if k + 1 = 0 then -1 else ((nearTo l (K.take (k + 1))).2 : Int))) := by rw [HNS, if_neg (by omega)]; exact ⟨rfl, rfl⟩
          clear HNS
          go_wp2_with (go_at_call 25; refine Calls.mono HDC.out ?_; rintro e W3 ⟨rfl, hB3⟩)
          refine ⟨⟨k + 1, by omega, by go_num, HN2.out.1, HN2.out.2, HK.out.below hB3, HB2.out.trans (hB3.mono HB2.out.size)⟩, by simp [intOf]; omega⟩
    · obtain rfl : k = K.length := by omega
      rw [if_neg (by omega)]
      go_wp2
      go_ret2
      rw [List.take_length]
      exact ⟨rfl, HB2.out⟩
theorem rnear_calls (s : ByteArray) (w : World) (hs : s.size ≤ 9223372036854775807) :
    Calls Try.prog 23 #[.string s] w fun e w' => e = .returned (.tuple #[.string ⟨(nearTo (lower s.data.toList) KN).1.toArray⟩, .int .i64 (nearTo (lower s.data.toList) KN).2]) ∧ Below w.heap.size w w' := rnear_of s w hs _ rfl _ rfl

end Go.Proofs.Ytihehkgmlijfgaa.N
