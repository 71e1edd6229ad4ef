/- What is proved here: the contracts of text and In, of names and of sieveref04, at any number: which names are in which sets. -/
import Derived.Test.YtdkcibafbdmajabGreatDoorBun4
import Derived.Test.YtdkcibafbdmajabGreatDoorBun3
import Derived.Test.YtdkcibafbdmajabGreatDoorNRFields
namespace Go.Proofs.YtdkcibafbdmajabGreatDoor.N
open Go.RowKit C

def txtZ (z : Int) : ByteArray := if 0 ≤ z ∧ z < 16 then txtOf z.toNat else ⟨#[]⟩
def rtxtZ (z : Int) : ByteArray := if 0 ≤ z ∧ z < 16 then rtxtOf z.toNat else ⟨#[]⟩
/-- Is a name in the set of a number? -/
def inZ (z : Int) (l : List UInt8) : Bool := if 0 ≤ z ∧ z < 16 then decide (l ∈ SW z.toNat) else false
theorem ne_empty' (t : ByteArray) (h : ¬ t.size = 0) : (t.toList == ([] : List UInt8)) = false := by
  rw [Lib.toList_data, beq_eq_false_iff_ne]
  intro e
  apply h
  rw [← size_data, e]
  rfl
theorem z_cases (z : Int) (h : 0 ≤ z ∧ z < 16) : z = 0 ∨ z = 1 ∨ z = 2 ∨ z = 3 ∨ z = 4 ∨ z = 5 ∨ z = 6 ∨ z = 7 ∨ z = 8 ∨ z = 9 ∨ z = 10 ∨ z = 11 ∨ z = 12 ∨ z = 13 ∨ z = 14 ∨ z = 15 := by omega

set_option maxRecDepth 100000 in
set_option maxHeartbeats 1000000 in
theorem text_none (z : Int) (w : World) (h : ¬ (0 ≤ z ∧ z < 16)) : Calls Tryz.prog 92 #[.int .i64 z] w fun e w' => e = .returned (.string ⟨#[]⟩) ∧ w' = w := by
  have hz : ∀ n : Nat, n < 16 → (z == (n : Int)) = false := fun n hn => by rw [beq_eq_false_iff_ne]; omega
  have h0 : (z == 0) = false := hz 0 (by omega)
  have h1 : (z == 1) = false := hz 1 (by omega)
  have h2 : (z == 2) = false := hz 2 (by omega)
  have h3 : (z == 3) = false := hz 3 (by omega)
  have h4 : (z == 4) = false := hz 4 (by omega)
  have h5 : (z == 5) = false := hz 5 (by omega)
  have h6 : (z == 6) = false := hz 6 (by omega)
  have h7 : (z == 7) = false := hz 7 (by omega)
  have h8 : (z == 8) = false := hz 8 (by omega)
  have h9 : (z == 9) = false := hz 9 (by omega)
  have h10 : (z == 10) = false := hz 10 (by omega)
  have h11 : (z == 11) = false := hz 11 (by omega)
  have h12 : (z == 12) = false := hz 12 (by omega)
  have h13 : (z == 13) = false := hz 13 (by omega)
  have h14 : (z == 14) = false := hz 14 (by omega)
  have h15 : (z == 15) = false := hz 15 (by omega)
  clear hz h
  go_enter Tryz.func92, Tryz.ntmps92
  go_wp2
  go_ret
  exact ⟨rfl, rfl⟩
theorem text_calls (z : Int) (w : World) : Calls Tryz.prog 92 #[.int .i64 z] w fun e w' => e = .returned (.string (txtZ z)) ∧ w' = w := by
  unfold txtZ
  split
  · rename_i h
    rcases z_cases z h with rfl | rfl | rfl | rfl | rfl | rfl | rfl | rfl | rfl | rfl | rfl | rfl | rfl | rfl | rfl | rfl
    · exact text0_calls w
    · exact text1_calls w
    · exact text2_calls w
    · exact text3_calls w
    · exact text4_calls w
    · exact text5_calls w
    · exact text6_calls w
    · exact text7_calls w
    · exact text8_calls w
    · exact text9_calls w
    · exact text10_calls w
    · exact text11_calls w
    · exact text12_calls w
    · exact text13_calls w
    · exact text14_calls w
    · exact text15_calls w
  · rename_i h
    exact text_none z w h
set_option maxRecDepth 100000 in
set_option maxHeartbeats 1000000 in
theorem rtext_none (z : Int) (w : World) (h : ¬ (0 ≤ z ∧ z < 16)) : Calls Tryz.prog 60 #[.int .i64 z] w fun e w' => e = .returned (.string ⟨#[]⟩) ∧ w' = w := by
  have hz : ∀ n : Nat, n < 16 → (z == (n : Int)) = false := fun n hn => by rw [beq_eq_false_iff_ne]; omega
  have h0 : (z == 0) = false := hz 0 (by omega)
  have h1 : (z == 1) = false := hz 1 (by omega)
  have h2 : (z == 2) = false := hz 2 (by omega)
  have h3 : (z == 3) = false := hz 3 (by omega)
  have h4 : (z == 4) = false := hz 4 (by omega)
  have h5 : (z == 5) = false := hz 5 (by omega)
  have h6 : (z == 6) = false := hz 6 (by omega)
  have h7 : (z == 7) = false := hz 7 (by omega)
  have h8 : (z == 8) = false := hz 8 (by omega)
  have h9 : (z == 9) = false := hz 9 (by omega)
  have h10 : (z == 10) = false := hz 10 (by omega)
  have h11 : (z == 11) = false := hz 11 (by omega)
  have h12 : (z == 12) = false := hz 12 (by omega)
  have h13 : (z == 13) = false := hz 13 (by omega)
  have h14 : (z == 14) = false := hz 14 (by omega)
  have h15 : (z == 15) = false := hz 15 (by omega)
  clear hz h
  go_enter Tryz.func60, Tryz.ntmps60
  go_wp2
  go_ret
  exact ⟨rfl, rfl⟩
set_option maxRecDepth 100000 in
set_option maxHeartbeats 1000000 in
theorem rtext0_calls (w : World) : Calls Tryz.prog 60 #[.int .i64 0] w fun e w' => e = .returned (.string rtxt0) ∧ w' = w := by
  go_enter Tryz.func60, Tryz.ntmps60
  go_wp2
  go_ret
  exact ⟨rfl, rfl⟩
set_option maxRecDepth 100000 in
set_option maxHeartbeats 1000000 in
theorem rtext1_calls (w : World) : Calls Tryz.prog 60 #[.int .i64 1] w fun e w' => e = .returned (.string rtxt1) ∧ w' = w := by
  go_enter Tryz.func60, Tryz.ntmps60
  go_wp2
  go_ret
  exact ⟨rfl, rfl⟩
set_option maxRecDepth 100000 in
set_option maxHeartbeats 1000000 in
theorem rtext2_calls (w : World) : Calls Tryz.prog 60 #[.int .i64 2] w fun e w' => e = .returned (.string rtxt2) ∧ w' = w := by
  go_enter Tryz.func60, Tryz.ntmps60
  go_wp2
  go_ret
  exact ⟨rfl, rfl⟩
set_option maxRecDepth 100000 in
set_option maxHeartbeats 1000000 in
theorem rtext3_calls (w : World) : Calls Tryz.prog 60 #[.int .i64 3] w fun e w' => e = .returned (.string rtxt3) ∧ w' = w := by
  go_enter Tryz.func60, Tryz.ntmps60
  go_wp2
  go_ret
  exact ⟨rfl, rfl⟩
set_option maxRecDepth 100000 in
set_option maxHeartbeats 1000000 in
theorem rtext4_calls (w : World) : Calls Tryz.prog 60 #[.int .i64 4] w fun e w' => e = .returned (.string rtxt4) ∧ w' = w := by
  go_enter Tryz.func60, Tryz.ntmps60
  go_wp2
  go_ret
  exact ⟨rfl, rfl⟩
set_option maxRecDepth 100000 in
set_option maxHeartbeats 1000000 in
theorem rtext5_calls (w : World) : Calls Tryz.prog 60 #[.int .i64 5] w fun e w' => e = .returned (.string rtxt5) ∧ w' = w := by
  go_enter Tryz.func60, Tryz.ntmps60
  go_wp2
  go_ret
  exact ⟨rfl, rfl⟩
set_option maxRecDepth 100000 in
set_option maxHeartbeats 1000000 in
theorem rtext6_calls (w : World) : Calls Tryz.prog 60 #[.int .i64 6] w fun e w' => e = .returned (.string rtxt6) ∧ w' = w := by
  go_enter Tryz.func60, Tryz.ntmps60
  go_wp2
  go_ret
  exact ⟨rfl, rfl⟩
set_option maxRecDepth 100000 in
set_option maxHeartbeats 1000000 in
theorem rtext7_calls (w : World) : Calls Tryz.prog 60 #[.int .i64 7] w fun e w' => e = .returned (.string rtxt7) ∧ w' = w := by
  go_enter Tryz.func60, Tryz.ntmps60
  go_wp2
  go_ret
  exact ⟨rfl, rfl⟩
set_option maxRecDepth 100000 in
set_option maxHeartbeats 1000000 in
theorem rtext8_calls (w : World) : Calls Tryz.prog 60 #[.int .i64 8] w fun e w' => e = .returned (.string rtxt8) ∧ w' = w := by
  go_enter Tryz.func60, Tryz.ntmps60
  go_wp2
  go_ret
  exact ⟨rfl, rfl⟩
set_option maxRecDepth 100000 in
set_option maxHeartbeats 1000000 in
theorem rtext9_calls (w : World) : Calls Tryz.prog 60 #[.int .i64 9] w fun e w' => e = .returned (.string rtxt9) ∧ w' = w := by
  go_enter Tryz.func60, Tryz.ntmps60
  go_wp2
  go_ret
  exact ⟨rfl, rfl⟩
set_option maxRecDepth 100000 in
set_option maxHeartbeats 1000000 in
theorem rtext10_calls (w : World) : Calls Tryz.prog 60 #[.int .i64 10] w fun e w' => e = .returned (.string rtxt10) ∧ w' = w := by
  go_enter Tryz.func60, Tryz.ntmps60
  go_wp2
  go_ret
  exact ⟨rfl, rfl⟩
set_option maxRecDepth 100000 in
set_option maxHeartbeats 1000000 in
theorem rtext11_calls (w : World) : Calls Tryz.prog 60 #[.int .i64 11] w fun e w' => e = .returned (.string rtxt11) ∧ w' = w := by
  go_enter Tryz.func60, Tryz.ntmps60
  go_wp2
  go_ret
  exact ⟨rfl, rfl⟩
set_option maxRecDepth 100000 in
set_option maxHeartbeats 1000000 in
theorem rtext12_calls (w : World) : Calls Tryz.prog 60 #[.int .i64 12] w fun e w' => e = .returned (.string rtxt12) ∧ w' = w := by
  go_enter Tryz.func60, Tryz.ntmps60
  go_wp2
  go_ret
  exact ⟨rfl, rfl⟩
set_option maxRecDepth 100000 in
set_option maxHeartbeats 1000000 in
theorem rtext13_calls (w : World) : Calls Tryz.prog 60 #[.int .i64 13] w fun e w' => e = .returned (.string rtxt13) ∧ w' = w := by
  go_enter Tryz.func60, Tryz.ntmps60
  go_wp2
  go_ret
  exact ⟨rfl, rfl⟩
set_option maxRecDepth 100000 in
set_option maxHeartbeats 1000000 in
theorem rtext14_calls (w : World) : Calls Tryz.prog 60 #[.int .i64 14] w fun e w' => e = .returned (.string rtxt14) ∧ w' = w := by
  go_enter Tryz.func60, Tryz.ntmps60
  go_wp2
  go_ret
  exact ⟨rfl, rfl⟩
set_option maxRecDepth 100000 in
set_option maxHeartbeats 1000000 in
theorem rtext15_calls (w : World) : Calls Tryz.prog 60 #[.int .i64 15] w fun e w' => e = .returned (.string rtxt15) ∧ w' = w := by
  go_enter Tryz.func60, Tryz.ntmps60
  go_wp2
  go_ret
  exact ⟨rfl, rfl⟩
theorem rtext_calls (z : Int) (w : World) : Calls Tryz.prog 60 #[.int .i64 z] w fun e w' => e = .returned (.string (rtxtZ z)) ∧ w' = w := by
  unfold rtxtZ
  split
  · rename_i h
    rcases z_cases z h with rfl | rfl | rfl | rfl | rfl | rfl | rfl | rfl | rfl | rfl | rfl | rfl | rfl | rfl | rfl | rfl
    · exact rtext0_calls w
    · exact rtext1_calls w
    · exact rtext2_calls w
    · exact rtext3_calls w
    · exact rtext4_calls w
    · exact rtext5_calls w
    · exact rtext6_calls w
    · exact rtext7_calls w
    · exact rtext8_calls w
    · exact rtext9_calls w
    · exact rtext10_calls w
    · exact rtext11_calls w
    · exact rtext12_calls w
    · exact rtext13_calls w
    · exact rtext14_calls w
    · exact rtext15_calls w
  · rename_i h
    exact rtext_none z w h
theorem txtZ_size (z : Int) : (txtZ z).size ≤ 100000 := by
  unfold txtZ
  split
  · exact (set_right z.toNat (by omega)).2.2.2.1
  · decide
theorem rtxtZ_size (z : Int) : (rtxtZ z).size ≤ 100000 := by
  unfold rtxtZ
  split
  · exact (set_right z.toNat (by omega)).2.2.2.2
  · decide
theorem in_z (z : Int) (l : List UInt8) : (tagN l && Lib.contains (txtZ z).data.toList (32 :: (l ++ [32]))) = inZ z l := by
  unfold txtZ inZ
  split
  · exact in_right z.toNat (by omega) l
  · rw [show (⟨#[]⟩ : ByteArray).data.toList = [] from rfl, contains_nil, Bool.and_false]
theorem rin_z (z : Int) (l : List UInt8) : decide (l ∈ fields (rtxtZ z).data.toList) = inZ z l := by
  unfold rtxtZ inZ
  split
  · rw [decide_eq_decide]; exact ((set_right z.toNat (by omega)).2.2.1 l).symm
  · rw [show (⟨#[]⟩ : ByteArray).data.toList = [] from rfl]
    simp [fields, fieldsFrom]

set_option maxRecDepth 100000 in
set_option maxHeartbeats 1000000 in
/-- **In of any name and any number.** -/
theorem in_calls (s : ByteArray) (z : Int) (w : World) (hs : s.size ≤ 9223372036854775807) (hm : MaxOk w) :
    Calls Tryz.prog 69 #[.string s, .int .i64 z] w fun e w' => e = .returned (.bool (inZ z s.data.toList)) ∧ w' = w := by
  have HZ : Hid (s.data.toList.length = s.size) := size_data s
  have HI : Hid ((tagN s.data.toList && Lib.contains (txtZ z).data.toList (32 :: (s.data.toList ++ [32]))) = inZ z s.data.toList) := in_z z _
  have HX : Hid ((txtZ z).size < 4294967281) := by have := txtZ_size z; show _ < _; omega
  have HTC : Hid (∀ w, Calls Tryz.prog 92 #[.int .i64 z] w fun e w' => e = .returned (.string (txtZ z)) ∧ w' = w) := text_calls z
  generalize txtZ z = T at *
  obtain ⟨m, hm⟩ := hm
  have HM : Hid (w.cell? ⟨Tryz.laysM144_ren.g 1, 0, none⟩ = some (.int .i64 m)) := hm
  clear hm
  go_enter Tryz.func69, Tryz.ntmps69
  cases ht : tagN s.data.toList with
  | false =>
    go_wp2_with (go_at_call 90; refine (tag_calls _ _ hs).mono ?_; rintro e w' ⟨rfl, hw'⟩; have hx' := hw'.symm; subst hx')
    go_ret
    exact ⟨ret_bool (by rw [← HI.out, ht]; rfl), rfl⟩
  | true =>
    have h100 : s.size ≤ 100 := by have := HZ.out; simp [tagN] at ht; omega
    go_wp2_with (first
      | (go_at_call 90; refine (tag_calls _ _ hs).mono ?_; rintro e w' ⟨rfl, hw'⟩; have hx' := hw'.symm; subst hx')
      | (go_at_call 92; refine (HTC.out _).mono ?_; rintro e w' ⟨rfl, hw'⟩; have hx' := hw'.symm; subst hx'))
    refine (contains_calls T _ m w HX.out HM.out).mono ?_
    rintro e w' ⟨rfl, hw'⟩
    have hx' := hw'.symm
    subst hx'
    go_wp2
    go_ret
    exact ⟨ret_bool (by rw [← HI.out, ht]; first | rfl | (rw [sub_data]; rfl)), rfl⟩

set_option maxRecDepth 100000 in
set_option maxHeartbeats 1000000 in
/-- **In, as the document has it.** -/
theorem rin_calls (s : ByteArray) (z : Int) (w : World) :
    Calls Tryz.prog 41 #[.string s, .int .i64 z] w fun e w' => e = .returned (.bool (inZ z s.data.toList)) ∧ Below w.heap.size w w' := by
  have HI : Hid (decide (s.data.toList ∈ fields (rtxtZ z).data.toList) = inZ z s.data.toList) := rin_z z _
  have HX : Hid ((rtxtZ z).size ≤ 100000) := rtxtZ_size z
  have HTC : Hid (∀ w, Calls Tryz.prog 60 #[.int .i64 z] w fun e w' => e = .returned (.string (rtxtZ z)) ∧ w' = w) := rtext_calls z
  generalize rtxtZ z = T at *
  go_enter Tryz.func41, Tryz.ntmps41
  by_cases h0 : s.size = 0
  · have hem : s.toList = ([] : List UInt8) := by rw [Lib.toList_data]; exact empty_data s h0
    have HN : Hid (inZ z s.data.toList = false) := by
      rw [← HI.out]
      show _ = _
      rw [decide_eq_false_iff_not, empty_data s h0]
      intro h
      exact (fields_words _ _ h).1 rfl
    go_wp2
    go_ret
    exact ⟨ret_bool HN.out.symm, Below.refl _ _⟩
  · have hne := ne_empty' s h0
    go_wp2_with (go_at_call 60; refine (HTC.out _).mono ?_; rintro e w' ⟨rfl, hw'⟩; have hx' := hw'.symm; subst hx')
    refine (rfields_calls T w (by have := HX.out; omega)).mono ?_
    rintro e W1 ⟨v, rfl, hO, hB⟩
    obtain ⟨a, cap, rfl⟩ := owns_slice hO
    have hcnt : (fields T.data.toList).length ≤ 100001 := by have := fields_count T.data.toList; rw [size_data] at this; have := HX.out; omega
    have HT : Hid (HasT W1 (.slice a (fields T.data.toList).length cap) (fields T.data.toList)) := HasT.of hO
    have HB : Hid (Below w.heap.size w W1) := hB
    clear hO hB
    generalize fields T.data.toList = L at *
    go_wp2
    go_loopw [6, 13] (fun _ i wr => ∃ k : Nat, k ≤ L.length ∧ i = .int .i64 k ∧ wr = W1 ∧ Hid (s.data.toList ∉ L.take k)) (fun _ i _ => L.length - (intOf i).toNat)
    case atStart => exact ⟨0, by omega, rfl, by trivial, by simp [Hid]⟩
    case round =>
      obtain ⟨k, hk, rfl, hwr, hN⟩ := hrel
      have hwr' := hwr.symm
      subst hwr'
      clear hwr
      by_cases hlt : k < L.length
      · obtain ⟨b, rfl, hb, hcap, hcell⟩ := HT.out.at (by omega)
        have hc := hcell k hlt
        clear hcell
        have HTK : Hid (L.take (k + 1) = L.take k ++ [L[k]]) := List.take_succ_eq_append_getElem hlt
        by_cases hxy : L[k] = s.data.toList
        · have hq : ((⟨L[k].toArray⟩ : ByteArray).toList == s.toList) = true := by rw [toList_mk, Lib.toList_data, hxy, beq_self_eq_true]
          have HR : Hid (inZ z s.data.toList = true) := by
            rw [← HI.out]
            show _ = _
            rw [decide_eq_true_eq, ← hxy]
            exact List.getElem_mem _
          generalize (⟨L[k].toArray⟩ : ByteArray) = f at *
          clear hxy
          go_wp2
          go_ret
          exact ⟨ret_bool HR.out.symm, HB.out⟩
        · have hq : ((⟨L[k].toArray⟩ : ByteArray).toList == s.toList) = false := by rw [toList_mk, Lib.toList_data, beq_eq_false_iff_ne]; exact hxy
          have HN2 : Hid (s.data.toList ∉ L.take (k + 1)) := by
            rw [HTK.out]
            show _ ∉ _
            rw [List.mem_append, List.mem_singleton]
            intro h
            rcases h with h | h
            · exact hN.out h
            · exact hxy h.symm
          generalize (⟨L[k].toArray⟩ : ByteArray) = f at *
          clear hxy
          go_wp2
          go_roundw
          case rel => exact ⟨k + 1, by omega, by go_num, by trivial, HN2⟩
          case measure => simp [intOf]; omega
      · obtain rfl : k = L.length := by omega
        have HR : Hid (inZ z s.data.toList = false) := by
          have h := hN.out
          rw [List.take_length] at h
          rw [← HI.out]
          show _ = _
          rw [decide_eq_false_iff_not]
          exact h
        go_wp2
        go_ret
        exact ⟨ret_bool HR.out.symm, HB.out⟩

end Go.Proofs.YtdkcibafbdmajabGreatDoor.N
