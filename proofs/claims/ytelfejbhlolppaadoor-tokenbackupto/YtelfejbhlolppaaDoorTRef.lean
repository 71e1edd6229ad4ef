/- What is proved here: the contracts of stop, TagName and AttrName of sieveref07: which names may be. -/
import Derived.Test.YtelfejbhlolppaaDoorTCheck2
import Derived.Test.YtelfejbhlolppaaDoorTQuote
namespace Go.Proofs.YtelfejbhlolppaaDoor.T
open Go.RowKit N

set_option maxRecDepth 100000 in
set_option maxHeartbeats 1000000 in
theorem stop_calls (c : UInt8) (w : World) : Calls Tryd.prog 47 #[.int .u8 c.toNat] w fun e w' => e = .returned (.bool (stopB c)) ∧ w' = w := by
  have e0 := u8_beq c 0 (by omega)
  have e9 := u8_beq c 9 (by omega)
  have e10 := u8_beq c 10 (by omega)
  have e12 := u8_beq c 12 (by omega)
  have e32 := u8_beq c 32 (by omega)
  have e47 := u8_beq c 47 (by omega)
  have e62 := u8_beq c 62 (by omega)
  obtain ⟨b0, hb0⟩ : ∃ b, decide (c = UInt8.ofNat 0) = b := ⟨_, rfl⟩
  obtain ⟨b9, hb9⟩ : ∃ b, decide (c = UInt8.ofNat 9) = b := ⟨_, rfl⟩
  obtain ⟨b10, hb10⟩ : ∃ b, decide (c = UInt8.ofNat 10) = b := ⟨_, rfl⟩
  obtain ⟨b12, hb12⟩ : ∃ b, decide (c = UInt8.ofNat 12) = b := ⟨_, rfl⟩
  obtain ⟨b32, hb32⟩ : ∃ b, decide (c = UInt8.ofNat 32) = b := ⟨_, rfl⟩
  obtain ⟨b47, hb47⟩ : ∃ b, decide (c = UInt8.ofNat 47) = b := ⟨_, rfl⟩
  obtain ⟨b62, hb62⟩ : ∃ b, decide (c = UInt8.ofNat 62) = b := ⟨_, rfl⟩
  obtain ⟨q1, hq1⟩ : ∃ b, decide ((65 : Int) ≤ (c.toNat : Int)) = b := ⟨_, rfl⟩
  obtain ⟨q2, hq2⟩ : ∃ b, decide ((c.toNat : Int) ≤ 90) = b := ⟨_, rfl⟩
  have HS : Hid (stopB c = ((q1 && q2) || (b9 || b10 || b12 || b32 || b47 || b62 || b0))) := by
    show _ = _
    rw [← hq1, ← hq2, ← hb0, ← hb9, ← hb10, ← hb12, ← hb32, ← hb47, ← hb62]
    unfold stopB upB endB
    rw [Bool.decide_and]
    rfl
  rw [hb0] at e0
  rw [hb9] at e9
  rw [hb10] at e10
  rw [hb12] at e12
  rw [hb32] at e32
  rw [hb47] at e47
  rw [hb62] at e62
  clear hb0 hb9 hb10 hb12 hb32 hb47 hb62
  simp only [Int.cast_ofNat_Int] at e0 e9 e10 e12 e32 e47 e62
  go_enter Tryd.func47, Tryd.ntmps47
  go_wp2
  all_goals go_ret
  all_goals exact ⟨ret_bool (by rw [HS.out]; simp_all), rfl⟩

theorem empty_of {s : ByteArray} (h0 : s.size = 0) : s = ByteArray.empty := by
  have : s.data.toList = [] := List.length_eq_zero_iff.1 (by rw [size_data]; exact h0)
  have h2 : s.data = #[] := by simpa using this
  cases s; simp at h2; subst h2; rfl
theorem not_empty {s : ByteArray} (h0 : s.size ≠ 0) : s.toList.isEmpty = false := by
  rw [Lib.toList_data, List.isEmpty_eq_false_iff]
  intro h; rw [← List.length_eq_zero_iff, size_data] at h; exact h0 h

set_option maxRecDepth 100000 in
set_option maxHeartbeats 1000000 in
theorem rtag_calls (s : ByteArray) (w : World) (hs : s.size ≤ 4398046511104) : Calls Tryd.prog 28 #[.string s] w fun e w' => e = .returned (.bool (utfB s.data.toList && tagB s.data.toList)) ∧ Below w.heap.size w w' := by
  have HZ : Hid (s.data.toList.length = s.size) := size_data s
  have VC : Hid (Calls Tryd.prog 27 #[.string s] w fun e w' => e = .returned (.bool (utfB s.data.toList)) ∧ Below w.heap.size w w') := rutf_calls s w hs
  cases hu : utfB s.data.toList with
  | false =>
    rw [hu] at VC
    go_enter Tryd.func28, Tryd.ntmps28
    go_wp2_with (go_at_call 27; refine VC.out.mono ?_; rintro e w2 ⟨rfl, hb2⟩)
    all_goals go_ret
    all_goals exact ⟨ret_bool rfl, hb2⟩
  | true =>
    rw [hu] at VC
    rw [Bool.true_and]
    by_cases h0 : s.size = 0
    · obtain rfl := empty_of h0
      go_enter Tryd.func28, Tryd.ntmps28
      go_wp2_with (go_at_call 27; refine VC.out.mono ?_; rintro e w2 ⟨rfl, hb2⟩)
      all_goals go_ret
      all_goals exact ⟨ret_bool rfl, hb2⟩
    have e1 := not_empty h0
    obtain ⟨d, hdd⟩ : ∃ c, s.data.toList.getD 0 0 = c := ⟨_, rfl⟩
    have hiy : ∀ w, (Instr.index 9 (.string s) (.int .i64 0)).run Tryd.prog w = .ok (.int .u8 d.toNat) w := fun w => run_byte w _ s _ 0 0 d Tryd.underlying9 rfl (by omega) hdd
    have HT : Hid (tagB s.data.toList = (smallB d && lastB s.data.toList)) := by
      show _ = _
      unfold tagB
      rw [hdd, HZ.out, decide_eq_true (by omega : 0 < s.size), Bool.true_and]
    clear hdd hu
    cases hc : smallB d with
    | false =>
      have hc' : (d.toNat : Int) < 97 ∨ 122 < (d.toNat : Int) := by simp [smallB] at hc; omega
      rcases hc' with hc' | hc'
      · have q1 : decide ((d.toNat : Int) < 97) = true := by simpa using hc'
        go_enter Tryd.func28, Tryd.ntmps28
        go_wp2_with (go_at_call 27; refine VC.out.mono ?_; rintro e w2 ⟨rfl, hb2⟩)
        all_goals go_ret
        all_goals exact ⟨ret_bool (by rw [HT.out, hc]; rfl), hb2⟩
      · have q1 : decide ((d.toNat : Int) < 97) = false := by simp; omega
        have q2 : decide (122 < (d.toNat : Int)) = true := by simpa using hc'
        go_enter Tryd.func28, Tryd.ntmps28
        go_wp2_with (go_at_call 27; refine VC.out.mono ?_; rintro e w2 ⟨rfl, hb2⟩)
        all_goals go_ret
        all_goals exact ⟨ret_bool (by rw [HT.out, hc]; rfl), hb2⟩
    | true =>
      have hc' : 97 ≤ (d.toNat : Int) ∧ (d.toNat : Int) ≤ 122 := by simp [smallB] at hc; omega
      have q1 : decide ((d.toNat : Int) < 97) = false := by simp; omega
      have q2 : decide (122 < (d.toNat : Int)) = false := by simp; omega
      have HT' : Hid (tagB s.data.toList = lastB s.data.toList) := by show _ = _; rw [HT.out, hc]; rfl
      clear HT hc hc'
      go_enter Tryd.func28, Tryd.ntmps28
      go_wp2_with (go_at_call 27; refine VC.out.mono ?_; rintro e w2 ⟨rfl, hb2⟩)
      clear hiy
      have HB2 : Hid (Below w.heap.size w w2) := hb2
      clear hb2
      go_loopw [3] (fun i wr => ∃ k : Nat, k ≤ s.size ∧ i = .int .i64 k ∧ wr = w2 ∧ Hid ((s.data.toList.take k).all (fun c => !stopB c) = true)) (fun i _ => s.size - (intOf i).toNat)
      case atStart => exact ⟨0, by omega, rfl, rfl, by simp [Hid]⟩
      case round =>
        obtain ⟨k, hk, rfl, rfl, hp⟩ := hrel
        by_cases hlt : k < s.size
        · obtain ⟨c, hcc⟩ : ∃ c, s.data.toList.getD k 0 = c := ⟨_, rfl⟩
          have hix : ∀ w, (Instr.index 9 (.string s) (.int .i64 k)).run Tryd.prog w = .ok (.int .u8 c.toNat) w := fun w => run_byte w _ s _ k k c Tryd.underlying9 rfl hlt hcc
          have HN : Hid (∀ h : stopB c = false, (s.data.toList.take (k + 1)).all (fun c => !stopB c) = true) := fun h => all_take_succ _ _ k (by have := HZ.out; omega) hp.out (by rw [hcc, h]; rfl)
          have HY : Hid (∀ h : stopB c = true, lastB s.data.toList = false) := fun h => all_not _ _ k (by have := HZ.out; omega) (by rw [hcc, h]; rfl)
          clear hcc hp
          cases hst : stopB c with
          | false =>
            have HHH : Hid ((s.data.toList.take (k + 1)).all (fun c => !stopB c) = true) := HN.out hst
            go_wp2_with (go_at_call 47; refine (stop_calls _ _).mono ?_; rintro e w' ⟨rfl, hw⟩; have hx' := hw.symm; subst hx')
            go_roundw
            case rel => exact ⟨k + 1, by omega, by go_num, by trivial, HHH⟩
            case measure => simp [intOf]; omega
          | true =>
            have HH := HY.out hst
            go_wp2_with (go_at_call 47; refine (stop_calls _ _).mono ?_; rintro e w' ⟨rfl, hw⟩; have hx' := hw.symm; subst hx')
            all_goals go_ret
            exact ⟨ret_bool (by rw [HT'.out]; exact HH.symm), HB2.out⟩
        · obtain rfl : k = s.size := by omega
          go_wp2
          go_ret
          exact ⟨ret_bool (by have h := hp.out; rw [← HZ.out, List.take_length] at h; rw [HT'.out]; exact h.symm), HB2.out⟩

/-- A place of an attribute's name at which a lexer would stop. -/
def badAt (l : List UInt8) (k : Nat) : Bool := stopB (l.getD k 0) || (decide (0 < k) && (l.getD k 0 == 61))
def goodTo (l : List UInt8) (k : Nat) : Prop := ∀ j, j < k → badAt l j = false
theorem good_all (l : List UInt8) (h : goodTo l l.length) : (lastB l && eqB l) = true := by
  rw [Bool.and_eq_true]
  constructor
  · unfold lastB
    rw [List.all_eq_true]
    intro c hc
    obtain ⟨j, hj, rfl⟩ := List.mem_iff_getElem.1 hc
    have := h j hj
    unfold badAt at this
    simp [List.getD, hj] at this
    simp [this.1]
  · unfold eqB
    rw [List.all_eq_true]
    intro c hc
    obtain ⟨j, hj, rfl⟩ := List.mem_iff_getElem.1 hc
    simp only [List.length_drop] at hj
    have := h (1 + j) (by omega)
    unfold badAt at this
    have hj' : 1 + j < l.length := by omega
    simp [List.getD, hj'] at this
    rw [List.getElem_drop]
    have h61 := this.2 (by omega)
    simpa using h61
theorem bad_not (l : List UInt8) (k : Nat) (hk : k < l.length) (h : badAt l k = true) : (lastB l && eqB l) = false := by
  unfold badAt at h
  simp [List.getD, hk] at h
  rw [Bool.and_eq_false_iff]
  rcases h with h | ⟨h0, h⟩
  · left
    unfold lastB
    rw [List.all_eq_false]
    exact ⟨l[k], List.getElem_mem _, by simp [h]⟩
  · right
    unfold eqB
    rw [List.all_eq_false]
    refine ⟨(l.drop 1)[k - 1]'(by simp only [List.length_drop]; omega), List.getElem_mem _, ?_⟩
    rw [List.getElem_drop]
    simp only [show 1 + (k - 1) = k by omega, h]
    decide

set_option maxRecDepth 100000 in
set_option maxHeartbeats 1000000 in
theorem rattr_calls (s : ByteArray) (w : World) (hs : s.size ≤ 4398046511104) : Calls Tryd.prog 48 #[.string s] w fun e w' => e = .returned (.bool (utfB s.data.toList && attrN s.data.toList)) ∧ Below w.heap.size w w' := by
  have HZ : Hid (s.data.toList.length = s.size) := size_data s
  have VC : Hid (Calls Tryd.prog 27 #[.string s] w fun e w' => e = .returned (.bool (utfB s.data.toList)) ∧ Below w.heap.size w w') := rutf_calls s w hs
  cases hu : utfB s.data.toList with
  | false =>
    rw [hu] at VC
    go_enter Tryd.func48, Tryd.ntmps48
    go_wp2_with (go_at_call 27; refine VC.out.mono ?_; rintro e w2 ⟨rfl, hb2⟩)
    all_goals go_ret
    all_goals exact ⟨ret_bool rfl, hb2⟩
  | true =>
    rw [hu] at VC
    rw [Bool.true_and]
    by_cases h0 : s.size = 0
    · obtain rfl := empty_of h0
      go_enter Tryd.func48, Tryd.ntmps48
      go_wp2_with (go_at_call 27; refine VC.out.mono ?_; rintro e w2 ⟨rfl, hb2⟩)
      all_goals go_ret
      all_goals exact ⟨ret_bool rfl, hb2⟩
    have e1 := not_empty h0
    have HT' : Hid (attrN s.data.toList = (lastB s.data.toList && eqB s.data.toList)) := by
      show _ = _
      unfold attrN
      rw [← Lib.toList_data, e1]; rfl
    go_enter Tryd.func48, Tryd.ntmps48
    go_wp2_with (go_at_call 27; refine VC.out.mono ?_; rintro e w2 ⟨rfl, hb2⟩)
    have HB2 : Hid (Below w.heap.size w w2) := hb2
    clear hb2
    go_loopw [3] (fun i wr => ∃ k : Nat, k ≤ s.size ∧ i = .int .i64 k ∧ wr = w2 ∧ Hid (goodTo s.data.toList k)) (fun i _ => s.size - (intOf i).toNat)
    case atStart => exact ⟨0, by omega, rfl, rfl, fun j hj => by omega⟩
    case round =>
      obtain ⟨k, hk, rfl, rfl, hp⟩ := hrel
      by_cases hlt : k < s.size
      · obtain ⟨c, hcc⟩ : ∃ c, s.data.toList.getD k 0 = c := ⟨_, rfl⟩
        have hix : ∀ w, (Instr.index 9 (.string s) (.int .i64 k)).run Tryd.prog w = .ok (.int .u8 c.toNat) w := fun w => run_byte w _ s _ k k c Tryd.underlying9 rfl hlt hcc
        have HBD : Hid (badAt s.data.toList k = (stopB c || (decide (0 < k) && (c == 61)))) := by show _ = _; unfold badAt; rw [hcc]
        have HN : Hid (badAt s.data.toList k = false → goodTo s.data.toList (k + 1)) := fun h j hj => by
          by_cases e : j = k
          · rw [e]; exact h
          · exact hp.out j (by omega)
        have HY : Hid (badAt s.data.toList k = true → (lastB s.data.toList && eqB s.data.toList) = false) := bad_not _ k (by have := HZ.out; omega)
        have e61 := u8_beq c 61 (by omega)
        simp only [Int.cast_ofNat_Int] at e61
        obtain ⟨b61, hb61⟩ : ∃ b, decide (c = UInt8.ofNat 61) = b := ⟨_, rfl⟩
        have HB61 : Hid ((c == 61) = b61) := by rw [← hb61]; rfl
        rw [hb61] at e61
        clear hcc hp hb61
        obtain ⟨S, hS⟩ : ∃ b, stopB c = b := ⟨_, rfl⟩
        have SC : Hid (∀ W, Calls Tryd.prog 47 #[.int .u8 c.toNat] W fun e w' => e = .returned (.bool S) ∧ w' = W) := fun W => by rw [← hS]; exact stop_calls c W
        rw [hS, HB61.out] at HBD
        clear hS HB61
        by_cases hk0 : k = 0
        · subst hk0
          have HBD' : Hid (badAt s.data.toList 0 = S) := by show _ = _; rw [HBD.out]; simp
          have hix0 : ∀ w, (Instr.index 9 (.string s) (.int .i64 0)).run Tryd.prog w = .ok (.int .u8 c.toNat) w := hix
          clear HBD hix
          cases S with
          | false =>
            have HHH : Hid (goodTo s.data.toList 1) := HN.out HBD'.out
            go_wp2_with (go_at_call 47; refine (SC.out _).mono ?_; rintro e w' ⟨rfl, hw⟩; have hx' := hw.symm; subst hx')
            all_goals first
              | exact ⟨⟨1, by omega, by go_num, by trivial, HHH⟩, by simp [intOf]; omega⟩
              | (go_roundw
                 case rel => exact ⟨1, by omega, by go_num, by trivial, HHH⟩
                 case measure => simp [intOf]; omega)
          | true =>
            have HH := HY.out HBD'.out
            go_wp2_with (go_at_call 47; refine (SC.out _).mono ?_; rintro e w' ⟨rfl, hw⟩; have hx' := hw.symm; subst hx')
            all_goals go_ret
            all_goals exact ⟨ret_bool (by rw [HT'.out]; exact HH.symm), HB2.out⟩
        · have qk : decide ((0 : Int) < (k : Int)) = true := by simp; omega
          have HBD' : Hid (badAt s.data.toList k = (S || b61)) := by show _ = _; rw [HBD.out, decide_eq_true (by omega : 0 < k)]; rfl
          clear HBD
          cases S with
          | false =>
            cases b61 with
            | false =>
              have HHH : Hid (goodTo s.data.toList (k + 1)) := HN.out HBD'.out
              go_wp2_with (go_at_call 47; refine (SC.out _).mono ?_; rintro e w' ⟨rfl, hw⟩; have hx' := hw.symm; subst hx')
              all_goals first
                | exact ⟨⟨k + 1, by omega, by go_num, by trivial, HHH⟩, by simp [intOf]; omega⟩
                | (go_roundw
                   case rel => exact ⟨k + 1, by omega, by go_num, by trivial, HHH⟩
                   case measure => simp [intOf]; omega)
            | true =>
              have HH := HY.out HBD'.out
              go_wp2_with (go_at_call 47; refine (SC.out _).mono ?_; rintro e w' ⟨rfl, hw⟩; have hx' := hw.symm; subst hx')
              all_goals go_ret
              all_goals exact ⟨ret_bool (by rw [HT'.out]; exact HH.symm), HB2.out⟩
          | true =>
            have HH := HY.out HBD'.out
            go_wp2_with (go_at_call 47; refine (SC.out _).mono ?_; rintro e w' ⟨rfl, hw⟩; have hx' := hw.symm; subst hx')
            all_goals go_ret
            all_goals exact ⟨ret_bool (by rw [HT'.out]; exact HH.symm), HB2.out⟩
      · obtain rfl : k = s.size := by omega
        have HH := good_all s.data.toList (by rw [HZ.out]; exact hp.out)
        go_wp2
        go_ret
        exact ⟨ret_bool (by rw [HT'.out]; exact HH.symm), HB2.out⟩
end Go.Proofs.YtelfejbhlolppaaDoor.T
