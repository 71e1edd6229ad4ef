/- What is proved here: the contracts of Trim, of names and of sieveref04, and of sieveref04.blank: any text without the blanks at its ends. -/
import Derived.Test.YtdkcibafbdmajabGreatDoorBun4
namespace Go.Proofs.YtdkcibafbdmajabGreatDoor.N
open Go.RowKit C

theorem ret_str {a b : ByteArray} (h : a = b) : Ending.returned (.string a) = .returned (.string b) := by rw [h]
def strLen : Value → Nat
  | .string s => s.size
  | _ => 0
set_option maxRecDepth 100000 in
theorem rblankB_calls (c : UInt8) (w : World) : Calls Tryz.prog 86 #[.int .u8 c.toNat] w fun e w' => e = .returned (.bool (blankB c)) ∧ w' = w := by
  have HE : Hid (blankZ (wrap32 (c.toNat : Int)) = blankB c) := blank_eq c
  go_enter Tryz.func86, Tryz.ntmps86
  go_wp2_with (go_at_call 107; refine (rblank_calls _ _).mono ?_; rintro e w' ⟨rfl, hw'⟩; have hx' := hw'.symm; subst hx')
  all_goals go_ret
  exact ⟨ret_bool HE.out, rfl⟩

theorem head_get (t : List UInt8) (c : UInt8) (h : 0 < t.length) (hc : t.getD 0 0 = c) : t = c :: t.drop 1 := by
  cases t with
  | nil => simp at h
  | cons a r => simp at hc; subst hc; rfl
theorem last_get (t : List UInt8) (c : UInt8) (h : 0 < t.length) (hc : t.getD (t.length - 1) 0 = c) : t = t.take (t.length - 1) ++ [c] := by
  have e : t.length = t.length - 1 + 1 := by omega
  conv => lhs; rw [← List.take_length (l := t), e]
  rw [List.take_succ_eq_append_getElem (by omega)]
  congr 2
  rw [← hc]
  simp [List.getD, show t.length - 1 < t.length by omega]
theorem front_blank (t : List UInt8) (c : UInt8) (h : 0 < t.length) (hc : t.getD 0 0 = c) (hb : blankB c = true) : (t.drop 1).dropWhile blankB = t.dropWhile blankB := by
  conv => rhs; rw [head_get t c h hc]
  rw [List.dropWhile_cons, if_pos hb]
theorem front_plain (t : List UInt8) (c : UInt8) (h : 0 < t.length) (hc : t.getD 0 0 = c) (hb : blankB c = false) : t.dropWhile blankB = t := by
  conv => lhs; rw [head_get t c h hc]
  rw [List.dropWhile_cons, if_neg (by rw [hb]; decide), ← head_get t c h hc]
theorem back_blank (t : List UInt8) (c : UInt8) (h : 0 < t.length) (hc : t.getD (t.length - 1) 0 = c) (hb : blankB c = true) : (t.take (t.length - 1)).reverse.dropWhile blankB = t.reverse.dropWhile blankB := by
  conv => rhs; rw [last_get t c h hc]
  rw [List.reverse_append, List.reverse_singleton, List.singleton_append, List.dropWhile_cons, if_pos hb]
theorem back_plain (t : List UInt8) (c : UInt8) (h : 0 < t.length) (hc : t.getD (t.length - 1) 0 = c) (hb : blankB c = false) : (t.reverse.dropWhile blankB).reverse = t := by
  have e : t.reverse = c :: (t.take (t.length - 1)).reverse := by
    conv => lhs; rw [last_get t c h hc]
    rw [List.reverse_append, List.reverse_singleton, List.singleton_append]
  rw [e, List.dropWhile_cons, if_neg (by rw [hb]; decide), ← e, List.reverse_reverse]
theorem str_of (t : ByteArray) (x : List UInt8) (h : t.data.toList = x) : t = ⟨x.toArray⟩ := by rw [← h, Lib.mk_data]
theorem tail_data (t : ByteArray) : (t.extract 1 t.size).data.toList = t.data.toList.drop 1 := by
  rw [Lib.extract_data, List.take_of_length_le (by rw [List.length_drop, size_data]; omega)]
theorem front_data (t : ByteArray) : (t.extract 0 (t.size - 1)).data.toList = t.data.toList.take (t.data.toList.length - 1) := by
  rw [Lib.extract_data, List.drop_zero, size_data]; rfl
theorem empty_data (t : ByteArray) (h : t.size = 0) : t.data.toList = [] := List.length_eq_zero_iff.1 (by rw [size_data]; exact h)

set_option maxRecDepth 100000 in
set_option maxHeartbeats 2000000 in
theorem rtrim_calls (s : ByteArray) (w : World) (hs : s.size ≤ 9223372036854775807) :
    Calls Tryz.prog 85 #[.string s] w fun e w' => e = .returned (.string ⟨(trim s.data.toList).toArray⟩) ∧ w' = w := by
  obtain ⟨l, hl⟩ : ∃ l, s.data.toList = l := ⟨_, rfl⟩
  have HL : Hid (s.data.toList = l) := hl
  rw [hl]
  clear hl
  go_enter Tryz.func85, Tryz.ntmps85
  go_wp2
  go_loopw [0] (fun v wr => ∃ t : ByteArray, v = .string t ∧ t.size ≤ s.size ∧ wr = w ∧ Hid (t.data.toList.dropWhile blankB = l.dropWhile blankB)) (fun v _ => strLen v)
  case atStart => exact ⟨s, rfl, Nat.le_refl _, by trivial, by rw [HL.out]; exact rfl⟩
  case round =>
    obtain ⟨t, rfl, hts, hwr, hD⟩ := hrel
    have hwr' := hwr.symm
    subst hwr'
    clear hwr
    by_cases h0 : t.size = 0
    · have HD : Hid (t.data.toList = l.dropWhile blankB) := by have h := hD.out; rw [empty_data t h0] at h ⊢; exact h
      go_wp2
      go_loopw [0] (fun v wr => ∃ r : ByteArray, v = .string r ∧ r.size ≤ s.size ∧ wr = w ∧ Hid (r.data.toList.reverse.dropWhile blankB = (l.dropWhile blankB).reverse.dropWhile blankB)) (fun v _ => strLen v)
      case atStart => exact ⟨t, rfl, hts, by trivial, by rw [HD.out]; exact rfl⟩
      case round =>
        obtain ⟨r, rfl, hrs, hwr, hE⟩ := hrel
        have hwr' := hwr.symm
        subst hwr'
        clear hwr
        by_cases h1 : r.size = 0
        · have HR : Hid (r = ⟨(trim l).toArray⟩) := str_of r _ (by have h := hE.out; rw [empty_data r h1] at h ⊢; unfold trim; rw [← h]; rfl)
          go_wp2
          go_ret
          exact ⟨ret_str HR.out, rfl⟩
        · obtain ⟨d, hdd⟩ : ∃ d, r.data.toList.getD (r.data.toList.length - 1) 0 = d := ⟨_, rfl⟩
          have hiy : ∀ w, (Instr.index 9 (.string r) (.int .i64 ((r.size : Int) - 1))).run Tryz.prog w = .ok (.int .u8 d.toNat) w := fun w => run_byte w _ r _ _ (r.size - 1) d Tryz.underlying9 (by omega) (by omega) (by rw [← size_data]; exact hdd)
          have HC2 : Hid (r.data.toList.getD (r.data.toList.length - 1) 0 = d) := hdd
          have HN2 : Hid (0 < r.data.toList.length) := by show 0 < _; rw [size_data]; omega
          have hzt : ((r.size : Int) - 1).toNat = r.size - 1 := by omega
          clear hdd
          cases hb2 : blankB d with
          | true =>
            go_wp2_with (go_at_call 86; refine (rblankB_calls _ _).mono ?_; rintro e w' ⟨rfl, hw'⟩; have hx' := hw'.symm; subst hx')
            exact ⟨⟨r.extract 0 (r.size - 1), by first | rfl | rw [hzt], by rw [ByteArray.size_extract]; omega, by trivial, by
              show _ = _
              rw [front_data, back_blank _ d HN2.out HC2.out hb2]; exact hE.out⟩, by simp only [strLen, ByteArray.size_extract]; omega⟩
          | false =>
            have HR : Hid (r = ⟨(trim l).toArray⟩) := str_of r _ (by
              have h := hE.out
              unfold trim
              rw [← h]
              exact (back_plain _ d HN2.out HC2.out hb2).symm)
            go_wp2_with (go_at_call 86; refine (rblankB_calls _ _).mono ?_; rintro e w' ⟨rfl, hw'⟩; have hx' := hw'.symm; subst hx')
            go_ret
            exact ⟨ret_str HR.out, rfl⟩
    · obtain ⟨c, hcc⟩ : ∃ c, t.data.toList.getD 0 0 = c := ⟨_, rfl⟩
      have hix : ∀ w, (Instr.index 9 (.string t) (.int .i64 0)).run Tryz.prog w = .ok (.int .u8 c.toNat) w := fun w => run_byte w _ t _ 0 0 c Tryz.underlying9 rfl (by omega) hcc
      have HC : Hid (t.data.toList.getD 0 0 = c) := hcc
      have HN : Hid (0 < t.data.toList.length) := by show 0 < _; rw [size_data]; omega
      clear hcc
      cases hb : blankB c with
      | true =>
        go_wp2_with (go_at_call 86; refine (rblankB_calls _ _).mono ?_; rintro e w' ⟨rfl, hw'⟩; have hx' := hw'.symm; subst hx')
        exact ⟨⟨t.extract 1 t.size, rfl, by rw [ByteArray.size_extract]; omega, by trivial, by
          show _ = _
          rw [tail_data, front_blank _ c HN.out HC.out hb]; exact hD.out⟩, by simp only [strLen, ByteArray.size_extract]; omega⟩
      | false =>
        have HD : Hid (t.data.toList = l.dropWhile blankB) := by have h := hD.out; rw [front_plain _ c HN.out HC.out hb] at h; exact h
        go_wp2_with (go_at_call 86; refine (rblankB_calls _ _).mono ?_; rintro e w' ⟨rfl, hw'⟩; have hx' := hw'.symm; subst hx')
        clear hix
        go_loopw [0] (fun v wr => ∃ r : ByteArray, v = .string r ∧ r.size ≤ s.size ∧ wr = w ∧ Hid (r.data.toList.reverse.dropWhile blankB = (l.dropWhile blankB).reverse.dropWhile blankB)) (fun v _ => strLen v)
        case atStart => exact ⟨t, rfl, hts, by trivial, by rw [HD.out]; exact rfl⟩
        case round =>
          obtain ⟨r, rfl, hrs, hwr, hE⟩ := hrel
          have hwr' := hwr.symm
          subst hwr'
          clear hwr
          by_cases h1 : r.size = 0
          · have HR : Hid (r = ⟨(trim l).toArray⟩) := str_of r _ (by have h := hE.out; rw [empty_data r h1] at h ⊢; unfold trim; rw [← h]; rfl)
            go_wp2
            go_ret
            exact ⟨ret_str HR.out, rfl⟩
          · obtain ⟨d, hdd⟩ : ∃ d, r.data.toList.getD (r.data.toList.length - 1) 0 = d := ⟨_, rfl⟩
            have hiy : ∀ w, (Instr.index 9 (.string r) (.int .i64 ((r.size : Int) - 1))).run Tryz.prog w = .ok (.int .u8 d.toNat) w := fun w => run_byte w _ r _ _ (r.size - 1) d Tryz.underlying9 (by omega) (by omega) (by rw [← size_data]; exact hdd)
            have HC2 : Hid (r.data.toList.getD (r.data.toList.length - 1) 0 = d) := hdd
            have HN2 : Hid (0 < r.data.toList.length) := by show 0 < _; rw [size_data]; omega
            have hzt : ((r.size : Int) - 1).toNat = r.size - 1 := by omega
            clear hdd
            cases hb2 : blankB d with
            | true =>
              go_wp2_with (go_at_call 86; refine (rblankB_calls _ _).mono ?_; rintro e w' ⟨rfl, hw'⟩; have hx' := hw'.symm; subst hx')
              exact ⟨⟨r.extract 0 (r.size - 1), by first | rfl | rw [hzt], by rw [ByteArray.size_extract]; omega, by trivial, by
                show _ = _
                rw [front_data, back_blank _ d HN2.out HC2.out hb2]; exact hE.out⟩, by simp only [strLen, ByteArray.size_extract]; omega⟩
            | false =>
              have HR : Hid (r = ⟨(trim l).toArray⟩) := str_of r _ (by
                have h := hE.out
                unfold trim
                rw [← h]
                exact (back_plain _ d HN2.out HC2.out hb2).symm)
              go_wp2_with (go_at_call 86; refine (rblankB_calls _ _).mono ?_; rintro e w' ⟨rfl, hw'⟩; have hx' := hw'.symm; subst hx')
              go_ret
              exact ⟨ret_str HR.out, rfl⟩

theorem ne_empty (t : ByteArray) (h : ¬ t.size = 0) : (t.toList == ([] : List UInt8)) = false := by
  rw [Lib.toList_data, beq_eq_false_iff_ne]
  intro e
  apply h
  rw [← size_data, e]
  rfl
set_option maxRecDepth 100000 in
set_option maxHeartbeats 2000000 in
theorem trim_calls (s : ByteArray) (w : World) (hs : s.size ≤ 9223372036854775807) :
    Calls Tryz.prog 80 #[.string s] w fun e w' => e = .returned (.string ⟨(trim s.data.toList).toArray⟩) ∧ w' = w := by
  obtain ⟨l, hl⟩ : ∃ l, s.data.toList = l := ⟨_, rfl⟩
  have HL : Hid (s.data.toList = l) := hl
  rw [hl]
  clear hl
  go_enter Tryz.func80, Tryz.ntmps80
  go_wp2
  go_loopw [0] (fun v wr => ∃ t : ByteArray, v = .string t ∧ t.size ≤ s.size ∧ wr = w ∧ Hid (t.data.toList.dropWhile blankB = l.dropWhile blankB)) (fun v _ => strLen v)
  case atStart => exact ⟨s, rfl, Nat.le_refl _, by trivial, by rw [HL.out]; exact rfl⟩
  case round =>
    obtain ⟨t, rfl, hts, hwr, hD⟩ := hrel
    have hwr' := hwr.symm
    subst hwr'
    clear hwr
    by_cases h0 : t.size = 0
    · have HD : Hid (t.data.toList = l.dropWhile blankB) := by have h := hD.out; rw [empty_data t h0] at h ⊢; exact h
      have hemt : t.toList = ([] : List UInt8) := by rw [Lib.toList_data]; exact empty_data t h0
      go_wp2
      go_loopw [0] (fun v wr => ∃ r : ByteArray, v = .string r ∧ r.size ≤ s.size ∧ wr = w ∧ Hid (r.data.toList.reverse.dropWhile blankB = (l.dropWhile blankB).reverse.dropWhile blankB)) (fun v _ => strLen v)
      case atStart => exact ⟨t, rfl, hts, by trivial, by rw [HD.out]; exact rfl⟩
      case round =>
        obtain ⟨r, rfl, hrs, hwr, hE⟩ := hrel
        have hwr' := hwr.symm
        subst hwr'
        clear hwr
        by_cases h1 : r.size = 0
        · have HR : Hid (r = ⟨(trim l).toArray⟩) := str_of r _ (by have h := hE.out; rw [empty_data r h1] at h ⊢; unfold trim; rw [← h]; rfl)
          have hemr : r.toList = ([] : List UInt8) := by rw [Lib.toList_data]; exact empty_data r h1
          go_wp2
          go_ret
          exact ⟨ret_str HR.out, rfl⟩
        · obtain ⟨d, hdd⟩ : ∃ d, r.data.toList.getD (r.data.toList.length - 1) 0 = d := ⟨_, rfl⟩
          have hiy : ∀ w, (Instr.index 9 (.string r) (.int .i64 ((r.size : Int) - 1))).run Tryz.prog w = .ok (.int .u8 d.toNat) w := fun w => run_byte w _ r _ _ (r.size - 1) d Tryz.underlying9 (by omega) (by omega) (by rw [← size_data]; exact hdd)
          have HC2 : Hid (r.data.toList.getD (r.data.toList.length - 1) 0 = d) := hdd
          have HN2 : Hid (0 < r.data.toList.length) := by show 0 < _; rw [size_data]; omega
          have hzt : ((r.size : Int) - 1).toNat = r.size - 1 := by omega
          clear hdd
          have hner : (r.toList == ([] : List UInt8)) = false := ne_empty r h1
          have hbed := blank_eq d
          cases hb2 : blankB d with
          | true =>
            rw [hb2] at hbed
            go_wp2_with (go_at_call 104; refine (blank_calls _ _).mono ?_; rintro e w' ⟨rfl, hw'⟩; have hx' := hw'.symm; subst hx')
            exact ⟨⟨r.extract 0 (r.size - 1), by first | rfl | rw [hzt], by rw [ByteArray.size_extract]; omega, by trivial, by
              show _ = _
              rw [front_data, back_blank _ d HN2.out HC2.out hb2]; exact hE.out⟩, by simp only [strLen, ByteArray.size_extract]; omega⟩
          | false =>
            rw [hb2] at hbed
            have HR : Hid (r = ⟨(trim l).toArray⟩) := str_of r _ (by
              have h := hE.out
              unfold trim
              rw [← h]
              exact (back_plain _ d HN2.out HC2.out hb2).symm)
            go_wp2_with (go_at_call 104; refine (blank_calls _ _).mono ?_; rintro e w' ⟨rfl, hw'⟩; have hx' := hw'.symm; subst hx')
            go_ret
            exact ⟨ret_str HR.out, rfl⟩
    · obtain ⟨c, hcc⟩ : ∃ c, t.data.toList.getD 0 0 = c := ⟨_, rfl⟩
      have hix : ∀ w, (Instr.index 9 (.string t) (.int .i64 0)).run Tryz.prog w = .ok (.int .u8 c.toNat) w := fun w => run_byte w _ t _ 0 0 c Tryz.underlying9 rfl (by omega) hcc
      have HC : Hid (t.data.toList.getD 0 0 = c) := hcc
      have HN : Hid (0 < t.data.toList.length) := by show 0 < _; rw [size_data]; omega
      clear hcc
      have hnet : (t.toList == ([] : List UInt8)) = false := ne_empty t h0
      have hbec := blank_eq c
      cases hb : blankB c with
      | true =>
        rw [hb] at hbec
        go_wp2_with (go_at_call 104; refine (blank_calls _ _).mono ?_; rintro e w' ⟨rfl, hw'⟩; have hx' := hw'.symm; subst hx')
        exact ⟨⟨t.extract 1 t.size, rfl, by rw [ByteArray.size_extract]; omega, by trivial, by
          show _ = _
          rw [tail_data, front_blank _ c HN.out HC.out hb]; exact hD.out⟩, by simp only [strLen, ByteArray.size_extract]; omega⟩
      | false =>
        rw [hb] at hbec
        have HD : Hid (t.data.toList = l.dropWhile blankB) := by have h := hD.out; rw [front_plain _ c HN.out HC.out hb] at h; exact h
        go_wp2_with (go_at_call 104; refine (blank_calls _ _).mono ?_; rintro e w' ⟨rfl, hw'⟩; have hx' := hw'.symm; subst hx')
        clear hix
        go_loopw [0] (fun v wr => ∃ r : ByteArray, v = .string r ∧ r.size ≤ s.size ∧ wr = w ∧ Hid (r.data.toList.reverse.dropWhile blankB = (l.dropWhile blankB).reverse.dropWhile blankB)) (fun v _ => strLen v)
        case atStart => exact ⟨t, rfl, hts, by trivial, by rw [HD.out]; exact rfl⟩
        case round =>
          obtain ⟨r, rfl, hrs, hwr, hE⟩ := hrel
          have hwr' := hwr.symm
          subst hwr'
          clear hwr
          by_cases h1 : r.size = 0
          · have HR : Hid (r = ⟨(trim l).toArray⟩) := str_of r _ (by have h := hE.out; rw [empty_data r h1] at h ⊢; unfold trim; rw [← h]; rfl)
            have hemr : r.toList = ([] : List UInt8) := by rw [Lib.toList_data]; exact empty_data r h1
            go_wp2
            go_ret
            exact ⟨ret_str HR.out, rfl⟩
          · obtain ⟨d, hdd⟩ : ∃ d, r.data.toList.getD (r.data.toList.length - 1) 0 = d := ⟨_, rfl⟩
            have hiy : ∀ w, (Instr.index 9 (.string r) (.int .i64 ((r.size : Int) - 1))).run Tryz.prog w = .ok (.int .u8 d.toNat) w := fun w => run_byte w _ r _ _ (r.size - 1) d Tryz.underlying9 (by omega) (by omega) (by rw [← size_data]; exact hdd)
            have HC2 : Hid (r.data.toList.getD (r.data.toList.length - 1) 0 = d) := hdd
            have HN2 : Hid (0 < r.data.toList.length) := by show 0 < _; rw [size_data]; omega
            have hzt : ((r.size : Int) - 1).toNat = r.size - 1 := by omega
            clear hdd
            have hner : (r.toList == ([] : List UInt8)) = false := ne_empty r h1
            have hbed := blank_eq d
            cases hb2 : blankB d with
            | true =>
              rw [hb2] at hbed
              go_wp2_with (go_at_call 104; refine (blank_calls _ _).mono ?_; rintro e w' ⟨rfl, hw'⟩; have hx' := hw'.symm; subst hx')
              exact ⟨⟨r.extract 0 (r.size - 1), by first | rfl | rw [hzt], by rw [ByteArray.size_extract]; omega, by trivial, by
                show _ = _
                rw [front_data, back_blank _ d HN2.out HC2.out hb2]; exact hE.out⟩, by simp only [strLen, ByteArray.size_extract]; omega⟩
            | false =>
              rw [hb2] at hbed
              have HR : Hid (r = ⟨(trim l).toArray⟩) := str_of r _ (by
                have h := hE.out
                unfold trim
                rw [← h]
                exact (back_plain _ d HN2.out HC2.out hb2).symm)
              go_wp2_with (go_at_call 104; refine (blank_calls _ _).mono ?_; rintro e w' ⟨rfl, hw'⟩; have hx' := hw'.symm; subst hx')
              go_ret
              exact ⟨ret_str HR.out, rfl⟩

end Go.Proofs.YtdkcibafbdmajabGreatDoor.N
