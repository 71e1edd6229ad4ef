/- What is proved here: the contract of Unquote of sieveref07. -/
import Derived.Test.YtelfejbhlolppaaDoorBun13
namespace Go.Proofs.YtelfejbhlolppaaDoor.T
open Go.RowKit N

def unqV (s : ByteArray) : Value := match unqd s.data.toList with
  | some (a, r) => .tuple #[.string ⟨a.toArray⟩, .string ⟨r.toArray⟩, .bool true]
  | none => .tuple #[.string ⟨#[]⟩, .string s, .bool false]
theorem unqV_none (s : ByteArray) (h : unqd s.data.toList = none) : unqV s = .tuple #[.string ⟨#[]⟩, .string s, .bool false] := by unfold unqV; rw [h]
theorem unqV_some (s : ByteArray) (a r : List UInt8) (h : unqd s.data.toList = some (a, r)) : unqV s = .tuple #[.string ⟨a.toArray⟩, .string ⟨r.toArray⟩, .bool true] := by unfold unqV; rw [h]
theorem ret_val {v u : Value} (h : u = v) : Ending.returned v = Ending.returned u := by rw [h]

set_option maxRecDepth 100000 in
set_option maxHeartbeats 2000000 in
theorem unquote_calls (s : ByteArray) (w : World) (hs : s.size ≤ 1048576) :
    Calls Tryd.prog 57 #[.string s] w fun e w' => e = .returned (unqV s) ∧ Below w.heap.size w w' := by
  have HZ : Hid (s.data.toList.length = s.size) := size_data s
  go_enter Tryd.func57, Tryd.ntmps57
  by_cases h0 : s.size = 0
  · have hd0 : s.data.toList = [] := List.length_eq_zero_iff.1 (by have := HZ.out; omega)
    have q0 : s.toList.isEmpty = true := by rw [Lib.toList_data, hd0]; rfl
    have HV := unqV_none s (by rw [hd0]; rfl)
    clear hd0
    go_wp2
    all_goals go_ret3
    all_goals exact ⟨ret_val HV, Below.refl _ _⟩
  · obtain ⟨c, hcc⟩ : ∃ c, s.data.toList.getD 0 0 = c := ⟨_, rfl⟩
    have q0 : s.toList.isEmpty = false := by
      rw [Lib.toList_data]; cases hq : s.data.toList with
      | nil => rw [hq] at HZ; have := HZ.out; simp at this; omega
      | cons => rfl
    have hix : ∀ w, (Instr.index 9 (.string s) (.int .i64 0)).run Tryd.prog w = .ok (.int .u8 c.toNat) w := fun w => run_byte w _ s _ 0 0 c Tryd.underlying9 rfl (by omega) hcc
    have e34 := u8_beq c 34 (by omega)
    have hdc : s.data.toList = c :: s.data.toList.drop 1 := by
      have := drop_cons s.data.toList 0 (by have := HZ.out; omega)
      rw [List.drop_zero, hcc] at this
      exact this
    by_cases c34 : c = 34
    · have q34 : ((c.toNat : Int) == 34) = true := by rw [show (34 : Int) = ((34 : Nat) : Int) from rfl, e34]; simpa using c34
      have q34' : ((c.toNat : Int) != 34) = false := by rw [bne, q34]; rfl
      have HD : Hid (unqd s.data.toList = unq [] (s.data.toList.drop 1)) := by show _ = _; rw [hdc, c34]; rfl
      clear hdc c34 e34 hcc
      go_wp2_with fail
      go_loopw [5, 6] (fun v5 v6 wr => ∃ (k : Nat) (A : ByteArray), 1 ≤ k ∧ k ≤ s.size ∧ v5 = .string A ∧ v6 = .int .i64 k ∧ Hid (Below w.heap.size w wr) ∧ Hid (unq A.data.toList (s.data.toList.drop k) = unqd s.data.toList) ∧ Hid (A.size ≤ k)) (fun _ v6 _ => s.size - (intOf v6).toNat)
      case atStart => exact ⟨1, ⟨#[]⟩, by omega, by omega, rfl, rfl, Below.refl _ _, HD.out.symm, Nat.zero_le _⟩
      case round =>
        obtain ⟨k, A, hk1, hk, rfl, rfl, hB, hU, hA⟩ := hrel
        have hA2 := hA.out
        have rA : A.size + 1 ≤ 9223372036854775807 := by omega
        by_cases hlt : k < s.size
        · clear hix q34 q34'
          obtain ⟨c, hcc⟩ : ∃ c, s.data.toList.getD k 0 = c := ⟨_, rfl⟩
          have hdk := drop_cons s.data.toList k (by have := HZ.out; omega)
          rw [hcc] at hdk
          have hU2 := hU.out
          rw [hdk] at hU2
          have hix : ∀ w, (Instr.index 9 (.string s) (.int .i64 k)).run Tryd.prog w = .ok (.int .u8 c.toNat) w := fun w => run_byte w _ s _ k k c Tryd.underlying9 rfl hlt hcc
          have HX : Hid ((s.extract k (k + 1)).data.toList = [c]) := by show _ = _; rw [ext1_data s k hlt, hcc]
          have e34 := u8_beq c 34 (by omega)
          have e9 := u8_beq c 9 (by omega)
          have e10 := u8_beq c 10 (by omega)
          have e92 := u8_beq c 92 (by omega)
          by_cases c34 : c = 34
          · have q34 : ((c.toNat : Int) == 34) = true := by rw [show (34 : Int) = ((34 : Nat) : Int) from rfl, e34]; simpa using c34
            have hdx : s.extract (k + 1) s.size = ⟨(s.data.toList.drop (k + 1)).toArray⟩ := by
              apply data_inj
              rw [ByteArray.data_extract, Array.toList_extract, List.extract_eq_take_drop, List.take_of_length_le (by rw [List.length_drop]; have := HZ.out; omega)]
            have hsl : ∀ w, (Instr.slice 9 (.string s) (some (.int .i64 ((k : Int) + 1))) none none).run Tryd.prog w = .ok (.string ⟨(s.data.toList.drop (k + 1)).toArray⟩) w := fun w => by
              rw [run_slice_string_l w 9 s Tryd.underlying9 .i64 ((k : Int) + 1) (by omega) (by omega), ← hdx]; rfl
            rw [c34, unq_end] at hU2
            have HV : Hid (unqV s = .tuple #[.string A, .string ⟨(s.data.toList.drop (k + 1)).toArray⟩, .bool true]) := by show _ = _; rw [unqV_some s _ _ hU2.symm, byteArr_eta]
            clear hdx hU2 hdk e34 e9 e10 e92 c34 hcc
            go_wp2
            go_region
            all_goals go_wp2
            all_goals go_ret3
            all_goals first | exact ⟨ret_val HV.out, hB.out.drew⟩ | exact ⟨ret_val HV.out, hB.out⟩ | trace_state
          have q34 : ((c.toNat : Int) == 34) = false := by rw [show (34 : Int) = ((34 : Nat) : Int) from rfl, e34]; simpa using c34
          by_cases c9 : c = 9
          · have q9 : ((c.toNat : Int) == 9) = true := by rw [show (9 : Int) = ((9 : Nat) : Int) from rfl, e9]; simpa using c9
            rw [unq_bad _ _ _ (.inl c9)] at hU2
            have HV : Hid (unqV s = .tuple #[.string ⟨#[]⟩, .string s, .bool false]) := unqV_none s hU2.symm
            clear hU2 hdk e34 e9 e10 e92 c34 c9 hcc
            go_wp2
            all_goals go_ret3
            all_goals exact ⟨ret_val HV.out, hB.out⟩
          have q9 : ((c.toNat : Int) == 9) = false := by rw [show (9 : Int) = ((9 : Nat) : Int) from rfl, e9]; simpa using c9
          by_cases c10 : c = 10
          · have q10 : ((c.toNat : Int) == 10) = true := by rw [show (10 : Int) = ((10 : Nat) : Int) from rfl, e10]; simpa using c10
            rw [unq_bad _ _ _ (.inr c10)] at hU2
            have HV : Hid (unqV s = .tuple #[.string ⟨#[]⟩, .string s, .bool false]) := unqV_none s hU2.symm
            clear hU2 hdk e34 e9 e10 e92 c34 c9 c10 hcc
            go_wp2
            all_goals go_ret3
            all_goals exact ⟨ret_val HV.out, hB.out⟩
          have q10 : ((c.toNat : Int) == 10) = false := by rw [show (10 : Int) = ((10 : Nat) : Int) from rfl, e10]; simpa using c10
          by_cases c92 : c = 92
          · have q92 : ((c.toNat : Int) == 92) = true := by rw [show (92 : Int) = ((92 : Nat) : Int) from rfl, e92]; simpa using c92
            rw [c92] at hU2
            by_cases hl1 : k + 1 < s.size
            · obtain ⟨d, hdd⟩ : ∃ d, s.data.toList.getD (k + 1) 0 = d := ⟨_, rfl⟩
              have hdk2 := drop_cons s.data.toList (k + 1) (by have := HZ.out; omega)
              rw [hdd] at hdk2
              rw [hdk2] at hU2
              have hiy : ∀ w, (Instr.index 9 (.string s) (.int .i64 ((k : Int) + 1))).run Tryd.prog w = .ok (.int .u8 d.toNat) w := fun w => run_byte w _ s _ ((k : Int) + 1) (k + 1) d Tryd.underlying9 (by omega) hl1 hdd
              have hne : (((k : Int) + 1) == (s.size : Int)) = false := by rw [beq_eq_false_iff_ne]; omega
              have HXd : Hid ((s.extract (k + 1) (k + 1 + 1)).data.toList = [d]) := by show _ = _; rw [ext1_data s (k + 1) hl1, hdd]
              have g110 := u8_beq d 110 (by omega)
              have g116 := u8_beq d 116 (by omega)
              have g34 := u8_beq d 34 (by omega)
              have g92 := u8_beq d 92 (by omega)
              clear e34 e9 e10 e92 c34 c9 c10 c92 hcc hdk hdk2
              by_cases d110 : d = 110
              · have r110 : ((d.toNat : Int) == 110) = true := by rw [show (110 : Int) = ((110 : Nat) : Int) from rfl, g110]; simpa using d110
                have HUX : unq (A ++ ⟨#[10]⟩).data.toList (s.data.toList.drop (k + 1 + 1)) = unqd s.data.toList := by rw [app_data, ← hU2, d110, unq_n]
                have HXS : (⟨#[10]⟩ : ByteArray).size = 1 := rfl
                clear hU2 d110
                have HU3 : Hid (unq (A ++ ⟨#[10]⟩).data.toList (s.data.toList.drop (k + 1 + 1)) = unqd s.data.toList) := HUX
                have HA3 : Hid ((A ++ ⟨#[10]⟩).size ≤ k + 1 + 1) := by show _ ≤ _; rw [ByteArray.size_append, HXS]; omega
                clear HUX HXS g110 g116 g34 g92 hdd
                go_wp2
                all_goals first
                  | exact ⟨⟨k + 1 + 1, _, by omega, by omega, rfl, by go_num, hB, HU3, HA3⟩, by simp [intOf]; omega⟩
                  | (go_roundw
                     case rel => exact ⟨k + 1 + 1, _, by omega, by omega, rfl, by go_num, hB, HU3, HA3⟩
                     case measure => simp [intOf]; omega)
                  | trace_state
              have r110 : ((d.toNat : Int) == 110) = false := by rw [show (110 : Int) = ((110 : Nat) : Int) from rfl, g110]; simpa using d110
              by_cases d116 : d = 116
              · have r116 : ((d.toNat : Int) == 116) = true := by rw [show (116 : Int) = ((116 : Nat) : Int) from rfl, g116]; simpa using d116
                have HUX : unq (A ++ ⟨#[9]⟩).data.toList (s.data.toList.drop (k + 1 + 1)) = unqd s.data.toList := by rw [app_data, ← hU2, d116, unq_t]
                have HXS : (⟨#[9]⟩ : ByteArray).size = 1 := rfl
                clear hU2 d110 d116
                have HU3 : Hid (unq (A ++ ⟨#[9]⟩).data.toList (s.data.toList.drop (k + 1 + 1)) = unqd s.data.toList) := HUX
                have HA3 : Hid ((A ++ ⟨#[9]⟩).size ≤ k + 1 + 1) := by show _ ≤ _; rw [ByteArray.size_append, HXS]; omega
                clear HUX HXS g110 g116 g34 g92 hdd
                go_wp2
                all_goals first
                  | exact ⟨⟨k + 1 + 1, _, by omega, by omega, rfl, by go_num, hB, HU3, HA3⟩, by simp [intOf]; omega⟩
                  | (go_roundw
                     case rel => exact ⟨k + 1 + 1, _, by omega, by omega, rfl, by go_num, hB, HU3, HA3⟩
                     case measure => simp [intOf]; omega)
                  | trace_state
              have r116 : ((d.toNat : Int) == 116) = false := by rw [show (116 : Int) = ((116 : Nat) : Int) from rfl, g116]; simpa using d116
              by_cases d34 : d = 34
              · have r34 : ((d.toNat : Int) == 34) = true := by rw [show (34 : Int) = ((34 : Nat) : Int) from rfl, g34]; simpa using d34
                obtain ⟨X, hX⟩ : ∃ X, s.extract (k + 1) (k + 1 + 1) = X := ⟨_, rfl⟩
                have hxd : X.data.toList = [d] := by rw [← hX, HXd.out]
                have HXS : X.size = 1 := by rw [← size_data, hxd]; rfl
                have hxs : X.size = 1 := HXS
                have hsl : ∀ w, (Instr.slice 9 (.string s) (some (.int .i64 ((k : Int) + 1))) (some (.int .i64 ((k : Int) + 1 + 1))) none).run Tryd.prog w = .ok (.string X) w := fun w => by
                  rw [run_slice_string w 9 s .i64 .i64 ((k : Int) + 1) ((k : Int) + 1 + 1) Tryd.underlying9 (by omega) (by omega) (by omega), ← hX]; rfl
                have HUX : unq (A ++ X).data.toList (s.data.toList.drop (k + 1 + 1)) = unqd s.data.toList := by rw [app_data, hxd, ← hU2, unq_c _ _ _ (.inl d34)]
                clear hX HXd hxd hU2
                clear d110 d116 d34
                have HU3 : Hid (unq (A ++ X).data.toList (s.data.toList.drop (k + 1 + 1)) = unqd s.data.toList) := HUX
                have HA3 : Hid ((A ++ X).size ≤ k + 1 + 1) := by show _ ≤ _; rw [ByteArray.size_append, HXS]; omega
                clear HUX HXS g110 g116 g34 g92 hdd
                go_wp2
                all_goals first
                  | exact ⟨⟨k + 1 + 1, _, by omega, by omega, rfl, by go_num, hB, HU3, HA3⟩, by simp [intOf]; omega⟩
                  | (go_roundw
                     case rel => exact ⟨k + 1 + 1, _, by omega, by omega, rfl, by go_num, hB, HU3, HA3⟩
                     case measure => simp [intOf]; omega)
                  | trace_state
              have r34 : ((d.toNat : Int) == 34) = false := by rw [show (34 : Int) = ((34 : Nat) : Int) from rfl, g34]; simpa using d34
              by_cases d92 : d = 92
              · have r92 : ((d.toNat : Int) == 92) = true := by rw [show (92 : Int) = ((92 : Nat) : Int) from rfl, g92]; simpa using d92
                obtain ⟨X, hX⟩ : ∃ X, s.extract (k + 1) (k + 1 + 1) = X := ⟨_, rfl⟩
                have hxd : X.data.toList = [d] := by rw [← hX, HXd.out]
                have HXS : X.size = 1 := by rw [← size_data, hxd]; rfl
                have hxs : X.size = 1 := HXS
                have hsl : ∀ w, (Instr.slice 9 (.string s) (some (.int .i64 ((k : Int) + 1))) (some (.int .i64 ((k : Int) + 1 + 1))) none).run Tryd.prog w = .ok (.string X) w := fun w => by
                  rw [run_slice_string w 9 s .i64 .i64 ((k : Int) + 1) ((k : Int) + 1 + 1) Tryd.underlying9 (by omega) (by omega) (by omega), ← hX]; rfl
                have HUX : unq (A ++ X).data.toList (s.data.toList.drop (k + 1 + 1)) = unqd s.data.toList := by rw [app_data, hxd, ← hU2, unq_c _ _ _ (.inr d92)]
                clear hX HXd hxd hU2
                clear d110 d116 d34 d92
                have HU3 : Hid (unq (A ++ X).data.toList (s.data.toList.drop (k + 1 + 1)) = unqd s.data.toList) := HUX
                have HA3 : Hid ((A ++ X).size ≤ k + 1 + 1) := by show _ ≤ _; rw [ByteArray.size_append, HXS]; omega
                clear HUX HXS g110 g116 g34 g92 hdd
                go_wp2
                all_goals first
                  | exact ⟨⟨k + 1 + 1, _, by omega, by omega, rfl, by go_num, hB, HU3, HA3⟩, by simp [intOf]; omega⟩
                  | (go_roundw
                     case rel => exact ⟨k + 1 + 1, _, by omega, by omega, rfl, by go_num, hB, HU3, HA3⟩
                     case measure => simp [intOf]; omega)
                  | trace_state
              have r92 : ((d.toNat : Int) == 92) = false := by rw [show (92 : Int) = ((92 : Nat) : Int) from rfl, g92]; simpa using d92
              rw [unq_escBad _ _ _ d110 d116 d34 d92] at hU2
              have HV : Hid (unqV s = .tuple #[.string ⟨#[]⟩, .string s, .bool false]) := unqV_none s hU2.symm
              clear hU2 d110 d116 d34 d92 g110 g116 g34 g92 hdd
              go_wp2
              all_goals go_ret3
              all_goals exact ⟨ret_val HV.out, hB.out⟩
            · have hne : (((k : Int) + 1) == (s.size : Int)) = true := by rw [beq_iff_eq]; omega
              have hdn : s.data.toList.drop (k + 1) = [] := List.drop_eq_nil_of_le (by have := HZ.out; omega)
              rw [hdn, unq_escNil] at hU2
              have HV : Hid (unqV s = .tuple #[.string ⟨#[]⟩, .string s, .bool false]) := unqV_none s hU2.symm
              clear hU2 hdk e34 e9 e10 e92 c34 c9 c10 c92 hcc hdn
              go_wp2
              all_goals go_ret3
              all_goals exact ⟨ret_val HV.out, hB.out⟩
          have q92 : ((c.toNat : Int) == 92) = false := by rw [show (92 : Int) = ((92 : Nat) : Int) from rfl, e92]; simpa using c92
          rw [unq_else _ _ _ c34 c9 c10 c92] at hU2
          obtain ⟨X, hX⟩ : ∃ X, s.extract k (k + 1) = X := ⟨_, rfl⟩
          have hxs : X.size = 1 := by rw [← hX, ← size_data, HX.out]; rfl
          have hsl : ∀ w, (Instr.slice 9 (.string s) (some (.int .i64 k)) (some (.int .i64 ((k : Int) + 1))) none).run Tryd.prog w = .ok (.string X) w := fun w => by
            rw [run_slice_string w 9 s .i64 .i64 k ((k : Int) + 1) Tryd.underlying9 (by omega) (by omega) (by omega), ← hX]; rfl
          have HU3 : Hid (unq (A ++ X).data.toList (s.data.toList.drop (k + 1)) = unqd s.data.toList) := by show _ = _; rw [app_data, ← hX, HX.out]; exact hU2
          have HA3 : Hid ((A ++ X).size ≤ k + 1) := by show _ ≤ _; rw [ByteArray.size_append]; omega
          clear hU2 hdk e34 e9 e10 e92 c34 c9 c10 c92 hcc hX HX
          go_wp2
          all_goals first
            | exact ⟨⟨k + 1, _, by omega, by omega, rfl, by go_num, hB, HU3, HA3⟩, by simp [intOf]; omega⟩
            | (go_roundw
               case rel => exact ⟨k + 1, _, by omega, by omega, rfl, by go_num, hB, HU3, HA3⟩
               case measure => simp [intOf]; omega)
            | trace_state
        · obtain rfl : k = s.size := by omega
          have hU2 := hU.out
          rw [List.drop_eq_nil_of_le (by have := HZ.out; omega), unq_nil] at hU2
          have HV : Hid (unqV s = .tuple #[.string ⟨#[]⟩, .string s, .bool false]) := unqV_none s hU2.symm
          clear hU2
          go_wp2
          all_goals go_ret3
          all_goals exact ⟨ret_val HV.out, hB.out⟩
    · have q34 : ((c.toNat : Int) == 34) = false := by rw [show (34 : Int) = ((34 : Nat) : Int) from rfl, e34]; simpa using c34
      have q34' : ((c.toNat : Int) != 34) = true := by rw [bne, q34]; rfl
      have HV := unqV_none s (unqd_no _ (by rw [hdc]; simpa using c34))
      clear hdc c34 e34 hcc
      go_wp2
      all_goals go_ret3
      all_goals exact ⟨ret_val HV, Below.refl _ _⟩
end Go.Proofs.YtelfejbhlolppaaDoor.T
