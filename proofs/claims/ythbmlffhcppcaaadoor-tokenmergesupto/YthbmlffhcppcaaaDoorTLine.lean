/- What is proved here: the contract of Quote of sieveref07. -/
import Derived.Test.YthbmlffhcppcaaaDoorTTabs
import Derived.Test.YthbmlffhcppcaaaDoorTEqual
namespace Go.Proofs.YthbmlffhcppcaaaDoor.T
open Go.RowKit N

theorem app_data (a b : ByteArray) : (a ++ b).data.toList = a.data.toList ++ b.data.toList := by simp [ByteArray.data_append]
theorem ext1_data (s : ByteArray) (k : Nat) (h : k < s.size) : (s.extract k (k + 1)).data.toList = [s.data.toList.getD k 0] := by
  rw [ByteArray.data_extract, Array.toList_extract]
  have h' : k < s.data.toList.length := by rw [size_data]; exact h
  apply List.ext_getElem
  · simp; simp at h'; omega
  · intro i h1 h2
    simp at h2
    subst h2
    simp at h'
    simp [List.getD, h']

set_option maxRecDepth 100000 in
set_option maxHeartbeats 2000000 in
theorem rquote_calls (s : ByteArray) (w : World) (hs : s.size ≤ 4398046511104) :
    Calls Tryd.prog 37 #[.string s] w fun e w' => e = .returned (.string ⟨(quoteB s.data.toList).toArray⟩) ∧ w' = w := by
  have HZ : Hid (s.data.toList.length = s.size) := size_data s
  go_enter Tryd.func37, Tryd.ntmps37
  go_wp2
  go_loopw [3, 4] (fun v i wr => ∃ (k : Nat) (B : ByteArray), k ≤ s.size ∧ v = .string B ∧ i = .int .i64 k ∧ wr = w ∧ Hid (B.data.toList = [34] ++ qL (s.data.toList.take k))) (fun _ i _ => s.size - (intOf i).toNat)
  case atStart => exact ⟨0, ⟨#[34]⟩, by omega, rfl, rfl, rfl, by show _ = _; simp [qL]⟩
  case round =>
    obtain ⟨k, B, hk, rfl, rfl, rfl, hb⟩ := hrel
    have hq := qL_len (s.data.toList.take k)
    have hBs : B.size ≤ 1 + 2 * k := by
      rw [← size_data, hb.out, List.length_append]
      simp only [List.length_take] at hq
      simp only [List.length_cons, List.length_nil]; omega
    clear hq
    have r2 : B.size + 2 ≤ 9223372036854775807 := by omega
    have r1 : B.size + 1 ≤ 9223372036854775807 := by omega
    by_cases hlt : k < s.size
    · obtain ⟨c, hcc⟩ : ∃ c, s.data.toList.getD k 0 = c := ⟨_, rfl⟩
      have hix : ∀ w, (Instr.index 9 (.string s) (.int .i64 k)).run Tryd.prog w = .ok (.int .u8 c.toNat) w := fun w => run_byte w _ s _ k k c Tryd.underlying9 rfl hlt hcc
      have HN : Hid ([34] ++ qL (s.data.toList.take (k + 1)) = B.data.toList ++ qB c) := by
        show _ = _
        rw [qL_succ _ k (by have := HZ.out; omega), hcc, hb.out, List.append_assoc]
      have HX : Hid ((s.extract k (k + 1)).data.toList = [c]) := by show _ = _; rw [ext1_data s k hlt, hcc]
      clear hcc
      have e10 := u8_beq c 10 (by omega)
      have e9 := u8_beq c 9 (by omega)
      have e34 := u8_beq c 34 (by omega)
      have e92 := u8_beq c 92 (by omega)
      by_cases c10 : c = 10
      · have q10 : ((c.toNat : Int) == 10) = true := by rw [show (10 : Int) = ((10 : Nat) : Int) from rfl, e10]; simpa using c10
        have HQ : Hid (qB c = [92, 110]) := by show _ = _; unfold qB; rw [if_pos c10]
        clear e10 e9 e34 e92 c10
        go_wp2
        go_roundw
        case rel => exact ⟨k + 1, B ++ ⟨#[92, 110]⟩, by omega, rfl, by go_num, by trivial, by show _ = _; rw [HN.out, HQ.out, app_data]⟩
        case measure => simp [intOf]; omega
      have q10 : ((c.toNat : Int) == 10) = false := by rw [show (10 : Int) = ((10 : Nat) : Int) from rfl, e10]; simpa using c10
      by_cases c9 : c = 9
      · have q9 : ((c.toNat : Int) == 9) = true := by rw [show (9 : Int) = ((9 : Nat) : Int) from rfl, e9]; simpa using c9
        have HQ : Hid (qB c = [92, 116]) := by show _ = _; unfold qB; rw [if_neg c10, if_pos c9]
        clear e10 e9 e34 e92 c10 c9
        go_wp2
        go_roundw
        case rel => exact ⟨k + 1, B ++ ⟨#[92, 116]⟩, by omega, rfl, by go_num, by trivial, by show _ = _; rw [HN.out, HQ.out, app_data]⟩
        case measure => simp [intOf]; omega
      have q9 : ((c.toNat : Int) == 9) = false := by rw [show (9 : Int) = ((9 : Nat) : Int) from rfl, e9]; simpa using c9
      by_cases c34 : c = 34
      · have q34 : ((c.toNat : Int) == 34) = true := by rw [show (34 : Int) = ((34 : Nat) : Int) from rfl, e34]; simpa using c34
        have HQ : Hid (qB c = [92, 34]) := by show _ = _; unfold qB; rw [if_neg c10, if_neg c9, if_pos (.inl c34), c34]
        clear e10 e9 e34 e92 c10 c9 c34
        go_wp2
        go_roundw
        case rel => exact ⟨k + 1, B ++ ⟨#[92, 34]⟩, by omega, rfl, by go_num, by trivial, by show _ = _; rw [HN.out, HQ.out, app_data]⟩
        case measure => simp [intOf]; omega
      have q34 : ((c.toNat : Int) == 34) = false := by rw [show (34 : Int) = ((34 : Nat) : Int) from rfl, e34]; simpa using c34
      by_cases c92 : c = 92
      · have q92 : ((c.toNat : Int) == 92) = true := by rw [show (92 : Int) = ((92 : Nat) : Int) from rfl, e92]; simpa using c92
        have HQ : Hid (qB c = [92, 92]) := by show _ = _; unfold qB; rw [if_neg c10, if_neg c9, if_pos (.inr c92), c92]
        clear e10 e9 e34 e92 c10 c9 c34 c92
        go_wp2
        go_roundw
        case rel => exact ⟨k + 1, B ++ ⟨#[92, 92]⟩, by omega, rfl, by go_num, by trivial, by show _ = _; rw [HN.out, HQ.out, app_data]⟩
        case measure => simp [intOf]; omega
      have q92 : ((c.toNat : Int) == 92) = false := by rw [show (92 : Int) = ((92 : Nat) : Int) from rfl, e92]; simpa using c92
      have HQ : Hid (qB c = [c]) := by show _ = _; unfold qB; rw [if_neg c10, if_neg c9, if_neg (fun h => h.elim c34 c92)]
      clear e10 e9 e34 e92 c10 c9 c34 c92
      have hxs : (s.extract k (k + 1)).size = 1 := by rw [← size_data, HX.out]; rfl
      have hsl : ∀ w, (Instr.slice 9 (.string s) (some (.int .i64 k)) (some (.int .i64 ((k : Int) + 1))) none).run Tryd.prog w = .ok (.string (s.extract k (k + 1))) w := fun w => by
        rw [run_slice_string w 9 s .i64 .i64 k ((k : Int) + 1) Tryd.underlying9 (by omega) (by omega) (by omega)]
        rw [show ((k : Int) + 1).toNat = k + 1 by omega, show ((k : Int)).toNat = k by omega]
      obtain ⟨X, hX⟩ : ∃ X, s.extract k (k + 1) = X := ⟨_, rfl⟩
      rw [hX] at hxs hsl HX
      clear hX
      have r3 : B.size + X.size ≤ 9223372036854775807 := by omega
      go_wp2
      go_roundw
      case rel => exact ⟨k + 1, B ++ X, by omega, rfl, by go_num, by trivial, by show _ = _; rw [HN.out, HQ.out, app_data, HX.out]⟩
      case measure => simp [intOf]; omega
    · obtain rfl : k = s.size := by omega
      have HF : Hid (B ++ ⟨#[34]⟩ = ⟨(quoteB s.data.toList).toArray⟩) := by
        apply data_inj
        rw [app_data, hb.out, ← HZ.out, List.take_length]; simp [quoteB]
      go_wp2
      go_ret
      exact ⟨by rw [← HF.out]; rfl, rfl⟩
end Go.Proofs.YthbmlffhcppcaaaDoor.T
