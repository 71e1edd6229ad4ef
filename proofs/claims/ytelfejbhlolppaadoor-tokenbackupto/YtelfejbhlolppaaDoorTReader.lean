/- What is proved here: the contracts of giveUp, next, escaped, take and want of token's reader. -/
import Derived.WalkLawsBesides
import Derived.Test.YtelfejbhlolppaaDoorBun10
namespace Go.Proofs.YtelfejbhlolppaaDoor.T
open Go.RowKit N

set_option maxRecDepth 100000 in
theorem giveUp_calls (w : World) : Calls Tryd.prog 68 #[] w fun e w' => e = Ending.panicked [{ v := Value.iface 29 (Value.int IntKind.i64 70), recovered := false }] ∧ w' = w := by
  go_enter Tryd.func68, Tryd.ntmps68
  go_wp2
  exact ⟨rfl, rfl, rfl⟩
theorem tail_data (s : ByteArray) (c : UInt8) (r : List UInt8) (h : s.data.toList = c :: r) : s.extract 1 s.size = ⟨r.toArray⟩ := by
  apply data_inj
  rw [ByteArray.data_extract, Array.toList_extract]
  have hz := size_data s
  rw [h] at hz ⊢
  simp at hz ⊢
  rw [← hz]; simp

/-- The reader at a rest of the line; all else is as it was. -/
def Rd (g : Nat) (w0 : World) (s : List UInt8) (w : World) : Prop := w.cell? ⟨g, 0, none⟩ = some (.string ⟨s.toArray⟩) ∧ w.frozen? ⟨g, 0, none⟩ = false ∧ g < w0.heap.size ∧ KeepP (fun k => k = g) w0 w

set_option maxRecDepth 100000 in
set_option maxHeartbeats 1000000 in
theorem next_none (g : Nat) (w : World) (hc : w.cell? ⟨g, 0, none⟩ = some (.string ⟨#[]⟩)) : Calls Tryd.prog 78 #[.pointer (some ⟨g, 0, none⟩)] w fun e w' => e = Ending.panicked [{ v := Value.iface 29 (Value.int IntKind.i64 70), recovered := false }] ∧ w' = w := by
  go_enter Tryd.func78, Tryd.ntmps78
  go_wp2_with (go_at_call 68; refine (giveUp_calls _).mono ?_; rintro e w2 ⟨rfl, rfl⟩)
  exact ⟨rfl, rfl, rfl⟩
set_option maxRecDepth 100000 in
set_option maxHeartbeats 1000000 in
theorem next_some (g : Nat) (c : UInt8) (r : List UInt8) (w : World) (hl : r.length < 4398046511104) (hc : w.cell? ⟨g, 0, none⟩ = some (.string ⟨(c :: r).toArray⟩)) (hf : w.frozen? ⟨g, 0, none⟩ = false) : Calls Tryd.prog 78 #[.pointer (some ⟨g, 0, none⟩)] w fun e w' => e = .returned (.int .u8 c.toNat) ∧ w' = w.setCell ⟨g, 0, none⟩ (.string ⟨r.toArray⟩) := by
  obtain ⟨S, hS⟩ : ∃ S : ByteArray, (⟨(c :: r).toArray⟩ : ByteArray) = S := ⟨_, rfl⟩
  have hd : S.data.toList = c :: r := by rw [← hS]
  have hsz : S.size = r.length + 1 := by rw [← size_data, hd]; rfl
  rw [hS] at hc
  have q0 : S.toList.isEmpty = false := by rw [Lib.toList_data, hd]; rfl
  have hix : ∀ w, (Instr.index 9 (.string S) (.int .i64 0)).run Tryd.prog w = .ok (.int .u8 c.toNat) w := fun w => run_byte w _ S _ 0 0 c Tryd.underlying9 rfl (by omega) (by rw [hd]; rfl)
  have hsl : ∀ w, (Instr.slice 9 (.string S) (some (.int .i64 1)) none none).run Tryd.prog w = .ok (.string ⟨r.toArray⟩) w := fun w => by
    rw [run_slice_string_l w 9 S Tryd.underlying9 .i64 1 (by omega) (by omega), ← tail_data S c r hd]; rfl
  clear hS hd
  go_enter Tryd.func78, Tryd.ntmps78
  go_wp2
  go_ret
  exact ⟨rfl, rfl⟩
set_option maxRecDepth 100000 in
set_option maxHeartbeats 1000000 in
theorem escaped_none (g : Nat) (w : World) (hc : w.cell? ⟨g, 0, none⟩ = some (.string ⟨#[]⟩)) : Calls Tryd.prog 79 #[.pointer (some ⟨g, 0, none⟩)] w fun e w' => e = Ending.panicked [{ v := Value.iface 29 (Value.int IntKind.i64 70), recovered := false }] ∧ w' = w := by
  go_enter Tryd.func79, Tryd.ntmps79
  go_wp2_with (go_at_call 78; refine (next_none g _ hc).mono ?_; rintro e w2 ⟨rfl, rfl⟩)
  exact ⟨rfl, rfl, rfl⟩
/-- What an escape stands for. -/
def escB (d : UInt8) : Option UInt8 := if d = 110 then some 10 else if d = 116 then some 9 else if d = 34 ∨ d = 92 then some d else none
set_option maxRecDepth 100000 in
set_option maxHeartbeats 1000000 in
theorem escaped_some (g : Nat) (d : UInt8) (r : List UInt8) (w : World) (hl : r.length < 4398046511104) (hc : w.cell? ⟨g, 0, none⟩ = some (.string ⟨(d :: r).toArray⟩)) (hf : w.frozen? ⟨g, 0, none⟩ = false) : Calls Tryd.prog 79 #[.pointer (some ⟨g, 0, none⟩)] w fun e w' => ((∃ x, escB d = some x ∧ e = .returned (.int .u8 x.toNat)) ∨ (escB d = none ∧ e = Ending.panicked [{ v := Value.iface 29 (Value.int IntKind.i64 70), recovered := false }])) ∧ w' = w.setCell ⟨g, 0, none⟩ (.string ⟨r.toArray⟩) := by
  have NC : Hid (Calls Tryd.prog 78 #[.pointer (some ⟨g, 0, none⟩)] w fun e w' => e = .returned (.int .u8 d.toNat) ∧ w' = w.setCell ⟨g, 0, none⟩ (.string ⟨r.toArray⟩)) := next_some g d r w hl hc hf
  have e110 := u8_beq d 110 (by omega)
  have e116 := u8_beq d 116 (by omega)
  have e34 := u8_beq d 34 (by omega)
  have e92 := u8_beq d 92 (by omega)
  have HE : Hid (escB d = if d = 110 then some 10 else if d = 116 then some 9 else if d = 34 ∨ d = 92 then some d else none) := rfl
  obtain ⟨W, hW⟩ : ∃ W, w.setCell ⟨g, 0, none⟩ (.string ⟨r.toArray⟩) = W := ⟨_, rfl⟩
  rw [hW] at NC ⊢
  clear hW
  go_enter Tryd.func79, Tryd.ntmps79
  by_cases c1 : d = 110
  · have HF : Hid (escB d = some 10) := by show _ = _; rw [HE.out, if_pos c1]
    have q1 : ((d.toNat : Int) == 110) = true := by rw [show (110 : Int) = ((110 : Nat) : Int) from rfl, e110]; simpa using c1
    clear e110 e116 e34 e92 c1
    go_wp2_with (go_at_call 78; refine NC.out.mono ?_; rintro e w2 ⟨rfl, rfl⟩)
    all_goals go_ret
    all_goals exact ⟨.inl ⟨_, HF.out, rfl⟩, rfl⟩
  have q1 : ((d.toNat : Int) == 110) = false := by rw [show (110 : Int) = ((110 : Nat) : Int) from rfl, e110]; simpa using c1
  by_cases c2 : d = 116
  · have HF : Hid (escB d = some 9) := by show _ = _; rw [HE.out, if_neg c1, if_pos c2]
    have q2 : ((d.toNat : Int) == 116) = true := by rw [show (116 : Int) = ((116 : Nat) : Int) from rfl, e116]; simpa using c2
    clear e110 e116 e34 e92 c1 c2
    go_wp2_with (go_at_call 78; refine NC.out.mono ?_; rintro e w2 ⟨rfl, rfl⟩)
    all_goals go_ret
    all_goals exact ⟨.inl ⟨_, HF.out, rfl⟩, rfl⟩
  have q2 : ((d.toNat : Int) == 116) = false := by rw [show (116 : Int) = ((116 : Nat) : Int) from rfl, e116]; simpa using c2
  by_cases c3 : d = 34
  · have HF : Hid (escB d = some d) := by show _ = _; rw [HE.out, if_neg c1, if_neg c2, if_pos (.inl c3)]
    have q3 : ((d.toNat : Int) == 34) = true := by rw [show (34 : Int) = ((34 : Nat) : Int) from rfl, e34]; simpa using c3
    clear e110 e116 e34 e92 c1 c2 c3
    go_wp2_with (go_at_call 78; refine NC.out.mono ?_; rintro e w2 ⟨rfl, rfl⟩)
    all_goals go_ret
    all_goals exact ⟨.inl ⟨_, HF.out, rfl⟩, rfl⟩
  have q3 : ((d.toNat : Int) == 34) = false := by rw [show (34 : Int) = ((34 : Nat) : Int) from rfl, e34]; simpa using c3
  by_cases c4 : d = 92
  · have HF : Hid (escB d = some d) := by show _ = _; rw [HE.out, if_neg c1, if_neg c2, if_pos (.inr c4)]
    have q4 : ((d.toNat : Int) == 92) = true := by rw [show (92 : Int) = ((92 : Nat) : Int) from rfl, e92]; simpa using c4
    clear e110 e116 e34 e92 c1 c2 c3 c4
    go_wp2_with (go_at_call 78; refine NC.out.mono ?_; rintro e w2 ⟨rfl, rfl⟩)
    all_goals go_ret
    all_goals exact ⟨.inl ⟨_, HF.out, rfl⟩, rfl⟩
  have q4 : ((d.toNat : Int) == 92) = false := by rw [show (92 : Int) = ((92 : Nat) : Int) from rfl, e92]; simpa using c4
  have HF : Hid (escB d = none) := by show _ = _; rw [HE.out, if_neg c1, if_neg c2, if_neg (by intro h; rcases h with h | h; exact c3 h; exact c4 h)]
  clear e110 e116 e34 e92 c1 c2 c3 c4
  go_wp2_with (first | (go_at_call 78; refine NC.out.mono ?_; rintro e w2 ⟨rfl, rfl⟩) | (go_at_call 68; refine (giveUp_calls _).mono ?_; rintro e w2 ⟨rfl, rfl⟩))
  all_goals exact ⟨rfl, .inr ⟨HF.out, rfl⟩, rfl⟩

set_option maxRecDepth 100000 in
set_option maxHeartbeats 1000000 in
theorem take_yes (g : Nat) (p : UInt8) (r : List UInt8) (w : World) (hl : r.length < 4398046511104) (hc : w.cell? ⟨g, 0, none⟩ = some (.string ⟨(p :: r).toArray⟩)) (hf : w.frozen? ⟨g, 0, none⟩ = false) : Calls Tryd.prog 77 #[.pointer (some ⟨g, 0, none⟩), .string ⟨#[p]⟩] w fun e w' => e = .returned (.bool true) ∧ w' = w.setCell ⟨g, 0, none⟩ (.string ⟨r.toArray⟩) := by
  obtain ⟨S, hS⟩ : ∃ S : ByteArray, (⟨(p :: r).toArray⟩ : ByteArray) = S := ⟨_, rfl⟩
  have hd : S.data.toList = p :: r := by rw [← hS]
  have hsz : S.size = r.length + 1 := by rw [← size_data, hd]; rfl
  rw [hS] at hc
  obtain ⟨X, hX⟩ : ∃ X : ByteArray, (⟨#[p]⟩ : ByteArray) = X := ⟨_, rfl⟩
  have hxd : X.data.toList = [p] := by rw [← hX]
  have hxz : X.size = 1 := by rw [← size_data, hxd]; rfl
  rw [hX]
  obtain ⟨Y, hY⟩ : ∃ Y : ByteArray, S.extract 0 1 = Y := ⟨_, rfl⟩
  have hyx : (Y.toList == X.toList) = true := by
    rw [Lib.toList_data, Lib.toList_data, hxd, ← hY, ByteArray.data_extract, Array.toList_extract, hd]; simp
  have hsl0 : ∀ w, (Instr.slice 9 (.string S) none (some (.int .i64 1)) none).run Tryd.prog w = .ok (.string Y) w := fun w => by
    rw [run_slice_string_h w 9 S Tryd.underlying9 .i64 1 (by omega) (by omega), ← hY]; rfl
  have hsl : ∀ w, (Instr.slice 9 (.string S) (some (.int .i64 1)) none none).run Tryd.prog w = .ok (.string ⟨r.toArray⟩) w := fun w => by
    rw [run_slice_string_l w 9 S Tryd.underlying9 .i64 1 (by omega) (by omega), ← tail_data S p r hd]; rfl
  have hge : decide ((1 : Int) ≤ (S.size : Int)) = true := by rw [decide_eq_true_eq]; omega
  have hge2 : decide ((S.size : Int) ≥ 1) = true := by rw [decide_eq_true_eq]; omega
  clear hS hd hY hX hxd
  go_enter Tryd.func77, Tryd.ntmps77
  go_wp2
  all_goals go_ret
  all_goals exact ⟨rfl, rfl⟩
set_option maxRecDepth 100000 in
set_option maxHeartbeats 1000000 in
theorem take_no (g : Nat) (p : UInt8) (s : List UInt8) (w : World) (hl : s.length < 4398046511104) (hn : s.head? ≠ some p) (hc : w.cell? ⟨g, 0, none⟩ = some (.string ⟨s.toArray⟩)) (hf : w.frozen? ⟨g, 0, none⟩ = false) : Calls Tryd.prog 77 #[.pointer (some ⟨g, 0, none⟩), .string ⟨#[p]⟩] w fun e w' => e = .returned (.bool false) ∧ w' = w.setCell ⟨g, 0, none⟩ (.string ⟨s.toArray⟩) := by
  obtain ⟨S, hS⟩ : ∃ S : ByteArray, (⟨s.toArray⟩ : ByteArray) = S := ⟨_, rfl⟩
  have hd : S.data.toList = s := by rw [← hS]
  have hsz : S.size = s.length := by rw [← size_data, hd]
  rw [hS] at hc ⊢
  obtain ⟨X, hX⟩ : ∃ X : ByteArray, (⟨#[p]⟩ : ByteArray) = X := ⟨_, rfl⟩
  have hxd : X.data.toList = [p] := by rw [← hX]
  have hxz : X.size = 1 := by rw [← size_data, hxd]; rfl
  rw [hX]
  obtain ⟨Y, hY⟩ : ∃ Y : ByteArray, S.extract 0 1 = Y := ⟨_, rfl⟩
  have hyx : (Y.toList == X.toList) = false := by
    rw [Lib.toList_data, Lib.toList_data, hxd, ← hY, ByteArray.data_extract, Array.toList_extract, hd]
    cases s with
    | nil => rfl
    | cons c s => simp at hn; simp [hn]
  by_cases h0 : s.length = 0
  · have hge : decide ((1 : Int) ≤ (S.size : Int)) = false := by rw [decide_eq_false_iff_not]; omega
    have hge2 : decide ((S.size : Int) ≥ 1) = false := by rw [decide_eq_false_iff_not]; omega
    clear hS hd hY hX hxd hn
    go_enter Tryd.func77, Tryd.ntmps77
    go_wp2
    all_goals go_ret
    all_goals exact ⟨rfl, rfl⟩
  · have hsl0 : ∀ w, (Instr.slice 9 (.string S) none (some (.int .i64 1)) none).run Tryd.prog w = .ok (.string Y) w := fun w => by
      rw [run_slice_string_h w 9 S Tryd.underlying9 .i64 1 (by omega) (by omega), ← hY]; rfl
    have hge : decide ((1 : Int) ≤ (S.size : Int)) = true := by rw [decide_eq_true_eq]; omega
    have hge2 : decide ((S.size : Int) ≥ 1) = true := by rw [decide_eq_true_eq]; omega
    clear hS hd hY hX hxd hn
    go_enter Tryd.func77, Tryd.ntmps77
    go_wp2
    all_goals go_ret
    all_goals exact ⟨rfl, rfl⟩
set_option maxRecDepth 100000 in
set_option maxHeartbeats 1000000 in
theorem want_yes (g : Nat) (p : UInt8) (r : List UInt8) (w : World) (hl : r.length < 4398046511104) (hc : w.cell? ⟨g, 0, none⟩ = some (.string ⟨(p :: r).toArray⟩)) (hf : w.frozen? ⟨g, 0, none⟩ = false) : Calls Tryd.prog 65 #[.pointer (some ⟨g, 0, none⟩), .string ⟨#[p]⟩] w fun e w' => e = .returned (.tuple #[]) ∧ w' = w.setCell ⟨g, 0, none⟩ (.string ⟨r.toArray⟩) := by
  have TC : Hid (Calls Tryd.prog 77 #[.pointer (some ⟨g, 0, none⟩), .string ⟨#[p]⟩] w fun e w' => e = .returned (.bool true) ∧ w' = w.setCell ⟨g, 0, none⟩ (.string ⟨r.toArray⟩)) := take_yes g p r w hl hc hf
  go_enter Tryd.func65, Tryd.ntmps65
  go_wp2_with (go_at_call 77; refine TC.out.mono ?_; rintro e w2 ⟨rfl, rfl⟩)
  all_goals go_end0
  all_goals exact ⟨rfl, rfl⟩
set_option maxRecDepth 100000 in
set_option maxHeartbeats 1000000 in
theorem want_no (g : Nat) (p : UInt8) (s : List UInt8) (w : World) (hl : s.length < 4398046511104) (hn : s.head? ≠ some p) (hc : w.cell? ⟨g, 0, none⟩ = some (.string ⟨s.toArray⟩)) (hf : w.frozen? ⟨g, 0, none⟩ = false) : Calls Tryd.prog 65 #[.pointer (some ⟨g, 0, none⟩), .string ⟨#[p]⟩] w fun e w' => e = Ending.panicked [{ v := Value.iface 29 (Value.int IntKind.i64 70), recovered := false }] ∧ w' = w.setCell ⟨g, 0, none⟩ (.string ⟨s.toArray⟩) := by
  have TC : Hid (Calls Tryd.prog 77 #[.pointer (some ⟨g, 0, none⟩), .string ⟨#[p]⟩] w fun e w' => e = .returned (.bool false) ∧ w' = w.setCell ⟨g, 0, none⟩ (.string ⟨s.toArray⟩)) := take_no g p s w hl hn hc hf
  go_enter Tryd.func65, Tryd.ntmps65
  go_wp2_with (first | (go_at_call 77; refine TC.out.mono ?_; rintro e w2 ⟨rfl, rfl⟩) | (go_at_call 68; refine (giveUp_calls _).mono ?_; rintro e w2 ⟨rfl, rfl⟩))
  all_goals exact ⟨rfl, rfl, rfl⟩
end Go.Proofs.YtelfejbhlolppaaDoor.T
