/- What is proved here: the contract of cut of sieveref07. -/
import Derived.Test.YtelfejbhlolppaaDoorTUnq
namespace Go.Proofs.YtelfejbhlolppaaDoor.T
open Go.RowKit N

/-- A text without what it begins with. -/
def cutV (s p : ByteArray) : Value := match p.data.toList.isPrefixOf s.data.toList with
  | true => .tuple #[.string ⟨(s.data.toList.drop p.size).toArray⟩, .bool true]
  | false => .tuple #[.string s, .bool false]
theorem pre_take (a b : List UInt8) : a.isPrefixOf b = (b.take a.length == a) := by
  rw [Bool.eq_iff_iff]
  simp only [List.isPrefixOf_iff_prefix, beq_iff_eq]
  constructor
  · rintro ⟨t, rfl⟩; simp
  · intro h
    refine ⟨b.drop a.length, ?_⟩
    conv => lhs; lhs; rw [← h]
    exact List.take_append_drop _ _

set_option maxRecDepth 100000 in
set_option maxHeartbeats 2000000 in
theorem rcut_calls (s p : ByteArray) (w : World) (_hs : s.size ≤ 1048576) (_hp : p.size ≤ 1048576) :
    Calls Tryd.prog 56 #[.string s, .string p] w fun e w' => e = .returned (cutV s p) ∧ Below w.heap.size w w' := by
  have HZ : Hid (s.data.toList.length = s.size ∧ p.data.toList.length = p.size) := ⟨size_data s, size_data p⟩
  by_cases hle : p.size ≤ s.size
  · have hge : decide ((s.size : Int) ≥ (p.size : Int)) = true := by rw [decide_eq_true_eq]; omega
    have hge2 : decide ((p.size : Int) ≤ (s.size : Int)) = true := by rw [decide_eq_true_eq]; omega
    obtain ⟨Y, hY⟩ : ∃ Y : ByteArray, s.extract 0 p.size = Y := ⟨_, rfl⟩
    have hYd : Y.data.toList = s.data.toList.take p.size := by rw [← hY, ByteArray.data_extract, Array.toList_extract, List.extract_eq_take_drop]; simp
    have hsl0 : ∀ w, (Instr.slice 9 (.string s) none (some (.int .i64 p.size)) none).run Tryd.prog w = .ok (.string Y) w := fun w => by
      rw [run_slice_string_h w 9 s Tryd.underlying9 .i64 p.size (by omega) (by omega), ← hY]; rfl
    have hdx : s.extract p.size s.size = ⟨(s.data.toList.drop p.size).toArray⟩ := by
      apply data_inj
      rw [ByteArray.data_extract, Array.toList_extract, List.extract_eq_take_drop, List.take_of_length_le (by rw [List.length_drop]; have := HZ.out.1; omega)]
    have hsl : ∀ w, (Instr.slice 9 (.string s) (some (.int .i64 p.size)) none none).run Tryd.prog w = .ok (.string ⟨(s.data.toList.drop p.size).toArray⟩) w := fun w => by
      rw [run_slice_string_l w 9 s Tryd.underlying9 .i64 p.size (by omega) (by omega), ← hdx]; rfl
    obtain ⟨b, hb⟩ : ∃ b, (Y.toList == p.toList) = b := ⟨_, rfl⟩
    have hbv : p.data.toList.isPrefixOf s.data.toList = b := by rw [pre_take, HZ.out.2, ← hYd, ← hb, Lib.toList_data, Lib.toList_data]
    clear hY hYd hdx
    go_enter Tryd.func56, Tryd.ntmps56
    cases b with
    | true =>
      have HV : Hid (cutV s p = .tuple #[.string ⟨(s.data.toList.drop p.size).toArray⟩, .bool true]) := by show _ = _; unfold cutV; rw [hbv]
      clear hbv
      go_wp2
      all_goals go_ret2
      all_goals exact ⟨ret_val HV.out, by first | exact Below.refl _ _ | exact (Below.refl _ _).drew⟩
    | false =>
      have HV : Hid (cutV s p = .tuple #[.string s, .bool false]) := by show _ = _; unfold cutV; rw [hbv]
      clear hbv
      go_wp2
      all_goals go_ret2
      all_goals exact ⟨ret_val HV.out, by first | exact Below.refl _ _ | exact (Below.refl _ _).drew⟩
  · have hge : decide ((s.size : Int) ≥ (p.size : Int)) = false := by rw [decide_eq_false_iff_not]; omega
    have hge2 : decide ((p.size : Int) ≤ (s.size : Int)) = false := by rw [decide_eq_false_iff_not]; omega
    have hbv : p.data.toList.isPrefixOf s.data.toList = false := by
      rw [Bool.eq_false_iff]
      intro h
      rw [List.isPrefixOf_iff_prefix] at h
      have := h.length_le
      have := HZ.out
      omega
    have HV : Hid (cutV s p = .tuple #[.string s, .bool false]) := by show _ = _; unfold cutV; rw [hbv]
    clear hbv
    go_enter Tryd.func56, Tryd.ntmps56
    go_wp2
    all_goals go_ret2
    all_goals exact ⟨ret_val HV.out, by first | exact Below.refl _ _ | exact (Below.refl _ _).drew⟩
end Go.Proofs.YtelfejbhlolppaaDoor.T
