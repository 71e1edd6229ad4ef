/- What is proved here: the contracts of bytes.IndexByte, and of the closures that Until and Rest of a buffer hand to fill. -/
import Derived.Lib.IndexLaws
import Derived.Test.YtkpjmcoihbebkaaCBuf
import Derived.Test.YtkpjmcoihbebkaaCShelfI
namespace Go.Proofs.Ytkpjmcoihbebkaa.CInv
open Go.RowKit C

theorem bytes_back (P : List UInt8) : Lib.bytesOf (P.map fun c => (c.toNat : Int)) = P := by
  unfold Lib.bytesOf
  rw [List.map_map]
  conv => rhs; rw [← List.map_id P]
  apply List.map_congr_left
  intro c _
  simp
theorem index_calls (v : Value) (P : List UInt8) (c : UInt8) (n₀ : Nat) (w : World) (h : HasB n₀ w v P) :
    Calls Try.prog 36 #[v, .int .u8 c.toNat] w fun e w' => e = .returned (.int .i64 (Lib.indexByte P c)) ∧ w = w' := by
  have hcc : ((c.toNat : Int)).toNat.toUInt8 = c := by simp
  rcases h with ⟨rfl, a, cap, rfl⟩ | ⟨hp, b, off, cap, rfl, hcap, _, hx⟩
  · cases a with
    | none =>
      have mixed := Try.lays187.mixed
      go_enter Try.func36, Try.ntmps36
      go_wp2
      rw [run_callFunc_extern Try.func40 (by kernel_rfl) (by kernel_rfl) (by kernel_rfl) (e := Extern.BytealgIndexByte.indexByte) (by kernel_rfl), Lib.run_indexByteNil w 0 cap]
      simp only [Result.andThen]
      rw [Oper.upon_value]
      go_wp2
      go_ret
      exact ⟨rfl, rfl⟩
    | some a =>
      refine (Any.bytes_IndexByte_at Try.lays187 a 0 cap [] c.toNat w rfl (fun i hi => by omega)).mono ?_
      rintro e w' ⟨rfl, rfl⟩
      exact ⟨rfl, rfl⟩
  · refine (Any.bytes_IndexByte_at Try.lays187 ⟨b, off, none⟩ P.length cap (P.map fun c => (c.toNat : Int)) c.toNat w (by simp) (fun i hi => ?_)).mono ?_
    · rw [add_none, hx i hi]
      simp [byteAt, hi]
    · rintro e w' ⟨rfl, rfl⟩
      rw [bytes_back, hcc]
      exact ⟨rfl, rfl⟩
set_option maxRecDepth 100000 in
set_option maxHeartbeats 2000000 in
/-- The question that Until asks. -/
theorem until1_calls (w : World) (Cc B : Nat) (c : UInt8) (m : Nat) (pv : Value) (P : List UInt8) (n₀ : Nat) (hC : Boxed w Cc 5 (.int .u8 c.toNat)) (hB : Boxed w B 3 (.int .i64 m)) (hP : HasB n₀ w pv P) (hm : m ≤ 1000000000) (hl : P.length ≤ 1000000000) :
    Calls Try.prog 35 #[pv, .pointer (some ⟨Cc, 0, none⟩), .pointer (some ⟨B, 0, none⟩)] w fun e W' => (Lib.indexByte P c = -1 ∧ e = .returned (.bool false) ∧ w.setCell ⟨B, 0, none⟩ (.int .i64 ((m : Int) + P.length)) = W') ∨ (∃ o : Nat, Lib.indexByte P c = o ∧ e = .returned (.bool true) ∧ w.setCell ⟨B, 0, none⟩ (.int .i64 ((m : Int) + (o + 1))) = W') := by
  have cC := hC.cell
  have cB := hB.cell
  have fB := hB.frozen
  have IC : Hid (Calls Try.prog 36 #[pv, .int .u8 c.toNat] w fun e w' => e = .returned (.int .i64 (Lib.indexByte P c)) ∧ w = w') := index_calls pv P c n₀ w hP
  have hge := Lib.indexByte_ge P c
  obtain ⟨pa, pc, rfl⟩ := hP.slice
  by_cases hx : Lib.indexByte P c = -1
  · rw [hx] at IC
    have w1 : IntKind.i64.wrap ((m : Int) + (P.length : Int)) = (m : Int) + P.length := by rw [IntKind.wrap_i64]; omega
    have HX : Hid (Lib.indexByte P c = -1) := hx
    clear hx hge
    go_enter Try.func35, Try.ntmps35
    go_wp2_with (go_at_call 36; refine IC.out.mono ?_; rintro e w' ⟨rfl, rfl⟩)
    go_ret
    exact .inl ⟨HX.out, rfl, rfl⟩
  · obtain ⟨o, ho⟩ : ∃ o : Nat, Lib.indexByte P c = o := ⟨(Lib.indexByte P c).toNat, by omega⟩
    have hol : o < P.length := (List.getElem?_eq_some_iff.1 (Lib.indexByte_some ho).1).1
    rw [ho] at IC
    have w1 : IntKind.i64.wrap ((o : Int) + 1) = (o : Int) + 1 := by rw [IntKind.wrap_i64]; omega
    have w2 : IntKind.i64.wrap ((m : Int) + ((o : Int) + 1)) = (m : Int) + (o + 1) := by rw [IntKind.wrap_i64]; omega
    have d1 : decide ((o : Int) < 0) = false := by simp
    have HX : Hid (Lib.indexByte P c = o) := ho
    clear hx hge ho
    go_enter Try.func35, Try.ntmps35
    go_wp2_with (go_at_call 36; refine IC.out.mono ?_; rintro e w' ⟨rfl, rfl⟩)
    go_ret
    exact .inr ⟨o, HX.out, rfl, rfl⟩
/-- The question that Rest asks. -/
theorem rest1_calls (w : World) (pv : Value) : Calls Try.prog 37 #[pv] w fun e W' => e = .returned (.bool false) ∧ w = W' := by
  go_enter Try.func37, Try.ntmps37
  go_wp2
  go_ret
  exact ⟨rfl, rfl⟩
end Go.Proofs.Ytkpjmcoihbebkaa.CInv
