/- What is proved here: the contracts of names.Sets and sieveref04.SetsOf: the numbers of the sets that have a name. -/
import Derived.Test.YtihehkgmlijfgaaNMembers
namespace Go.Proofs.Ytihehkgmlijfgaa.N
open Go.RowKit C

/-- The sets that have a name, those below k. -/
def setsTo (l : List UInt8) (k : Nat) : List Nat := (List.range k).filter fun j => decide (l ∈ SW j)
def setsOf (l : List UInt8) : List Nat := setsTo l 16
theorem setsTo_succ (l : List UInt8) (k : Nat) : setsTo l (k + 1) = setsTo l k ++ (if l ∈ SW k then [k] else []) := by
  unfold setsTo
  rw [List.range_succ, List.filter_append]
  congr 1
  by_cases h : l ∈ SW k <;> simp [h]
theorem setsTo_length (l : List UInt8) (k : Nat) : (setsTo l k).length ≤ k := by
  have := List.length_filter_le (fun j => decide (l ∈ SW j)) (List.range k)
  simpa [setsTo] using this
theorem mem_setsOf (l : List UInt8) (k : Nat) : k ∈ setsOf l ↔ k < 16 ∧ l ∈ SW k := by
  simp [setsOf, setsTo]
def nvs (l : List Nat) : List Value := l.map fun (k : Nat) => Value.int .i64 (k : Int)
theorem nvs_append (a b : List Nat) : nvs (a ++ b) = nvs a ++ nvs b := by simp [nvs]
theorem infoSet : (Try.prog.info? 22).map (fun i => (i.zero, i.size, i.bytes)) = some (some (.int .i64 0), 1, 8) := by kernel_rfl
theorem infoInt : (Try.prog.info? 3).map (fun i => (i.zero, i.size, i.bytes)) = some (some (.int .i64 0), 1, 8) := by kernel_rfl
theorem inZ_nat (k : Nat) (hk : k < 16) (l : List UInt8) : inZ (k : Int) l = decide (l ∈ SW k) := by
  unfold inZ
  rw [if_pos (by omega)]
  simp

set_option maxRecDepth 100000 in
set_option maxHeartbeats 2000000 in
theorem sets_calls (s : ByteArray) (w : World) (hs : s.size ≤ 9223372036854775807) (hm : MaxOk w) :
    Calls Try.prog 15 #[.string s] w fun e w' => ∃ v, e = .returned v ∧ w'.ownsRow w.heap.size 22 1 v (setsOf s.data.toList).length (nvs (setsOf s.data.toList)) ∧ Below w.heap.size w w' := by
  obtain ⟨i0, hi, hz0, hz1, hz2⟩ := info_parts infoSet
  have HM : Hid (MaxOk w) := hm
  clear hm
  obtain ⟨l, hl⟩ : ∃ l, s.data.toList = l := ⟨_, rfl⟩
  have HL : Hid (s.data.toList = l) := hl
  rw [hl]
  clear hl
  go_enter Try.func15, Try.ntmps15
  go_wp2
  go_loopw [3, 4] (fun v i wr => ∃ k : Nat, k ≤ 16 ∧ i = .int .i64 k ∧ Hid (wr.ownsRow w.heap.size 22 1 v (setsTo l k).length (nvs (setsTo l k))) ∧ Below w.heap.size w wr) (fun _ i _ => 16 - (intOf i).toNat)
  case atStart => exact ⟨0, by omega, rfl, World.ownsRow_nil _ _ _ _, Below.refl _ _⟩
  case round =>
    obtain ⟨k, hk, rfl, hO, hB⟩ := hrel
    have s1 := hB.size
    by_cases hlt : k < 16
    · have hin : inZ (k : Int) s.data.toList = decide (l ∈ SW k) := by rw [HL.out]; exact inZ_nat k hlt l
      have hlen := setsTo_length l k
      have HSC : Hid (setsTo l (k + 1) = setsTo l k ++ (if l ∈ SW k then [k] else [])) := setsTo_succ l k
      by_cases hmem : l ∈ SW k
      · rw [decide_eq_true hmem] at hin
        have HSC2 : Hid (setsTo l (k + 1) = setsTo l k ++ [k]) := by have h := HSC.out; rw [if_pos hmem] at h; exact h
        clear HSC hmem
        have hT : Hid (wr.ownsRow w.heap.size 22 1 u3 (setsTo l k).length (nvs (setsTo l k))) := hO
        go_wp2_with (first
          | (go_at_call 9; refine (in_calls _ _ _ hs (HM.out.below hB)).mono ?_; rintro e w' ⟨rfl, hw'⟩; have hx' := hw'.symm; subst hx'; rw [hin])
          | (at_builtin; refine wpList_append_own _ rfl _ _ 35 rfl w.heap.size 22 i0 (.int .i64 0) 1 8 Try.underlying35 hi hz0 hz1 hz2 rfl (by decide) _ _ _ rfl (World.ownsRow.alloc hT.out _) ⟨wr.heap.size, 0, none⟩ 1 1 [_] rfl rfl (cell_one _ _ _ _ rfl) (by simp [Value.oneCell']) (by unfold maxLen; omega) (by omega) (by simp; omega) ?_; intro v' w4 hown' hgrow _))
        go_roundw
        case rel => exact ⟨k + 1, by omega, by go_num, by rw [HSC2.out, nvs_append, List.length_append]; exact hown', (hB.alloc (by omega) _).grown hgrow (by simp; omega) (fun j hj => (hT.out.lt j hj).1)⟩
        case measure => simp [intOf]; omega
      · rw [decide_eq_false hmem] at hin
        have HSC2 : Hid (setsTo l (k + 1) = setsTo l k) := by have h := HSC.out; rw [if_neg hmem, List.append_nil] at h; exact h
        clear HSC hmem
        go_wp2_with (go_at_call 9; refine (in_calls _ _ _ hs (HM.out.below hB)).mono ?_; rintro e w' ⟨rfl, hw'⟩; have hx' := hw'.symm; subst hx'; rw [hin])
        go_roundw
        case rel => exact ⟨k + 1, by omega, by go_num, by rw [HSC2.out]; exact hO, hB⟩
        case measure => simp [intOf]; omega
    · obtain rfl : k = 16 := by omega
      go_wp2
      go_ret
      exact ⟨_, rfl, hO, hB⟩

set_option maxRecDepth 100000 in
set_option maxHeartbeats 2000000 in
theorem rsets_calls (s : ByteArray) (w : World) :
    Calls Try.prog 16 #[.string s] w fun e w' => ∃ v, e = .returned v ∧ w'.ownsRow w.heap.size 3 1 v (setsOf s.data.toList).length (nvs (setsOf s.data.toList)) ∧ Below w.heap.size w w' := by
  obtain ⟨i0, hi, hz0, hz1, hz2⟩ := info_parts infoInt
  obtain ⟨l, hl⟩ : ∃ l, s.data.toList = l := ⟨_, rfl⟩
  have HL : Hid (s.data.toList = l) := hl
  rw [hl]
  clear hl
  go_enter Try.func16, Try.ntmps16
  go_wp2
  go_loopw [3, 4, 5] (fun v _ i wr => ∃ k : Nat, k ≤ 16 ∧ i = .int .i64 k ∧ Hid (wr.ownsRow w.heap.size 3 1 v (setsTo l k).length (nvs (setsTo l k))) ∧ Below w.heap.size w wr) (fun _ _ i _ => 16 - (intOf i).toNat)
  case atStart => exact ⟨0, by omega, rfl, World.ownsRow_nil _ _ _ _, Below.refl _ _⟩
  case round =>
    obtain ⟨k, hk, rfl, hO, hB⟩ := hrel
    have s1 := hB.size
    by_cases hlt : k < 16
    · have hin : inZ (k : Int) s.data.toList = decide (l ∈ SW k) := by rw [HL.out]; exact inZ_nat k hlt l
      have hlen := setsTo_length l k
      have HSC : Hid (setsTo l (k + 1) = setsTo l k ++ (if l ∈ SW k then [k] else [])) := setsTo_succ l k
      by_cases hmem : l ∈ SW k
      · rw [decide_eq_true hmem] at hin
        have HSC2 : Hid (setsTo l (k + 1) = setsTo l k ++ [k]) := by have h := HSC.out; rw [if_pos hmem] at h; exact h
        clear HSC hmem
        have hT : Hid (wr.ownsRow w.heap.size 3 1 u3 (setsTo l k).length (nvs (setsTo l k))) := hO
        go_wp2_with (first
          | (go_at_call 10; refine (rin_calls _ _ _).mono ?_; rintro e w1 ⟨rfl, hB1⟩; rw [hin]; have s2 := hB1.size)
          | (at_builtin; refine wpList_append_own _ rfl _ _ 37 rfl w.heap.size 3 i0 (.int .i64 0) 1 8 Try.underlying37 hi hz0 hz1 hz2 rfl (by decide) _ _ _ rfl (World.ownsRow.alloc (owns_below hT.out hB1) _) ⟨w1.heap.size, 0, none⟩ 1 1 [_] rfl rfl (cell_one _ _ _ _ rfl) (by simp [Value.oneCell']) (by unfold maxLen; omega) (by omega) (by simp; omega) ?_; intro v' w4 hown' hgrow _))
        go_roundw
        case rel => exact ⟨k + 1, by omega, by go_num, by rw [HSC2.out, nvs_append, List.length_append]; exact hown', ((hB.trans (hB1.mono s1)).alloc (by omega) _).grown hgrow (by simp; omega) (fun j hj => (hT.out.lt j hj).1)⟩
        case measure => simp [intOf]; omega
      · rw [decide_eq_false hmem] at hin
        have HSC2 : Hid (setsTo l (k + 1) = setsTo l k) := by have h := HSC.out; rw [if_neg hmem, List.append_nil] at h; exact h
        clear HSC hmem
        go_wp2_with (go_at_call 10; refine (rin_calls _ _ _).mono ?_; rintro e w1 ⟨rfl, hB1⟩; rw [hin]; have s2 := hB1.size)
        go_roundw
        case rel => exact ⟨k + 1, by omega, by go_num, by rw [HSC2.out]; exact owns_below hO.out hB1, hB.trans (hB1.mono s1)⟩
        case measure => simp [intOf]; omega
    · obtain rfl : k = 16 := by omega
      go_wp2
      go_ret
      exact ⟨_, rfl, hO, hB⟩

end Go.Proofs.Ytihehkgmlijfgaa.N
