/- What is proved here: the contracts of names.Distance and sieveref04.Distance: how far two texts are apart. -/
import Derived.Deep.Cut
import Derived.Deep.CutRange
import Derived.Deep.RegionWith
import Derived.Laws.Cover1
import Derived.Test.YtihehkgmlijfgaaNLevM
namespace Go.Proofs.Ytihehkgmlijfgaa.N
open Go.RowKit C

theorem take_all (s : ByteArray) (h : s.size ≤ 100) : s.data.toList = s.data.toList.take 100 := (List.take_of_length_le (by rw [size_data]; exact h)).symm
theorem take_extract (s : ByteArray) : (s.extract 0 100).data.toList = s.data.toList.take 100 := by rw [Lib.extract_eq]; simp

theorem slice_row (n : Nat) (hn : n ≤ 100) (W : World) (A : Addr) : (Instr.sliceAt 65 (.pointer (some A)) none (some (.int .i64 ((n : Int) + 1))) none).run Try.prog W = .ok (.slice (some A) (n + 1) 101) W := by
  have hal : Try.prog.arrayLen 65 = 101 := by kernel_rfl
  have hel : Try.prog.elem 65 = 3 := by kernel_rfl
  rw [run_sliceAt_array_h W 65 A (by kernel_rfl) .i64 _ (by omega) (by rw [hal]; omega), hal, hel, Try.sizeOf3]
  simp [slicedAt, show ((n : Int) + 1).toNat = n + 1 by omega, Addr.add_zero']
/-- A row of 101 numbers in a block. -/
structure RowAt (W : World) (A : Nat) (c : Nat → Int) : Prop where
  cell : ∀ j, j < 101 → W.cell? ⟨A, j, none⟩ = some (.int .i64 (c j))
  free : ∀ j, W.frozen? ⟨A, j, none⟩ = false
  lt : A < W.heap.size
theorem zeros101 : Try.zeroCells65 = Array.replicate 101 (.int .i64 0) := by kernel_rfl
theorem RowAt.new (W : World) (t : TypeId) (c : Nat → Int) (hc : ∀ j, j < 101 → c j = 0) : RowAt (W.alloc (.cells Try.zeroCells65 t)) W.heap.size c := by
  refine ⟨fun j hj => ?_, fun j => ?_, by simp⟩
  · rw [cell_new, hc j hj, zeros101]; simp [hj]
  · have h1 := World.alloc_heap_new W (.cells Try.zeroCells65 t)
    unfold World.frozen?
    simp only [h1]
    simp
theorem RowAt.set {W : World} {A : Nat} {c c' : Nat → Int} (h : RowAt W A c) (k : Nat) (x : Int) (hx : c' k = x) (ho : ∀ j, j < 101 → j ≠ k → c' j = c j) : RowAt (W.setCell ⟨A, k, none⟩ (.int .i64 x)) A c' := by
  refine ⟨fun j hj => ?_, fun j => by rw [World.frozen?_setCell]; exact h.free j, by rw [World.size_setCell]; exact h.lt⟩
  by_cases e : j = k
  · subst e; rw [hx]; exact cs_same (h.cell j hj)
  · rw [cs_other (fun e' => e (by injection e' with _ e'; exact e'.symm)), ho j hj e]; exact h.cell j hj

theorem RowAt.drew {W : World} {A : Nat} {c : Nat → Int} (h : RowAt W A c) : RowAt W.drew A c := ⟨h.cell, h.free, h.lt⟩
theorem getD_eq (l : List UInt8) (k : Nat) (h : k < l.length) : l.getD k 0 = l[k] := by simp [List.getD, h]
theorem min_three (x y z : Int) (r : Nat) (h : (r : Int) = min (min y z) x) (W : World) : (Builtin.min_ #[3, 3, 3] 3 #[.int .i64 x, .int .i64 y, .int .i64 z]).run Try.prog W = .ok (.int .i64 r) W := by
  rw [run_min_int3]
  congr 2
  split <;> split at * <;> omega
/-- The row behind the first k bytes; and in the course of the next. -/
def rowTo (p q : ByteArray) (k j : Nat) : Int := if j < q.size + 1 then (dp p.data.toList q.data.toList k j : Int) else 0
def rowAt (p q : ByteArray) (k m j : Nat) : Int := if j < q.size + 1 then (if j ≤ m then (dp p.data.toList q.data.toList (k + 1) j : Int) else (dp p.data.toList q.data.toList k j : Int)) else 0

set_option maxRecDepth 100000 in
set_option maxHeartbeats 2000000 in
theorem dist_calls (s t : ByteArray) (w : World) (hs : s.size ≤ 9223372036854775807) (ht : t.size ≤ 9223372036854775807) :
    Calls Try.prog 24 #[.string s, .string t] w fun e w' => e = .returned (.int .i64 (dist s.data.toList t.data.toList)) ∧ Below w.heap.size w w' := by
  go_enter Try.func24, Try.ntmps24
  go_upto_region 1 with fail
  go_cut [0, 1] from 11 (fun a b wx => ∃ p q : ByteArray, a = .string p ∧ b = .string q ∧ p.data.toList = s.data.toList.take 100 ∧ q.data.toList = t.data.toList.take 100 ∧ Below w.heap.size w wx)
  case first =>
    by_cases h1 : s.size ≤ 100
    · by_cases h2 : t.size ≤ 100
      · go_region

        all_goals go_wp2_with fail
        all_goals go_meet
        all_goals exact ⟨_, _, rfl, rfl, take_all s h1, take_all t h2, (Below.refl _ _).drew⟩
      · go_region
        all_goals go_wp2_with fail
        all_goals go_meet
        all_goals exact ⟨_, _, rfl, rfl, take_all s h1, take_extract t, (Below.refl _ _).drew⟩
    · by_cases h2 : t.size ≤ 100
      · go_region
        all_goals go_wp2_with fail
        all_goals go_meet
        all_goals exact ⟨_, _, rfl, rfl, take_extract s, take_all t h2, (Below.refl _ _).drew⟩
      · go_region
        all_goals go_wp2_with fail
        all_goals go_meet
        all_goals exact ⟨_, _, rfl, rfl, take_extract s, take_extract t, (Below.refl _ _).drew⟩
  case rest =>
    obtain ⟨p, q, rfl, rfl, hp, hq, hB⟩ := hcut
    have hpz : p.size ≤ 100 := by rw [← size_data, hp]; simp; omega
    have hqz : q.size ≤ 100 := by rw [← size_data, hq]; simp; omega
    have HD : Hid (dist s.data.toList t.data.toList = dp p.data.toList q.data.toList p.size q.size) := by
      rw [dist_dp, ← hp, ← hq, size_data, size_data]
      exact rfl
    have HB : Hid (Below w.heap.size w wc) := hB
    clear hp hq hB
    have hsl := slice_row q.size hqz
    go_wp2
    clear hsl
    go_loopw [6, 26] (fun _ i wr => ∃ k : Nat, k ≤ q.size + 1 ∧ i = .int .i64 k ∧ Hid (RowAt wr wc.heap.size (fun j => if j < k then j else 0)) ∧ Hid (Below w.heap.size w wr)) (fun _ i _ => q.size + 1 - (intOf i).toNat)
    case atStart => exact ⟨0, by omega, rfl, RowAt.new wc _ _ (fun j _ => by simp), HB.out.alloc HB.out.size _⟩
    case round =>
      obtain ⟨k, hk, rfl, hR, hB⟩ := hrel
      by_cases hlt : k < q.size + 1
      · have hk1 : k < 101 := by omega
        have hc := hR.out.cell k (by omega)
        have hf := hR.out.free k
        have HR2 : Hid (RowAt (wr.setCell ⟨wc.heap.size, k, none⟩ (.int .i64 k)) wc.heap.size (fun j => if j < k + 1 then j else 0)) := hR.out.set k k (by simp) (fun j _ hj => by
          by_cases h : j < k
          · simp [h, show j < k + 1 by omega]
          · simp [h, show ¬ j < k + 1 by omega])
        have HB2 : Hid (Below w.heap.size w (wr.setCell ⟨wc.heap.size, k, none⟩ (.int .i64 k))) := hB.out.setCell HB.out.size _
        go_wp2
        first
          | exact ⟨⟨k + 1, by omega, by go_num, HR2, HB2⟩, by simp [intOf]; omega⟩
          | (go_roundw
             case rel => exact ⟨k + 1, by omega, by go_num, HR2, HB2⟩
             case measure => simp [intOf]; omega)
      · obtain rfl : k = q.size + 1 := by omega
        have HR0 : Hid (RowAt wr wc.heap.size (rowTo p q 0)) := ⟨fun j hj => by
          rw [hR.out.cell j hj]
          unfold rowTo
          by_cases h : j < q.size + 1
          · simp [h, dp_top p.data.toList q.data.toList j (by rw [size_data]; omega)]
          · simp [h], hR.out.free, hR.out.lt⟩
        clear hR
        go_wp2
        go_loopw [7, 8, 9, 10, 35] (fun _ _ _ _ i wr => ∃ k : Nat, k ≤ p.size ∧ i = .int .i64 k ∧ Hid (RowAt wr wc.heap.size (rowTo p q k)) ∧ Hid (Below w.heap.size w wr)) (fun _ _ _ _ i _ => p.size - (intOf i).toNat)
        case atStart => exact ⟨0, by omega, rfl, HR0, hB⟩
        case round =>
          clear HR0 hB
          obtain ⟨k, hk, rfl, hR, hB⟩ := hrel
          by_cases hlt : k < p.size
          · have hc := hR.out.cell 0 (by omega)
            have hf := hR.out.free 0
            have h00 : rowTo p q k 0 = (k : Int) := by unfold rowTo; rw [if_pos (by omega), dp_left _ _ k (by rw [size_data]; omega)]
            rw [h00] at hc
            have HR2 : Hid (RowAt (wr.setCell ⟨wc.heap.size, 0, none⟩ (.int .i64 ((k : Int) + 1))) wc.heap.size (rowAt p q k 0)) := hR.out.set 0 _ (by unfold rowAt; rw [if_pos (by omega), if_pos (by omega), dp_left _ _ (k + 1) (by rw [size_data]; omega)]; omega) (fun j _ hj => by unfold rowAt rowTo; rw [if_neg (show ¬ j ≤ 0 by omega)])
            have HB2 : Hid (Below w.heap.size w (wr.setCell ⟨wc.heap.size, 0, none⟩ (.int .i64 ((k : Int) + 1)))) := hB.out.setCell HB.out.size _
            have HC0 : Hid ((k : Int) = (dp p.data.toList q.data.toList k 0 : Int)) := by rw [dp_left _ _ k (by rw [size_data]; omega)]; exact rfl
            go_wp2
            go_loopw [8, 9, 10, 45] (fun c _ _ i wr => ∃ m : Nat, m ≤ q.size ∧ i = .int .i64 m ∧ c = .int .i64 (dp p.data.toList q.data.toList k m) ∧ Hid (RowAt wr wc.heap.size (rowAt p q k m)) ∧ Hid (Below w.heap.size w wr)) (fun _ _ _ i _ => q.size - (intOf i).toNat)
            case atStart => exact ⟨0, by omega, rfl, by rw [← HC0.out], HR2, HB2⟩
            case round =>
              clear HR2 HB2 hR hB hc hf
              obtain ⟨m, hm, rfl, rfl, hR, hB⟩ := hrel
              by_cases hmlt : m < q.size
              · have hc0 := hR.out.cell m (by omega)
                have hc1 := hR.out.cell (m + 1) (by omega)
                have hf := hR.out.free (m + 1)
                have e0 : rowAt p q k m m = (dp p.data.toList q.data.toList (k + 1) m : Int) := by unfold rowAt; rw [if_pos (by omega), if_pos (by omega)]
                have e1 : rowAt p q k m (m + 1) = (dp p.data.toList q.data.toList k (m + 1) : Int) := by unfold rowAt; rw [if_pos (by omega), if_neg (by omega)]
                rw [e0] at hc0
                rw [e1] at hc1
                have hdp := dp_succ p.data.toList q.data.toList k m (by rw [size_data]; omega) (by rw [size_data]; omega)
                have l1 := dp_le p.data.toList q.data.toList k m
                have l2 := dp_le p.data.toList q.data.toList k (m + 1)
                have l3 := dp_le p.data.toList q.data.toList (k + 1) m
                have HR2 : Hid (∀ x : Int, x = (dp p.data.toList q.data.toList (k + 1) (m + 1) : Int) → RowAt (wr.setCell ⟨wc.heap.size, m + 1, none⟩ (.int .i64 x)) wc.heap.size (rowAt p q k (m + 1))) := fun x hx => hR.out.set (m + 1) x (by unfold rowAt; rw [if_pos (by omega), if_pos (by omega), hx]) (fun j _ hj => by
                  unfold rowAt
                  by_cases h : j ≤ m
                  · rw [if_pos h, if_pos (show j ≤ m + 1 by omega)]
                  · rw [if_neg h, if_neg (show ¬ j ≤ m + 1 by omega)])
                have HB2 : Hid (∀ x : Value, Below w.heap.size w (wr.setCell ⟨wc.heap.size, m + 1, none⟩ x)) := fun x => hB.out.setCell HB.out.size _
                have hgx : p.data.toList.getD k 0 = p.data.toList[k]'(by rw [size_data]; omega) := getD_eq _ _ _
                have hgy : q.data.toList.getD m 0 = q.data.toList[m]'(by rw [size_data]; omega) := getD_eq _ _ _
                have hix : ∀ w, (Instr.index 9 (.string p) (.int .i64 k)).run Try.prog w = .ok (.int .u8 (p.data.toList[k]'(by rw [size_data]; omega)).toNat) w := fun w => run_byte w _ p _ k k _ Try.underlying9 rfl hlt hgx
                have hiy : ∀ w, (Instr.index 9 (.string q) (.int .i64 m)).run Try.prog w = .ok (.int .u8 (q.data.toList[m]'(by rw [size_data]; omega)).toNat) w := fun w => run_byte w _ q _ m m _ Try.underlying9 rfl hmlt hgy
                clear hgx hgy e0 e1
                generalize p.data.toList[k]'(by rw [size_data]; omega) = x at *
                generalize q.data.toList[m]'(by rw [size_data]; omega) = y at *
                by_cases hxy : x = y
                · subst hxy
                  rw [diff_self] at hdp
                  have hmn := min_three (dp p.data.toList q.data.toList k m) ((dp p.data.toList q.data.toList k (m + 1) : Int) + 1) ((dp p.data.toList q.data.toList (k + 1) m : Int) + 1) (dp p.data.toList q.data.toList (k + 1) (m + 1)) (by omega)
                  clear hdp
                  go_wp2
                  go_region
                  all_goals go_wp2
                  all_goals exact ⟨⟨m + 1, by omega, by go_num, rfl, (HR2.out _ rfl).drew, (HB2.out _).drew⟩, by simp [intOf]; omega⟩
                · have hne : ((x.toNat : Int) == (y.toNat : Int)) = false := by rw [beq_eq_false_iff_ne]; intro e; exact hxy (UInt8.toNat_inj.1 (by omega))
                  have hdf : diff x y = 1 := by simp [diff, hxy]
                  rw [hdf] at hdp
                  have hmn := min_three ((dp p.data.toList q.data.toList k m : Int) + 1) ((dp p.data.toList q.data.toList k (m + 1) : Int) + 1) ((dp p.data.toList q.data.toList (k + 1) m : Int) + 1) (dp p.data.toList q.data.toList (k + 1) (m + 1)) (by omega)
                  clear hdp
                  go_wp2
                  go_region
                  all_goals go_wp2
                  all_goals exact ⟨⟨m + 1, by omega, by go_num, rfl, (HR2.out _ rfl).drew, (HB2.out _).drew⟩, by simp [intOf]; omega⟩
              · obtain rfl : m = q.size := by omega
                have HR3 : Hid (RowAt wr wc.heap.size (rowTo p q (k + 1))) := ⟨fun j hj => by
                  rw [hR.out.cell j hj]
                  unfold rowAt rowTo
                  by_cases h : j < q.size + 1
                  · rw [if_pos h, if_pos h, if_pos (by omega)]
                  · rw [if_neg h, if_neg h], hR.out.free, hR.out.lt⟩
                go_wp2
                first
                  | exact ⟨⟨k + 1, by omega, by go_num, HR3, hB⟩, by simp [intOf]; omega⟩
                  | (go_roundw
                     case rel => exact ⟨k + 1, by omega, by go_num, HR3, hB⟩
                     case measure => simp [intOf]; omega)
          · obtain rfl : k = p.size := by omega
            have hc := hR.out.cell q.size (by omega)
            have e0 : rowTo p q p.size q.size = (dp p.data.toList q.data.toList p.size q.size : Int) := by unfold rowTo; rw [if_pos (by omega)]
            rw [e0, ← HD.out] at hc
            go_wp2
            go_ret
            exact ⟨rfl, hB.out⟩
end Go.Proofs.Ytihehkgmlijfgaa.N
