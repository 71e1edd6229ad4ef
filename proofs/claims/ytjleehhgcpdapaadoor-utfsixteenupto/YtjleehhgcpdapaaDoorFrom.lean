/- What is proved here: contracts of FromSixteen of utf and of sieveref01: units as runes. -/
import Derived.Test.YtjleehhgcpdapaaDoorMathS
import Derived.Test.YtjleehhgcpdapaaDoorMend
namespace Go.Proofs.YtjleehhgcpdapaaDoor.U
open Go.RowKit Go.Shelf

set_option maxRecDepth 100000 in
theorem isFirst_calls (z : Int) (w : World) (h0 : 0 ≤ z) (h1 : z ≤ 65535) : Calls Tryd.prog 50 #[.int .u16 z] w fun e w' => e = .returned (.bool (isF z)) ∧ w' = w := by
  by_cases h : 55296 ≤ z
  · by_cases h' : z < 56320
    · have e : isF z = true := by simp [isF]; omega
      rw [e]
      go_enter Tryd.func50, Tryd.ntmps50
      go_wp2
      go_ret
      exact ⟨rfl, rfl⟩
    · have e : isF z = false := by simp [isF]; omega
      have hd : decide (z < 56320) = false := by simp; omega
      rw [e]
      go_enter Tryd.func50, Tryd.ntmps50
      go_wp2
      go_ret
      exact ⟨rfl, rfl⟩
  · have e : isF z = false := by simp [isF]; omega
    have hd : decide (55296 ≤ z) = false := by simp; omega
    rw [e]
    go_enter Tryd.func50, Tryd.ntmps50
    go_wp2
    go_ret
    exact ⟨rfl, rfl⟩
set_option maxRecDepth 100000 in
theorem isSecond_calls (z : Int) (w : World) (h0 : 0 ≤ z) (h1 : z ≤ 65535) : Calls Tryd.prog 51 #[.int .u16 z] w fun e w' => e = .returned (.bool (isS z)) ∧ w' = w := by
  by_cases h : 56320 ≤ z
  · by_cases h' : z < 57344
    · have e : isS z = true := by simp [isS]; omega
      rw [e]
      go_enter Tryd.func51, Tryd.ntmps51
      go_wp2
      go_ret
      exact ⟨rfl, rfl⟩
    · have e : isS z = false := by simp [isS]; omega
      have hd : decide (z < 57344) = false := by simp; omega
      rw [e]
      go_enter Tryd.func51, Tryd.ntmps51
      go_wp2
      go_ret
      exact ⟨rfl, rfl⟩
  · have e : isS z = false := by simp [isS]; omega
    have hd : decide (56320 ≤ z) = false := by simp; omega
    rw [e]
    go_enter Tryd.func51, Tryd.ntmps51
    go_wp2
    go_ret
    exact ⟨rfl, rfl⟩

set_option maxRecDepth 100000 in
set_option maxHeartbeats 1000000 in
theorem from_walk (us : List Int) (a : Option Addr) (b off cap : Nat) (w : World) (ha : 0 < us.length → a = some ⟨b, off, none⟩) (hl : (us.length : Int) ≤ 1099511627776) (hw : ∀ k, k < us.length → 0 ≤ zAt us k ∧ zAt us k ≤ 65535)
    (hc : ∀ j, j < us.length → w.cell? ⟨b, off + j, none⟩ = some (.int .u16 (zAt us j))) :
    Calls Tryd.prog 32 #[.slice a us.length cap] w fun e W' => ∃ v, e = .returned v ∧ W'.ownsRow w.heap.size 21 1 v (fr us).length ((fr us).map (Value.int .i32)) ∧ Below w.heap.size w W' := by
  obtain ⟨i0, hi, hz0, hz1, hz2⟩ := info_parts info21
  have HC : Hid (∀ j, j < us.length → w.cell? ⟨b, off + j, none⟩ = some (.int .u16 (zAt us j))) := hc
  have HA : Hid (0 < us.length → a = some ⟨b, off, none⟩) := ha
  have HW : Hid (∀ k, k < us.length → 0 ≤ zAt us k ∧ zAt us k ≤ 65535) := hw
  clear hc ha hw
  go_enter Tryd.func32, Tryd.ntmps32
  go_wp2
  go_loopw [3, 4, 5] (fun v i _ wr => ∃ (k : Nat) (acc : List Int), k ≤ us.length ∧ i = .int .i64 k ∧ acc.length ≤ k ∧ Hid (fr us = acc ++ frA us k) ∧ wr.ownsRow w.heap.size 21 1 v acc.length (acc.map (Value.int .i32)) ∧ Below w.heap.size w wr) (fun _ i _ _ => us.length - (intOf i).toNat)
  case atStart => exact ⟨0, [], by omega, rfl, by simp, rfl, World.ownsRow_nil _ _ _ _, Below.refl _ _⟩
  case round =>
    obtain ⟨k, acc, hk, rfl, hak, hfr, hrow, hB⟩ := hrel
    by_cases hlt : k < us.length
    · have e' := HA.out (by omega)
      subst e'
      have c0 : wr.cell? ⟨b, off + k, none⟩ = some (.int .u16 (zAt us k)) := (hB.cell (p := ⟨b, off + k, none⟩) (cell_lt (HC.out k hlt))).trans (HC.out k hlt)
      obtain ⟨z0, z1⟩ := HW.out k hlt
      have s1 := hB.size
      by_cases hp : isF (zAt us k) = true ∧ k + 1 < us.length ∧ isS (zAt us (k + 1)) = true
      · have HF : Hid (fr us = (acc ++ [pairV (zAt us k) (zAt us (k + 1))]) ++ frA us (k + 2)) := by show fr us = _; rw [hfr.out, frA_pair us k hlt hp]; simp
        obtain ⟨p1, p2, p3⟩ := hp
        have c1 : wr.cell? ⟨b, off + (k + 1), none⟩ = some (.int .u16 (zAt us (k + 1))) := (hB.cell (p := ⟨b, off + (k + 1), none⟩) (cell_lt (HC.out (k + 1) p2))).trans (HC.out (k + 1) p2)
        obtain ⟨y0, y1⟩ := HW.out (k + 1) p2
        have q1 : 55296 ≤ zAt us k ∧ zAt us k < 56320 := by simpa [isF] using p1
        have q3 : 56320 ≤ zAt us (k + 1) ∧ zAt us (k + 1) < 57344 := by simpa [isS] using p3
        have C1 : Hid (∀ w, Calls Tryd.prog 50 #[.int .u16 (zAt us k)] w fun e w' => e = .returned (.bool true) ∧ w' = w) := fun w => by have := isFirst_calls _ w z0 z1; rw [p1] at this; exact this
        have C2 : Hid (∀ w, Calls Tryd.prog 51 #[.int .u16 (zAt us (k + 1))] w fun e w' => e = .returned (.bool true) ∧ w' = w) := fun w => by have := isSecond_calls _ w y0 y1; rw [p3] at this; exact this
        clear p1 p3 hfr
        go_wp2_with (first
          | (go_at_call 50; refine (C1.out _).mono ?_; rintro e w' ⟨rfl, hw⟩; obtain rfl : wr = w' := hw.symm)
          | (go_at_call 51; refine (C2.out _).mono ?_; rintro e w' ⟨rfl, hw⟩; obtain rfl : wr = w' := hw.symm)
          | (at_builtin; refine wpList_append_own _ rfl _ _ 27 rfl w.heap.size 21 i0 (.int .i32 0) 1 4 Tryd.underlying27 hi hz0 hz1 hz2 rfl (by decide) _ _ _ rfl (hrow.alloc _) ⟨wr.heap.size, 0, none⟩ 1 1 [.int .i32 (65536 + (zAt us k - 55296) * 1024 + zAt us (k + 1) - 56320)] rfl rfl (cell_one_at _ _ _ _ rfl) (by simp [Value.oneCell']) (by unfold maxLen; omega) (by omega) (by simp; omega) ?_; intro v' w4 hown' hgrow _))
        go_roundw
        case rel => exact ⟨k + 2, acc ++ [65536 + (zAt us k - 55296) * 1024 + zAt us (k + 1) - 56320], by omega, by go_num, by simp; omega, HF.out, by simpa using hown', (hB.alloc s1 _).grown hgrow (by simp; omega) (fun j hj => (hrow.lt j hj).1)⟩
        case measure => simp [intOf]; omega
      · rw [frA_lone us k hlt hp] at hfr
        cases pf : isF (zAt us k) with
        | true =>
          have q1 : 55296 ≤ zAt us k ∧ zAt us k < 56320 := by simpa [isF] using pf
          have HF : Hid (fr us = (acc ++ [65533]) ++ frA us (k + 1)) := by show fr us = _; rw [hfr.out]; simp [lone, pf]
          have C1 : Hid (∀ w, Calls Tryd.prog 50 #[.int .u16 (zAt us k)] w fun e w' => e = .returned (.bool true) ∧ w' = w) := fun w => by have := isFirst_calls _ w z0 z1; rw [pf] at this; exact this
          by_cases p2 : k + 1 < us.length
          · have p3 : isS (zAt us (k + 1)) = false := by
              cases h : isS (zAt us (k + 1)) with
              | false => rfl
              | true => exact absurd ⟨pf, p2, h⟩ hp
            obtain ⟨y0, y1⟩ := HW.out (k + 1) p2
            have c1 : wr.cell? ⟨b, off + (k + 1), none⟩ = some (.int .u16 (zAt us (k + 1))) := (hB.cell (p := ⟨b, off + (k + 1), none⟩) (cell_lt (HC.out (k + 1) p2))).trans (HC.out (k + 1) p2)
            have C2 : Hid (∀ w, Calls Tryd.prog 51 #[.int .u16 (zAt us (k + 1))] w fun e w' => e = .returned (.bool false) ∧ w' = w) := fun w => by have := isSecond_calls _ w y0 y1; rw [p3] at this; exact this
            clear pf p3 hfr hp
            go_wp2_with (first
              | (go_at_call 50; refine (C1.out _).mono ?_; rintro e w' ⟨rfl, hw⟩; obtain rfl : wr = w' := hw.symm)
              | (go_at_call 51; refine (C2.out _).mono ?_; rintro e w' ⟨rfl, hw⟩; obtain rfl : wr = w' := hw.symm)
              | (at_builtin; refine wpList_append_own _ rfl _ _ 27 rfl w.heap.size 21 i0 (.int .i32 0) 1 4 Tryd.underlying27 hi hz0 hz1 hz2 rfl (by decide) _ _ _ rfl (hrow.alloc _) ⟨wr.heap.size, 0, none⟩ 1 1 [.int .i32 (65533)] rfl rfl (cell_one_at _ _ _ _ rfl) (by simp [Value.oneCell']) (by unfold maxLen; omega) (by omega) (by simp; omega) ?_; intro v' w4 hown' hgrow _))
            go_roundw
            case rel => exact ⟨k + 1, acc ++ [65533], by omega, by go_num, by simp; omega, HF.out, by simpa using hown', (hB.alloc s1 _).grown hgrow (by simp; omega) (fun j hj => (hrow.lt j hj).1)⟩
            case measure => simp [intOf]; omega
          · have p2' : decide ((k : Int) + 1 < (us.length : Int)) = false := by simp; omega
            clear pf hfr hp
            go_wp2_with (first
              | (go_at_call 50; refine (C1.out _).mono ?_; rintro e w' ⟨rfl, hw⟩; obtain rfl : wr = w' := hw.symm)
              | (at_builtin; refine wpList_append_own _ rfl _ _ 27 rfl w.heap.size 21 i0 (.int .i32 0) 1 4 Tryd.underlying27 hi hz0 hz1 hz2 rfl (by decide) _ _ _ rfl (hrow.alloc _) ⟨wr.heap.size, 0, none⟩ 1 1 [.int .i32 (65533)] rfl rfl (cell_one_at _ _ _ _ rfl) (by simp [Value.oneCell']) (by unfold maxLen; omega) (by omega) (by simp; omega) ?_; intro v' w4 hown' hgrow _))
            go_roundw
            case rel => exact ⟨k + 1, acc ++ [65533], by omega, by go_num, by simp; omega, HF.out, by simpa using hown', (hB.alloc s1 _).grown hgrow (by simp; omega) (fun j hj => (hrow.lt j hj).1)⟩
            case measure => simp [intOf]; omega
        | false =>
          have C1 : Hid (∀ w, Calls Tryd.prog 50 #[.int .u16 (zAt us k)] w fun e w' => e = .returned (.bool false) ∧ w' = w) := fun w => by have := isFirst_calls _ w z0 z1; rw [pf] at this; exact this
          cases ps : isS (zAt us k) with
          | true =>
            have q1 : 56320 ≤ zAt us k ∧ zAt us k < 57344 := by simpa [isS] using ps
            have HF : Hid (fr us = (acc ++ [65533]) ++ frA us (k + 1)) := by show fr us = _; rw [hfr.out]; simp [lone, pf, ps]
            have C3 : Hid (∀ w, Calls Tryd.prog 51 #[.int .u16 (zAt us k)] w fun e w' => e = .returned (.bool true) ∧ w' = w) := fun w => by have := isSecond_calls _ w z0 z1; rw [ps] at this; exact this
            clear pf ps hfr hp
            go_wp2_with (first
              | (go_at_call 50; refine (C1.out _).mono ?_; rintro e w' ⟨rfl, hw⟩; obtain rfl : wr = w' := hw.symm)
              | (go_at_call 51; refine (C3.out _).mono ?_; rintro e w' ⟨rfl, hw⟩; obtain rfl : wr = w' := hw.symm)
              | (at_builtin; refine wpList_append_own _ rfl _ _ 27 rfl w.heap.size 21 i0 (.int .i32 0) 1 4 Tryd.underlying27 hi hz0 hz1 hz2 rfl (by decide) _ _ _ rfl (hrow.alloc _) ⟨wr.heap.size, 0, none⟩ 1 1 [.int .i32 (65533)] rfl rfl (cell_one_at _ _ _ _ rfl) (by simp [Value.oneCell']) (by unfold maxLen; omega) (by omega) (by simp; omega) ?_; intro v' w4 hown' hgrow _))
            go_roundw
            case rel => exact ⟨k + 1, acc ++ [65533], by omega, by go_num, by simp; omega, HF.out, by simpa using hown', (hB.alloc s1 _).grown hgrow (by simp; omega) (fun j hj => (hrow.lt j hj).1)⟩
            case measure => simp [intOf]; omega
          | false =>
            have q1 : ¬ (56320 ≤ zAt us k ∧ zAt us k < 57344) := by simpa [isS] using ps
            have q2 : ¬ (55296 ≤ zAt us k ∧ zAt us k < 56320) := by simpa [isF] using pf
            have HF : Hid (fr us = (acc ++ [zAt us k]) ++ frA us (k + 1)) := by show fr us = _; rw [hfr.out]; simp [lone, pf, ps]
            have C3 : Hid (∀ w, Calls Tryd.prog 51 #[.int .u16 (zAt us k)] w fun e w' => e = .returned (.bool false) ∧ w' = w) := fun w => by have := isSecond_calls _ w z0 z1; rw [ps] at this; exact this
            clear pf ps hfr hp q1 q2
            go_wp2_with (first
              | (go_at_call 50; refine (C1.out _).mono ?_; rintro e w' ⟨rfl, hw⟩; obtain rfl : wr = w' := hw.symm)
              | (go_at_call 51; refine (C3.out _).mono ?_; rintro e w' ⟨rfl, hw⟩; obtain rfl : wr = w' := hw.symm)
              | (at_builtin; refine wpList_append_own _ rfl _ _ 27 rfl w.heap.size 21 i0 (.int .i32 0) 1 4 Tryd.underlying27 hi hz0 hz1 hz2 rfl (by decide) _ _ _ rfl (hrow.alloc _) ⟨wr.heap.size, 0, none⟩ 1 1 [.int .i32 (zAt us k)] rfl rfl (cell_one_at _ _ _ _ rfl) (by simp [Value.oneCell']) (by unfold maxLen; omega) (by omega) (by simp; omega) ?_; intro v' w4 hown' hgrow _))
            go_roundw
            case rel => exact ⟨k + 1, acc ++ [zAt us k], by omega, by go_num, by simp; omega, HF.out, by simpa using hown', (hB.alloc s1 _).grown hgrow (by simp; omega) (fun j hj => (hrow.lt j hj).1)⟩
            case measure => simp [intOf]; omega
    · obtain rfl : k = us.length := by omega
      have HE : Hid (fr us = acc) := by show fr us = acc; rw [hfr.out, frA_end us _ (Nat.le_refl _)]; simp
      go_wp2
      go_ret
      exact ⟨_, rfl, by rw [HE.out]; exact hrow, hB⟩

set_option maxRecDepth 100000 in
set_option maxHeartbeats 1000000 in
theorem rfrom_walk (us : List Int) (a : Option Addr) (b off cap : Nat) (w : World) (ha : 0 < us.length → a = some ⟨b, off, none⟩) (hl : (us.length : Int) ≤ 1099511627776) (hw : ∀ k, k < us.length → 0 ≤ zAt us k ∧ zAt us k ≤ 65535)
    (hc : ∀ j, j < us.length → w.cell? ⟨b, off + j, none⟩ = some (.int .u16 (zAt us j))) :
    Calls Tryd.prog 35 #[.slice a us.length cap] w fun e W' => ∃ v, e = .returned v ∧ W'.ownsRow w.heap.size 21 1 v (fr us).length ((fr us).map (Value.int .i32)) ∧ Below w.heap.size w W' := by
  obtain ⟨i0, hi, hz0, hz1, hz2⟩ := info_parts info21
  have HC : Hid (∀ j, j < us.length → w.cell? ⟨b, off + j, none⟩ = some (.int .u16 (zAt us j))) := hc
  have HA : Hid (0 < us.length → a = some ⟨b, off, none⟩) := ha
  have HW : Hid (∀ k, k < us.length → 0 ≤ zAt us k ∧ zAt us k ≤ 65535) := hw
  clear hc ha hw
  go_enter Tryd.func35, Tryd.ntmps35
  go_wp2
  go_loopw [3, 4, 5] (fun v i _ wr => ∃ (k : Nat) (acc : List Int), k ≤ us.length ∧ i = .int .i64 k ∧ acc.length ≤ k ∧ Hid (fr us = acc ++ frA us k) ∧ wr.ownsRow w.heap.size 21 1 v acc.length (acc.map (Value.int .i32)) ∧ Below w.heap.size w wr) (fun _ i _ _ => us.length - (intOf i).toNat)
  case atStart => exact ⟨0, [], by omega, rfl, by simp, rfl, World.ownsRow_nil _ _ _ _, Below.refl _ _⟩
  case round =>
    obtain ⟨k, acc, hk, rfl, hak, hfr, hrow, hB⟩ := hrel
    by_cases hlt : k < us.length
    · have e' := HA.out (by omega)
      subst e'
      have c0 : wr.cell? ⟨b, off + k, none⟩ = some (.int .u16 (zAt us k)) := (hB.cell (p := ⟨b, off + k, none⟩) (cell_lt (HC.out k hlt))).trans (HC.out k hlt)
      obtain ⟨z0, z1⟩ := HW.out k hlt
      have s1 := hB.size
      by_cases hp : isF (zAt us k) = true ∧ k + 1 < us.length ∧ isS (zAt us (k + 1)) = true
      · have HF : Hid (fr us = (acc ++ [pairV (zAt us k) (zAt us (k + 1))]) ++ frA us (k + 2)) := by show fr us = _; rw [hfr.out, frA_pair us k hlt hp]; simp
        obtain ⟨p1, p2, p3⟩ := hp
        have c1 : wr.cell? ⟨b, off + (k + 1), none⟩ = some (.int .u16 (zAt us (k + 1))) := (hB.cell (p := ⟨b, off + (k + 1), none⟩) (cell_lt (HC.out (k + 1) p2))).trans (HC.out (k + 1) p2)
        obtain ⟨y0, y1⟩ := HW.out (k + 1) p2
        have q1 : 55296 ≤ zAt us k ∧ zAt us k < 56320 := by simpa [isF] using p1
        have q3 : 56320 ≤ zAt us (k + 1) ∧ zAt us (k + 1) < 57344 := by simpa [isS] using p3
        clear p1 p3 hfr
        go_wp2_with (first
          | (at_builtin; refine wpList_append_own _ rfl _ _ 27 rfl w.heap.size 21 i0 (.int .i32 0) 1 4 Tryd.underlying27 hi hz0 hz1 hz2 rfl (by decide) _ _ _ rfl (hrow.alloc _) ⟨wr.heap.size, 0, none⟩ 1 1 [.int .i32 (65536 + (zAt us k - 55296) * 1024 + zAt us (k + 1) - 56320)] rfl rfl (cell_one_at _ _ _ _ rfl) (by simp [Value.oneCell']) (by unfold maxLen; omega) (by omega) (by simp; omega) ?_; intro v' w4 hown' hgrow _))
        go_roundw
        case rel => exact ⟨k + 2, acc ++ [65536 + (zAt us k - 55296) * 1024 + zAt us (k + 1) - 56320], by omega, by go_num, by simp; omega, HF.out, by simpa using hown', (hB.alloc s1 _).grown hgrow (by simp; omega) (fun j hj => (hrow.lt j hj).1)⟩
        case measure => simp [intOf]; omega
      · rw [frA_lone us k hlt hp] at hfr
        cases pf : isF (zAt us k) with
        | true =>
          have q1 : 55296 ≤ zAt us k ∧ zAt us k < 56320 := by simpa [isF] using pf
          have HF : Hid (fr us = (acc ++ [65533]) ++ frA us (k + 1)) := by show fr us = _; rw [hfr.out]; simp [lone, pf]
          by_cases p2 : k + 1 < us.length
          · have p3 : isS (zAt us (k + 1)) = false := by
              cases h : isS (zAt us (k + 1)) with
              | false => rfl
              | true => exact absurd ⟨pf, p2, h⟩ hp
            obtain ⟨y0, y1⟩ := HW.out (k + 1) p2
            have c1 : wr.cell? ⟨b, off + (k + 1), none⟩ = some (.int .u16 (zAt us (k + 1))) := (hB.cell (p := ⟨b, off + (k + 1), none⟩) (cell_lt (HC.out (k + 1) p2))).trans (HC.out (k + 1) p2)
            have q3 : ¬ (56320 ≤ zAt us (k + 1) ∧ zAt us (k + 1) < 57344) := by simpa [isS] using p3
            by_cases q4 : 56320 ≤ zAt us (k + 1)
            · have q5 : decide (zAt us (k + 1) ≤ 57343) = false := by simp; omega
              clear pf p3 hfr hp q3
              go_wp2_with (first
                | (at_builtin; refine wpList_append_own _ rfl _ _ 27 rfl w.heap.size 21 i0 (.int .i32 0) 1 4 Tryd.underlying27 hi hz0 hz1 hz2 rfl (by decide) _ _ _ rfl (hrow.alloc _) ⟨wr.heap.size, 0, none⟩ 1 1 [.int .i32 (65533)] rfl rfl (cell_one_at _ _ _ _ rfl) (by simp [Value.oneCell']) (by unfold maxLen; omega) (by omega) (by simp; omega) ?_; intro v' w4 hown' hgrow _))
              go_roundw
              case rel => exact ⟨k + 1, acc ++ [65533], by omega, by go_num, by simp; omega, HF.out, by simpa using hown', (hB.alloc s1 _).grown hgrow (by simp; omega) (fun j hj => (hrow.lt j hj).1)⟩
              case measure => simp [intOf]; omega
            · have q5 : decide (56320 ≤ zAt us (k + 1)) = false := by simp; omega
              clear pf p3 hfr hp q3
              go_wp2_with (first
                | (at_builtin; refine wpList_append_own _ rfl _ _ 27 rfl w.heap.size 21 i0 (.int .i32 0) 1 4 Tryd.underlying27 hi hz0 hz1 hz2 rfl (by decide) _ _ _ rfl (hrow.alloc _) ⟨wr.heap.size, 0, none⟩ 1 1 [.int .i32 (65533)] rfl rfl (cell_one_at _ _ _ _ rfl) (by simp [Value.oneCell']) (by unfold maxLen; omega) (by omega) (by simp; omega) ?_; intro v' w4 hown' hgrow _))
              go_roundw
              case rel => exact ⟨k + 1, acc ++ [65533], by omega, by go_num, by simp; omega, HF.out, by simpa using hown', (hB.alloc s1 _).grown hgrow (by simp; omega) (fun j hj => (hrow.lt j hj).1)⟩
              case measure => simp [intOf]; omega
          · have p2' : decide ((k : Int) + 1 < (us.length : Int)) = false := by simp; omega
            clear pf hfr hp
            go_wp2_with (first
              | (at_builtin; refine wpList_append_own _ rfl _ _ 27 rfl w.heap.size 21 i0 (.int .i32 0) 1 4 Tryd.underlying27 hi hz0 hz1 hz2 rfl (by decide) _ _ _ rfl (hrow.alloc _) ⟨wr.heap.size, 0, none⟩ 1 1 [.int .i32 (65533)] rfl rfl (cell_one_at _ _ _ _ rfl) (by simp [Value.oneCell']) (by unfold maxLen; omega) (by omega) (by simp; omega) ?_; intro v' w4 hown' hgrow _))
            go_roundw
            case rel => exact ⟨k + 1, acc ++ [65533], by omega, by go_num, by simp; omega, HF.out, by simpa using hown', (hB.alloc s1 _).grown hgrow (by simp; omega) (fun j hj => (hrow.lt j hj).1)⟩
            case measure => simp [intOf]; omega
        | false =>
          cases ps : isS (zAt us k) with
          | true =>
            have q1 : 56320 ≤ zAt us k ∧ zAt us k < 57344 := by simpa [isS] using ps
            have HF : Hid (fr us = (acc ++ [65533]) ++ frA us (k + 1)) := by show fr us = _; rw [hfr.out]; simp [lone, pf, ps]
            have q2 : decide (zAt us k ≤ 56319) = false := by simp; omega
            clear pf ps hfr hp
            go_wp2_with (first
              | (at_builtin; refine wpList_append_own _ rfl _ _ 27 rfl w.heap.size 21 i0 (.int .i32 0) 1 4 Tryd.underlying27 hi hz0 hz1 hz2 rfl (by decide) _ _ _ rfl (hrow.alloc _) ⟨wr.heap.size, 0, none⟩ 1 1 [.int .i32 (65533)] rfl rfl (cell_one_at _ _ _ _ rfl) (by simp [Value.oneCell']) (by unfold maxLen; omega) (by omega) (by simp; omega) ?_; intro v' w4 hown' hgrow _))
            go_roundw
            case rel => exact ⟨k + 1, acc ++ [65533], by omega, by go_num, by simp; omega, HF.out, by simpa using hown', (hB.alloc s1 _).grown hgrow (by simp; omega) (fun j hj => (hrow.lt j hj).1)⟩
            case measure => simp [intOf]; omega
          | false =>
            have q1 : ¬ (56320 ≤ zAt us k ∧ zAt us k < 57344) := by simpa [isS] using ps
            have q2 : ¬ (55296 ≤ zAt us k ∧ zAt us k < 56320) := by simpa [isF] using pf
            have HF : Hid (fr us = (acc ++ [zAt us k]) ++ frA us (k + 1)) := by show fr us = _; rw [hfr.out]; simp [lone, pf, ps]
            by_cases q4 : 55296 ≤ zAt us k
            · have q5 : decide (zAt us k ≤ 56319) = false := by simp; omega
              have q6 : decide (zAt us k ≤ 57343) = false := by simp; omega
              clear pf ps hfr hp q1 q2
              go_wp2_with (first
                | (at_builtin; refine wpList_append_own _ rfl _ _ 27 rfl w.heap.size 21 i0 (.int .i32 0) 1 4 Tryd.underlying27 hi hz0 hz1 hz2 rfl (by decide) _ _ _ rfl (hrow.alloc _) ⟨wr.heap.size, 0, none⟩ 1 1 [.int .i32 (zAt us k)] rfl rfl (cell_one_at _ _ _ _ rfl) (by simp [Value.oneCell']) (by unfold maxLen; omega) (by omega) (by simp; omega) ?_; intro v' w4 hown' hgrow _))
              go_roundw
              case rel => exact ⟨k + 1, acc ++ [zAt us k], by omega, by go_num, by simp; omega, HF.out, by simpa using hown', (hB.alloc s1 _).grown hgrow (by simp; omega) (fun j hj => (hrow.lt j hj).1)⟩
              case measure => simp [intOf]; omega
            · have q5 : decide (55296 ≤ zAt us k) = false := by simp; omega
              clear pf ps hfr hp q1 q2
              go_wp2_with (first
                | (at_builtin; refine wpList_append_own _ rfl _ _ 27 rfl w.heap.size 21 i0 (.int .i32 0) 1 4 Tryd.underlying27 hi hz0 hz1 hz2 rfl (by decide) _ _ _ rfl (hrow.alloc _) ⟨wr.heap.size, 0, none⟩ 1 1 [.int .i32 (zAt us k)] rfl rfl (cell_one_at _ _ _ _ rfl) (by simp [Value.oneCell']) (by unfold maxLen; omega) (by omega) (by simp; omega) ?_; intro v' w4 hown' hgrow _))
              go_roundw
              case rel => exact ⟨k + 1, acc ++ [zAt us k], by omega, by go_num, by simp; omega, HF.out, by simpa using hown', (hB.alloc s1 _).grown hgrow (by simp; omega) (fun j hj => (hrow.lt j hj).1)⟩
              case measure => simp [intOf]; omega
    · obtain rfl : k = us.length := by omega
      have HE : Hid (fr us = acc) := by show fr us = acc; rw [hfr.out, frA_end us _ (Nat.le_refl _)]; simp
      go_wp2
      go_ret
      exact ⟨_, rfl, by rw [HE.out]; exact hrow, hB⟩

/-- **FromSixteen of any units.** -/
theorem from_calls (v : Value) (us : List Int) (w : World) (hl : us.length ≤ 1099511627776) (hw : ∀ z ∈ us, 0 ≤ z ∧ z ≤ 65535) (h : HasI .u16 w v us) :
    Calls Tryd.prog 32 #[v] w fun e W' => ∃ v, e = .returned v ∧ W'.ownsRow w.heap.size 21 1 v (fr us).length ((fr us).map (Value.int .i32)) ∧ Below w.heap.size w W' := by
  have hz : ∀ k, k < us.length → 0 ≤ zAt us k ∧ zAt us k ≤ 65535 := fun k hk => hw _ (by simp [zAt, hk])
  rcases h with ⟨rfl, a, cap, rfl⟩ | ⟨hp, b, off, cap, rfl, hcap, hx⟩
  · exact from_walk [] a 0 0 cap w (fun h => by simp at h) (by simp) hz (fun j hj => by simp at hj)
  · exact from_walk us _ b off cap w (fun _ => rfl) (by omega) hz hx
/-- **The document's FromSixteen of any units.** -/
theorem rfrom_calls (v : Value) (us : List Int) (w : World) (hl : us.length ≤ 1099511627776) (hw : ∀ z ∈ us, 0 ≤ z ∧ z ≤ 65535) (h : HasI .u16 w v us) :
    Calls Tryd.prog 35 #[v] w fun e W' => ∃ v, e = .returned v ∧ W'.ownsRow w.heap.size 21 1 v (fr us).length ((fr us).map (Value.int .i32)) ∧ Below w.heap.size w W' := by
  have hz : ∀ k, k < us.length → 0 ≤ zAt us k ∧ zAt us k ≤ 65535 := fun k hk => hw _ (by simp [zAt, hk])
  rcases h with ⟨rfl, a, cap, rfl⟩ | ⟨hp, b, off, cap, rfl, hcap, hx⟩
  · exact rfrom_walk [] a 0 0 cap w (fun h => by simp at h) (by simp) hz (fun j hj => by simp at hj)
  · exact rfrom_walk us _ b off cap w (fun _ => rfl) (by omega) hz hx

end Go.Proofs.YtjleehhgcpdapaaDoor.U
