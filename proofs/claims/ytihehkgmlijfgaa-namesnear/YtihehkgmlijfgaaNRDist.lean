/- What is proved here: the contract of sieveref04.Distance: how far two texts are apart, as the document has it. -/
import Derived.Laws.MakeOwn
import Derived.Deep.RegionHeld3
import Derived.Test.YtihehkgmlijfgaaNSets
import Derived.Test.YtihehkgmlijfgaaNDist
namespace Go.Proofs.Ytihehkgmlijfgaa.N
open Go.RowKit C

set_option maxRecDepth 100000 in
theorem first_calls (s : ByteArray) (w : World) (hs : s.size ≤ 9223372036854775807) :
    Calls Try.prog 41 #[.string s] w fun e w' => ∃ p : ByteArray, e = .returned (.string p) ∧ p.data.toList = s.data.toList.take 100 ∧ w' = w := by
  go_enter Try.func41, Try.ntmps41
  by_cases h : s.size ≤ 100
  · go_wp2
    go_ret
    exact ⟨s, rfl, take_all s h, rfl⟩
  · go_wp2
    go_ret
    exact ⟨s.extract 0 100, rfl, take_extract s, rfl⟩
set_option maxRecDepth 100000 in
theorem least_calls (a b c : Int) (w : World) :
    Calls Try.prog 42 #[.int .i64 a, .int .i64 b, .int .i64 c] w fun e w' => e = .returned (.int .i64 (min (min a b) c)) ∧ w' = w := by
  go_enter Try.func42, Try.ntmps42
  by_cases h1 : b < a
  · by_cases h2 : c < b
    · have e : min (min a b) c = c := by omega
      rw [e]
      go_wp2
      go_ret
      exact ⟨rfl, rfl⟩
    · have e : min (min a b) c = b := by omega
      rw [e]
      go_wp2
      go_ret
      exact ⟨rfl, rfl⟩
  · by_cases h2 : c < a
    · have e : min (min a b) c = c := by omega
      rw [e]
      go_wp2
      go_ret
      exact ⟨rfl, rfl⟩
    · have e : min (min a b) c = a := by omega
      rw [e]
      go_wp2
      go_ret
      exact ⟨rfl, rfl⟩

/-- A row of n numbers in a block. -/
structure RowN (W : World) (A n : Nat) (c : Nat → Int) : Prop where
  cell : ∀ j, j < n → W.cell? ⟨A, j, none⟩ = some (.int .i64 (c j))
  free : ∀ j, W.frozen? ⟨A, j, none⟩ = false
  lt : A < W.heap.size
theorem RowN.set {W : World} {A n : Nat} {c c' : Nat → Int} (h : RowN W A n c) (k : Nat) (x : Int) (hx : c' k = x) (ho : ∀ j, j < n → j ≠ k → c' j = c j) : RowN (W.setCell ⟨A, k, none⟩ (.int .i64 x)) A n c' := by
  refine ⟨fun j hj => ?_, fun j => by rw [World.frozen?_setCell]; exact h.free j, by rw [World.size_setCell]; exact h.lt⟩
  by_cases e : j = k
  · subst e; rw [hx]; exact cs_same (h.cell j hj)
  · rw [cs_other (fun e' => e (by injection e' with _ e'; exact e'.symm)), ho j hj e]; exact h.cell j hj
theorem RowN.other {W : World} {A B n : Nat} {c : Nat → Int} (h : RowN W A n c) (hne : A ≠ B) (k : Nat) (x : Value) : RowN (W.setCell ⟨B, k, none⟩ x) A n c :=
  ⟨fun j hj => by rw [cs_other (fun e' => hne (by injection e' with e'; exact e'.symm))]; exact h.cell j hj, fun j => by rw [World.frozen?_setCell]; exact h.free j, by rw [World.size_setCell]; exact h.lt⟩
theorem RowN.drew {W : World} {A n : Nat} {c : Nat → Int} (h : RowN W A n c) : RowN W.drew A n c := ⟨h.cell, h.free, h.lt⟩
theorem RowN.congr {W : World} {A n : Nat} {c c' : Nat → Int} (h : RowN W A n c) (hc : ∀ j, j < n → c' j = c j) : RowN W A n c' := ⟨fun j hj => by rw [hc j hj]; exact h.cell j hj, h.free, h.lt⟩
theorem RowN.below {W W' : World} {A n : Nat} {c : Nat → Int} (h : RowN W A n c) (hb : Below W.heap.size W W') : RowN W' A n c :=
  ⟨fun j hj => (hb.cell (p := ⟨A, j, none⟩) h.lt).trans (h.cell j hj), fun j => by rw [hb.frozen (p := ⟨A, j, none⟩) h.lt]; exact h.free j, Nat.lt_of_lt_of_le h.lt hb.size⟩
theorem wrap_fit (n : Int) (h0 : 0 ≤ n) (h1 : n < 9223372036854775808) : IntKind.i64.wrap n = n := by rw [IntKind.wrap_i64]; omega
/-- 'make([]int, n)'. -/
theorem make_row (W : World) (n : Nat) (hn : n ≤ 100) : ∃ W2, (Instr.makeSlice 37 (.int .i64 ((n : Int) + 1)) (.int .i64 ((n : Int) + 1))).run Try.prog W = .ok (.slice (some ⟨W.heap.size, 0, none⟩) (n + 1) (n + 1)) W2 ∧ RowN W2 W.heap.size (n + 1) (fun _ => 0) ∧ Below W.heap.size W W2 := by
  obtain ⟨i0, hi, hz0, hz1, hz2⟩ := info_parts infoInt
  obtain ⟨W2, hrun, hrow, hgr⟩ := run_make_full (P := Try.prog) W W.heap.size 37 3 i0 (.int .i64 0) 1 Try.underlying37 hi hz0 hz1 .i64 .i64 (n + 1) (by rw [hz2]; omega) (by unfold maxLen; omega) (Nat.le_refl _)
  rw [show ((n + 1 : Nat) : Int) = (n : Int) + 1 by omega] at hrun
  rw [Nat.mul_one, show (Value.int .i64 0).cells = #[.int .i64 0] from rfl, toList_madeCells_one] at hrow
  refine ⟨W2, hrun, ⟨fun j hj => ?_, fun j => World.ownsRow.frozenAt hrow j, (hrow.lt W.heap.size rfl).2⟩, (Below.refl _ W).grown hgr (Nat.le_refl _) (fun j hj => by cases hj)⟩
  rw [World.ownsRow.cellAt hrow j (by omega)]
  simp [hj]

set_option maxRecDepth 100000 in
set_option maxHeartbeats 2000000 in
theorem rdist_calls (s t : ByteArray) (w : World) (hs : s.size ≤ 9223372036854775807) (ht : t.size ≤ 9223372036854775807) :
    Calls Try.prog 25 #[.string s, .string t] w fun e w' => e = .returned (.int .i64 (dist s.data.toList t.data.toList)) ∧ Below w.heap.size w w' := by
  go_enter Try.func25, Try.ntmps25
  go_wp2_with fail
  refine (first_calls s w hs).mono ?_
  rintro e w' ⟨p, rfl, hp, hw'⟩
  have hx' := hw'.symm
  subst hx'
  clear hw'
  go_wp2_with fail
  refine (first_calls t w ht).mono ?_
  rintro e w' ⟨q, rfl, hq, hw'⟩
  have hx' := hw'.symm
  subst hx'
  clear hw'
  have hpz : p.size ≤ 100 := by rw [← size_data, hp]; simp; omega
  have hqz : q.size ≤ 100 := by rw [← size_data, hq]; simp; omega
  have HD : Hid (dist s.data.toList t.data.toList = dp p.data.toList q.data.toList p.size q.size) := by
    rw [dist_dp, ← hp, ← hq, size_data, size_data]
    exact rfl
  clear hp hq
  obtain ⟨W1, hrun, hN, hB1⟩ := make_row w q.size hqz
  have HN : Hid (RowN W1 w.heap.size (q.size + 1) (fun _ => 0)) := hN
  have HB1 : Hid (Below w.heap.size w W1) := hB1
  clear hN hB1
  go_wp2
  clear hrun
  go_loopw [6, 21] (fun _ i wr => ∃ k : Nat, k ≤ q.size + 1 ∧ i = .int .i64 k ∧ Hid (RowN wr w.heap.size (q.size + 1) (fun j => if j < k then j else 0)) ∧ Hid (Below w.heap.size w wr)) (fun _ i _ => q.size + 1 - (intOf i).toNat)
  case atStart => exact ⟨0, by omega, rfl, HN.out.congr (fun j _ => by simp), HB1⟩
  case round =>
    clear HN HB1
    obtain ⟨k, hk, rfl, hR, hB⟩ := hrel
    by_cases hlt : k < q.size + 1
    · have hc := hR.out.cell k (by omega)
      have hf := hR.out.free k
      have HR2 : Hid (RowN (wr.setCell ⟨w.heap.size, k, none⟩ (.int .i64 k)) w.heap.size (q.size + 1) (fun j => if j < k + 1 then j else 0)) := hR.out.set k k (by simp) (fun j _ hj => by
        by_cases h : j < k
        · simp [h, show j < k + 1 by omega]
        · simp [h, show ¬ j < k + 1 by omega])
      have HB2 : Hid (Below w.heap.size w (wr.setCell ⟨w.heap.size, k, none⟩ (.int .i64 k))) := hB.out.setCell (Nat.le_refl _) _
      go_wp2
      first
        | exact ⟨⟨k + 1, by omega, by go_num, HR2, HB2⟩, by simp [intOf]; omega⟩
        | (go_roundw
           case rel => exact ⟨k + 1, by omega, by go_num, HR2, HB2⟩
           case measure => simp [intOf]; omega)
    · obtain rfl : k = q.size + 1 := by omega
      rw [show ((q.size + 1 : Nat) : Int) = (q.size : Int) + 1 by omega]
      have HR0 : Hid (RowN wr w.heap.size (q.size + 1) (fun j => (dp p.data.toList q.data.toList 0 j : Int))) := hR.out.congr (fun j hj => by
        simp only [hj, if_true]
        rw [dp_top p.data.toList q.data.toList j (by rw [size_data]; omega)])
      clear hR
      go_wp2
      go_loopw [5, 7, 8, 9, 10, 31] (fun rv _ _ _ _ i wr => ∃ k g : Nat, k ≤ p.size ∧ i = .int .i64 k ∧ w.heap.size ≤ g ∧ rv = .slice (some ⟨g, 0, none⟩) (q.size + 1) (q.size + 1) ∧ Hid (RowN wr g (q.size + 1) (fun j => (dp p.data.toList q.data.toList k j : Int))) ∧ Hid (Below w.heap.size w wr)) (fun _ _ _ _ _ i _ => p.size - (intOf i).toNat)
      case atStart => exact ⟨0, w.heap.size, by omega, rfl, Nat.le_refl _, rfl, HR0, hB⟩
      case round =>
        clear HR0 hB
        obtain ⟨k, g, hk, rfl, hg, rfl, hR, hB⟩ := hrel
        have s1 := hB.out.size
        have hgl := hR.out.lt
        by_cases hlt : k < p.size
        · obtain ⟨W2, hrun, hN, hB2⟩ := make_row wr q.size hqz
          have HR1 : Hid (RowN W2 g (q.size + 1) (fun j => (dp p.data.toList q.data.toList k j : Int))) := hR.out.below hB2
          have hc := hN.cell 0 (by omega)
          have hf := hN.free 0
          have HN2 : Hid (RowN (W2.setCell ⟨wr.heap.size, 0, none⟩ (.int .i64 ((k : Int) + 1))) wr.heap.size (q.size + 1) (fun j => if j ≤ 0 then (dp p.data.toList q.data.toList (k + 1) j : Int) else 0)) := hN.set 0 _ (by rw [if_pos (Nat.le_refl 0), dp_left _ _ (k + 1) (by rw [size_data]; omega)]; omega) (fun j _ hj => by rw [if_neg (by omega)])
          have HR2 : Hid (RowN (W2.setCell ⟨wr.heap.size, 0, none⟩ (.int .i64 ((k : Int) + 1))) g (q.size + 1) (fun j => (dp p.data.toList q.data.toList k j : Int))) := HR1.out.other (by omega) _ _
          have HB2 : Hid (Below w.heap.size w (W2.setCell ⟨wr.heap.size, 0, none⟩ (.int .i64 ((k : Int) + 1)))) := (hB.out.trans (hB2.mono s1)).setCell s1 _
          clear hN hB2 hR hB HR1
          go_wp2
          clear hrun hc hf
          generalize wr.heap.size = B at *
          go_loopw [9, 10, 44] (fun _ _ i wn => ∃ m : Nat, m ≤ q.size ∧ i = .int .i64 m ∧ Hid (RowN wn B (q.size + 1) (fun j => if j ≤ m then (dp p.data.toList q.data.toList (k + 1) j : Int) else 0)) ∧ Hid (RowN wn g (q.size + 1) (fun j => (dp p.data.toList q.data.toList k j : Int))) ∧ Hid (Below w.heap.size w wn)) (fun _ _ i _ => q.size - (intOf i).toNat)
          case atStart => exact ⟨0, by omega, rfl, HN2, HR2, HB2⟩
          case round =>
            clear HN2 HR2 HB2
            obtain ⟨m, hm, rfl, hN, hR, hB⟩ := hrel
            by_cases hmlt : m < q.size
            · have hc0 : wr.cell? ⟨B, m, none⟩ = some (.int .i64 (dp p.data.toList q.data.toList (k + 1) m : Int)) := by rw [hN.out.cell m (by omega)]; simp
              have hcn : wr.cell? ⟨B, m + 1, none⟩ = some (.int .i64 0) := by rw [hN.out.cell (m + 1) (by omega)]; simp [show ¬ m + 1 ≤ m by omega]
              have hf := hN.out.free (m + 1)
              have hr0 : wr.cell? ⟨g, m, none⟩ = some (.int .i64 (dp p.data.toList q.data.toList k m : Int)) := hR.out.cell m (by omega)
              have hr1 : wr.cell? ⟨g, m + 1, none⟩ = some (.int .i64 (dp p.data.toList q.data.toList k (m + 1) : Int)) := hR.out.cell (m + 1) (by omega)
              have hdp := dp_succ p.data.toList q.data.toList k m (by rw [size_data]; omega) (by rw [size_data]; omega)
              have l1 := dp_le p.data.toList q.data.toList k m
              have l2 := dp_le p.data.toList q.data.toList k (m + 1)
              have l3 := dp_le p.data.toList q.data.toList (k + 1) m
              have HN2 : Hid (∀ x : Int, x = (dp p.data.toList q.data.toList (k + 1) (m + 1) : Int) → RowN (wr.setCell ⟨B, m + 1, none⟩ (.int .i64 x)) B (q.size + 1) (fun j => if j ≤ m + 1 then (dp p.data.toList q.data.toList (k + 1) j : Int) else 0)) := fun x hx => hN.out.set (m + 1) x (by rw [if_pos (Nat.le_refl _), hx]) (fun j _ hj => by
                by_cases h : j ≤ m
                · rw [if_pos h, if_pos (show j ≤ m + 1 by omega)]
                · rw [if_neg h, if_neg (show ¬ j ≤ m + 1 by omega)])
              have HR2 : Hid (∀ x : Value, RowN (wr.setCell ⟨B, m + 1, none⟩ x) g (q.size + 1) (fun j => (dp p.data.toList q.data.toList k j : Int))) := fun x => hR.out.other (by omega) _ _
              have HB2 : Hid (∀ x : Value, Below w.heap.size w (wr.setCell ⟨B, m + 1, none⟩ x)) := fun x => hB.out.setCell s1 _
              have hgx : p.data.toList.getD k 0 = p.data.toList[k]'(by rw [size_data]; omega) := getD_eq _ _ _
              have hgy : q.data.toList.getD m 0 = q.data.toList[m]'(by rw [size_data]; omega) := getD_eq _ _ _
              have hix : ∀ w, (Instr.index 9 (.string p) (.int .i64 k)).run Try.prog w = .ok (.int .u8 (p.data.toList[k]'(by rw [size_data]; omega)).toNat) w := fun w => run_byte w _ p _ k k _ Try.underlying9 rfl hlt hgx
              have hiy : ∀ w, (Instr.index 9 (.string q) (.int .i64 m)).run Try.prog w = .ok (.int .u8 (q.data.toList[m]'(by rw [size_data]; omega)).toNat) w := fun w => run_byte w _ q _ m m _ Try.underlying9 rfl hmlt hgy
              clear hgx hgy
              have hm3 : (0 : Int) ≤ (m : Int) + 1 := by omega
              have hgB : g ≠ B := by omega
              have hkeep : ∀ x, (wr.setCell ⟨B, m + 1, none⟩ x).cell? ⟨B, m, none⟩ = some (.int .i64 (dp p.data.toList q.data.toList (k + 1) m : Int)) := fun x => by rw [cs_other (fun e' => by injection e' with _ e'; omega)]; exact hc0
              have hBg : B ≠ g := by omega
              have hm5 : (m : Int) < (q.size : Int) + 1 := by omega
              have hm6 : (0 : Int) ≤ (m : Int) := by omega
              have hw1 := wrap_fit ((m : Int) + 1) (by omega) (by omega)
              have hw2 := wrap_fit ((dp p.data.toList q.data.toList k (m + 1) : Int) + 1) (by omega) (by omega)
              have hw3 := wrap_fit ((dp p.data.toList q.data.toList (k + 1) m : Int) + 1) (by omega) (by omega)
              have hw4 := wrap_fit ((dp p.data.toList q.data.toList k m : Int) + 1) (by omega) (by omega)
              have hw5 := wrap_fit (dp p.data.toList q.data.toList k m : Int) (by omega) (by omega)
              generalize p.data.toList[k]'(by rw [size_data]; omega) = x at *
              generalize q.data.toList[m]'(by rw [size_data]; omega) = y at *
              by_cases hxy : x = y
              · subst hxy
                rw [diff_self] at hdp
                have HMN : Hid (min (min ((dp p.data.toList q.data.toList k (m + 1) : Int) + 1) ((dp p.data.toList q.data.toList (k + 1) m : Int) + 1)) (dp p.data.toList q.data.toList k m : Int) = (dp p.data.toList q.data.toList (k + 1) (m + 1) : Int)) := by
                  show _ = _
                  omega
                clear hdp
                go_wp2
                go_region
                all_goals go_wp2
                go_region_held3 (fun w' => w'.cell? ⟨g, m, none⟩ = some (.int .i64 (dp p.data.toList q.data.toList k m : Int)) ∧ w'.cell? ⟨g, m + 1, none⟩ = some (.int .i64 (dp p.data.toList q.data.toList k (m + 1) : Int)) ∧ w'.cell? ⟨B, m, none⟩ = some (.int .i64 (dp p.data.toList q.data.toList (k + 1) m : Int))) (go_keep) (first | (go_at_call 42; refine (least_calls _ _ _ _).mono ?_; rintro e w' ⟨rfl, hw'⟩; have hx' := hw'.symm; subst hx'; rw [HMN.out]) | fail)
                all_goals go_wp2
                go_roundw
                case rel => exact ⟨m + 1, by omega, by go_num, (HN2.out _ rfl).drew.drew, (HR2.out _).drew.drew, (HB2.out _).drew.drew⟩
                case measure => simp [intOf]; omega
              · have hne : ((x.toNat : Int) == (y.toNat : Int)) = false := by rw [beq_eq_false_iff_ne]; intro e; exact hxy (UInt8.toNat_inj.1 (by omega))
                have hdf : diff x y = 1 := by simp [diff, hxy]
                rw [hdf] at hdp
                have HMN : Hid (min (min ((dp p.data.toList q.data.toList k (m + 1) : Int) + 1) ((dp p.data.toList q.data.toList (k + 1) m : Int) + 1)) ((dp p.data.toList q.data.toList k m : Int) + 1) = (dp p.data.toList q.data.toList (k + 1) (m + 1) : Int)) := by
                  show _ = _
                  omega
                clear hdp
                go_wp2
                go_region
                all_goals go_wp2
                go_region_held3 (fun w' => w'.cell? ⟨g, m, none⟩ = some (.int .i64 (dp p.data.toList q.data.toList k m : Int)) ∧ w'.cell? ⟨g, m + 1, none⟩ = some (.int .i64 (dp p.data.toList q.data.toList k (m + 1) : Int)) ∧ w'.cell? ⟨B, m, none⟩ = some (.int .i64 (dp p.data.toList q.data.toList (k + 1) m : Int))) (go_keep) (first | (go_at_call 42; refine (least_calls _ _ _ _).mono ?_; rintro e w' ⟨rfl, hw'⟩; have hx' := hw'.symm; subst hx'; rw [HMN.out]) | fail)
                all_goals go_wp2
                go_roundw
                case rel => exact ⟨m + 1, by omega, by go_num, (HN2.out _ rfl).drew.drew, (HR2.out _).drew.drew, (HB2.out _).drew.drew⟩
                case measure => simp [intOf]; omega
            · obtain rfl : m = q.size := by omega
              have HR3 : Hid (RowN wr B (q.size + 1) (fun j => (dp p.data.toList q.data.toList (k + 1) j : Int))) := hN.out.congr (fun j hj => by rw [if_pos (by omega)])
              go_wp2
              first
                | exact ⟨⟨k + 1, B, by omega, by go_num, s1, rfl, HR3, hB⟩, by simp [intOf]; omega⟩
                | (go_roundw
                   case rel => exact ⟨k + 1, B, by omega, by go_num, s1, rfl, HR3, hB⟩
                   case measure => simp [intOf]; omega)
        · obtain rfl : k = p.size := by omega
          have hc := hR.out.cell q.size (by omega)
          rw [← HD.out] at hc
          go_wp2
          go_ret
          exact ⟨rfl, hB.out⟩
end Go.Proofs.Ytihehkgmlijfgaa.N
