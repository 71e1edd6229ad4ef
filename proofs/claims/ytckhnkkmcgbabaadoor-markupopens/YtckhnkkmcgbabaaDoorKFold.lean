/- What is proved here: strings.EqualFold of any seven bytes and the word doctype: by the letters' small and capital forms; a byte beyond ASCII is no letter of it. -/
import Derived.ScopeJumps
import Derived.WalkMore
import Derived.Test.YtckhnkkmcgbabaaDoorKLives
namespace Go.Proofs.YtckhnkkmcgbabaaDoor.K
open Go.RowKit Go.Shelf Go.Proofs.YtckhnkkmcgbabaaDoor.U

set_option maxRecDepth 100000 in
set_option maxHeartbeats 1000000 in
theorem simpleFold_calls (n v : Nat) (hn : n < 128) (hv : foldZ.getD n 0 = (v : Int)) (hv2 : v < 65536) (w : World) (hF : Fold w) :
    Calls Tryd.prog 34 #[.int .i32 n] w fun e w' => e = .returned (.int .i32 v) ∧ w' = w := by
  have c0 : w.cell? ⟨0, n, none⟩ = some (.int .u16 v) := by rw [hF n hn, hv]
  have l0 : decide ((n : Int) < 0) = false := by rw [decide_eq_false_iff_not]; omega
  have l1 : decide ((n : Int) > 1114111) = false := by rw [decide_eq_false_iff_not]; omega
  have l2 : decide (1114111 < (n : Int)) = false := by rw [decide_eq_false_iff_not]; omega
  have l3 : decide ((n : Int) < 128) = true := by rw [decide_eq_true_eq]; omega
  have wr : IntKind.i32.wrap (v : Int) = (v : Int) := by rw [IntKind.wrap_i32]; omega
  have wr2 : IntKind.i64.wrap (n : Int) = (n : Int) := by rw [IntKind.wrap_i64]; omega
  clear hF hv
  go_enter Tryd.func34, Tryd.ntmps34
  go_wp2
  go_ret
  exact ⟨rfl, rfl⟩
set_option maxRecDepth 100000 in
set_option maxHeartbeats 1000000 in
theorem dec_first (y : UInt8) (ts : List UInt8) (hy : y.toNat < 128) (w : World) :
    Calls Tryd.prog 33 #[.string ⟨(y :: ts).toArray⟩] w fun e w' => e = .returned (.tuple #[.int .i32 y.toNat, .int .i64 1]) ∧ Below w.heap.size w w' := by
  have hz := byteArr_size (y :: ts)
  have hz0 : ((⟨(y :: ts).toArray⟩ : ByteArray).size : Int) = (ts.length : Int) + 1 := by rw [hz]; simp
  have hix : ∀ w, (Instr.index 9 (.string ⟨(y :: ts).toArray⟩) (.int .i64 0)).run Tryd.prog w = .ok (.int .u8 (y.toNat : Int)) w := fun w => run_byte w 9 ⟨(y :: ts).toArray⟩ .i64 0 0 y Tryd.underlying9 rfl (by rw [hz]; simp) rfl
  have l1 : decide ((ts.length : Int) + 1 > 0) = true := by rw [decide_eq_true_eq]; omega
  have l2 : decide (0 < (ts.length : Int) + 1) = true := by rw [decide_eq_true_eq]; omega
  have l3 : decide ((y.toNat : Int) < 128) = true := by rw [decide_eq_true_eq]; omega
  have wr : IntKind.i32.wrap (y.toNat : Int) = (y.toNat : Int) := by rw [IntKind.wrap_i32]; omega
  go_enter Tryd.func33, Tryd.ntmps33
  go_wp2
  all_goals go_ret2
  all_goals exact ⟨rfl, by first | exact Below.refl _ _ | exact (Below.refl _ _).drew⟩
/-- What begins with no sign of ASCII is read as no sign of ASCII. -/
theorem dec_high (B : List UInt8) (h0 : 0 < B.length) (h : 128 ≤ byteAt B 0) : ∃ r n : Nat, Utf8.decode ⟨B.toArray⟩ 0 = (r, n) ∧ 128 ≤ r ∧ r ≤ 1114111 := by
  have hd := decode_drop B 0
  rw [List.drop_zero] at hd
  cases ha : nextAll B with
  | true =>
    refine ⟨_, _, hd.trans (decode_right B h0 ha), ?_, ?_⟩
    · rcases Nat.lt_or_ge (runeOf B) 128 with hlt | hge
      · exfalso
        have he := enc_rune B h0 ha
        rw [enc_one (by omega) (by omega)] at he
        have hp := nextN_pos B
        have hb : byteAt (B.take (nextN B)) 0 = byteAt B 0 := byteAt_take0 B _ (by omega)
        rw [← he] at hb
        simp only [Int.toNat_natCast] at hb
        rw [byteAt_zero _ (by omega)] at hb
        omega
      · exact hge
    · have := ((valid_iff _).1 (rune_valid B h0 ha)).2.1
      omega
  | false => exact ⟨65533, 1, hd.trans (decode_wrong B h0 ha), by omega, by omega⟩
/-- The word. -/
def D7 : List UInt8 := [100, 111, 99, 116, 121, 112, 101]
theorem D7_fact : ∀ i, i < 7 → 97 ≤ (D7.getD i 0).toNat ∧ (D7.getD i 0).toNat ≤ 122 ∧ foldZ.getD (D7.getD i 0).toNat 0 = (((D7.getD i 0).toNat - 32 : Nat) : Int) ∧ foldZ.getD ((D7.getD i 0).toNat - 32) 0 = ((D7.getD i 0).toNat : Int) := by
  intro i hi
  have : i = 0 ∨ i = 1 ∨ i = 2 ∨ i = 3 ∨ i = 4 ∨ i = 5 ∨ i = 6 := by omega
  rcases this with rfl | rfl | rfl | rfl | rfl | rfl | rfl <;> exact ⟨by decide, by decide, by kernel_rfl, by kernel_rfl⟩
theorem fold_below {W W' : World} (h : Fold W) (hb : Below W.heap.size W W') : Fold W' := fun i hi => (hb.cell (p := ⟨0, i, none⟩) (cell_lt (h i hi))).trans (h i hi)
/-- The frame where a byte beyond ASCII is met. -/
def UAt (bs : List UInt8) (i : Nat) (a' : Act) : Prop :=
  ∃ f : Nat → Value, a' = { tmps := #[.string ⟨bs.toArray⟩, .string ⟨#[100, 111, 99, 116, 121, 112, 101]⟩, f 2, f 3, f 4, .int .i64 i, f 6, f 7, f 8, f 9, f 10, f 11, f 12, f 13, f 14, f 15, f 16, f 17, f 18, f 19, f 20, f 21, f 22, f 23, f 24, f 25, f 26, f 27, f 28, f 29, f 30, f 31, f 32, f 33, f 34, f 35, f 36, f 37, f 38, f 39, f 40, f 41, f 42, f 43, f 44, f 45, f 46, f 47, f 48, f 49, f 50, f 51, f 52, f 53, f 54, f 55, f 56, f 57, f 58, f 59, f 60, f 61, f 62, f 63, f 64, f 65, f 66, f 67, f 68, f 69, f 70, f 71, f 72, f 73, f 74, f 75, f 76, f 77, f 78, f 79, f 80, f 81, f 82, f 83, f 84, f 85, f 86, f 87, f 88, f 89, f 90, f 91, f 92, f 93, f 94, f 95, f 96, f 97, f 98, f 99, f 100, f 101, f 102, f 103, f 104, f 105, f 106, f 107, f 108, f 109, f 110, f 111, f 112, f 113, f 114, f 115, f 116, f 117, f 118, f 119, f 120, f 121, f 122], defers := [] }
theorem uat_mk {bs : List UInt8} {i : Nat} {A : Act} (h : A = { tmps := #[.string ⟨bs.toArray⟩, .string ⟨#[100, 111, 99, 116, 121, 112, 101]⟩, A.tmps.getD 2 undef, A.tmps.getD 3 undef, A.tmps.getD 4 undef, .int .i64 i, A.tmps.getD 6 undef, A.tmps.getD 7 undef, A.tmps.getD 8 undef, A.tmps.getD 9 undef, A.tmps.getD 10 undef, A.tmps.getD 11 undef, A.tmps.getD 12 undef, A.tmps.getD 13 undef, A.tmps.getD 14 undef, A.tmps.getD 15 undef, A.tmps.getD 16 undef, A.tmps.getD 17 undef, A.tmps.getD 18 undef, A.tmps.getD 19 undef, A.tmps.getD 20 undef, A.tmps.getD 21 undef, A.tmps.getD 22 undef, A.tmps.getD 23 undef, A.tmps.getD 24 undef, A.tmps.getD 25 undef, A.tmps.getD 26 undef, A.tmps.getD 27 undef, A.tmps.getD 28 undef, A.tmps.getD 29 undef, A.tmps.getD 30 undef, A.tmps.getD 31 undef, A.tmps.getD 32 undef, A.tmps.getD 33 undef, A.tmps.getD 34 undef, A.tmps.getD 35 undef, A.tmps.getD 36 undef, A.tmps.getD 37 undef, A.tmps.getD 38 undef, A.tmps.getD 39 undef, A.tmps.getD 40 undef, A.tmps.getD 41 undef, A.tmps.getD 42 undef, A.tmps.getD 43 undef, A.tmps.getD 44 undef, A.tmps.getD 45 undef, A.tmps.getD 46 undef, A.tmps.getD 47 undef, A.tmps.getD 48 undef, A.tmps.getD 49 undef, A.tmps.getD 50 undef, A.tmps.getD 51 undef, A.tmps.getD 52 undef, A.tmps.getD 53 undef, A.tmps.getD 54 undef, A.tmps.getD 55 undef, A.tmps.getD 56 undef, A.tmps.getD 57 undef, A.tmps.getD 58 undef, A.tmps.getD 59 undef, A.tmps.getD 60 undef, A.tmps.getD 61 undef, A.tmps.getD 62 undef, A.tmps.getD 63 undef, A.tmps.getD 64 undef, A.tmps.getD 65 undef, A.tmps.getD 66 undef, A.tmps.getD 67 undef, A.tmps.getD 68 undef, A.tmps.getD 69 undef, A.tmps.getD 70 undef, A.tmps.getD 71 undef, A.tmps.getD 72 undef, A.tmps.getD 73 undef, A.tmps.getD 74 undef, A.tmps.getD 75 undef, A.tmps.getD 76 undef, A.tmps.getD 77 undef, A.tmps.getD 78 undef, A.tmps.getD 79 undef, A.tmps.getD 80 undef, A.tmps.getD 81 undef, A.tmps.getD 82 undef, A.tmps.getD 83 undef, A.tmps.getD 84 undef, A.tmps.getD 85 undef, A.tmps.getD 86 undef, A.tmps.getD 87 undef, A.tmps.getD 88 undef, A.tmps.getD 89 undef, A.tmps.getD 90 undef, A.tmps.getD 91 undef, A.tmps.getD 92 undef, A.tmps.getD 93 undef, A.tmps.getD 94 undef, A.tmps.getD 95 undef, A.tmps.getD 96 undef, A.tmps.getD 97 undef, A.tmps.getD 98 undef, A.tmps.getD 99 undef, A.tmps.getD 100 undef, A.tmps.getD 101 undef, A.tmps.getD 102 undef, A.tmps.getD 103 undef, A.tmps.getD 104 undef, A.tmps.getD 105 undef, A.tmps.getD 106 undef, A.tmps.getD 107 undef, A.tmps.getD 108 undef, A.tmps.getD 109 undef, A.tmps.getD 110 undef, A.tmps.getD 111 undef, A.tmps.getD 112 undef, A.tmps.getD 113 undef, A.tmps.getD 114 undef, A.tmps.getD 115 undef, A.tmps.getD 116 undef, A.tmps.getD 117 undef, A.tmps.getD 118 undef, A.tmps.getD 119 undef, A.tmps.getD 120 undef, A.tmps.getD 121 undef, A.tmps.getD 122 undef], defers := [] }) : UAt bs i A := ⟨fun n => A.tmps.getD n undef, h⟩
set_option maxRecDepth 100000 in
set_option maxHeartbeats 8000000 in
/-- **strings.EqualFold** of seven bytes and the word. -/
theorem fold_calls (bs : List UInt8) (hb : bs.length = 7) (w : World) (hF : Fold w) :
    Calls Tryd.prog 21 #[.string ⟨bs.toArray⟩, .string ⟨#[100, 111, 99, 116, 121, 112, 101]⟩] w fun e w' => e = .returned (.bool (Lib.equalFold bs D7)) ∧ Below w.heap.size w w' := by
  have HF : Hid (Fold w) := hF
  have HBL : Hid (bs.length = 7) := hb
  have hz1 : (⟨bs.toArray⟩ : ByteArray).size = 7 := (byteArr_size bs).trans hb
  clear hF hb
  go_enter Tryd.func21, Tryd.ntmps21
  go_wp2
  refine wp_scope_jumps 0 (fun a' w' => w' = w ∧ ∃ i : Nat, i < 7 ∧ UAt bs i a' ∧ 128 ≤ byteAt bs i ∧ Hid (Lib.equalFold bs D7 = false)) (fun _ _ => 0) rfl ?first ?pass
  case first =>
    go_wp2
    go_loopw [5] (fun i wx => wx = w ∧ ∃ k : Nat, k ≤ 7 ∧ i = .int .i64 k ∧ Hid (Lib.equalFold (bs.drop k) (D7.drop k) = Lib.equalFold bs D7)) (fun i _ => 7 - (intOf i).toNat)
    case atStart => exact ⟨rfl, 0, by omega, rfl, rfl⟩
    case round =>
      obtain ⟨rfl, k, hk, rfl, hR⟩ := hrel
      by_cases hlt : k < 7
      · obtain ⟨x, hx⟩ : ∃ x : UInt8, bs.getD k 0 = x := ⟨_, rfl⟩
        obtain ⟨y, hy⟩ : ∃ y : UInt8, D7.getD k 0 = y := ⟨_, rfl⟩
        have hbk : k < bs.length := by rw [HBL.out]; exact hlt
        have hdk : k < D7.length := hlt
        have hx1 : bs[k] = x := by rw [← hx]; simp [List.getD, hbk]
        have hy1 : D7[k] = y := by rw [← hy]; simp [List.getD, hdk]
        have hix : ∀ w, (Instr.index 9 (.string ⟨bs.toArray⟩) (.int .i64 k)).run Tryd.prog w = .ok (.int .u8 (x.toNat : Int)) w := fun w => run_byte w 9 ⟨bs.toArray⟩ .i64 k k x Tryd.underlying9 rfl (by rw [hz1]; exact hlt) (by simpa using hx)
        have hiy : ∀ w, (Instr.index 9 (.string ⟨#[100, 111, 99, 116, 121, 112, 101]⟩) (.int .i64 k)).run Tryd.prog w = .ok (.int .u8 (y.toNat : Int)) w := fun w => run_byte w 9 ⟨D7.toArray⟩ .i64 k k y Tryd.underlying9 rfl (by rw [byteArr_size]; exact hlt) (by simpa using hy)
        obtain ⟨f1, f2, _, _⟩ := D7_fact k hlt
        rw [hy] at f1 f2
        have HX : Hid (bs.drop k = x :: bs.drop (k + 1) ∧ D7.drop k = y :: D7.drop (k + 1)) := ⟨by rw [drop_head bs k hbk, hx1], by rw [drop_head D7 k hdk, hy1]⟩
        have hlx := UInt8.toNat_lt x
        have hor : bits .or .u8 (x.toNat : Int) (y.toNat : Int) = ((x.toNat ||| y.toNat : Nat) : Int) := u8_or_nat _ _ (by omega) (by omega)
        have hbx : byteAt bs k = x.toNat := by rw [← hx]; simp [byteAt, List.getD]
        clear hx hy hx1 hy1
        by_cases hx128 : x.toNat < 128
        · have hor128 : ¬ ((128 : Int) ≤ ((x.toNat ||| y.toNat : Nat) : Int)) := by have := Nat.or_lt_two_pow (n := 7) (show x.toNat < 2 ^ 7 by omega) (show y.toNat < 2 ^ 7 by omega); omega
          clear hbx
          go_wp2
          all_goals (try simp only [beq_iff_eq, beq_eq_false_iff_ne, ne_eq] at *)
          all_goals first
            | (refine ⟨⟨trivial, k + 1, by omega, by go_num, ?_⟩, by simp [intOf]; omega⟩
               show _ = _
               rw [← hR.out, HX.out.1, HX.out.2, Lib.equalFold_yes _ _ _ _ (decide_eq_true (by omega))])
            | (simp only [Exit.jump]
               go_ret
               exact ⟨ret_is (by rw [← hR.out, HX.out.1, HX.out.2, Lib.equalFold_no _ _ _ _ (decide_eq_false (by omega))]; rfl), Below.refl _ _⟩)
        · have hor128 : (128 : Int) ≤ ((x.toNat ||| y.toNat : Nat) : Int) := by have := Nat.left_le_or (n := x.toNat) (m := y.toNat); omega
          have HE : Hid (Lib.equalFold bs D7 = false) := by show _ = _; rw [← hR.out, HX.out.1, HX.out.2, Lib.equalFold_no _ _ _ _ (decide_eq_false (by omega))]
          clear hR HX
          go_wp2
          go_step3
          (try simp only [Exit.inBlock, Exit.then])
          exact ⟨rfl, rfl, k, hlt, uat_mk rfl, by omega, HE⟩
      · obtain rfl : k = 7 := by omega
        have HE : Hid (Lib.equalFold bs D7 = true) := by
          show _ = _
          rw [← hR.out, List.drop_eq_nil_of_le (by rw [HBL.out]; exact Nat.le_refl _)]; rfl
        clear hR
        go_wp2
        simp only [Exit.jump]
        go_ret
        exact ⟨ret_is (by rw [HE.out]; rfl), Below.refl _ _⟩
  case pass =>
    rintro a' w' ⟨hw, i, hi, ⟨f, rfl⟩, h128, HE⟩
    obtain rfl : w = w' := hw.symm
    have hbl : i < bs.length := by rw [HBL.out]; exact hi
    have hsl := ext_drop bs i (by omega)
    have hslT : ∀ w, (Instr.slice 9 (.string ⟨#[100, 111, 99, 116, 121, 112, 101]⟩) (some (.int .i64 i)) none none).run Tryd.prog w = .ok (.string ⟨(D7.drop i).toArray⟩) w := ext_drop D7 i (show i ≤ 7 by omega)
    obtain ⟨y, hy⟩ : ∃ y : UInt8, D7.getD i 0 = y := ⟨_, rfl⟩
    obtain ⟨f1, f2, f3, f4⟩ := D7_fact i hi
    rw [hy] at f1 f2 f3 f4
    have hdi : i < D7.length := hi
    have hy1 : D7[i] = y := by rw [← hy]; simp [List.getD, hdi]
    rw [drop_head D7 i hdi, hy1] at hslT
    obtain ⟨ts, hts⟩ : ∃ ts, D7.drop (i + 1) = ts := ⟨_, rfl⟩
    rw [hts] at hslT
    have htl : ts.length ≤ 7 := by rw [← hts, List.length_drop]; exact Nat.sub_le _ _
    obtain ⟨B, hB⟩ : ∃ B, bs.drop i = B := ⟨_, rfl⟩
    have hB0 : 0 < B.length := by rw [← hB, List.length_drop]; omega
    have hBb : 128 ≤ byteAt B 0 := by rw [← hB, byteAt_drop]; simpa using h128
    rw [hB] at hsl
    obtain ⟨r, n, hdec, hr1, hr2⟩ := dec_high B hB0 hBb
    have hBz := byteArr_size B
    have hnx : ∀ ty, (Instr.next (.pointer (some ⟨w.heap.size, 0, none⟩)) true ty).run Tryd.prog (w.iter ⟨B.toArray⟩ 0) = _ := fun ty => run_next_any w ⟨B.toArray⟩ 0 ty (by rw [hBz]; exact hB0)
    rw [hdec] at hnx
    simp only at hnx
    have hyz := byteArr_size (y :: ts)
    have HD : Hid (∀ w, Calls Tryd.prog 33 #[.string ⟨(y :: ts).toArray⟩] w fun e w' => e = .returned (.tuple #[.int .i32 y.toNat, .int .i64 1]) ∧ Below w.heap.size w w') := fun w => dec_first y ts (by omega) w
    have hslY := ext_drop (y :: ts) 1 (by simp)
    clear hB h128 hBb hdec hB0 hts hy hy1 hdi
    go_wp2_with fail
    go_loopw [1] (fun t wx => wx = w.iter ⟨B.toArray⟩ 0 ∧ t = .string ⟨(y :: ts).toArray⟩) (fun _ _ => 0)
    case atStart => exact ⟨rfl, rfl⟩
    case round =>
      obtain ⟨rfl, rfl⟩ := hrel
      have hbi : Below w.heap.size w (w.iter ⟨B.toArray⟩ n) := (Below.refl _ w).alloc (Nat.le_refl _) _
      have HBI : Hid (Below w.heap.size w (w.iter ⟨B.toArray⟩ n)) := hbi
      clear hbi
      have g1 : ((y.toNat : Int) == (r : Int)) = false := by simp; omega
      have g2 : decide ((y.toNat : Int) < (r : Int)) = true := by rw [decide_eq_true_eq]; omega
      have g3 : decide ((r : Int) < 128) = false := by rw [decide_eq_false_iff_not]; omega
      have g0 : (((y :: ts).length : Int) == 0) = false := by simp; omega
      go_wp2_with fail
      (go_at_call 33; refine (HD.out _).mono ?_; rintro e w2 ⟨rfl, hb2⟩)
      have hB2 := HBI.out.trans (hb2.mono HBI.out.size)
      have HS1 : Hid (Calls Tryd.prog 34 #[.int .i32 y.toNat] w2 fun e w' => e = .returned (.int .i32 (y.toNat - 32 : Nat)) ∧ w' = w2) := simpleFold_calls y.toNat (y.toNat - 32) (by omega) f3 (by omega) w2 (fold_below HF.out hB2)
      have HS2 : Hid (Calls Tryd.prog 34 #[.int .i32 (y.toNat - 32 : Nat)] w2 fun e w' => e = .returned (.int .i32 y.toNat) ∧ w' = w2) := simpleFold_calls (y.toNat - 32) y.toNat (by omega) f4 (by omega) w2 (fold_below HF.out hB2)
      obtain ⟨v, hv⟩ : ∃ v, y.toNat - 32 = v := ⟨_, rfl⟩
      rw [hv] at HS1 HS2
      have hvy : v < y.toNat := by omega
      clear hv f3 f4
      go_wp2_with fail
      (go_at_call 34; refine HS1.out.mono ?_; rintro e w3 ⟨rfl, h3⟩; obtain rfl : w2 = w3 := h3.symm)
      go_wp2_with fail
      go_loopw [13] (fun r13 wx => wx = w2 ∧ (r13 = .int .i32 v ∨ r13 = .int .i32 y.toNat)) (fun r13 _ => y.toNat - (intOf r13).toNat)
      case atStart => exact ⟨rfl, .inl rfl⟩
      case round =>
        obtain ⟨hwx, hrel⟩ := hrel
        obtain rfl : w2 = wr := hwx.symm
        rcases hrel with rfl | rfl
        · have k1 : ((v : Int) != (y.toNat : Int)) = true := by rw [bne_iff_ne]; omega
          have k2 : decide ((v : Int) < (r : Int)) = true := by rw [decide_eq_true_eq]; omega
          go_wp2_with fail
          (go_at_call 34; refine HS2.out.mono ?_; rintro e w3 ⟨rfl, h3⟩; obtain rfl : w2 = w3 := h3.symm)
          go_wp2_with fail
          go_roundw
          case rel => first | exact ⟨rfl, .inr rfl⟩ | exact ⟨trivial, .inr rfl⟩
          case measure => simp [intOf]; omega
        · have k1 : ((y.toNat : Int) != (y.toNat : Int)) = false := by simp
          go_wp2_with fail
          simp only [Exit.jump]
          go_ret
          exact ⟨ret_is (by rw [HE.out]; rfl), hB2⟩
end Go.Proofs.YtckhnkkmcgbabaaDoor.K
