/- What is proved here: laws and contracts of LpGood, LkEnc, one behind the other (each says its own). -/
import Derived.Test.YthjjigobkndgjaaGreatDoorBun15
import Derived.Lib.QuietBelow
import Derived.BigQuiet
import Derived.Lib.SlBytesConst
import Derived.Test.YthjjigobkndgjaaGreatDoorLkEncM
/- What is proved here: the contracts of link.goodDesc and of the document's numeral and good. -/
namespace Go.Proofs.YthjjigobkndgjaaGreatDoor.L
open Go.RowKit Go.Shelf Go.Proofs.YthjjigobkndgjaaGreatDoor.N Go.Proofs.YthjjigobkndgjaaGreatDoor.U

theorem dot_calls (f : List UInt8) (w : World) : Calls Tryz.prog 44 #[.string ⟨(46 :: f).toArray⟩, .string ⟨#[46]⟩] w fun e w' => e = .returned (.tuple #[.string ⟨f.toArray⟩, .bool true]) ∧ w' = w :=
  Any.strings_CutPrefix Tryz.lays103 ⟨(46 :: f).toArray⟩ ⟨#[46]⟩ w
theorem nodot_calls (u : List UInt8) (h : ([46] : List UInt8).isPrefixOf u = false) (w : World) : Calls Tryz.prog 44 #[.string ⟨u.toArray⟩, .string ⟨#[46]⟩] w fun e w' => e = .returned (.tuple #[.string ⟨u.toArray⟩, .bool false]) ∧ w' = w := by
  have := Any.strings_CutPrefix Tryz.lays103 ⟨u.toArray⟩ ⟨#[46]⟩ w
  have e : Lib.hasPrefix u [46] = false := h
  simp only [Lib.trimPrefix, e] at this
  exact this
theorem dot_open (u : List UInt8) : ([46].isPrefixOf u = false) ∨ ∃ f, u = 46 :: f ∧ ([46] : List UInt8).isPrefixOf u = true := by
  cases u with
  | nil => exact .inl rfl
  | cons a t =>
    by_cases h : a = 46
    · subst h; exact .inr ⟨t, rfl, by simp [List.isPrefixOf]⟩
    · left; simp [List.isPrefixOf]; exact fun e => h e.symm
set_option maxRecDepth 100000 in
set_option maxHeartbeats 4000000 in
/-- **goodDesc.** -/
theorem goodDesc_calls (d : List UInt8) (w : World) (hl : d.length ≤ 100000000000) : Calls Tryz.prog 24 #[.string ⟨d.toArray⟩] w fun e w' => e = .returned (.bool (goodP d)) ∧ w' = w := by
  cases hd : (d == []) with
  | true =>
    have HV : Hid (goodP d = true) := by show _ = _; unfold goodP; rw [hd]; rfl
    go_enter Tryz.func24, Tryz.ntmps24
    go_wp2_with fail
    go_ret
    exact ⟨by rw [HV.out]; rfl, rfl⟩
  | false =>
    have HN := hid_of (number_calls d w hl)
    have hdl : (d.drop (digitsN d)).length ≤ 100000000000 := by rw [List.length_drop]; omega
    have HV : Hid (goodP d = if numOk d && [46].isPrefixOf (d.drop (digitsN d)) then numOk ((d.drop (digitsN d)).drop 1) && (((d.drop (digitsN d)).drop 1).drop (digitsN ((d.drop (digitsN d)).drop 1)) == [120])
      else numOk d && (d.drop (digitsN d) == [119] || d.drop (digitsN d) == [120])) := by show _ = _; unfold goodP; rw [hd]; rfl
    obtain ⟨u, hu⟩ : ∃ u, d.drop (digitsN d) = u := ⟨_, rfl⟩
    rw [hu] at HN HV hdl
    obtain ⟨ok, hok⟩ : ∃ b, numOk d = b := ⟨_, rfl⟩
    rw [hok] at HN HV
    clear hu hok
    rcases dot_open u with hpf | ⟨f, rfl, hpf⟩
    · have HC := hid_of (nodot_calls u hpf w)
      rw [hpf, Bool.and_false] at HV
      clear hpf
      cases ok with
      | false =>
        have HV2 : Hid (goodP d = false) := by show _ = _; rw [HV.out]; rfl
        clear HV
        go_enter Tryz.func24, Tryz.ntmps24
        go_wp2_with fail
        (go_at_call 58; refine HN.out.mono ?_; rintro e w' ⟨rfl, hx⟩; obtain rfl : w = w' := hx.symm)
        go_wp2_with fail
        (go_at_call 44; refine HC.out.mono ?_; rintro e w' ⟨rfl, hx⟩; obtain rfl : w = w' := hx.symm)
        go_wp2_with fail
        go_ret
        exact ⟨by rw [HV2.out]; rfl, rfl⟩
      | true =>
        have HV2 : Hid (goodP d = (u == [119] || u == [120])) := by show _ = _; rw [HV.out]; rfl
        clear HV
        cases h1 : (u == [119]) with
        | true =>
          rw [h1] at HV2
          go_enter Tryz.func24, Tryz.ntmps24
          go_wp2_with fail
          (go_at_call 58; refine HN.out.mono ?_; rintro e w' ⟨rfl, hx⟩; obtain rfl : w = w' := hx.symm)
          go_wp2_with fail
          (go_at_call 44; refine HC.out.mono ?_; rintro e w' ⟨rfl, hx⟩; obtain rfl : w = w' := hx.symm)
          go_wp2_with fail
          go_ret
          exact ⟨by rw [HV2.out]; rfl, rfl⟩
        | false =>
          rw [h1] at HV2
          cases h2 : (u == [120]) with
          | true =>
            rw [h2] at HV2
            go_enter Tryz.func24, Tryz.ntmps24
            go_wp2_with fail
            (go_at_call 58; refine HN.out.mono ?_; rintro e w' ⟨rfl, hx⟩; obtain rfl : w = w' := hx.symm)
            go_wp2_with fail
            (go_at_call 44; refine HC.out.mono ?_; rintro e w' ⟨rfl, hx⟩; obtain rfl : w = w' := hx.symm)
            go_wp2_with fail
            go_ret
            exact ⟨by rw [HV2.out]; rfl, rfl⟩
          | false =>
            rw [h2] at HV2
            go_enter Tryz.func24, Tryz.ntmps24
            go_wp2_with fail
            (go_at_call 58; refine HN.out.mono ?_; rintro e w' ⟨rfl, hx⟩; obtain rfl : w = w' := hx.symm)
            go_wp2_with fail
            (go_at_call 44; refine HC.out.mono ?_; rintro e w' ⟨rfl, hx⟩; obtain rfl : w = w' := hx.symm)
            go_wp2_with fail
            go_ret
            exact ⟨by rw [HV2.out]; rfl, rfl⟩
    · have HC := hid_of (dot_calls f w)
      rw [hpf, Bool.and_true] at HV
      have hfl : f.length ≤ 100000000000 := by simp at hdl; omega
      have HN2 := hid_of (number_calls f w hfl)
      clear hpf hdl
      cases ok with
      | false =>
        have HV2 : Hid (goodP d = false) := by show _ = _; rw [HV.out]; rfl
        clear HV
        generalize 46 :: f = u at *
        go_enter Tryz.func24, Tryz.ntmps24
        go_wp2_with fail
        (go_at_call 58; refine HN.out.mono ?_; rintro e w' ⟨rfl, hx⟩; obtain rfl : w = w' := hx.symm)
        go_wp2_with fail
        (go_at_call 44; refine HC.out.mono ?_; rintro e w' ⟨rfl, hx⟩; obtain rfl : w = w' := hx.symm)
        go_wp2_with fail
        go_ret
        exact ⟨by rw [HV2.out]; rfl, rfl⟩
      | true =>
        have HV2 : Hid (goodP d = (numOk f && (f.drop (digitsN f) == [120]))) := by show _ = _; rw [HV.out]; rfl
        clear HV
        generalize 46 :: f = u at *
        generalize f.drop (digitsN f) = v at *
        generalize numOk f = ok2 at *
        cases ok2 with
        | false =>
          go_enter Tryz.func24, Tryz.ntmps24
          go_wp2_with fail
          (go_at_call 58; refine HN.out.mono ?_; rintro e w' ⟨rfl, hx⟩; obtain rfl : w = w' := hx.symm)
          go_wp2_with fail
          (go_at_call 44; refine HC.out.mono ?_; rintro e w' ⟨rfl, hx⟩; obtain rfl : w = w' := hx.symm)
          go_wp2_with fail
          (go_at_call 58; refine HN2.out.mono ?_; rintro e w' ⟨rfl, hx⟩; obtain rfl : w = w' := hx.symm)
          go_wp2_with fail
          go_ret
          exact ⟨by rw [HV2.out]; rfl, rfl⟩
        | true =>
          cases h2 : (v == [120]) with
          | true =>
            rw [h2] at HV2
            go_enter Tryz.func24, Tryz.ntmps24
            go_wp2_with fail
            (go_at_call 58; refine HN.out.mono ?_; rintro e w' ⟨rfl, hx⟩; obtain rfl : w = w' := hx.symm)
            go_wp2_with fail
            (go_at_call 44; refine HC.out.mono ?_; rintro e w' ⟨rfl, hx⟩; obtain rfl : w = w' := hx.symm)
            go_wp2_with fail
            (go_at_call 58; refine HN2.out.mono ?_; rintro e w' ⟨rfl, hx⟩; obtain rfl : w = w' := hx.symm)
            go_wp2_with fail
            go_ret
            exact ⟨by rw [HV2.out]; rfl, rfl⟩
          | false =>
            rw [h2] at HV2
            go_enter Tryz.func24, Tryz.ntmps24
            go_wp2_with fail
            (go_at_call 58; refine HN.out.mono ?_; rintro e w' ⟨rfl, hx⟩; obtain rfl : w = w' := hx.symm)
            go_wp2_with fail
            (go_at_call 44; refine HC.out.mono ?_; rintro e w' ⟨rfl, hx⟩; obtain rfl : w = w' := hx.symm)
            go_wp2_with fail
            (go_at_call 58; refine HN2.out.mono ?_; rintro e w' ⟨rfl, hx⟩; obtain rfl : w = w' := hx.symm)
            go_wp2_with fail
            go_ret
            exact ⟨by rw [HV2.out]; rfl, rfl⟩
set_option maxRecDepth 100000 in
set_option maxHeartbeats 2000000 in
/-- **numeral.** -/
theorem numeral_calls (s : List UInt8) (w : World) (hl : s.length ≤ 100000000000) : Calls Tryz.prog 60 #[.string ⟨s.toArray⟩] w fun e w' => e = .returned (.bool (numeralB s)) ∧ w' = w := by
  have ss := arr_size s
  by_cases h1 : 1 ≤ s.length ∧ s.length ≤ 9
  · obtain ⟨h1, h9⟩ := h1
    have d1 : decide ((s.length : Int) < 1) = false := by rw [decide_eq_false_iff_not]; omega
    have d2 : decide ((s.length : Int) > 9) = false := by rw [decide_eq_false_iff_not]; omega
    have HV : Hid (numeralB s = s.all digB) := by show _ = _; unfold numeralB; rw [decide_eq_true h1, decide_eq_true h9]; rfl
    go_enter Tryz.func60, Tryz.ntmps60
    go_wp2_with fail
    go_loopw [14] (fun vi wr => ∃ k : Nat, k ≤ s.length ∧ vi = .int .i64 k ∧ wr = w ∧ Hid (∀ j, j < k → digB (s.getD j 0) = true)) (fun vi _ => s.length - (intOf vi).toNat)
    case atStart => exact ⟨0, by omega, rfl, by trivial, fun j hj => by omega⟩
    case round =>
      obtain ⟨k, hk, rfl, hwr, hP⟩ := hrel
      obtain rfl : w = wr := hwr.symm
      clear hwr
      by_cases hlt : k < s.length
      · obtain ⟨c, hc⟩ : ∃ c, s.getD k 0 = c := ⟨_, rfl⟩
        have hix := byte_at s k c hlt hc (k : Int) rfl
        have w32 : wrap32 (c.toNat : Int) = c.toNat := by have := c.toNat_lt; unfold wrap32; omega
        have HDI : Hid (Calls Tryz.prog 91 #[.int .i32 (c.toNat : Int)] w fun e w' => e = .returned (.bool (digB c)) ∧ w' = w) := rdigit_calls (c.toNat : Int) w
        have HC := hid_of hc
        clear hc
        cases hd : digB c with
        | true =>
          rw [hd] at HDI
          have HP2 : Hid (∀ j, j < k + 1 → digB (s.getD j 0) = true) := fun j hj => by
            by_cases e : j = k
            · rw [e, HC.out]; exact hd
            · exact hP.out j (by omega)
          clear hd hP
          go_wp2_with fail
          (go_at_call 91; refine HDI.out.mono ?_; rintro e w' ⟨rfl, hx⟩; obtain rfl : w = w' := hx.symm)
          go_wp2_with fail
          exact ⟨⟨k + 1, by omega, by go_num, by trivial, HP2⟩, by simp [intOf]; omega⟩
        | false =>
          rw [hd] at HDI
          have HZ : Hid (s.all digB = false) := List.all_eq_false.2 ⟨s[k], List.getElem_mem hlt, by rw [← getD_at s k hlt, HC.out, hd]; decide⟩
          clear hd hP
          go_wp2_with fail
          (go_at_call 91; refine HDI.out.mono ?_; rintro e w' ⟨rfl, hx⟩; obtain rfl : w = w' := hx.symm)
          go_wp2_with fail
          go_ret
          exact ⟨by rw [HV.out, HZ.out]; rfl, rfl⟩
      · obtain rfl : k = s.length := by omega
        have HZ : Hid (s.all digB = true) := List.all_eq_true.2 (fun c hc => by
          obtain ⟨j, hj, rfl⟩ := List.mem_iff_getElem.1 hc
          have := hP.out j hj
          rwa [getD_at s j hj] at this)
        clear hP
        go_wp2_with fail
        go_ret
        exact ⟨by rw [HV.out, HZ.out]; rfl, rfl⟩
  · have HV : Hid (numeralB s = false) := by
      show _ = _
      unfold numeralB
      by_cases h2 : 1 ≤ s.length
      · rw [decide_eq_false (show ¬ s.length ≤ 9 by omega)]; simp
      · rw [decide_eq_false h2]; simp
    by_cases h2 : s.length < 1
    · go_enter Tryz.func60, Tryz.ntmps60
      go_wp2_with fail
      go_ret
      exact ⟨by rw [HV.out]; rfl, rfl⟩
    · have d1 : decide ((s.length : Int) < 1) = false := by rw [decide_eq_false_iff_not]; omega
      have d2 : decide ((s.length : Int) > 9) = true := by rw [decide_eq_true_eq]; omega
      go_enter Tryz.func60, Tryz.ntmps60
      go_wp2_with fail
      go_ret
      exact ⟨by rw [HV.out]; rfl, rfl⟩
end Go.Proofs.YthjjigobkndgjaaGreatDoor.L

/- What is proved here: the document's Encode of layer 12. -/
namespace Go.Proofs.YthjjigobkndgjaaGreatDoor.L
open Go.RowKit Go.Shelf Go.Proofs.YthjjigobkndgjaaGreatDoor.N Go.Proofs.YthjjigobkndgjaaGreatDoor.U

theorem mark_cells (w : World) (t : TypeId) : ∀ j, j < 9 → (w.alloc (.cells (marks.map fun c => Value.int .u8 (c.toNat : Int)).toArray t (9, 10))).cell? ⟨w.heap.size, j, none⟩ = some (.int .u8 ((marks.getD j 0).toNat : Int)) := fun j hj => by
  rw [cell_of_row _ _ _ _ _ _ (World.alloc_heap_new w _)]
  match j, hj with
  | 0, _ => rfl
  | 1, _ => rfl
  | 2, _ => rfl
  | 3, _ => rfl
  | 4, _ => rfl
  | 5, _ => rfl
  | 6, _ => rfl
  | 7, _ => rfl
  | 8, _ => rfl
  | (n + 9), h => exact absurd h (by omega)
theorem mark_step (c : UInt8) (j : Nat) (hj : j < 9) : (marks.take (j + 1)).contains c = ((marks.take j).contains c || c == marks.getD j 0) := by
  have hb : ∀ z : UInt8, (c == z) = decide (c = z) := fun z => by by_cases h : c = z <;> simp [h]
  match j, hj with
  | 0, _ => simp [marks, hb]
  | 1, _ => simp [marks, hb]
  | 2, _ => simp [marks, Bool.or_assoc, hb]
  | 3, _ => simp [marks, Bool.or_assoc, hb]
  | 4, _ => simp [marks, Bool.or_assoc, hb]
  | 5, _ => simp [marks, Bool.or_assoc, hb]
  | 6, _ => simp [marks, Bool.or_assoc, hb]
  | 7, _ => simp [marks, Bool.or_assoc, hb]
  | 8, _ => simp [marks, Bool.or_assoc, hb]
  | (n + 9), h => exact absurd h (by omega)
theorem enc_byte (c : UInt8) (h : c.toNat < 128) : enc (c.toNat : Int) = [c] := by
  have h1 : (0 : Int) ≤ (c.toNat : Int) := Int.natCast_nonneg _
  have h2 : (c.toNat : Int) < 128 := by omega
  rw [enc_one h1 h2, Int.toNat_natCast, UInt8.ofNat_toNat]
theorem enc_is (r : Int) (c : UInt8) (h : enc r = [c]) : Utf8.encode r = ⟨[c].toArray⟩ := by
  unfold enc at h
  exact bytes_ext h
theorem conv_byte (c : UInt8) (h : c.toNat < 128) : Utf8.encode (c.toNat : Int) = ⟨[c].toArray⟩ := enc_is _ c (enc_byte c h)
theorem cat_text (a b : List UInt8) : (⟨a.toArray⟩ : ByteArray) ++ ⟨b.toArray⟩ = ⟨(a ++ b).toArray⟩ := by
  apply ByteArray.ext
  rw [ByteArray.data_append]
  simp
theorem hex_slice (n : Nat) (h : n < 16) (i j : Int) (hi : i = n) (hj : j = n + 1) (w : World) : (Instr.slice 9 (.string ⟨#[48, 49, 50, 51, 52, 53, 54, 55, 56, 57, 65, 66, 67, 68, 69, 70]⟩) (some (.int .u8 i)) (some (.int .u8 j)) none).run Tryz.prog w = .ok (.string ⟨[hexD n].toArray⟩) w := by
  subst hi hj
  have e : (⟨#[48, 49, 50, 51, 52, 53, 54, 55, 56, 57, 65, 66, 67, 68, 69, 70]⟩ : ByteArray).extract n (n + 1) = ⟨[hexD n].toArray⟩ := by
    have : ∀ k : Fin 16, ((⟨#[48, 49, 50, 51, 52, 53, 54, 55, 56, 57, 65, 66, 67, 68, 69, 70]⟩ : ByteArray).extract k.val (k.val + 1)).data.toList = [hexD k.val] := by decide +kernel
    exact bytes_ext (this ⟨n, h⟩)
  have h1 : (n : Int) ≤ 16 := by omega
  have h2 : (n : Int) + 1 ≤ 16 := by omega
  have h3 : ((n : Int) + 1).toNat = n + 1 := by omega
  simp [Instr.slice, run_underlying Tryz.underlying9, Instr.sliceBounds, run_sliceBound, h2, h3, e, (by omega : (0 : Int) ≤ (n : Int) + 1), go_sem]

end Go.Proofs.YthjjigobkndgjaaGreatDoor.L
