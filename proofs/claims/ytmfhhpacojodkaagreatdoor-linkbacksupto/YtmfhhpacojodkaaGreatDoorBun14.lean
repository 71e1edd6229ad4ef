/- What is proved here: laws and contracts of LpAuth, LpSetF, one behind the other (each says its own). -/
import Derived.Test.YtmfhhpacojodkaaGreatDoorLkPairM
import Derived.Test.YtmfhhpacojodkaaGreatDoorTShelf
import Derived.Lib.QuietBelow
import Derived.BigQuiet
import Derived.OwnWalk
import Derived.Test.YtmfhhpacojodkaaGreatDoorLkSetK
import Derived.Test.YtmfhhpacojodkaaGreatDoorLpShelfS
import Derived.Test.YtmfhhpacojodkaaGreatDoorLpShelfC
/- What is proved here: the contracts of link.digits and link.Authority. -/
namespace Go.Proofs.YtmfhhpacojodkaaGreatDoor.L
open Go.RowKit Go.Shelf Go.Proofs.YtmfhhpacojodkaaGreatDoor.N Go.Proofs.YtmfhhpacojodkaaGreatDoor.U

theorem get_dataP (l : List UInt8) (j : Nat) (hj : j < l.length) : (⟨l.toArray⟩ : ByteArray).data[j]! = l.getD j 0 := by
  simp [hj]
theorem lastPos (p : List UInt8) (c : UInt8) (z : Int) (hz : z = (c.toNat : Int)) : Lib.lastIndexByte ⟨p.toArray⟩ z = (lastN c p : Int) - 1 := by
  subst hz
  have hz : (⟨p.toArray⟩ : ByteArray).size = p.length := arr_size p
  have key : ∀ j, j < p.length → ((⟨p.toArray⟩ : ByteArray).data[j]!.toNat : Int) ≠ (c.toNat : Int) → (p.getD j 0 == c) = false := fun j hj h => by
    rw [get_dataP p j hj] at h
    rw [← eq_byte]
    exact beq_eq_false_iff_ne.2 h
  unfold Lib.lastIndexByte
  rw [hz]
  rcases Lib.lastIdx_spec ⟨p.toArray⟩ (c.toNat : Int) p.length with ⟨e, h⟩ | ⟨i, hi, e, h1, h2⟩
  · rw [e, lastN_at c p 0 (by omega) (fun j _ hj => key j hj (h j hj)) (.inl rfl)]
    rfl
  · rw [e, lastN_at c p (i + 1) (by omega) (fun j hj1 hj2 => key j hj2 (h2 j (by omega) hj2)) (.inr (by
      rw [get_dataP p i hi] at h1
      rw [show i + 1 - 1 = i by omega, ← eq_byte]
      exact beq_iff_eq.2 h1))]
    omega
theorem lastIx_calls (p : List UInt8) (c : UInt8) (z : Int) (hz : z = (c.toNat : Int)) (w : World) (hp : p.length ≤ 100000000000) : Calls Tryz.prog 38 #[.string ⟨p.toArray⟩, .int .u8 z] w fun e w' => e = .returned (.int .i64 ((lastN c p : Int) - 1)) ∧ w' = w := by
  have := Any.strings_LastIndexByte Tryz.lays149 ⟨p.toArray⟩ z (by rw [arr_size]; omega) w
  rw [lastPos p c z hz] at this
  exact this
set_option maxRecDepth 100000 in
set_option maxHeartbeats 2000000 in
/-- **digits.** -/
theorem digits_calls (s : List UInt8) (w : World) (hl : s.length ≤ 100000000000) : Calls Tryz.prog 83 #[.string ⟨s.toArray⟩] w fun e w' => e = .returned (.int .i64 (digitsN s : Nat)) ∧ w' = w := by
  have ss := arr_size s
  go_enter Tryz.func83, Tryz.ntmps83
  go_wp2_with fail
  go_loopw [3] (fun vi wr => ∃ k : Nat, k ≤ s.length ∧ vi = .int .i64 k ∧ wr = w ∧ Hid (∀ j, j < k → digB (s.getD j 0) = true)) (fun vi _ => s.length - (intOf vi).toNat)
  case atStart => exact ⟨0, by omega, rfl, by trivial, fun j hj => by omega⟩
  case round =>
    obtain ⟨k, hk, rfl, hwr, hP⟩ := hrel
    obtain rfl : w = wr := hwr.symm
    clear hwr
    by_cases hlt : k < s.length
    · obtain ⟨c, hc⟩ : ∃ c, s.getD k 0 = c := ⟨_, rfl⟩
      have hix := byte_at s k c hlt hc (k : Int) rfl
      have w32 : wrap32 (c.toNat : Int) = c.toNat := by have := c.toNat_lt; unfold wrap32; omega
      have HDI : Hid (Calls Tryz.prog 61 #[.int .i32 (c.toNat : Int)] w fun e w' => e = .returned (.bool (digB c)) ∧ w' = w) := digit_calls (c.toNat : Int) w
      have HC := hid_of hc
      clear hc
      cases hd : digB c with
      | true =>
        rw [hd] at HDI
        have HP2 : Hid (∀ j, j < k + 1 → digB (s.getD j 0) = true) := fun j hj => by
          by_cases e : j = k
          · rw [e, HC.out]; exact hd
          · exact hP.out j (by omega)
        clear hd hP
        go_wp2_with fail
        (go_at_call 61; refine HDI.out.mono ?_; rintro e w' ⟨rfl, hx⟩; obtain rfl : w = w' := hx.symm)
        go_wp2_with fail
        exact ⟨⟨k + 1, by omega, by go_num, by trivial, HP2⟩, by simp [intOf]; omega⟩
      | false =>
        rw [hd] at HDI
        have HZ : Hid (digitsN s = k) := digitsN_at s k hk hP.out (.inr (by rw [HC.out]; exact hd))
        clear hd hP
        go_wp2_with fail
        (go_at_call 61; refine HDI.out.mono ?_; rintro e w' ⟨rfl, hx⟩; obtain rfl : w = w' := hx.symm)
        go_wp2_with fail
        go_ret
        exact ⟨by rw [HZ.out]; rfl, rfl⟩
    · obtain rfl : k = s.length := by omega
      have HZ : Hid (digitsN s = s.length) := digitsN_at s _ (Nat.le_refl _) hP.out (.inl rfl)
      clear hP
      go_wp2_with fail
      go_ret
      exact ⟨by rw [HZ.out]; rfl, rfl⟩
end Go.Proofs.YtmfhhpacojodkaaGreatDoor.L

/- What is proved here: the library's calls of a srcset (strings.TrimLeftFunc, IndexFunc, FieldsFunc and Join, TrimRight of commas), and the contracts of link.descEnd, link.number and link.goodDesc. -/
namespace Go.Proofs.YtmfhhpacojodkaaGreatDoor.L
open Go.RowKit Go.Shelf Go.Proofs.YtmfhhpacojodkaaGreatDoor.N Go.Proofs.YtmfhhpacojodkaaGreatDoor.U

set_option maxRecDepth 100000 in
set_option maxHeartbeats 1000000 in
theorem blankL_calls (x : Nat) (w : World) : Calls Tryz.prog 47 #[.int .i32 (x : Int)] w fun e w' => e = .returned (.bool (gapP x)) ∧ w' = w := by
  have HB := hid_of (blank_calls (x : Int) w)
  have HV : Hid (gapP x = (blankZ (x : Int) || ((x : Int) == 13))) := rfl
  cases hb : blankZ (x : Int) with
  | true =>
    rw [hb] at HB HV
    go_enter Tryz.func47, Tryz.ntmps47
    go_wp2_with fail
    (go_at_call 77; refine HB.out.mono ?_; rintro e w' ⟨rfl, hx⟩; obtain rfl : w = w' := hx.symm)
    go_wp2_with fail
    go_ret
    exact ⟨by rw [HV.out]; rfl, rfl⟩
  | false =>
    rw [hb] at HB HV
    cases h13 : ((x : Int) == 13) with
    | true =>
      rw [h13] at HV
      go_enter Tryz.func47, Tryz.ntmps47
      go_wp2_with fail
      (go_at_call 77; refine HB.out.mono ?_; rintro e w' ⟨rfl, hx⟩; obtain rfl : w = w' := hx.symm)
      go_wp2_with fail
      go_ret
      exact ⟨by rw [HV.out]; rfl, rfl⟩
    | false =>
      rw [h13] at HV
      go_enter Tryz.func47, Tryz.ntmps47
      go_wp2_with fail
      (go_at_call 77; refine HB.out.mono ?_; rintro e w' ⟨rfl, hx⟩; obtain rfl : w = w' := hx.symm)
      go_wp2_with fail
      go_ret
      exact ⟨by rw [HV.out]; rfl, rfl⟩
set_option maxRecDepth 100000 in
set_option maxHeartbeats 1000000 in
theorem between_calls (x : Nat) (w : World) : Calls Tryz.prog 20 #[.int .i32 (x : Int)] w fun e w' => e = .returned (.bool (betP x)) ∧ w' = w := by
  have HB := hid_of (blankL_calls x w)
  have HV : Hid (betP x = (gapP x || ((x : Int) == 44))) := rfl
  cases hb : gapP x with
  | true =>
    rw [hb] at HB HV
    go_enter Tryz.func20, Tryz.ntmps20
    go_wp2_with fail
    (go_at_call 47; refine HB.out.mono ?_; rintro e w' ⟨rfl, hx⟩; obtain rfl : w = w' := hx.symm)
    go_wp2_with fail
    go_ret
    exact ⟨by rw [HV.out]; rfl, rfl⟩
  | false =>
    rw [hb] at HB HV
    cases h13 : ((x : Int) == 44) with
    | true =>
      rw [h13] at HV
      go_enter Tryz.func20, Tryz.ntmps20
      go_wp2_with fail
      (go_at_call 47; refine HB.out.mono ?_; rintro e w' ⟨rfl, hx⟩; obtain rfl : w = w' := hx.symm)
      go_wp2_with fail
      go_ret
      exact ⟨by rw [HV.out]; rfl, rfl⟩
    | false =>
      rw [h13] at HV
      go_enter Tryz.func20, Tryz.ntmps20
      go_wp2_with fail
      (go_at_call 47; refine HB.out.mono ?_; rintro e w' ⟨rfl, hx⟩; obtain rfl : w = w' := hx.symm)
      go_wp2_with fail
      go_ret
      exact ⟨by rw [HV.out]; rfl, rfl⟩
theorem pred_gap (w : World) : PredGrows Tryz.prog 47 #[] gapP w := fun W x _ _ => (blankL_calls x W).mono fun _ _ h => ⟨h.1, by rw [h.2]; exact Below.refl _ _⟩
theorem pred_bet (w : World) : PredGrows Tryz.prog 20 #[] betP w := fun W x _ _ => (between_calls x W).mono fun _ _ h => ⟨h.1, by rw [h.2]; exact Below.refl _ _⟩
theorem trimBet_calls (s : List UInt8) (w : World) : Calls Tryz.prog 19 #[.string ⟨s.toArray⟩, .func (.func 20) #[] #[]] w fun e w' => e = .returned (.string ⟨(s.drop (noN betS s)).toArray⟩) ∧ Below w.heap.size w w' := by
  have h := Any.strings_TrimLeftFunc_grows Tryz.lays272 20 #[] (enters_of Tryz.func20 (by kernel_rfl) rfl) betP ⟨s.toArray⟩ w (pred_bet w)
  rw [trim_low low_bet s] at h
  exact h
set_option maxRecDepth 100000 in
set_option maxHeartbeats 1000000 in
theorem indexGap_calls (s : List UInt8) (w : World) : Calls Tryz.prog 48 #[.string ⟨s.toArray⟩, .func (.func 47) #[] #[]] w fun e w' => e = .returned (.int .i64 (if yesN gapS s < s.length then (yesN gapS s : Int) else -1)) ∧ Below w.heap.size w w' := by
  have HI := Any.strings_indexFunc_grows Tryz.lays315 47 #[] (enters_of Tryz.func47 (by kernel_rfl) rfl) gapP true ⟨s.toArray⟩ w (pred_gap w)
  rw [index_low low_gap s] at HI
  generalize (if yesN gapS s < s.length then (yesN gapS s : Int) else -1) = I at *
  have HI : Hid (Calls Tryz.prog 46 #[.string ⟨s.toArray⟩, .func (.func 47) #[] #[], .bool true] w fun e w' => e = .returned (.int .i64 I) ∧ Below w.heap.size w w') := HI
  go_enter Tryz.func48, Tryz.ntmps48
  go_wp2_with fail
  (go_at_call 46; refine HI.out.mono ?_; rintro e w1 ⟨rfl, hb⟩)
  go_wp2_with fail
  go_ret
  exact ⟨rfl, hb⟩
theorem trimComma_calls (s : List UInt8) (w : World) (hs : s.length ≤ 1000000000000) : Calls Tryz.prog 49 #[.string ⟨s.toArray⟩, .string ⟨#[44]⟩] w fun e w' => e = .returned (.string ⟨(Lib.trimRightB s 44).toArray⟩) ∧ w' = w :=
  Any.strings_TrimRight_one Tryz.lays162 ⟨s.toArray⟩ 44 (by decide) w (by rw [arr_size]; omega)
theorem builderXJ : Builder.Extra Tryz.prog Tryz.lays156_ren := {
  sizeBuilder := by kernel_rfl
  liesBuilder := by kernel_rfl
  t5 := Tryz.underlying5
  a5 := Tryz.isAgg5
  z5 := Tryz.sizeOf5
  v5 := Tryz.zeroValue5
  infoByte := by kernel_rfl
  cellsByte := by kernel_rfl
  sizeByte := by kernel_rfl
  neB5 := by decide }
theorem sqStep_le (q : UInt8 → Bool) (st : List UInt8 × Bool) (c : UInt8) : (sqStep q st c).1.length ≤ st.1.length + 2 := by
  unfold sqStep
  split
  · simp
  · split <;> simp
theorem sq_len (q : UInt8 → Bool) : ∀ (s : List UInt8) (st : List UInt8 × Bool), (s.foldl (sqStep q) st).1.length ≤ st.1.length + 2 * s.length
  | [], st => by simp
  | c :: t, st => by
    have h1 := sq_len q t (sqStep q st c)
    have h2 := sqStep_le q st c
    rw [List.foldl_cons, List.length_cons]
    omega
theorem sqF_le (q : UInt8 → Bool) (s : List UInt8) : (sqF q s).1.length ≤ 2 * s.length := by
  have := sq_len q s ([], false)
  simpa [sqF] using this
/-- strings.FieldsFunc, its words in memory. -/
theorem fieldsGap_calls (s : List UInt8) (w : World) (hs : s.length ≤ 4000000000) : Calls Tryz.prog 52 #[.string ⟨s.toArray⟩, .func (.func 47) #[] #[]] w fun e w' => ∃ A, e = .returned (.slice (some ⟨A, 0, none⟩) (Lib.goFieldsP gapP ⟨s.toArray⟩).length (Lib.goFieldsP gapP ⟨s.toArray⟩).length) ∧ A < w'.heap.size ∧ (∀ (j : Nat) x, (Lib.goFieldsP gapP ⟨s.toArray⟩)[j]? = some x → w'.cell? ⟨A, 0 + j, none⟩ = some (.string x)) ∧ Below w.heap.size w w' := by
  refine (Any.strings_FieldsFunc_grows Tryz.lays229 47 #[] (enters_of Tryz.func47 (by kernel_rfl) rfl) gapP ⟨s.toArray⟩ w (by rw [arr_size]; omega) (pred_gap w) (by kernel_rfl) (by kernel_rfl)).mono ?_
  rintro e w' ⟨A, rfl, hA, hown, hb⟩
  generalize Lib.goFieldsP gapP ⟨s.toArray⟩ = F at *
  refine ⟨A, rfl, (hown.lt A rfl).2, fun j x hj => ?_, hb⟩
  have hjl : j < F.length := (List.getElem?_eq_some_iff.1 hj).1
  have := World.ownsRow.cellAt hown j (by simpa using hjl)
  rw [Nat.zero_add, this]
  simp [hj]
theorem fields_le (s : List UInt8) : (Lib.goFieldsP gapP ⟨s.toArray⟩).length ≤ s.length + 1 := by
  have key : ∀ (p : Nat → Bool) (b : ByteArray) (f pos : Nat) (st : Option Nat) (acc : List (Nat × Nat)), (Lib.spansFromP p b f pos st acc).1.length ≤ acc.length + f := fun p b f => by
    induction f with
    | zero => intro pos st acc; simp [Lib.spansFromP]
    | succ f ih =>
      intro pos st acc
      unfold Lib.spansFromP
      split
      · split
        · cases st with
          | none => have := ih (pos + (Utf8.decode b pos).2) none acc; simp only; omega
          | some a => have := ih (pos + (Utf8.decode b pos).2) none (acc ++ [(a, pos)]); simp only [List.length_append, List.length_singleton] at this ⊢; omega
        · cases st with
          | none => have := ih (pos + (Utf8.decode b pos).2) (some pos) acc; simp only; omega
          | some a => have := ih (pos + (Utf8.decode b pos).2) (some a) acc; simp only; omega
      · simp
  have h := key gapP ⟨s.toArray⟩ (⟨s.toArray⟩ : ByteArray).size 0 none []
  rw [arr_size] at h
  unfold Lib.goFieldsP Lib.spansOfP Lib.closeSpans
  rw [List.length_map, arr_size]
  generalize Lib.spansFromP gapP ⟨s.toArray⟩ s.length 0 none [] = z at *
  obtain ⟨acc, st⟩ := z
  cases st with
  | none => simp at h ⊢; omega
  | some a => simp at h ⊢; omega
theorem joinWords_calls (s : List UInt8) (A : Nat) (w : World) (hs : s.length ≤ 4000000000) (hA : A < w.heap.size) (hc : ∀ (j : Nat) x, (Lib.goFieldsP gapP ⟨s.toArray⟩)[j]? = some x → w.cell? ⟨A, 0 + j, none⟩ = some (.string x)) : Calls Tryz.prog 51 #[.slice (some ⟨A, 0, none⟩) (Lib.goFieldsP gapP ⟨s.toArray⟩).length (Lib.goFieldsP gapP ⟨s.toArray⟩).length, .string ⟨#[32]⟩] w fun e w' => e = .returned (.string ⟨(sqF gapS s).1.toArray⟩) ∧ Below w.heap.size w w' := by
  have hj := fields_low low_gap s
  have hle := sqF_le gapS s
  have hfl := fields_le s
  have h := Any.strings_Join Tryz.lays156 builderXJ A 0 (Lib.goFieldsP gapP ⟨s.toArray⟩).length (Lib.goFieldsP gapP ⟨s.toArray⟩) ⟨#[32]⟩ w hc hA (by omega) (Nat.le_refl _) (by
    rw [show (⟨#[32]⟩ : ByteArray).data.toList = [32] from rfl, hj]; omega)
  rw [show (⟨#[32]⟩ : ByteArray).data.toList = [32] from rfl, hj] at h
  exact h
set_option maxRecDepth 100000 in
set_option maxHeartbeats 2000000 in
/-- **descEnd.** -/
theorem descEnd_calls (s : List UInt8) (w : World) (hl : s.length ≤ 100000000000) : Calls Tryz.prog 50 #[.string ⟨s.toArray⟩] w fun e w' => e = .returned (.int .i64 (descN s false : Nat)) ∧ w' = w := by
  have ss := arr_size s
  go_enter Tryz.func50, Tryz.ntmps50
  go_wp2_with fail
  go_loopw [3, 7] (fun vb vi wr => ∃ k : Nat, k ≤ s.length ∧ vi = .int .i64 k ∧ vb = .bool (inAt false s k) ∧ wr = w ∧ Hid (∀ j, j < k → (!inAt false s j && s.getD j 0 == 44) = false)) (fun _ vi _ => s.length - (intOf vi).toNat)
  case atStart => exact ⟨0, by omega, rfl, rfl, by trivial, fun j hj => by omega⟩
  case round =>
    obtain ⟨k, hk, rfl, rfl, hwr, hP⟩ := hrel
    obtain rfl : w = wr := hwr.symm
    clear hwr
    by_cases hlt : k < s.length
    · have hsu := inAt_succ false s k hlt
      have hP2 : (!inAt false s k && s.getD k 0 == 44) = false → ∀ j, j < k + 1 → (!inAt false s j && s.getD j 0 == 44) = false := fun h j hj => by
        by_cases e : j = k
        · rw [e]; exact h
        · exact hP.out j (by omega)
      have hZ : (!inAt false s k && s.getD k 0 == 44) = true → descN s false = k := fun h => descN_at s false k hk hP.out (.inr h)
      obtain ⟨c, hc⟩ : ∃ c, s.getD k 0 = c := ⟨_, rfl⟩
      have hix := byte_at s k c hlt hc (k : Int) rfl
      rw [hc] at hsu hP2 hZ
      obtain ⟨b, hb⟩ : ∃ b, inAt false s k = b := ⟨_, rfl⟩
      rw [hb] at hsu hP2 hZ ⊢
      have e40 : ((c.toNat : Int) == 40) = (c == 40) := eq_byte c 40
      have e41 : ((c.toNat : Int) == 41) = (c == 41) := eq_byte c 41
      have e44 : ((c.toNat : Int) == 44) = (c == 44) := eq_byte c 44
      clear hc hb hP
      have hcs : (c == 40) = true ∨ ((c == 40) = false ∧ (c == 41) = true) ∨ ((c == 40) = false ∧ (c == 41) = false ∧ (c == 44) = true) ∨ ((c == 40) = false ∧ (c == 41) = false ∧ (c == 44) = false) := by
        cases (c == 40) <;> cases (c == 41) <;> cases (c == 44) <;> simp
      rcases hcs with x1 | ⟨x1, x2⟩ | ⟨x1, x2, x3⟩ | ⟨x1, x2, x3⟩
      · have HS : Hid (inAt false s (k + 1) = true) := by show _ = _; rw [hsu]; unfold inS; rw [x1]; rfl
        have HP := hid_of (hP2 (by rw [beq_iff_eq.1 x1]; simp))
        rw [x1] at e40
        clear hsu hP2 hZ x1
        go_wp2_with fail
        exact ⟨⟨k + 1, by omega, by go_num, by rw [HS.out], by trivial, HP⟩, by simp [intOf]; omega⟩
      · have HS : Hid (inAt false s (k + 1) = false) := by show _ = _; rw [hsu]; unfold inS; rw [x1, x2]; rfl
        have HP := hid_of (hP2 (by rw [beq_iff_eq.1 x2]; simp))
        rw [x1] at e40
        rw [x2] at e41
        clear hsu hP2 hZ x1 x2
        go_wp2_with fail
        exact ⟨⟨k + 1, by omega, by go_num, by rw [HS.out], by trivial, HP⟩, by simp [intOf]; omega⟩
      · have HS : Hid (inAt false s (k + 1) = b) := by show _ = _; rw [hsu]; unfold inS; rw [x1, x2]; rfl
        rw [x1] at e40
        rw [x2] at e41
        rw [x3] at e44 hP2 hZ
        cases b with
        | true =>
          have HP := hid_of (hP2 rfl)
          clear hsu hP2 hZ x1 x2 x3
          go_wp2_with fail
          exact ⟨⟨k + 1, by omega, by go_num, by rw [HS.out], by trivial, HP⟩, by simp [intOf]; omega⟩
        | false =>
          have HZ := hid_of (hZ rfl)
          clear hsu hP2 hZ x1 x2 x3
          go_wp2_with fail
          go_ret
          exact ⟨by rw [HZ.out]; rfl, rfl⟩
      · have HS : Hid (inAt false s (k + 1) = b) := by show _ = _; rw [hsu]; unfold inS; rw [x1, x2]; rfl
        have HP := hid_of (hP2 (by rw [x3, Bool.and_false]))
        rw [x1] at e40
        rw [x2] at e41
        rw [x3] at e44
        clear hsu hP2 hZ x1 x2 x3
        go_wp2_with fail
        exact ⟨⟨k + 1, by omega, by go_num, by rw [HS.out], by trivial, HP⟩, by simp [intOf]; omega⟩
    · obtain rfl : k = s.length := by omega
      have HZ : Hid (descN s false = s.length) := descN_at s false _ (Nat.le_refl _) hP.out (.inl rfl)
      clear hP
      go_wp2_with fail
      go_ret
      exact ⟨by rw [HZ.out]; rfl, rfl⟩
set_option maxRecDepth 100000 in
set_option maxHeartbeats 2000000 in
/-- **number.** -/
theorem number_calls (s : List UInt8) (w : World) (hl : s.length ≤ 100000000000) : Calls Tryz.prog 53 #[.string ⟨s.toArray⟩] w fun e w' => e = .returned (.tuple #[.string ⟨(s.drop (digitsN s)).toArray⟩, .bool (numOk s)]) ∧ w' = w := by
  have HD := hid_of (digits_calls s w hl)
  have hle := digitsN_le s
  have y1 := slice_l s (digitsN s) hle (digitsN s : Int) rfl
  have HV : Hid (numOk s = (decide (1 ≤ digitsN s) && decide (digitsN s ≤ 9))) := rfl
  obtain ⟨n, hn⟩ : ∃ n, digitsN s = n := ⟨_, rfl⟩
  rw [hn] at HD hle y1 HV ⊢
  clear hn
  have ss := arr_size s
  generalize s.drop n = D at *
  cases h1 : decide (1 ≤ n) with
  | false =>
    have d1 : decide ((n : Int) ≥ 1) = false := by rw [← h1]; exact decide_eq_decide.2 (by omega)
    rw [h1] at HV
    go_enter Tryz.func53, Tryz.ntmps53
    go_wp2_with fail
    (go_at_call 83; refine HD.out.mono ?_; rintro e w' ⟨rfl, hx⟩; obtain rfl : w = w' := hx.symm)
    go_wp2_with fail
    refine bodyPost_ret (results_tmp2 rfl _ _ _) rfl ?_
    exact ⟨by rw [HV.out]; rfl, rfl⟩
  | true =>
    have d1 : decide ((n : Int) ≥ 1) = true := by rw [← h1]; exact decide_eq_decide.2 (by omega)
    rw [h1] at HV
    cases h2 : decide (n ≤ 9) with
    | false =>
      have d2 : decide ((n : Int) ≤ 9) = false := by rw [← h2]; exact decide_eq_decide.2 (by omega)
      rw [h2] at HV
      go_enter Tryz.func53, Tryz.ntmps53
      go_wp2_with fail
      (go_at_call 83; refine HD.out.mono ?_; rintro e w' ⟨rfl, hx⟩; obtain rfl : w = w' := hx.symm)
      go_wp2_with fail
      refine bodyPost_ret (results_tmp2 rfl _ _ _) rfl ?_
      exact ⟨by rw [HV.out]; rfl, rfl⟩
    | true =>
      have d2 : decide ((n : Int) ≤ 9) = true := by rw [← h2]; exact decide_eq_decide.2 (by omega)
      rw [h2] at HV
      go_enter Tryz.func53, Tryz.ntmps53
      go_wp2_with fail
      (go_at_call 83; refine HD.out.mono ?_; rintro e w' ⟨rfl, hx⟩; obtain rfl : w = w' := hx.symm)
      go_wp2_with fail
      refine bodyPost_ret (results_tmp2 rfl _ _ _) rfl ?_
      exact ⟨by rw [HV.out]; rfl, rfl⟩
end Go.Proofs.YtmfhhpacojodkaaGreatDoor.L
