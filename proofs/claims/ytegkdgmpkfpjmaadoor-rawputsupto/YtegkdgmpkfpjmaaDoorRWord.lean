/- What is proved here: the document's Where, word and text of layer 10: what they say of any runes. -/
import Derived.Test.YtegkdgmpkfpjmaaDoorBun11
import Derived.Test.YtegkdgmpkfpjmaaDoorBun1
import Derived.Deep.RegionHeld3
namespace Go.Proofs.YtegkdgmpkfpjmaaDoor.R
open Go.RowKit Go.Shelf Go.Proofs.YtegkdgmpkfpjmaaDoor.U Go.Proofs.YtegkdgmpkfpjmaaDoor.N

set_option maxRecDepth 100000 in
set_option maxHeartbeats 1000000 in
/-- **The document's Where.** -/
theorem rwhere_calls (l : List UInt8) (w : World) :
    Calls Tryd.prog 11 #[.string ⟨l.toArray⟩] w fun e w' => e = .returned (.int .i64 (whZ l)) ∧ Below w.heap.size w w' := by
  have HI : Hid (∀ z W, Calls Tryd.prog 30 #[.string ⟨l.toArray⟩, .int .i64 z] W fun e w' => e = .returned (.bool (inZ z l)) ∧ Below W.heap.size W w') := fun z W => rin_calls ⟨l.toArray⟩ z W
  cases h1 : inZ 2 l with
  | true =>
    rw [show whZ l = 1 by unfold whZ; rw [h1]; rfl]
    go_enter Tryd.func11, Tryd.ntmps11
    go_wp2_with fail
    (go_at_call 30; refine (HI.out _ _).mono ?_; rintro e w1 ⟨rfl, hb1⟩; rw [h1])
    go_wp2_with fail
    go_ret
    exact ⟨rfl, hb1⟩
  | false =>
    cases h2 : inZ 3 l with
    | true =>
      rw [show whZ l = 2 by unfold whZ; rw [h1, h2]; rfl]
      go_enter Tryd.func11, Tryd.ntmps11
      go_wp2_with fail
      (go_at_call 30; refine (HI.out _ _).mono ?_; rintro e w1 ⟨rfl, hb1⟩; rw [h1])
      go_wp2_with fail
      (go_at_call 30; refine (HI.out _ _).mono ?_; rintro e w2 ⟨rfl, hb2⟩; rw [h2])
      go_wp2_with fail
      go_ret
      exact ⟨rfl, hb1.trans (hb2.mono hb1.size)⟩
    | false =>
      by_cases h3 : l = script
      · have e3 : (l == [115, 99, 114, 105, 112, 116]) = true := by rw [h3]; rfl
        rw [show whZ l = 3 by unfold whZ; rw [h1, h2, if_pos h3]; rfl]
        clear h3
        go_enter Tryd.func11, Tryd.ntmps11
        go_wp2_with fail
        (go_at_call 30; refine (HI.out _ _).mono ?_; rintro e w1 ⟨rfl, hb1⟩; rw [h1])
        go_wp2_with fail
        (go_at_call 30; refine (HI.out _ _).mono ?_; rintro e w2 ⟨rfl, hb2⟩; rw [h2])
        go_wp2_with fail
        go_ret
        exact ⟨rfl, hb1.trans (hb2.mono hb1.size)⟩
      · have e3 : (l == [115, 99, 114, 105, 112, 116]) = false := by simpa using h3
        by_cases h4 : l = plaintext
        · have e4 : (l == [112, 108, 97, 105, 110, 116, 101, 120, 116]) = true := by rw [h4]; rfl
          rw [show whZ l = 4 by unfold whZ; rw [h1, h2, if_neg h3, if_pos h4]; rfl]
          clear h3 h4
          go_enter Tryd.func11, Tryd.ntmps11
          go_wp2_with fail
          (go_at_call 30; refine (HI.out _ _).mono ?_; rintro e w1 ⟨rfl, hb1⟩; rw [h1])
          go_wp2_with fail
          (go_at_call 30; refine (HI.out _ _).mono ?_; rintro e w2 ⟨rfl, hb2⟩; rw [h2])
          go_wp2_with fail
          go_ret
          exact ⟨rfl, hb1.trans (hb2.mono hb1.size)⟩
        · have e4 : (l == [112, 108, 97, 105, 110, 116, 101, 120, 116]) = false := by simpa using h4
          rw [show whZ l = 0 by unfold whZ; rw [h1, h2, if_neg h3, if_neg h4]; rfl]
          clear h3 h4
          go_enter Tryd.func11, Tryd.ntmps11
          go_wp2_with fail
          (go_at_call 30; refine (HI.out _ _).mono ?_; rintro e w1 ⟨rfl, hb1⟩; rw [h1])
          go_wp2_with fail
          (go_at_call 30; refine (HI.out _ _).mono ?_; rintro e w2 ⟨rfl, hb2⟩; rw [h2])
          go_wp2_with fail
          go_ret
          exact ⟨rfl, hb1.trans (hb2.mono hb1.size)⟩
/-- Runes in memory. -/
abbrev HasR (w : World) (a : Option Addr) (n cap : Nat) (zs : List Int) : Prop := HasI .i32 w (.slice a n cap) zs
theorem hasR_len {w : World} {a : Option Addr} {n cap : Nat} {zs : List Int} (h : HasR w a n cap zs) : n = zs.length := by
  rcases h with ⟨rfl, _, _, e⟩ | ⟨_, b, off, c, e, _⟩
  · injection e with _ e _
  · injection e with _ e _
theorem hasR_cell {w : World} {a : Option Addr} {n cap : Nat} {zs : List Int} (h : HasR w a n cap zs) (k : Nat) (hk : k < zs.length) : ∃ b off, a = some ⟨b, off, none⟩ ∧ ∀ j, j < zs.length → w.cell? ⟨b, off + j, none⟩ = some (.int .i32 (zAt zs j)) := by
  rcases h with ⟨rfl, _, _, e⟩ | ⟨_, b, off, c, e, _, hc⟩
  · simp at hk
  · injection e with e _ _
    exact ⟨b, off, e, hc⟩
theorem drop_getD (zs : List Int) (at0 j : Nat) : (zs.drop at0).getD j 0 = zAt zs (at0 + j) := by simp [zAt, List.getD]
theorem zs_at (nb : List UInt8) (k : Nat) (hk : k < nb.length) : (R.zs nb).getD k 0 = ((nb.getD k 0).toNat : Int) := by simp [hk]
/-- How far a word goes along. -/
def Along (nb : List UInt8) (zs : List Int) (at0 k : Nat) : Prop := ∀ j, j < k → lowZ (zAt zs (at0 + j)) = ((nb.getD j 0).toNat : Int)
theorem along_word {nb : List UInt8} {zs : List Int} {at0 : Nat} (hl : at0 + nb.length < zs.length) (h : Along nb zs at0 nb.length) : wordR (R.zs nb) (zs.drop at0) = stopZ (zAt zs (at0 + nb.length)) := by
  unfold wordR
  rw [show (R.zs nb).length = nb.length by simp, drop_getD, show decide (nb.length < (zs.drop at0).length) = true by simp; omega]
  have : ((zs.drop at0).take nb.length).map lowZ = R.zs nb := by
    apply List.ext_getElem
    · simp; omega
    · intro j h1 h2
      have hj : j < nb.length := by simpa using h2
      have := h j hj
      simp only [zAt, List.getD_eq_getElem?_getD] at this
      rw [List.getElem?_eq_getElem (by omega), List.getElem?_eq_getElem hj] at this
      simp at this ⊢
      exact this
  rw [this]; simp
theorem along_not {nb : List UInt8} {zs : List Int} {at0 k : Nat} (hl : at0 + nb.length < zs.length) (hk : k < nb.length) (h : lowZ (zAt zs (at0 + k)) ≠ ((nb.getD k 0).toNat : Int)) : wordR (R.zs nb) (zs.drop at0) = false := by
  unfold wordR
  have : (((zs.drop at0).take (R.zs nb).length).map lowZ == R.zs nb) = false := by
    rw [beq_eq_false_iff_ne]
    intro e
    have h3 := congrArg (fun l => l[k]?) e
    have h4 : (R.zs nb).length = nb.length := by simp
    rw [h4] at h3
    simp only [List.getElem?_map, List.getElem?_take, if_pos hk, List.getElem?_drop] at h3
    rw [List.getElem?_eq_getElem (by omega), List.getElem?_eq_getElem hk] at h3
    simp only [Option.map_some, Option.some.injEq] at h3
    apply h
    simp only [zAt, List.getD_eq_getElem?_getD]
    rw [List.getElem?_eq_getElem (by omega), List.getElem?_eq_getElem hk]
    exact h3
  rw [this]; simp
set_option maxRecDepth 100000 in
set_option maxHeartbeats 2000000 in
/-- **word.** -/
theorem word_calls (a : Option Addr) (n cap : Nat) (zs : List Int) (at0 : Nat) (nb : List UInt8) (w : World) (hI : HasR w a n cap zs) (hz : ∀ z ∈ zs, -2147483648 ≤ z ∧ z ≤ 2147483647) (hl : zs.length ≤ 1000000000000) (ha : at0 ≤ 1000000000000) (hn : nb.length ≤ 1000) :
    Calls Tryd.prog 36 #[.slice a n cap, .int .i64 at0, .string ⟨nb.toArray⟩] w fun e w' => e = .returned (.bool (wordR (R.zs nb) (zs.drop at0))) ∧ Below w.heap.size w w' := by
  obtain rfl := hasR_len hI
  have hsz := arr_size nb
  by_cases hlt : at0 + nb.length < zs.length
  · obtain ⟨b, off, rfl, hc⟩ := hasR_cell hI 0 (by omega)
    have HY := hid_of (@along_word nb zs at0 hlt)
    have HNO := hid_of (fun k => @along_not nb zs at0 k hlt)
    have hge : decide ((at0 : Int) + (nb.length : Int) ≥ (zs.length : Int)) = false := by simp; omega
    have hw0 : IntKind.i64.wrap ((at0 : Int) + (nb.length : Int)) = (at0 : Int) + (nb.length : Int) := by rw [IntKind.wrap_i64]; omega
    generalize wordR (R.zs nb) (zs.drop at0) = R at *
    have HC := hid_of hc
    have HZ := hid_of hz
    clear hI hc hz
    go_enter Tryd.func36, Tryd.ntmps36
    go_wp2_with fail
    go_loopw [18] (fun i wr => ∃ k : Nat, k ≤ nb.length ∧ i = .int .i64 k ∧ Hid (Along nb zs at0 k) ∧ Below w.heap.size w wr) (fun i _ => nb.length - (intOf i).toNat)
    case atStart => exact ⟨0, by omega, rfl, fun j hj => by omega, Below.refl _ _⟩
    case round =>
      obtain ⟨k, hk, rfl, hA, hB⟩ := hrel
      by_cases hkl : k < nb.length
      · have hm : zAt zs (at0 + k) ∈ zs := by
          simp only [zAt]
          rw [List.getElem?_eq_getElem (by omega)]
          exact List.getElem_mem _
        have hzr := HZ.out _ hm
        obtain ⟨i0, hi0⟩ : ∃ i0, at0 + k = i0 := ⟨_, rfl⟩
        have cz : wr.cell? ⟨b, off + i0, none⟩ = some (.int .i32 (zAt zs (at0 + k))) := by
          rw [hi0]
          have := HC.out i0 (by omega)
          exact (hB.cell (p := ⟨b, off + i0, none⟩) (cell_lt this)).trans this
        have hwi : IntKind.i64.wrap ((at0 : Int) + (k : Int)) = (i0 : Int) := by rw [IntKind.wrap_i64]; omega
        have hib : i0 < zs.length := by omega
        have hrb : ∀ W, (Instr.index 9 (.string ⟨nb.toArray⟩) (.int .i64 (k : Int))).run Tryd.prog W = .ok (.int .u8 ((nb.getD k 0).toNat : Int)) W := fun W => run_byte W 9 ⟨nb.toArray⟩ .i64 k k (nb.getD k 0) Tryd.underlying9 rfl (by omega) rfl
        have hby := UInt8.toNat_lt (nb.getD k 0)
        have HA1 : Hid (lowZ (zAt zs (at0 + k)) = ((nb.getD k 0).toNat : Int) → Along nb zs at0 (k + 1)) := fun he j hj => by
          by_cases e : j = k
          · subst e; exact he
          · exact hA.out j (by omega)
        have HA0 := hid_of (HNO.out k hkl)
        clear hm
        generalize zAt zs (at0 + k) = z at *
        clear hi0
        generalize hq : ((nb.getD k 0).toNat : Int) = q at *
        have hwq : IntKind.i32.wrap q = q := by rw [IntKind.wrap_i32]; omega
        have HLR := hid_of (fun W => rlrune_calls z hzr.1 hzr.2 W)
        generalize lowZ z = y at *
        by_cases he : y = q
        · subst he
          clear hq
          go_wp2_with fail
          go_region_held3 (fun w' => w'.cell? ⟨b, off + i0, none⟩ = some (.int .i32 z)) (first | exact cz | go_keep) (first | (go_at_call 53; refine (HLR.out _).mono ?_; rintro e w1 ⟨rfl, hw1⟩; have hx1 := hw1.symm; subst hx1))
          all_goals go_wp2_with fail
          all_goals exact ⟨⟨k + 1, by omega, by go_num, HA1.out trivial, hB.drew⟩, by simp [intOf]; omega⟩
        · obtain rfl := HA0.out he
          have hne : (y != q) = true := by simpa using he
          have hne2 : (y == q) = false := by simpa using he
          clear hq he
          go_wp2_with fail
          go_region_held3 (fun w' => w'.cell? ⟨b, off + i0, none⟩ = some (.int .i32 z)) (first | exact cz | go_keep) (first | (go_at_call 53; refine (HLR.out _).mono ?_; rintro e w1 ⟨rfl, hw1⟩; have hx1 := hw1.symm; subst hx1))
          all_goals go_wp2_with fail
          all_goals go_ret
          all_goals exact ⟨rfl, hB.drew⟩
      · obtain rfl : k = nb.length := by omega
        have hst := HY.out hA.out
        obtain ⟨i0, hi0⟩ : ∃ i0, at0 + nb.length = i0 := ⟨_, rfl⟩
        have cz : wr.cell? ⟨b, off + i0, none⟩ = some (.int .i32 (zAt zs (at0 + nb.length))) := by
          rw [hi0]
          have := HC.out i0 (by omega)
          exact (hB.cell (p := ⟨b, off + i0, none⟩) (cell_lt this)).trans this
        have hwi : IntKind.i64.wrap ((at0 : Int) + (nb.length : Int)) = (i0 : Int) := by rw [IntKind.wrap_i64]; omega
        have hib : i0 < zs.length := by omega
        clear hw0
        generalize zAt zs (at0 + nb.length) = z at *
        clear hi0
        unfold stopZ at hst
        cases hbl : blankZ z <;> cases h1 : (z == 47) <;> cases h2 : (z == 62)
        all_goals
          rw [hbl, h1, h2] at hst
          subst hst
          go_wp2_with fail
          (go_at_call 54; refine (rblank_calls z _).mono ?_; rintro e w1 ⟨rfl, hw1⟩; have hx1 := hw1.symm; subst hx1; rw [hbl])
          go_wp2_with fail
          go_ret
          exact ⟨rfl, hB⟩
  · have hge : decide ((at0 : Int) + (nb.length : Int) ≥ (zs.length : Int)) = true := by simp; omega
    have hw0 : IntKind.i64.wrap ((at0 : Int) + (nb.length : Int)) = (at0 : Int) + (nb.length : Int) := by rw [IntKind.wrap_i64]; omega
    have hr : wordR (R.zs nb) (zs.drop at0) = false := by
      unfold wordR
      rw [show decide ((R.zs nb).length < (zs.drop at0).length) = false by simp; omega]; simp
    rw [hr]
    clear hI hr
    go_enter Tryd.func36, Tryd.ntmps36
    go_wp2_with fail
    go_ret
    exact ⟨rfl, Below.refl _ _⟩
/-- Do runes from a place on say just this? -/
def textR (zs : List Int) (at0 : Nat) (nb : List UInt8) : Bool := (R.zs nb).isPrefixOf (zs.drop at0)
def AlongT (nb : List UInt8) (zs : List Int) (at0 k : Nat) : Prop := ∀ j, j < k → zAt zs (at0 + j) = ((nb.getD j 0).toNat : Int)
theorem along_text {nb : List UInt8} {zs : List Int} {at0 : Nat} (hl : at0 + nb.length ≤ zs.length) (h : AlongT nb zs at0 nb.length) : textR zs at0 nb = true := by
  unfold textR
  rw [List.isPrefixOf_iff_prefix, List.prefix_iff_eq_take]
  apply List.ext_getElem
  · simp; omega
  · intro j h1 h2
    have hj : j < nb.length := by simpa using h1
    have := h j hj
    simp only [zAt, List.getD_eq_getElem?_getD] at this
    rw [List.getElem?_eq_getElem (by omega), List.getElem?_eq_getElem hj] at this
    simp at this ⊢
    exact this.symm
theorem along_textn {nb : List UInt8} {zs : List Int} {at0 k : Nat} (hl : at0 + nb.length ≤ zs.length) (hk : k < nb.length) (h : zAt zs (at0 + k) ≠ ((nb.getD k 0).toNat : Int)) : textR zs at0 nb = false := by
  cases e : textR zs at0 nb with
  | false => rfl
  | true =>
    exfalso
    apply h
    unfold textR at e
    rw [List.isPrefixOf_iff_prefix, List.prefix_iff_eq_take] at e
    have h3 := congrArg (fun l => l[k]?) e
    simp only [List.getElem?_map, List.getElem?_take, List.length_map, if_pos hk, List.getElem?_drop] at h3
    rw [List.getElem?_eq_getElem hk, List.getElem?_eq_getElem (by omega)] at h3
    simp only [Option.map_some, Option.some.injEq] at h3
    simp only [zAt, List.getD_eq_getElem?_getD]
    rw [List.getElem?_eq_getElem (by omega), List.getElem?_eq_getElem hk]
    exact h3.symm
set_option maxRecDepth 100000 in
set_option maxHeartbeats 2000000 in
/-- **text.** -/
theorem text_calls (a : Option Addr) (n cap : Nat) (zs : List Int) (at0 : Nat) (nb : List UInt8) (w : World) (hI : HasR w a n cap zs) (hl : zs.length ≤ 1000000000000) (ha : at0 ≤ 1000000000000) (hn : nb.length ≤ 1000) (hn0 : 0 < nb.length) :
    Calls Tryd.prog 35 #[.slice a n cap, .int .i64 at0, .string ⟨nb.toArray⟩] w fun e w' => e = .returned (.bool (textR zs at0 nb)) ∧ Below w.heap.size w w' := by
  obtain rfl := hasR_len hI
  have hsz := arr_size nb
  have h0 : decide ((at0 : Int) < 0) = false := by simp
  have hw0 : IntKind.i64.wrap ((at0 : Int) + (nb.length : Int)) = (at0 : Int) + (nb.length : Int) := by rw [IntKind.wrap_i64]; omega
  by_cases hlt : at0 + nb.length ≤ zs.length
  · have hge : decide ((at0 : Int) + (nb.length : Int) > (zs.length : Int)) = false := by simp; omega
    have HY := hid_of (@along_text nb zs at0 hlt)
    have HNO := hid_of (fun k => @along_textn nb zs at0 k hlt)
    generalize textR zs at0 nb = R at *
    have HC := hid_of hI
    clear hI
    go_enter Tryd.func35, Tryd.ntmps35
    go_wp2_with fail
    go_loopw [21] (fun i wr => ∃ k : Nat, k ≤ nb.length ∧ i = .int .i64 k ∧ Hid (AlongT nb zs at0 k) ∧ Below w.heap.size w wr) (fun i _ => nb.length - (intOf i).toNat)
    case atStart => exact ⟨0, by omega, rfl, fun j hj => by omega, Below.refl _ _⟩
    case round =>
      obtain ⟨k, hk, rfl, hA, hB⟩ := hrel
      by_cases hkl : k < nb.length
      · obtain ⟨b, off, hab, hc⟩ := hasR_cell HC.out (at0 + k) (by omega)
        subst hab
        obtain ⟨i0, hi0⟩ : ∃ i0, at0 + k = i0 := ⟨_, rfl⟩
        have cz : wr.cell? ⟨b, off + i0, none⟩ = some (.int .i32 (zAt zs (at0 + k))) := by
          rw [hi0]
          have := hc i0 (by omega)
          exact (hB.cell (p := ⟨b, off + i0, none⟩) (cell_lt this)).trans this
        have hwi : IntKind.i64.wrap ((at0 : Int) + (k : Int)) = (i0 : Int) := by rw [IntKind.wrap_i64]; omega
        have hib : i0 < zs.length := by omega
        have hrb : ∀ W, (Instr.index 9 (.string ⟨nb.toArray⟩) (.int .i64 (k : Int))).run Tryd.prog W = .ok (.int .u8 ((nb.getD k 0).toNat : Int)) W := fun W => run_byte W 9 ⟨nb.toArray⟩ .i64 k k (nb.getD k 0) Tryd.underlying9 rfl (by omega) rfl
        have hby := UInt8.toNat_lt (nb.getD k 0)
        have HA1 : Hid (zAt zs (at0 + k) = ((nb.getD k 0).toNat : Int) → AlongT nb zs at0 (k + 1)) := fun he j hj => by
          by_cases e : j = k
          · subst e; exact he
          · exact hA.out j (by omega)
        have HA0 := hid_of (HNO.out k hkl)
        clear hc
        generalize zAt zs (at0 + k) = z at *
        generalize hq : ((nb.getD k 0).toNat : Int) = q at *
        have hwq : IntKind.i32.wrap q = q := by rw [IntKind.wrap_i32]; omega
        clear hi0
        by_cases he : z = q
        · subst he
          clear hq
          go_wp2_with fail
          go_region_held3 (fun w' => w'.cell? ⟨b, off + i0, none⟩ = some (.int .i32 z)) (first | exact cz | go_keep) (fail)
          all_goals go_wp2_with fail
          all_goals exact ⟨⟨k + 1, by omega, by go_num, HA1.out trivial, hB.drew⟩, by simp [intOf]; omega⟩
        · obtain rfl := HA0.out he
          have hne : (z != q) = true := by simpa using he
          have hne2 : (z == q) = false := by simpa using he
          clear hq he
          go_wp2_with fail
          go_region_held3 (fun w' => w'.cell? ⟨b, off + i0, none⟩ = some (.int .i32 z)) (first | exact cz | go_keep) (fail)
          all_goals go_wp2_with fail
          all_goals go_ret
          all_goals exact ⟨rfl, hB.drew⟩
      · obtain rfl : k = nb.length := by omega
        obtain rfl := HY.out hA.out
        go_wp2_with fail
        go_ret
        exact ⟨rfl, hB⟩
  · have hge : decide ((at0 : Int) + (nb.length : Int) > (zs.length : Int)) = true := by simp; omega
    have hr : textR zs at0 nb = false := by
      cases e : textR zs at0 nb with
      | false => rfl
      | true =>
        exfalso
        unfold textR at e
        rw [List.isPrefixOf_iff_prefix] at e
        have := e.length_le
        simp at this
        omega
    rw [hr]
    clear hI hr
    go_enter Tryd.func35, Tryd.ntmps35
    go_wp2_with fail
    go_ret
    exact ⟨rfl, Below.refl _ _⟩
end Go.Proofs.YtegkdgmpkfpjmaaDoor.R
