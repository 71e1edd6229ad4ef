/- What is proved here: laws and contracts of RAwake, RWord, one behind the other (each says its own). -/
import Derived.Test.YtmlklbbfmggbfabDoorRWhole
import Derived.Test.YtmlklbbfmggbfabDoorRRefM
import Derived.Test.YtmlklbbfmggbfabDoorBun1
import Derived.Deep.RegionHeld3
import Derived.Test.YtmlklbbfmggbfabDoorRNew
/- What is proved here: that the document's examples come out as it says (sievelaw10.awake). -/
namespace Go.Proofs.YtmlklbbfmggbfabDoor.R
open Go.RowKit Go.Shelf Go.Proofs.YtmlklbbfmggbfabDoor.U Go.Proofs.YtmlklbbfmggbfabDoor.N

theorem bulk_str {H : Type} (l : List UInt8) : Rows.uptoBulk (H := H) (.lit (.string l)) = l.length + 1 := rfl
theorem arr_eta (s : ByteArray) : (⟨s.data.toList.toArray⟩ : ByteArray) = s := by cases s; simp
/-- The tables, and what strings.Contains asks for. -/
abbrev Tb (W : World) : Prop := Lib.Utf8Tabs (Tryd.lays32_ren.g 2) (Tryd.lays32_ren.g 3) W
theorem max_below {W W' : World} (h : MaxOk W) (hb : Below W.heap.size W W') : MaxOk W' := h.below hb
theorem ex1 : refR (zs [116, 105, 116, 108, 101]) (p0 [116, 105, 116, 108, 101]) (runesI [97, 60, 47, 98, 62, 60, 47, 84, 73, 84, 76, 69, 32, 120, 62, 99]) = some 5 := by decide +kernel
theorem ex1t : encs ((runesI [97, 60, 47, 98, 62, 60, 47, 84, 73, 84, 76, 69, 32, 120, 62, 99]).take 5) = [97, 60, 47, 98, 62] := by kernel_rfl
theorem ex1n : ∀ n, n ≤ 16 → (runesI (([97, 60, 47, 98, 62, 60, 47, 84, 73, 84, 76, 69, 32, 120, 62, 99] : List UInt8).take n)).length = 13 → n = 13 := by decide +kernel
theorem ex2 : refR (zs [115, 99, 114, 105, 112, 116]) (p0 [115, 99, 114, 105, 112, 116]) (runesI [60, 33, 45, 45, 62, 60, 115, 99, 114, 105, 112, 116, 62, 60, 47, 115, 99, 114, 105, 112, 116, 62]) = some 13 := by decide +kernel
theorem ex2t : encs ((runesI [60, 33, 45, 45, 62, 60, 115, 99, 114, 105, 112, 116, 62, 60, 47, 115, 99, 114, 105, 112, 116, 62]).take 13) = [60, 33, 45, 45, 62, 60, 115, 99, 114, 105, 112, 116, 62] := by kernel_rfl
theorem ex2n : ∀ n, n ≤ 22 → (runesI (([60, 33, 45, 45, 62, 60, 115, 99, 114, 105, 112, 116, 62, 60, 47, 115, 99, 114, 105, 112, 116, 62] : List UInt8).take n)).length = 22 → n = 22 := by decide +kernel
theorem ex1w (w : World) (hT : Tb w) (hm : MaxOk w) : Calls Tryd.prog 7 #[.string ⟨#[116, 105, 116, 108, 101]⟩, .string ⟨#[97, 60, 47, 98, 62, 60, 47, 84, 73, 84, 76, 69, 32, 120, 62, 99]⟩] w fun e w' => e = .returned (.tuple #[.string ⟨#[97, 60, 47, 98, 62]⟩, .int .i64 13, .bool true, .int .i64 0]) ∧ Below w.heap.size w w' := by
  have hw : whZ [116, 105, 116, 108, 101] ≠ 0 := by decide +kernel
  refine (whole_calls [116, 105, 116, 108, 101] hw [97, 60, 47, 98, 62, 60, 47, 84, 73, 84, 76, 69, 32, 120, 62, 99] w (by decide) hT hm).mono ?_
  rintro e w' ⟨t, n, ok, rfl, hW, hb⟩
  obtain ⟨rfl, rfl, h3, _, h5⟩ := whole_some (wh_ok _ hw) (p0_range _).1 (p0_range _).2 hW ex1
  obtain rfl := ex1n n h3 h5
  exact ⟨by rw [ex1t]; rfl, hb⟩
theorem ex2w (w : World) (hT : Tb w) (hm : MaxOk w) : Calls Tryd.prog 7 #[.string ⟨#[115, 99, 114, 105, 112, 116]⟩, .string ⟨#[60, 33, 45, 45, 62, 60, 115, 99, 114, 105, 112, 116, 62, 60, 47, 115, 99, 114, 105, 112, 116, 62]⟩] w fun e w' => e = .returned (.tuple #[.string ⟨#[60, 33, 45, 45, 62, 60, 115, 99, 114, 105, 112, 116, 62]⟩, .int .i64 22, .bool true, .int .i64 0]) ∧ Below w.heap.size w w' := by
  have hw : whZ [115, 99, 114, 105, 112, 116] ≠ 0 := by decide +kernel
  refine (whole_calls [115, 99, 114, 105, 112, 116] hw [60, 33, 45, 45, 62, 60, 115, 99, 114, 105, 112, 116, 62, 60, 47, 115, 99, 114, 105, 112, 116, 62] w (by decide) hT hm).mono ?_
  rintro e w' ⟨t, n, ok, rfl, hW, hb⟩
  obtain ⟨rfl, rfl, h3, _, h5⟩ := whole_some (wh_ok _ hw) (p0_range _).1 (p0_range _).2 hW ex2
  obtain rfl := ex2n n h3 h5
  exact ⟨by rw [ex2t]; rfl, hb⟩
set_option maxRecDepth 100000 in
set_option maxHeartbeats 1000000 in
theorem num_calls (x : Int) (w : World) (h0 : -9223372036854775808 ≤ x) (h1 : x ≤ 9223372036854775807) : Calls Tryd.prog 5 #[.int .i64 x] w fun e w' => e = .returned (.int .i64 x) ∧ w' = w := by
  have hwr : IntKind.i64.wrap x = x := by rw [IntKind.wrap_i64]; omega
  go_enter Tryd.func5, Tryd.ntmps5
  go_wp2
  go_ret
  exact ⟨rfl, rfl⟩
set_option maxRecDepth 100000 in
set_option maxHeartbeats 2000000 in
/-- **awake.** -/
theorem awake_calls (w : World) (hT : Tb w) (hm : MaxOk w) : Calls Tryd.prog 6 #[] w fun e w' => e = .returned (.bool true) ∧ Below w.heap.size w w' := by
  have H1 := hid_of (ex1w w hT hm)
  have H2 : Hid (∀ W, Below w.heap.size w W → _) := fun W hb => ex2w W (tabs_below hT hb) (max_below hm hb)
  clear hT hm
  go_enter Tryd.func6, Tryd.ntmps6
  go_wp2_with fail
  (go_at_call 7; refine H1.out.mono ?_; rintro e w1 ⟨rfl, hb1⟩)
  go_wp2_with fail
  (go_at_call 7; refine (H2.out _ hb1).mono ?_; rintro e w2 ⟨rfl, hb2⟩)
  have hB : Below w.heap.size w w2 := hb1.trans (hb2.mono hb1.size)
  go_wp2_with fail
  (go_at_call 5; refine (num_calls 0 _ (by decide) (by decide)).mono ?_; rintro e w3 ⟨rfl, h3⟩; obtain rfl : w2 = w3 := h3.symm)
  go_wp2_with fail
  (go_at_call 5; refine (num_calls 0 _ (by decide) (by decide)).mono ?_; rintro e w3 ⟨rfl, h3⟩; obtain rfl : w2 = w3 := h3.symm)
  go_wp2_with fail
  go_ret
  exact ⟨rfl, hB⟩
end Go.Proofs.YtmlklbbfmggbfabDoor.R

/- What is proved here: the document's Where, word and text of layer 10: what they say of any runes. -/
namespace Go.Proofs.YtmlklbbfmggbfabDoor.R
open Go.RowKit Go.Shelf Go.Proofs.YtmlklbbfmggbfabDoor.U Go.Proofs.YtmlklbbfmggbfabDoor.N

/-- Runes in memory. -/
abbrev HasR (w : World) (a : Option Addr) (n cap : Nat) (zs : List Int) : Prop := HasI .i32 w (.slice a n cap) zs
theorem hasR_len {w : World} {a : Option Addr} {n cap : Nat} {zs : List Int} (h : HasR w a n cap zs) : n = zs.length := by
  rcases h with ⟨rfl, _, _, e⟩ | ⟨_, b, off, c, e, _⟩
  · injection e with _ e _
  · injection e with _ e _
theorem hasR_cell {w : World} {a : Option Addr} {n cap : Nat} {zs : List Int} (h : HasR w a n cap zs) (k : Nat) (hk : k < zs.length) : ∃ b off, a = some ⟨b, off, none⟩ ∧ ∀ j, j < zs.length → w.cell? ⟨b, off + j, none⟩ = some (.int .i32 (zAt zs j)) := by
  rcases h with ⟨rfl, _, _, e⟩ | ⟨_, b, off, c, e, _, hc⟩
  · simp at hk
  · injection e with e _ _
    exact ⟨b, off, e, hc⟩
theorem drop_getD (zs : List Int) (at0 j : Nat) : (zs.drop at0).getD j 0 = zAt zs (at0 + j) := by simp [zAt, List.getD]
theorem zs_at (nb : List UInt8) (k : Nat) (hk : k < nb.length) : (R.zs nb).getD k 0 = ((nb.getD k 0).toNat : Int) := by simp [hk]
/-- How far a word goes along. -/
def Along (nb : List UInt8) (zs : List Int) (at0 k : Nat) : Prop := ∀ j, j < k → lowZ (zAt zs (at0 + j)) = ((nb.getD j 0).toNat : Int)
theorem along_word {nb : List UInt8} {zs : List Int} {at0 : Nat} (hl : at0 + nb.length < zs.length) (h : Along nb zs at0 nb.length) : wordR (R.zs nb) (zs.drop at0) = stopZ (zAt zs (at0 + nb.length)) := by
  unfold wordR
  rw [show (R.zs nb).length = nb.length by simp, drop_getD, show decide (nb.length < (zs.drop at0).length) = true by simp; omega]
  have : ((zs.drop at0).take nb.length).map lowZ = R.zs nb := by
    apply List.ext_getElem
    · simp; omega
    · intro j h1 h2
      have hj : j < nb.length := by simpa using h2
      have := h j hj
      simp only [zAt, List.getD_eq_getElem?_getD] at this
      rw [List.getElem?_eq_getElem (by omega), List.getElem?_eq_getElem hj] at this
      simp at this ⊢
      exact this
  rw [this]; simp
theorem along_not {nb : List UInt8} {zs : List Int} {at0 k : Nat} (hl : at0 + nb.length < zs.length) (hk : k < nb.length) (h : lowZ (zAt zs (at0 + k)) ≠ ((nb.getD k 0).toNat : Int)) : wordR (R.zs nb) (zs.drop at0) = false := by
  unfold wordR
  have : (((zs.drop at0).take (R.zs nb).length).map lowZ == R.zs nb) = false := by
    rw [beq_eq_false_iff_ne]
    intro e
    have h3 := congrArg (fun l => l[k]?) e
    have h4 : (R.zs nb).length = nb.length := by simp
    rw [h4] at h3
    simp only [List.getElem?_map, List.getElem?_take, if_pos hk, List.getElem?_drop] at h3
    rw [List.getElem?_eq_getElem (by omega), List.getElem?_eq_getElem hk] at h3
    simp only [Option.map_some, Option.some.injEq] at h3
    apply h
    simp only [zAt, List.getD_eq_getElem?_getD]
    rw [List.getElem?_eq_getElem (by omega), List.getElem?_eq_getElem hk]
    exact h3
  rw [this]; simp
/-- Do runes from a place on say just this? -/
def textR (zs : List Int) (at0 : Nat) (nb : List UInt8) : Bool := (R.zs nb).isPrefixOf (zs.drop at0)
def AlongT (nb : List UInt8) (zs : List Int) (at0 k : Nat) : Prop := ∀ j, j < k → zAt zs (at0 + j) = ((nb.getD j 0).toNat : Int)
theorem along_text {nb : List UInt8} {zs : List Int} {at0 : Nat} (hl : at0 + nb.length ≤ zs.length) (h : AlongT nb zs at0 nb.length) : textR zs at0 nb = true := by
  unfold textR
  rw [List.isPrefixOf_iff_prefix, List.prefix_iff_eq_take]
  apply List.ext_getElem
  · simp; omega
  · intro j h1 h2
    have hj : j < nb.length := by simpa using h1
    have := h j hj
    simp only [zAt, List.getD_eq_getElem?_getD] at this
    rw [List.getElem?_eq_getElem (by omega), List.getElem?_eq_getElem hj] at this
    simp at this ⊢
    exact this.symm
theorem along_textn {nb : List UInt8} {zs : List Int} {at0 k : Nat} (hl : at0 + nb.length ≤ zs.length) (hk : k < nb.length) (h : zAt zs (at0 + k) ≠ ((nb.getD k 0).toNat : Int)) : textR zs at0 nb = false := by
  cases e : textR zs at0 nb with
  | false => rfl
  | true =>
    exfalso
    apply h
    unfold textR at e
    rw [List.isPrefixOf_iff_prefix, List.prefix_iff_eq_take] at e
    have h3 := congrArg (fun l => l[k]?) e
    simp only [List.getElem?_map, List.getElem?_take, List.length_map, if_pos hk, List.getElem?_drop] at h3
    rw [List.getElem?_eq_getElem hk, List.getElem?_eq_getElem (by omega)] at h3
    simp only [Option.map_some, Option.some.injEq] at h3
    simp only [zAt, List.getD_eq_getElem?_getD]
    rw [List.getElem?_eq_getElem (by omega), List.getElem?_eq_getElem hk]
    exact h3.symm
end Go.Proofs.YtmlklbbfmggbfabDoor.R
