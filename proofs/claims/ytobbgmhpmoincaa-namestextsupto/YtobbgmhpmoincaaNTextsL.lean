/- What is proved here: the statement NamesTexts (every text in small letters, compared, trimmed, in its fields, is the document's; what is done with a list of fields turns no other) holds for texts that are together of bulk at most 1048576. -/
import Derived.Test.YtobbgmhpmoincaaNFrame
import Derived.Test.YtobbgmhpmoincaaNRFields
namespace Go.Proofs.Ytobbgmhpmoincaa.NTextsL
open Go.ChangeShapes Go.WideShapes Go.ChangeAt Go.RowKit N C

theorem dLL (L : List (List UInt8)) : decide (L = L) = true := by simp

set_option maxRecDepth 100000 in
set_option maxHeartbeats 4000000 in
theorem walk (w : World) (hm : MaxOk w) (s : ByteArray) (hs0 : s.size ≤ 9223372036854775807) (hs : s.size ≤ 1048576) (t : ByteArray) (ht0 : t.size ≤ 9223372036854775807) (_ht : t.size ≤ 1048576) :
    Calls Try.prog 6 #[.string s, .string t] w fun e w' => e = .returned (.bool true) ∧ Below w.heap.size w w' := by
  obtain ⟨i0, hi, hz0, hz1, hz2⟩ := info_parts infoStr
  have HM : Hid (MaxOk w) := hm
  have hcnt : (fields s.data.toList).length ≤ 1048577 := by have := fields_count s.data.toList; rw [size_data] at this; omega
  clear hm
  go_enter Try.func6, Try.ntmps6
  go_wp2_with fail
  refine (fields_calls s w (by omega)).mono ?_
  rintro e W1 ⟨vf, rfl, hf, hB1⟩
  have s1 := hB1.size
  obtain ⟨af, cf, rfl⟩ := owns_slice hf
  go_wp2_with fail
  refine (fields_calls s W1 (by omega)).mono ?_
  rintro e W2 ⟨vg, rfl, hg, hB2⟩
  have s2 := hB2.size
  obtain ⟨ag, cg, rfl⟩ := owns_slice hg
  go_wp2_with fail
  refine (rfields_calls s W2 (by omega)).mono ?_
  rintro e W3 ⟨vw, rfl, hw, hB3⟩
  have s3 := hB3.size
  obtain ⟨aw, cw, rfl⟩ := owns_slice hw
  have HFB : Hid (∀ j, (Value.slice af (fields s.data.toList).length cf).ownBlock = some j → w.heap.size ≤ j ∧ j < W1.heap.size) := hf.lt
  have HGB : Hid (∀ j, (Value.slice ag (fields s.data.toList).length cg).ownBlock = some j → W1.heap.size ≤ j) := fun j h => (hg.lt j h).1
  have HWB : Hid (∀ j, (Value.slice aw (fields s.data.toList).length cw).ownBlock = some j → W2.heap.size ≤ j) := fun j h => (hw.lt j h).1
  have HB : Hid (Below w.heap.size w W3) := (hB1.trans (hB2.mono s1)).trans (hB3.mono (by omega))
  have f3 : Hid (OwnT w.heap.size W3 _ (fields s.data.toList)) := owns_below (owns_below hf hB2) hB3
  have g3 : Hid (OwnT W1.heap.size W3 _ (fields s.data.toList)) := owns_below hg hB3
  have w3 : Hid (OwnT W2.heap.size W3 _ (fields s.data.toList)) := hw
  clear hf hg hw hB1 hB2 hB3
  generalize fields s.data.toList = L at *
  go_wp2_with fail
  refine (same_calls L L _ _ W3 (by omega) (by omega) (HasT.of f3.out) (HasT.of w3.out)).mono ?_
  rintro e W4 ⟨rfl, hB4⟩
  rw [dLL]
  have s4 := hB4.size
  have HB4 := acc HB hB4
  have f4 : Hid (OwnT w.heap.size W4 _ L) := owns_below f3.out hB4
  have g4 : Hid (OwnT W1.heap.size W4 _ L) := owns_below g3.out hB4
  have w4 : Hid (OwnT W2.heap.size W4 _ L) := owns_below w3.out hB4
  clear hB4 f3 g3 w3 HB
  go_wp2_with fail
  refine (same_calls L L _ _ W4 (by omega) (by omega) (HasT.of g4.out) (HasT.of w4.out)).mono ?_
  rintro e W5 ⟨rfl, hB5⟩
  rw [dLL]
  have s5 := hB5.size
  have HB5 := acc HB4 hB5
  have f5 : Hid (OwnT w.heap.size W5 _ L) := owns_below f4.out hB5
  have g5 : Hid (OwnT W1.heap.size W5 _ L) := owns_below g4.out hB5
  have w5 : Hid (OwnT W2.heap.size W5 _ L) := owns_below w4.out hB5
  clear hB5 f4 g4 w4 HB4
  have hLn : (L.length : Int) ≤ 1048577 := by omega
  go_wp2
  go_loopw [8, 27] (fun _ i wr => ∃ (k : Nat) (xs : List Value), k ≤ L.length ∧ i = .int .i64 k ∧ Hid (wr.ownsRow w.heap.size 9 1 (.slice af L.length cf) L.length xs) ∧ Hid (OwnT W1.heap.size wr (.slice ag L.length cg) L) ∧ Hid (OwnT W2.heap.size wr (.slice aw L.length cw) L) ∧ Hid (Below w.heap.size w wr)) (fun _ i _ => L.length - (intOf i).toNat)
  case atStart => exact ⟨0, svs L, by omega, rfl, f5, g5, w5, HB5⟩
  case round =>
    obtain ⟨k, xs, hk, rfl, hF, hG, hW, hB⟩ := hrel
    by_cases hlt : k < L.length
    · have hx : xs.length = L.length := by have := hF.out.1; omega
      obtain ⟨g, rfl, hgb⟩ : ∃ g, af = some ⟨g, 0, none⟩ ∧ w.heap.size ≤ g := by
        rcases hF.out.2 with ⟨e, _⟩ | ⟨g, cap, cur, e, hb, _⟩
        · simp only [Value.slice.injEq] at e; omega
        · simp only [Value.slice.injEq] at e; exact ⟨g, e.1, hb⟩
      have hc : wr.cell? ⟨g, k, none⟩ = some xs[k] := by rw [World.ownsRow.cellAt hF.out k (by omega)]; exact List.getElem?_eq_getElem _
      have hfz := World.ownsRow.frozenAt hF.out k
      have hlt1 := (HFB.out g rfl).2
      have HST : Hid _ := World.ownsRow.stored hF.out k (.string ⟨#[115, 112, 111, 105, 108, 116]⟩)
      have HBS : Hid _ := hB.out.setCell (p := ⟨g, k, none⟩) hgb (.string ⟨#[115, 112, 111, 105, 108, 116]⟩)
      have HG2 : Hid _ := World.ownsRow.kept hG.out HST.out.2 (by
        cases e : (Value.slice ag L.length cg).ownBlock with
        | none => exact .inl rfl
        | some j => exact .inr (by have := HGB.out j e; simp; omega))
      have HW2 : Hid _ := World.ownsRow.kept hW.out HST.out.2 (by
        cases e : (Value.slice aw L.length cw).ownBlock with
        | none => exact .inl rfl
        | some j => exact .inr (by have := HWB.out j e; simp; omega))
      generalize xs[k] = x0 at hc
      clear hx
      go_wp2
      first
        | exact ⟨⟨k + 1, _, by omega, by go_num, HST.out.1, HG2, HW2, HBS⟩, by simp [intOf]; omega⟩
        | (go_roundw
           case rel => exact ⟨k + 1, _, by omega, by go_num, HST.out.1, HG2, HW2, HBS⟩
           case measure => simp [intOf]; omega)
    · obtain rfl : k = L.length := by omega
      have sB := hB.out.size
      go_wp2_with (at_builtin; refine wpList_append_own _ rfl _ _ 29 rfl w.heap.size 9 i0 (.string ⟨#[]⟩) 1 16 Try.underlying29 hi hz0 hz1 hz2 rfl (by decide) _ _ _ rfl (World.ownsRow.alloc hF.out _) ⟨wr.heap.size, 0, none⟩ 1 1 [_] rfl rfl (cell_one _ _ _ _ rfl) (by simp [Value.oneCell']) (by unfold maxLen; omega) (by omega) (by simp; omega) ?_; intro v' w6 hown' hgrow _; obtain ⟨a', c', rfl⟩ := owns_slice hown')
      have hB6 : Hid (Below w.heap.size w w6) := (hB.out.alloc sB _).grown hgrow (by simp; omega) (fun j hj => (HFB.out j hj).1)
      have g6 : Hid (OwnT W1.heap.size w6 (.slice ag L.length cg) L) := World.ownsRow.kept (World.ownsRow.alloc hG.out _) hgrow (by
        cases e : (Value.slice ag L.length cg).ownBlock with
        | none => exact .inl rfl
        | some j => exact .inr (fun e' => by have := HGB.out j e; have := (HFB.out j e'.symm).2; omega))
      have w6' : Hid (OwnT W2.heap.size w6 (.slice aw L.length cw) L) := World.ownsRow.kept (World.ownsRow.alloc hW.out _) hgrow (by
        cases e : (Value.slice aw L.length cw).ownBlock with
        | none => exact .inl rfl
        | some j => exact .inr (fun e' => by have := HWB.out j e; have := (HFB.out j e'.symm).2; omega))
      clear hown' hgrow
      refine (same_calls L L _ _ w6 (by omega) (by omega) (HasT.of g6.out) (HasT.of w6'.out)).mono ?_
      rintro e W7 ⟨rfl, hB7⟩
      rw [dLL]
      have HB7 := acc hB6 hB7
      clear hB7 hB6 g6 w6'
      go_wp2_with fail
      refine (lower_calls s W7 hs0).mono ?_
      rintro e W8 ⟨rfl, hB8⟩
      have HB8 := acc HB7 hB8
      clear hB8 HB7
      go_wp2_with fail
      refine (rlower_calls s W8 hs0).mono ?_
      rintro e W9 ⟨rfl, hB9⟩
      have HB9 := acc HB8 hB9
      clear hB9 HB8
      go_wp2_with fail
      refine (fold_calls s t W9 hs0 ht0).mono ?_
      rintro e Wa ⟨rfl, hBa⟩
      have HBa := acc HB9 hBa
      clear hBa HB9
      go_wp2_with fail
      refine (rfold_calls s t Wa hs0 ht0).mono ?_
      rintro e Wb ⟨rfl, hBb⟩
      have HBb := acc HBa hBb
      clear hBb HBa
      go_wp2_with (first
        | (go_at_call 37; refine (trim_calls _ _ hs0).mono ?_; rintro e w' ⟨rfl, hw'⟩; have hx' := hw'.symm; subst hx')
        | (go_at_call 38; refine (rtrim_calls _ _ hs0).mono ?_; rintro e w' ⟨rfl, hw'⟩; have hx' := hw'.symm; subst hx'))
      refine (collapse_calls s Wb (by omega)).mono ?_
      rintro e Wc ⟨rfl, hBc⟩
      have HBc := acc HBb hBc
      clear hBc HBb
      go_wp2_with fail
      refine (rcollapse_calls s Wc (by omega)).mono ?_
      rintro e Wd ⟨rfl, hBd⟩
      have HBd := acc HBc hBd
      clear hBd HBc
      go_wp2_with fail
      refine (awake_calls Wd (HM.out.below HBd.out)).mono ?_
      rintro e We ⟨rfl, hBe⟩
      have HBe := acc HBd hBe
      go_wp2
      go_ret
      exact ⟨rfl, HBe.out⟩

set_option maxRecDepth 100000 in
theorem contract (H : Type) (enc : TypeId × Value → H) (W : World) (base : Nat) (args : Array Value) (ds gs : List (DataW H)) (before : List MemPlace)
    (hval : ∀ (j : Nat) t v, Try.f6.params[j]? = some t → args[j]? = some v → Value.okWide Try.prog W .any base t v)
    (hW : DataW.Whole enc Try.prog Try.f6.params.toList Rows.namesTextsSpec.vars false W args.toList ds gs before) (hsh : W.ShapedOpen Try.prog) (hk : Rows.uptoSmall H (ds ++ gs) = true) :
    Calls Try.prog 6 args W fun e W' => ∃ v, e = .returned v ∧ Rows.namesTextsSpec.post enc Try.prog Try.f6 false true false false W args v W' := by
  have hW' := hW
  have hlt := hW.lt
  obtain ⟨p, q, hA0, hV, rfl, hfz, hnd⟩ := hW
  have hA : DataW.TrodAll enc Try.prog W 0 (fun _ => true) true Try.f6.params.toList args.toList ds p := hA0
  rw [Try.params6] at hA hval
  obtain ⟨v0, vs0, d0, ds0, p0, q0, hargs, rfl, rfl, h0, r0⟩ := trodAll_cons hA
  obtain ⟨v1, vs1, d1, ds1, p1, q1, rfl, rfl, rfl, h1, r1⟩ := trodAll_cons r0
  obtain ⟨rfl, rfl, rfl⟩ := trodAll_nil r1
  obtain rfl : args = #[v0, v1] := by cases args; simp_all
  obtain ⟨rfl, rfl⟩ := trodVars_none hV
  clear hA0
  simp only [List.append_nil] at hW' hlt hk
  have hbulk := of_decide_eq_true hk
  simp only [Rows.uptoBulkAll] at hbulk
  have h0' := h0
  obtain ⟨s0, rfl, rfl, e0, ws0⟩ := Go.ChangeMaps.open_string Try.underlying9 (hval 0 9 v0 rfl rfl) h0
  have h1' := h1
  obtain ⟨s1, rfl, rfl, e1, ws1⟩ := Go.ChangeMaps.open_string Try.underlying9 (hval 1 9 v1 rfl rfl) h1
  refine (walk W (Try.laysM144.s1_3 W hsh) s0 ws0 (by simp only [N.bulk_str, N.size_data] at hbulk; omega) s1 ws1 (by simp only [N.bulk_str, N.size_data] at hbulk; omega)).mono fun e W' ⟨he, hb⟩ => ?_
  subst he
  exact ⟨_, rfl, post_below hW' (fun _ _ _ => trodAll_cons_mk (shut_bool Try.underlying4 _) trodAll_mk0) (trodAll_cons_mk (stays (by kernel_rfl) (of_decide_eq_true (by kernel_rfl)) h0' hb (fun x hx => hlt x (by simp [hx]))) (trodAll_cons_mk (stays (by kernel_rfl) (of_decide_eq_true (by kernel_rfl)) h1' hb (fun x hx => hlt x (by simp [hx]))) trodAll_mk0)) rfl hb⟩

set_option maxRecDepth 100000 in
theorem laid_met (os : Os) : laidMet Try.prog Rows.namesTextsUptoRow.laid ((World.holding Try.prog os ⟨#[], #[], []⟩).forCall (fun _ _ => 0) ⟨#[], #[Value.string ⟨#[]⟩, Value.string ⟨#[]⟩], []⟩).memory :=
  laidMet_of_run' 8 (by kernel_rfl) (by kernel_rfl)
set_option maxRecDepth 100000 in
theorem reads (os : Os) {H : Type} (enc : TypeId × Value → H) : ∃ places, DataW.whole enc Try.prog ((World.holding Try.prog os ⟨#[], #[], []⟩).forCall (fun _ _ => 0) ⟨#[], #[Value.string ⟨#[]⟩, Value.string ⟨#[]⟩], []⟩).memory Try.f6.params.toList Rows.namesTextsSpec.vars false #[Value.string ⟨#[]⟩, Value.string ⟨#[]⟩].toList 8 = some ([.lit (.string []), .lit (.string [])], [], places) :=
  ⟨[], by kernel_rfl⟩

set_option maxRecDepth 100000 in
theorem lifted (os : Os) (started : os.Started) (H : Type) (enc : TypeId × Value → H) (F : Stop.Interp) :
    ReturnsInHanded {} Try.checked os 6 .any ((Rows.OpenSpec.upto Rows.namesTextsSpec).preRow enc Try.prog Try.f6 Rows.namesTextsUptoRow.domain false Rows.namesTextsUptoRow.laid) (((Rows.OpenSpec.upto Rows.namesTextsSpec).at F).post enc Try.prog Try.f6 false true false false) := by
  obtain ⟨places, hx⟩ := reads os enc
  refine returnsInHanded_of_row (C := Try.checked) (s := Rows.OpenSpec.upto Rows.namesTextsSpec) own started (by kernel_rfl) Try.func6
    (witness_row_at (enc := enc) (C := Try.checked) false (World.holding Try.prog os ⟨#[], #[], []⟩) #[Value.string ⟨#[]⟩, Value.string ⟨#[]⟩] rfl (by kernel_rfl) (by kernel_rfl) (by kernel_rfl)
      (OpenSpec.preRow_of_cond 8 hx (by kernel_rfl) (fun k hk => by cases hk; kernel_rfl) (by kernel_rfl) (laid_met os))) ?_
  intro W base args ds gs before hval hW _ hcond _ hL hsh _
  exact contract H enc W base args ds gs before hval hW hsh (hcond _ rfl)

set_option maxRecDepth 100000 in
theorem said : Rows.NamesTextsUptoSaid :=
  OpenClaim.holds_of_cond 6 Try.f6 rfl rfl rfl rfl rfl rfl rfl ⟨rfl, rfl, rfl, rfl, rfl⟩ rfl rfl rfl rfl rfl (by kernel_rfl) Try.func6 (by kernel_rfl)
    (of_decide_eq_true (by kernel_rfl)) (by unfold Func.isWrapper; first | (rw [if_pos (by decide +kernel)]; kernel_rfl) | (rw [if_neg (by decide +kernel)]; exact ⟨rfl, rfl⟩))
    (fun os started H enc _ F => by rw [OpenClaim.pre_eq_preRow]; exact lifted os started H enc F)


end Go.Proofs.Ytobbgmhpmoincaa.NTextsL
