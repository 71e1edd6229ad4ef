/- What is proved here: the statement NamesFields (fields have no blanks, none is empty; those of two texts with a blank between are both's; collapsed stays collapsed) holds for texts that are together of bulk at most 1048576. -/
import Derived.Laws.AppendOwnNone
import Derived.Test.YtobbgmhpmoincaaNFrame
import Derived.Test.YtobbgmhpmoincaaNRFields
namespace Go.Proofs.Ytobbgmhpmoincaa.NFieldsL
open Go.ChangeShapes Go.WideShapes Go.ChangeAt Go.RowKit N C

theorem dLL (L : List (List UInt8)) : decide (L = L) = true := by simp
theorem svs_one (L : List (List UInt8)) : ∀ u ∈ svs L, u.oneCell' = true := fun x hx => by simp [svs] at hx; obtain ⟨c, _, rfl⟩ := hx; rfl
/-- 'append(s, x...)' of texts in a row to a row of one's own. -/
theorem append_texts {w : World} {ops : Array Oper} {rest : List Oper} {o : Oper} {a : Act} {Q : Exit → Act → World → Prop} (hgd : o.guard = none) (s x : Operand)
    (ho : o.op = .call { callee := .builtin .append, args := #[s, x], argTypes := #[29, 29] }) (base base' : Nat)
    (v : Value) (M : List (List UInt8)) (hs : a.eval s = v) (hown : OwnT base w v M) (xv : Value) (L : List (List UInt8)) (hx : a.eval x = xv) (hX : OwnT base' w xv L)
    (h63 : M.length + L.length ≤ 100000000000) (hbase : base ≤ w.heap.size)
    (h : ∀ v' w', OwnT base w' v' (M ++ L) → w.grownBy w' v.ownBlock → wpList Try.prog ops Q rest (a.put o.dst v') w') : wpList Try.prog ops Q (o :: rest) a w := by
  obtain ⟨i0, hi, hz0, hz1, hz2⟩ := info_parts infoStr
  rcases hX.2 with ⟨rfl, e0⟩ | ⟨g, cap, cur, rfl, hb, hg, hcap, _⟩
  · obtain rfl : L = [] := List.length_eq_zero_iff.1 e0
    exact wpList_append_own_none hgd s x _ ho base _ i0 1 Try.underlying29 hi v _ _ hs hown hx (h v w (by rw [List.append_nil]; exact hown) (World.grownBy.refl _ _))
  · refine wpList_append_own w hgd s x _ ho base _ i0 (.string ⟨#[]⟩) 1 16 Try.underlying29 hi hz0 hz1 hz2 rfl (by decide) v _ _ hs hown ⟨g, 0, none⟩ L.length cap (svs L) hx (by rw [svs_length]; omega) (fun j u hj => ?_) (svs_one L) (by unfold maxLen; omega) (by omega) hbase (fun v' w' h1 h2 _ => h v' w' (by show w'.ownsRow _ _ _ _ _ _; rw [List.length_append, svs_append]; exact h1) h2)
    have hj' : j < L.length := by rw [← svs_length]; exact (List.getElem?_eq_some_iff.1 hj).1
    rw [add_none, Nat.zero_add, World.ownsRow.cellAt hX j (by omega)]
    exact hj
theorem rem_four (x : Int) : 0 ≤ (wrap64 (x.tmod 4 + 4)).tmod 4 ∧ (wrap64 (x.tmod 4 + 4)).tmod 4 < 4 := by
  have h1 : x.tmod 4 < 4 := Int.tmod_lt_of_pos x (by decide)
  have h2 : -4 < x.tmod 4 := Int.lt_tmod_of_pos x (by decide)
  generalize x.tmod 4 = y at *
  have h3 : wrap64 (y + 4) = y + 4 := by unfold wrap64; omega
  rw [h3, Int.tmod_eq_emod_of_nonneg (by omega)]
  omega
theorem between (q : Nat) (hq : q < 4) : ∃ (bt : ByteArray) (c : UInt8), (∀ h, ([.string ⟨#[32]⟩, .string ⟨#[9]⟩, .string ⟨#[10]⟩, .string ⟨#[12]⟩] : List Value)[q]'h = .string bt) ∧ bt.data.toList = [c] ∧ blankB c = true ∧ bt.size = 1 := by
  have : q = 0 ∨ q = 1 ∨ q = 2 ∨ q = 3 := by omega
  rcases this with rfl | rfl | rfl | rfl
  · exact ⟨⟨#[32]⟩, 32, fun _ => rfl, rfl, by decide, rfl⟩
  · exact ⟨⟨#[9]⟩, 9, fun _ => rfl, rfl, by decide, rfl⟩
  · exact ⟨⟨#[10]⟩, 10, fun _ => rfl, rfl, by decide, rfl⟩
  · exact ⟨⟨#[12]⟩, 12, fun _ => rfl, rfl, by decide, rfl⟩
theorem three_data (s b t : ByteArray) (c : UInt8) (h : b.data.toList = [c]) : (s ++ b ++ t).data.toList = s.data.toList ++ c :: t.data.toList := by
  rw [ByteArray.data_append, ByteArray.data_append, Array.toList_append, Array.toList_append, h]
  simp

set_option maxRecDepth 100000 in
set_option maxHeartbeats 4000000 in
theorem walk (w : World) (hm : MaxOk w) (s : ByteArray) (_hs0 : s.size ≤ 9223372036854775807) (hs : s.size ≤ 1048576) (t : ByteArray) (_ht0 : t.size ≤ 9223372036854775807) (ht : t.size ≤ 1048576) (x : Int) (_wx : (Lit.int .i64 x).wf = true) :
    Calls Try.prog 8 #[.string s, .string t, .int .i64 x] w fun e w' => e = .returned (.bool true) ∧ Below w.heap.size w w' := by
  have HM : Hid (MaxOk w) := hm
  obtain ⟨q, hq⟩ : ∃ q : Nat, (wrap64 (x.tmod 4 + 4)).tmod 4 = (q : Int) := ⟨_, (Int.toNat_of_nonneg (rem_four x).1).symm⟩
  have hq4 : q < 4 := by have := (rem_four x).2; omega
  obtain ⟨bt, bc, hbt, hbd, hbb, hb1⟩ := between q hq4
  have hcnt : (fields s.data.toList).length ≤ 1048577 := by have := fields_count s.data.toList; rw [size_data] at this; omega
  have hcnt' : (fields t.data.toList).length ≤ 1048577 := by have := fields_count t.data.toList; rw [size_data] at this; omega
  have HBD : Hid ((s ++ bt ++ t).data.toList = s.data.toList ++ bc :: t.data.toList) := three_data s bt t bc hbd
  have HFT : Hid (fields (s ++ bt ++ t).data.toList = fields s.data.toList ++ fields t.data.toList) := by rw [HBD.out]; exact fields_two _ _ _ hbb
  have HSZ : Hid ((s ++ bt ++ t).size ≤ 2097153) := by show _ ≤ _; rw [ByteArray.size_append, ByteArray.size_append]; omega
  have HWD : Hid (∀ j (h : j < (fields s.data.toList).length), Word (fields s.data.toList)[j] ∧ (fields s.data.toList)[j].length ≤ 2097153) := fun j h => ⟨fields_words _ _ (List.getElem_mem _), by
    have h1 := fieldsFrom_sum s.data.toList []
    have h2 := Lib.lens_take_succ (fields s.data.toList) j _ (List.getElem?_eq_getElem h)
    have h3 := Lib.lens_take_le (fields s.data.toList) (j + 1)
    rw [size_data] at h1
    unfold fields at *
    simp at h1
    omega⟩
  clear hm hbd hbb
  go_enter Try.func8, Try.ntmps8
  go_wp2_with fail
  clear hbt hq
  have HBA : Hid (Below w.heap.size w (w.alloc (.cells #[.string ⟨#[32]⟩, .string ⟨#[9]⟩, .string ⟨#[10]⟩, .string ⟨#[12]⟩] 9))) := (Below.refl _ w).alloc (Nat.le_refl _) _
  generalize w.alloc (.cells #[.string ⟨#[32]⟩, .string ⟨#[9]⟩, .string ⟨#[10]⟩, .string ⟨#[12]⟩] 9) = W0 at *
  refine (fields_calls s W0 (by omega)).mono ?_
  rintro e W1 ⟨vf, rfl, hf, hB1⟩
  obtain ⟨af, cf, rfl⟩ := owns_slice hf
  have HB1 := acc HBA hB1
  clear hB1 HBA
  go_wp2_with fail
  refine (fields_calls t W1 (by omega)).mono ?_
  rintro e W2 ⟨vg, rfl, hg, hB2⟩
  obtain ⟨ag, cg, rfl⟩ := owns_slice hg
  have HB2 := acc HB1 hB2
  have f2 : Hid (OwnT W0.heap.size W2 _ (fields s.data.toList)) := owns_below hf hB2
  have g2 : Hid (OwnT W1.heap.size W2 _ (fields t.data.toList)) := hg
  clear hB2 HB1 hf hg
  have HCO : Hid (collapse s.data.toList = joined (fields s.data.toList)) := rfl
  have HCL : Hid (collapse (collapse s.data.toList) = collapse s.data.toList ∧ fields (collapse s.data.toList) = fields s.data.toList ∧ trim (collapse s.data.toList) = collapse s.data.toList ∧ (collapse s.data.toList).length ≤ 1048577) := ⟨collapse_idem _, fields_collapse _, trim_collapse _, by have := collapse_length s.data.toList; rw [size_data] at this; omega⟩
  obtain ⟨L, hL⟩ : ∃ L, fields s.data.toList = L := ⟨_, rfl⟩
  obtain ⟨M, hM⟩ : ∃ M, fields t.data.toList = M := ⟨_, rfl⟩
  rw [hL] at hcnt HFT f2 HCO HCL
  rw [hM] at hcnt' HFT g2
  have HWD2 : Hid (∀ j (h : j < L.length), Word L[j] ∧ L[j].length ≤ 2097153) := by subst hL; exact HWD
  rw [hL, hM]
  clear HWD hL hM
  have hLn : (L.length : Int) ≤ 1048577 := by omega
  go_wp2
  go_loopw [11, 26] (fun _ i wr => ∃ k : Nat, k ≤ L.length ∧ i = .int .i64 k ∧ Hid (OwnT W0.heap.size wr (.slice af L.length cf) L) ∧ Hid (OwnT W1.heap.size wr (.slice ag M.length cg) M) ∧ Hid (Below w.heap.size w wr)) (fun _ i _ => L.length - (intOf i).toNat)
  case atStart => exact ⟨0, by omega, rfl, f2, g2, HB2⟩
  case round =>
    obtain ⟨k, hk, rfl, hF, hG, hB⟩ := hrel
    by_cases hlt : k < L.length
    · obtain ⟨b, rfl, hb, hcap, hcell⟩ := (HasT.of hF.out).at (by omega)
      have hc := hcell k hlt
      obtain ⟨y, hy⟩ : ∃ y, (⟨L[k].toArray⟩ : ByteArray) = y := ⟨_, rfl⟩
      obtain ⟨hw1, hw2⟩ := HWD2.out k hlt
      have hyd : y.data.toList = L[k] := by rw [← hy]
      rw [hy] at hc
      rw [← hyd] at hw1 hw2
      have hys : y.size ≤ 2097153 := by rw [← size_data]; exact hw2
      have hne : (y.toList == ([] : List UInt8)) = false := ne_empty y (by rw [← size_data]; intro e; exact hw1.1 (List.length_eq_zero_iff.1 e))
      have HYT : Hid ((⟨(trim y.data.toList).toArray⟩ : ByteArray) = y) := by show _ = _; rw [trim_word _ hw1, Lib.mk_data]
      have HYF : Hid (fields y.data.toList = [y.data.toList]) := fields_word _ hw1
      clear hcell hy hyd hw1 hw2
      go_wp2_with (first
        | (go_at_call 37; refine (trim_calls _ _ (by omega)).mono ?_; rintro e w' ⟨rfl, hw'⟩; have hx' := hw'.symm; subst hx'; rw [HYT.out])
        | (go_at_call 30; refine (fields_calls _ _ (by omega)).mono ?_; rintro e W4 ⟨v, rfl, hO, hB4⟩; rw [HYF.out] at hO; obtain ⟨a4, c4, rfl⟩ := owns_slice hO))
      go_roundw
      case rel => exact ⟨k + 1, by omega, by go_num, owns_below hF.out hB4, owns_below hG.out hB4, acc hB hB4⟩
      case measure => simp [intOf]; omega
    · obtain rfl : k = L.length := by omega
      go_wp2_with fail
      refine (collapse_calls s wr (by omega)).mono ?_
      rintro e W3 ⟨rfl, hB3⟩
      have HB3 := acc hB hB3
      have f3 : Hid (OwnT W0.heap.size W3 _ L) := owns_below hF.out hB3
      have g3 : Hid (OwnT W1.heap.size W3 _ M) := owns_below hG.out hB3
      clear hB3 hF hG hB
      obtain ⟨cs, hcs⟩ : ∃ cs, (⟨(collapse s.data.toList).toArray⟩ : ByteArray) = cs := ⟨_, rfl⟩
      have hcd : cs.data.toList = collapse s.data.toList := by rw [← hcs]
      have hcz : cs.size ≤ 1048577 := by rw [← size_data, hcd]; exact HCL.out.2.2.2
      have HC1 : Hid ((⟨(collapse cs.data.toList).toArray⟩ : ByteArray) = cs) := by show _ = _; rw [hcd, HCL.out.1, hcs]
      have HC2 : Hid (fields cs.data.toList = L) := by show _ = _; rw [hcd]; exact HCL.out.2.1
      have HC3 : Hid ((⟨(trim cs.data.toList).toArray⟩ : ByteArray) = cs) := by show _ = _; rw [hcd, HCL.out.2.2.1, hcs]
      rw [hcs]
      clear hcs hcd HCL HCO
      have hsum1 : s.size + bt.size ≤ 9223372036854775807 := by omega
      have hsum2 : s.size + bt.size + t.size ≤ 9223372036854775807 := by omega
      have hsum3 : (s ++ bt).size + t.size ≤ 9223372036854775807 := by rw [ByteArray.size_append]; omega
      clear hb1
      go_wp2_with fail
      refine (fields_calls (s ++ bt ++ t) W3 (by have := HSZ.out; omega)).mono ?_
      rintro e W4 ⟨v4, rfl, hO4, hB4⟩
      rw [HFT.out] at hO4
      obtain ⟨a4, c4, rfl⟩ := owns_slice hO4
      have HB4 := acc HB3 hB4
      have s4 := hB4.size
      have f4 : Hid (OwnT W0.heap.size W4 _ L) := owns_below f3.out hB4
      have g4 : Hid (OwnT W1.heap.size W4 _ M) := owns_below g3.out hB4
      have O4 : Hid (OwnT W3.heap.size W4 _ (L ++ M)) := hO4
      clear hB4 f3 g3 HB3 hO4
      go_wp2_with (first
        | (at_builtin; refine append_texts rfl _ _ rfl W4.heap.size W0.heap.size (.slice (some ⟨W4.heap.size, 0, none⟩) 0 0) [] rfl (owns_empty W4 _ 1) _ L rfl (World.ownsRow.alloc f4.out _) (by simp; omega) (by simp) ?_; intro v5 w5 hown5 hgrow5; have b5 : Below W4.heap.size W4 w5 := ((Below.refl _ W4).alloc (Nat.le_refl _) _).grown hgrow5 (by simp) (fun j hj => by simp [Value.ownBlock] at hj; omega); have l5 := hown5.lt; have g5 : OwnT W1.heap.size w5 _ M := owns_below g4.out b5; have z5 := b5.size; clear hgrow5)
        | (at_builtin; refine append_texts rfl _ _ rfl W4.heap.size W1.heap.size v5 ([] ++ L) rfl hown5 _ M rfl g5 (by simp; omega) (by omega) ?_; intro v6 w6 hown6 hgrow6))
      have b6 : Below W4.heap.size W4 w6 := b5.grown hgrow6 (by omega) (fun j hj => (l5 j hj).1)
      have HB6 : Hid (Below w.heap.size w w6) := acc HB4 b6
      have f6 : Hid (OwnT W0.heap.size w6 _ L) := owns_below f4.out b6
      have O6 : Hid (OwnT W3.heap.size w6 _ (L ++ M)) := owns_below O4.out b6
      have P6 : Hid (OwnT W4.heap.size w6 v6 (L ++ M)) := by rw [List.nil_append] at hown6; exact hown6
      clear hgrow6 hown6 hown5 b5 b6 l5 g5 g4 f4 O4 HB4 z5
      have O7 : HasT w6 (.slice a4 (L.length + M.length) c4) (L ++ M) := by rw [← List.length_append]; exact HasT.of O6.out
      refine (same_calls (L ++ M) (L ++ M) (.slice a4 (L.length + M.length) c4) v6 w6 (by simp; omega) (by simp; omega) O7 (HasT.of P6.out)).mono ?_
      rintro e W7 ⟨rfl, hB7⟩
      rw [dLL]
      have HB7 := acc HB6 hB7
      have f7 : Hid (OwnT W0.heap.size W7 _ L) := owns_below f6.out hB7
      clear hB7 HB6 f6 O6 P6 O7
      go_wp2_with fail
      refine (collapse_calls cs W7 (by omega)).mono ?_
      rintro e W8 ⟨rfl, hB8⟩
      rw [HC1.out]
      have HB8 := acc HB7 hB8
      have f8 : Hid (OwnT W0.heap.size W8 _ L) := owns_below f7.out hB8
      clear hB8 HB7 f7
      go_wp2_with fail
      refine (fields_calls cs W8 (by omega)).mono ?_
      rintro e W9 ⟨v9, rfl, hO9, hB9⟩
      rw [HC2.out] at hO9
      have HB9 := acc HB8 hB9
      have f9 : Hid (OwnT W0.heap.size W9 _ L) := owns_below f8.out hB9
      have O9 : Hid (OwnT W8.heap.size W9 v9 L) := hO9
      clear hB9 HB8 f8 hO9
      go_wp2_with fail
      refine (same_calls L L _ _ W9 (by omega) (by omega) (HasT.of O9.out) (HasT.of f9.out)).mono ?_
      rintro e Wa ⟨rfl, hBa⟩
      rw [dLL]
      have HBa := acc HB9 hBa
      clear hBa HB9 f9 O9
      go_wp2_with (go_at_call 37; refine (trim_calls _ _ (by omega)).mono ?_; rintro e w' ⟨rfl, hw'⟩; have hx' := hw'.symm; subst hx'; rw [HC3.out])
      refine (awake_calls Wa (HM.out.below HBa.out)).mono ?_
      rintro e Wb ⟨rfl, hBb⟩
      have HBb := acc HBa hBb
      go_wp2
      go_ret
      exact ⟨rfl, HBb.out⟩

set_option maxRecDepth 100000 in
theorem contract (H : Type) (enc : TypeId × Value → H) (W : World) (base : Nat) (args : Array Value) (ds gs : List (DataW H)) (before : List MemPlace)
    (hval : ∀ (j : Nat) t v, Try.f8.params[j]? = some t → args[j]? = some v → Value.okWide Try.prog W .any base t v)
    (hW : DataW.Whole enc Try.prog Try.f8.params.toList Rows.namesFieldsSpec.vars false W args.toList ds gs before) (hsh : W.ShapedOpen Try.prog) (hk : Rows.uptoSmall H (ds ++ gs) = true) :
    Calls Try.prog 8 args W fun e W' => ∃ v, e = .returned v ∧ Rows.namesFieldsSpec.post enc Try.prog Try.f8 false true false false W args v W' := by
  have hW' := hW
  have hlt := hW.lt
  obtain ⟨p, q, hA0, hV, rfl, hfz, hnd⟩ := hW
  have hA : DataW.TrodAll enc Try.prog W 0 (fun _ => true) true Try.f8.params.toList args.toList ds p := hA0
  rw [Try.params8] at hA hval
  obtain ⟨v0, vs0, d0, ds0, p0, q0, hargs, rfl, rfl, h0, r0⟩ := trodAll_cons hA
  obtain ⟨v1, vs1, d1, ds1, p1, q1, rfl, rfl, rfl, h1, r1⟩ := trodAll_cons r0
  obtain ⟨v2, vs2, d2, ds2, p2, q2, rfl, rfl, rfl, h2, r2⟩ := trodAll_cons r1
  obtain ⟨rfl, rfl, rfl⟩ := trodAll_nil r2
  obtain rfl : args = #[v0, v1, v2] := by cases args; simp_all
  obtain ⟨rfl, rfl⟩ := trodVars_none hV
  clear hA0
  simp only [List.append_nil] at hW' hlt hk
  have hbulk := of_decide_eq_true hk
  simp only [Rows.uptoBulkAll] at hbulk
  have h0' := h0
  obtain ⟨s0, rfl, rfl, e0, ws0⟩ := Go.ChangeMaps.open_string Try.underlying9 (hval 0 9 v0 rfl rfl) h0
  have h1' := h1
  obtain ⟨s1, rfl, rfl, e1, ws1⟩ := Go.ChangeMaps.open_string Try.underlying9 (hval 1 9 v1 rfl rfl) h1
  have h2' := h2
  obtain ⟨x2, rfl, e2, -, w2⟩ := open_int Try.underlying3 (hval 2 3 v2 rfl rfl) h2
  refine (walk W (Try.laysM144.s1_3 W hsh) s0 ws0 (by simp only [N.bulk_str, N.size_data] at hbulk; omega) s1 ws1 (by simp only [N.bulk_str, N.size_data] at hbulk; omega) x2 w2).mono fun e W' ⟨he, hb⟩ => ?_
  subst he
  exact ⟨_, rfl, post_below hW' (fun _ _ _ => trodAll_cons_mk (shut_bool Try.underlying4 _) trodAll_mk0) (trodAll_cons_mk (stays (by kernel_rfl) (of_decide_eq_true (by kernel_rfl)) h0' hb (fun x hx => hlt x (by simp [hx]))) (trodAll_cons_mk (stays (by kernel_rfl) (of_decide_eq_true (by kernel_rfl)) h1' hb (fun x hx => hlt x (by simp [hx]))) (trodAll_cons_mk (stays (by kernel_rfl) (of_decide_eq_true (by kernel_rfl)) h2' hb (fun x hx => hlt x (by simp [hx]))) trodAll_mk0))) rfl hb⟩

set_option maxRecDepth 100000 in
theorem laid_met (os : Os) : laidMet Try.prog Rows.namesFieldsUptoRow.laid ((World.holding Try.prog os ⟨#[], #[], []⟩).forCall (fun _ _ => 0) ⟨#[], #[Value.string ⟨#[]⟩, Value.string ⟨#[]⟩, Value.int .i64 0], []⟩).memory :=
  laidMet_of_run' 8 (by kernel_rfl) (by kernel_rfl)
set_option maxRecDepth 100000 in
theorem reads (os : Os) {H : Type} (enc : TypeId × Value → H) : ∃ places, DataW.whole enc Try.prog ((World.holding Try.prog os ⟨#[], #[], []⟩).forCall (fun _ _ => 0) ⟨#[], #[Value.string ⟨#[]⟩, Value.string ⟨#[]⟩, Value.int .i64 0], []⟩).memory Try.f8.params.toList Rows.namesFieldsSpec.vars false #[Value.string ⟨#[]⟩, Value.string ⟨#[]⟩, Value.int .i64 0].toList 8 = some ([.lit (.string []), .lit (.string []), .lit (.int .i64 0)], [], places) :=
  ⟨[], by kernel_rfl⟩

set_option maxRecDepth 100000 in
theorem lifted (os : Os) (started : os.Started) (H : Type) (enc : TypeId × Value → H) (F : Stop.Interp) :
    ReturnsInHanded {} Try.checked os 8 .any ((Rows.OpenSpec.upto Rows.namesFieldsSpec).preRow enc Try.prog Try.f8 Rows.namesFieldsUptoRow.domain false Rows.namesFieldsUptoRow.laid) (((Rows.OpenSpec.upto Rows.namesFieldsSpec).at F).post enc Try.prog Try.f8 false true false false) := by
  obtain ⟨places, hx⟩ := reads os enc
  refine returnsInHanded_of_row (C := Try.checked) (s := Rows.OpenSpec.upto Rows.namesFieldsSpec) own started (by kernel_rfl) Try.func8
    (witness_row_at (enc := enc) (C := Try.checked) false (World.holding Try.prog os ⟨#[], #[], []⟩) #[Value.string ⟨#[]⟩, Value.string ⟨#[]⟩, Value.int .i64 0] rfl (by kernel_rfl) (by kernel_rfl) (by kernel_rfl)
      (OpenSpec.preRow_of_cond 8 hx (by kernel_rfl) (fun k hk => by cases hk; kernel_rfl) (by kernel_rfl) (laid_met os))) ?_
  intro W base args ds gs before hval hW _ hcond _ hL hsh _
  exact contract H enc W base args ds gs before hval hW hsh (hcond _ rfl)

set_option maxRecDepth 100000 in
theorem said : Rows.NamesFieldsUptoSaid :=
  OpenClaim.holds_of_cond 8 Try.f8 rfl rfl rfl rfl rfl rfl rfl ⟨rfl, rfl, rfl, rfl, rfl⟩ rfl rfl rfl rfl rfl (by kernel_rfl) Try.func8 (by kernel_rfl)
    (of_decide_eq_true (by kernel_rfl)) (by unfold Func.isWrapper; first | (rw [if_pos (by decide +kernel)]; kernel_rfl) | (rw [if_neg (by decide +kernel)]; exact ⟨rfl, rfl⟩))
    (fun os started H enc _ F => by rw [OpenClaim.pre_eq_preRow]; exact lifted os started H enc F)


end Go.Proofs.Ytobbgmhpmoincaa.NFieldsL
