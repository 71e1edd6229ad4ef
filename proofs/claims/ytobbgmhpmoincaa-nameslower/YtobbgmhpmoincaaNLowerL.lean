/- What is proved here: the statement NamesLower (small letters stay and are as long; Fold is an equality; names that may be written are in small letters) holds for any texts, with no condition. -/
import Derived.Test.YtobbgmhpmoincaaNFrame
import Derived.Test.YtobbgmhpmoincaaNFold
namespace Go.Proofs.Ytobbgmhpmoincaa.NLowerL
open Go.ChangeShapes Go.WideShapes Go.ChangeAt Go.RowKit N

set_option maxRecDepth 100000 in
set_option maxHeartbeats 4000000 in
theorem core (w : World) (hm : MaxOk w) (a b c la : ByteArray) (ha : a.size ≤ 9223372036854775807) (hb : b.size ≤ 9223372036854775807) (hc : c.size ≤ 9223372036854775807)
    (h1 : (⟨(lower a.data.toList).toArray⟩ : ByteArray) = la) (h2 : (⟨(lower la.data.toList).toArray⟩ : ByteArray) = la) (hsz : la.size = a.size) (h3 : decide (lower a.data.toList = lower la.data.toList) = true)
    (x y t u : Bool) (hx : decide (lower a.data.toList = lower b.data.toList) = x) (hx' : decide (lower b.data.toList = lower a.data.toList) = x) (hy : decide (lower b.data.toList = lower c.data.toList) = y) (hz : x = true → y = true → decide (lower a.data.toList = lower c.data.toList) = true)
    (ht : tagN a.data.toList = t) (hu : attrN a.data.toList = u) (hq : t = true ∨ u = true → (la.toList == a.toList) = true) :
    Calls Try.prog 7 #[.string a, .string b, .string c] w fun e w' => e = .returned (.bool true) ∧ Below w.heap.size w w' := by
  have HM : Hid (MaxOk w) := hm
  have HB : Hid (Below w.heap.size w w) := Below.refl _ _
  have hl1 : (la.toList == la.toList) = true := by simp
  have H1 : Hid ((⟨(lower a.data.toList).toArray⟩ : ByteArray) = la) := h1
  have H2 : Hid ((⟨(lower la.data.toList).toArray⟩ : ByteArray) = la) := h2
  have hla : la.size ≤ 9223372036854775807 := by omega
  have HSZ : Hid (la.size = a.size) := hsz
  have hsq : ((la.size : Int) != (a.size : Int)) = false := by rw [hsz]; simp
  have HZ : Hid (x = true → y = true → decide (lower a.data.toList = lower c.data.toList) = true) := hz
  have HQ : Hid (t = true ∨ u = true → (la.toList == a.toList) = true) := hq
  clear hm h1 h2 hsz hz hq
  have fin : ∀ (q : Bool), (t = true ∨ u = true → q = true) → (la.toList == a.toList) = q → Calls Try.prog 7 #[.string a, .string b, .string c] w fun e w' => e = .returned (.bool true) ∧ Below w.heap.size w w' := by
    intro q HQ2 hq2
    have HQ3 : Hid (t = true ∨ u = true → q = true) := HQ2
    clear HQ2
    go_enter Try.func7, Try.ntmps7
    go_wp2_with fail
    refine (lower_calls a w ha).mono ?_
    rintro e W1 ⟨rfl, hB1⟩
    rw [H1.out]
    have HB1 := acc HB hB1
    clear hB1 HB
    go_wp2_with fail
    refine (lower_calls la W1 hla).mono ?_
    rintro e W2 ⟨rfl, hB1⟩
    rw [H2.out]
    have HB := acc HB1 hB1
    clear hB1 HB1
    go_wp2_with fail
    refine (fold_calls a la W2 ha hla).mono ?_
    rintro e W3 ⟨rfl, hB1⟩
    rw [h3]
    have HB1 := acc HB hB1
    clear hB1 HB
    go_wp2_with fail
    refine (fold_calls a b W3 ha hb).mono ?_
    rintro e W4 ⟨rfl, hB1⟩
    rw [hx]
    have HB := acc HB1 hB1
    clear hB1 HB1
    go_wp2_with fail
    refine (fold_calls b a W4 hb ha).mono ?_
    rintro e W5 ⟨rfl, hB1⟩
    rw [hx']
    have HB1 := acc HB hB1
    clear hB1 HB
    have hxx : (x != x) = false := by cases x <;> rfl
    go_wp2_with fail
    refine (fold_calls a b W5 ha hb).mono ?_
    rintro e W6 ⟨rfl, hB1⟩
    rw [hx]
    have HB := acc HB1 hB1
    clear hB1 HB1
    cases x with
    | false =>
      cases t with
      | true =>
        obtain rfl : q = true := HQ3.out (.inl rfl)
        go_wp2_with (first
          | (go_at_call 24; refine (tag_calls _ _ ha).mono ?_; rintro e w' ⟨rfl, hw'⟩; have hx' := hw'.symm; subst hx')
          | (go_at_call 26; refine (attr_calls _ _ ha).mono ?_; rintro e w' ⟨rfl, hw'⟩; have hx' := hw'.symm; subst hx')
          | (go_at_call 9; refine (awake_calls _ (HM.out.below HB.out)).mono ?_; rintro e w' ⟨rfl, hb7⟩))
        go_ret
        exact ⟨rfl, (acc HB hb7).out⟩
      | false =>
        cases u with
        | true =>
          obtain rfl : q = true := HQ3.out (.inr rfl)
          go_wp2_with (first
            | (go_at_call 24; refine (tag_calls _ _ ha).mono ?_; rintro e w' ⟨rfl, hw'⟩; have hx' := hw'.symm; subst hx')
            | (go_at_call 26; refine (attr_calls _ _ ha).mono ?_; rintro e w' ⟨rfl, hw'⟩; have hx' := hw'.symm; subst hx')
            | (go_at_call 9; refine (awake_calls _ (HM.out.below HB.out)).mono ?_; rintro e w' ⟨rfl, hb7⟩))
          go_ret
          exact ⟨rfl, (acc HB hb7).out⟩
        | false =>
          go_wp2_with (first
            | (go_at_call 24; refine (tag_calls _ _ ha).mono ?_; rintro e w' ⟨rfl, hw'⟩; have hx' := hw'.symm; subst hx')
            | (go_at_call 26; refine (attr_calls _ _ ha).mono ?_; rintro e w' ⟨rfl, hw'⟩; have hx' := hw'.symm; subst hx')
            | (go_at_call 9; refine (awake_calls _ (HM.out.below HB.out)).mono ?_; rintro e w' ⟨rfl, hb7⟩))
          go_ret
          exact ⟨rfl, (acc HB hb7).out⟩
    | true =>
      go_wp2_with fail
      refine (fold_calls b c W6 hb hc).mono ?_
      rintro e W7 ⟨rfl, hB1⟩
      rw [hy]
      have HB1 := acc HB hB1
      clear hB1 HB
      cases y with
      | true =>
        have hz2 : decide (lower a.data.toList = lower c.data.toList) = true := HZ.out (by trivial) (by trivial)
        go_wp2_with fail
        refine (fold_calls a c W7 ha hc).mono ?_
        rintro e W8 ⟨rfl, hB1⟩
        rw [hz2]
        have HB := acc HB1 hB1
        clear hB1 HB1
        cases t with
        | true =>
          obtain rfl : q = true := HQ3.out (.inl rfl)
          go_wp2_with (first
            | (go_at_call 24; refine (tag_calls _ _ ha).mono ?_; rintro e w' ⟨rfl, hw'⟩; have hx' := hw'.symm; subst hx')
            | (go_at_call 26; refine (attr_calls _ _ ha).mono ?_; rintro e w' ⟨rfl, hw'⟩; have hx' := hw'.symm; subst hx')
            | (go_at_call 9; refine (awake_calls _ (HM.out.below HB.out)).mono ?_; rintro e w' ⟨rfl, hb7⟩))
          go_ret
          exact ⟨rfl, (acc HB hb7).out⟩
        | false =>
          cases u with
          | true =>
            obtain rfl : q = true := HQ3.out (.inr rfl)
            go_wp2_with (first
              | (go_at_call 24; refine (tag_calls _ _ ha).mono ?_; rintro e w' ⟨rfl, hw'⟩; have hx' := hw'.symm; subst hx')
              | (go_at_call 26; refine (attr_calls _ _ ha).mono ?_; rintro e w' ⟨rfl, hw'⟩; have hx' := hw'.symm; subst hx')
              | (go_at_call 9; refine (awake_calls _ (HM.out.below HB.out)).mono ?_; rintro e w' ⟨rfl, hb7⟩))
            go_ret
            exact ⟨rfl, (acc HB hb7).out⟩
          | false =>
            go_wp2_with (first
              | (go_at_call 24; refine (tag_calls _ _ ha).mono ?_; rintro e w' ⟨rfl, hw'⟩; have hx' := hw'.symm; subst hx')
              | (go_at_call 26; refine (attr_calls _ _ ha).mono ?_; rintro e w' ⟨rfl, hw'⟩; have hx' := hw'.symm; subst hx')
              | (go_at_call 9; refine (awake_calls _ (HM.out.below HB.out)).mono ?_; rintro e w' ⟨rfl, hb7⟩))
            go_ret
            exact ⟨rfl, (acc HB hb7).out⟩
      | false =>
        cases t with
        | true =>
          obtain rfl : q = true := HQ3.out (.inl rfl)
          go_wp2_with (first
            | (go_at_call 24; refine (tag_calls _ _ ha).mono ?_; rintro e w' ⟨rfl, hw'⟩; have hx' := hw'.symm; subst hx')
            | (go_at_call 26; refine (attr_calls _ _ ha).mono ?_; rintro e w' ⟨rfl, hw'⟩; have hx' := hw'.symm; subst hx')
            | (go_at_call 9; refine (awake_calls _ (HM.out.below HB1.out)).mono ?_; rintro e w' ⟨rfl, hb7⟩))
          go_ret
          exact ⟨rfl, (acc HB1 hb7).out⟩
        | false =>
          cases u with
          | true =>
            obtain rfl : q = true := HQ3.out (.inr rfl)
            go_wp2_with (first
              | (go_at_call 24; refine (tag_calls _ _ ha).mono ?_; rintro e w' ⟨rfl, hw'⟩; have hx' := hw'.symm; subst hx')
              | (go_at_call 26; refine (attr_calls _ _ ha).mono ?_; rintro e w' ⟨rfl, hw'⟩; have hx' := hw'.symm; subst hx')
              | (go_at_call 9; refine (awake_calls _ (HM.out.below HB1.out)).mono ?_; rintro e w' ⟨rfl, hb7⟩))
            go_ret
            exact ⟨rfl, (acc HB1 hb7).out⟩
          | false =>
            go_wp2_with (first
              | (go_at_call 24; refine (tag_calls _ _ ha).mono ?_; rintro e w' ⟨rfl, hw'⟩; have hx' := hw'.symm; subst hx')
              | (go_at_call 26; refine (attr_calls _ _ ha).mono ?_; rintro e w' ⟨rfl, hw'⟩; have hx' := hw'.symm; subst hx')
              | (go_at_call 9; refine (awake_calls _ (HM.out.below HB1.out)).mono ?_; rintro e w' ⟨rfl, hb7⟩))
            go_ret
            exact ⟨rfl, (acc HB1 hb7).out⟩
  exact fin _ HQ.out rfl

theorem walk (w : World) (hm : MaxOk w) (a : ByteArray) (ha : a.size ≤ 9223372036854775807) (b : ByteArray) (hb : b.size ≤ 9223372036854775807) (c : ByteArray) (hc : c.size ≤ 9223372036854775807) :
    Calls Try.prog 7 #[.string a, .string b, .string c] w fun e w' => e = .returned (.bool true) ∧ Below w.heap.size w w' := by
  refine core w hm a b c ⟨(lower a.data.toList).toArray⟩ ha hb hc rfl ?_ ?_ ?_ _ _ _ _ rfl ?_ rfl ?_ rfl rfl ?_
  · show (⟨(lower (lower a.data.toList)).toArray⟩ : ByteArray) = _
    rw [lower_idem]
  · rw [← size_data, ← size_data a]
    exact lower_length _
  · rw [decide_eq_true_eq]
    exact (lower_idem _).symm
  · rw [Bool.eq_iff_iff]
    simp only [decide_eq_true_eq]
    exact eq_comm
  · intro h1 h2
    rw [decide_eq_true_eq] at *
    exact h1.trans h2
  · intro h
    rw [toList_mk, Lib.toList_data, beq_iff_eq]
    rcases h with h | h
    · exact tagN_lower _ h
    · exact attrN_lower _ h

set_option maxRecDepth 100000 in
theorem contract (H : Type) (enc : TypeId × Value → H) (W : World) (base : Nat) (args : Array Value) (ds gs : List (DataW H)) (before : List MemPlace)
    (hval : ∀ (j : Nat) t v, Try.f7.params[j]? = some t → args[j]? = some v → Value.okWide Try.prog W .any base t v)
    (hW : DataW.Whole enc Try.prog Try.f7.params.toList Rows.namesLowerSpec.vars false W args.toList ds gs before) (hsh : W.ShapedOpen Try.prog) :
    Calls Try.prog 7 args W fun e W' => ∃ v, e = .returned v ∧ Rows.namesLowerSpec.post enc Try.prog Try.f7 false true false false W args v W' := by
  have hW' := hW
  have hlt := hW.lt
  obtain ⟨p, q, hA0, hV, rfl, hfz, hnd⟩ := hW
  have hA : DataW.TrodAll enc Try.prog W 0 (fun _ => true) true Try.f7.params.toList args.toList ds p := hA0
  rw [Try.params7] at hA hval
  obtain ⟨v0, vs0, d0, ds0, p0, q0, hargs, rfl, rfl, h0, r0⟩ := trodAll_cons hA
  obtain ⟨v1, vs1, d1, ds1, p1, q1, rfl, rfl, rfl, h1, r1⟩ := trodAll_cons r0
  obtain ⟨v2, vs2, d2, ds2, p2, q2, rfl, rfl, rfl, h2, r2⟩ := trodAll_cons r1
  obtain ⟨rfl, rfl, rfl⟩ := trodAll_nil r2
  obtain rfl : args = #[v0, v1, v2] := by cases args; simp_all
  obtain ⟨rfl, rfl⟩ := trodVars_none hV
  clear hA0
  simp only [List.append_nil] at hW' hlt
  have h0' := h0
  obtain ⟨s0, rfl, rfl, e0, ws0⟩ := Go.ChangeMaps.open_string Try.underlying9 (hval 0 9 v0 rfl rfl) h0
  have h1' := h1
  obtain ⟨s1, rfl, rfl, e1, ws1⟩ := Go.ChangeMaps.open_string Try.underlying9 (hval 1 9 v1 rfl rfl) h1
  have h2' := h2
  obtain ⟨s2, rfl, rfl, e2, ws2⟩ := Go.ChangeMaps.open_string Try.underlying9 (hval 2 9 v2 rfl rfl) h2
  refine (walk W (Try.laysM144.s1_3 W hsh) s0 ws0 s1 ws1 s2 ws2).mono fun e W' ⟨he, hb⟩ => ?_
  subst he
  exact ⟨_, rfl, post_below hW' (fun _ _ _ => trodAll_cons_mk (shut_bool Try.underlying4 _) trodAll_mk0) (trodAll_cons_mk (stays (by kernel_rfl) (of_decide_eq_true (by kernel_rfl)) h0' hb (fun x hx => hlt x (by simp [hx]))) (trodAll_cons_mk (stays (by kernel_rfl) (of_decide_eq_true (by kernel_rfl)) h1' hb (fun x hx => hlt x (by simp [hx]))) (trodAll_cons_mk (stays (by kernel_rfl) (of_decide_eq_true (by kernel_rfl)) h2' hb (fun x hx => hlt x (by simp [hx]))) trodAll_mk0))) rfl hb⟩

set_option maxRecDepth 100000 in
theorem laid_met (os : Os) : laidMet Try.prog Rows.namesLowerRow.laid ((World.holding Try.prog os ⟨#[], #[], []⟩).forCall (fun _ _ => 0) ⟨#[], #[Value.string ⟨#[]⟩, Value.string ⟨#[]⟩, Value.string ⟨#[]⟩], []⟩).memory :=
  laidMet_of_run' 8 (by kernel_rfl) (by kernel_rfl)
set_option maxRecDepth 100000 in
theorem reads (os : Os) {H : Type} (enc : TypeId × Value → H) : ∃ places, DataW.whole enc Try.prog ((World.holding Try.prog os ⟨#[], #[], []⟩).forCall (fun _ _ => 0) ⟨#[], #[Value.string ⟨#[]⟩, Value.string ⟨#[]⟩, Value.string ⟨#[]⟩], []⟩).memory Try.f7.params.toList Rows.namesLowerSpec.vars false #[Value.string ⟨#[]⟩, Value.string ⟨#[]⟩, Value.string ⟨#[]⟩].toList 8 = some ([.lit (.string []), .lit (.string []), .lit (.string [])], [], places) :=
  ⟨[], by kernel_rfl⟩

set_option maxRecDepth 100000 in
theorem lifted (os : Os) (started : os.Started) (H : Type) (enc : TypeId × Value → H) (F : Stop.Interp) :
    ReturnsInHanded {} Try.checked os 7 .any ((OpenSpec.ofChange Rows.namesLowerSpec).preRow enc Try.prog Try.f7 Rows.namesLowerRow.domain false Rows.namesLowerRow.laid) (((OpenSpec.ofChange Rows.namesLowerSpec).at F).post enc Try.prog Try.f7 false true false false) := by
  obtain ⟨places, hx⟩ := reads os enc
  refine returnsInHanded_of_row (C := Try.checked) (s := OpenSpec.ofChange Rows.namesLowerSpec) own started (by kernel_rfl) Try.func7
    (witness_row_at (enc := enc) (C := Try.checked) false (World.holding Try.prog os ⟨#[], #[], []⟩) #[Value.string ⟨#[]⟩, Value.string ⟨#[]⟩, Value.string ⟨#[]⟩] rfl (by kernel_rfl) (by kernel_rfl) (by kernel_rfl)
      (OpenSpec.preRow_of_cond 8 hx (by kernel_rfl) (fun k hk => by cases hk) (by kernel_rfl) (laid_met os))) ?_
  intro W base args ds gs before hval hW _ _ _ hL hsh _
  exact contract H enc W base args ds gs before hval hW hsh

set_option maxRecDepth 100000 in
theorem said : Rows.NamesLowerSaid :=
  OpenClaim.holds_of_cond 7 Try.f7 rfl rfl rfl rfl rfl rfl rfl ⟨rfl, rfl, rfl, rfl, rfl⟩ rfl rfl rfl rfl rfl (by kernel_rfl) Try.func7 (by kernel_rfl)
    (of_decide_eq_true (by kernel_rfl)) (by unfold Func.isWrapper; first | (rw [if_pos (by decide +kernel)]; kernel_rfl) | (rw [if_neg (by decide +kernel)]; exact ⟨rfl, rfl⟩))
    (fun os started H enc _ F => by rw [OpenClaim.pre_eq_preRow]; exact lifted os started H enc F)


end Go.Proofs.Ytobbgmhpmoincaa.NLowerL
