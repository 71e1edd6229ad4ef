/- What is proved here: the statement MarkupOpens (Open of any text is the document's; the kinds are counted from 0 on) holds for any text, with no condition but what the card says of the listed tables. -/
import Derived.Test.YtckhnkkmcgbabaaDoorCards
import Derived.Test.YtckhnkkmcgbabaaDoorTie
import Derived.Test.YtckhnkkmcgbabaaDoorKOpen
import Derived.Test.YtckhnkkmcgbabaaDoorKFold
import Derived.ProofKit
import Derived.OpenShut
namespace Go.Proofs.YtckhnkkmcgbabaaDoor.KOpens
open Go.ChangeShapes Go.WideShapes Go.ChangeAt Go.RowKit U K

/-- Does a text begin with the word, but for capitals? -/
def isD (bs : List UInt8) : Bool := decide (7 ≤ bs.length) && Lib.equalFold (bs.take 7) D7
/-- What Open answers. -/
def openV (bs : List UInt8) : Value := if pfx [45, 45] bs = true then .tuple #[.int .i64 0, .int .i64 2] else if isD bs = true then .tuple #[.int .i64 1, .int .i64 7] else .tuple #[.int .i64 2, .int .i64 0]
set_option maxRecDepth 100000 in
set_option maxHeartbeats 2000000 in
/-- **Open.** -/
theorem open_calls (bs : List UInt8) (w : World) (hF : Fold w) :
    Calls Tryd.prog 8 #[.string ⟨bs.toArray⟩] w fun e w' => e = .returned (openV bs) ∧ Below w.heap.size w w' := by
  have hz := byteArr_size bs
  obtain ⟨p, hp⟩ : ∃ p, pfx [45, 45] bs = p := ⟨_, rfl⟩
  obtain ⟨d, hd⟩ : ∃ d, isD bs = d := ⟨_, rfl⟩
  have H1 : Hid (∀ w, Calls Tryd.prog 20 #[.string ⟨bs.toArray⟩, .string ⟨#[45, 45]⟩] w fun e w' => e = .returned (.bool p) ∧ w' = w) := fun w => by
    have h := hasp_calls bs [45, 45] w
    rw [hp] at h
    exact h
  have HV : Hid (openV bs = if p = true then .tuple #[.int .i64 0, .int .i64 2] else if d = true then .tuple #[.int .i64 1, .int .i64 7] else .tuple #[.int .i64 2, .int .i64 0]) := by
    show openV bs = _
    unfold openV
    rw [hp, hd]
  clear hp
  cases p with
  | true =>
    clear hd
    go_enter Tryd.func8, Tryd.ntmps8
    go_wp2_with (go_at_call 20; refine (H1.out _).mono ?_; rintro e w1 ⟨rfl, rfl⟩)
    go_ret2
    exact ⟨ret_is (by rw [HV.out]; rfl), Below.refl _ _⟩
  | false =>
    by_cases hl : 7 ≤ bs.length
    · have hge : decide ((bs.length : Int) ≥ 7) = true := by rw [decide_eq_true_eq]; omega
      have hge2 : decide (7 ≤ (bs.length : Int)) = true := by rw [decide_eq_true_eq]; omega
      have hsl := slice_h bs 7 hl 7 rfl
      obtain ⟨B, hB⟩ : ∃ B, bs.take 7 = B := ⟨_, rfl⟩
      rw [hB] at hsl
      have H2 : Hid (Calls Tryd.prog 21 #[.string ⟨B.toArray⟩, .string ⟨#[100, 111, 99, 116, 121, 112, 101]⟩] w fun e w' => e = .returned (.bool d) ∧ Below w.heap.size w w') := by
        have h := fold_calls B (by rw [← hB, List.length_take]; omega) w hF
        rw [show Lib.equalFold B D7 = d by rw [← hd, ← hB]; unfold isD; rw [show decide (7 ≤ bs.length) = true from decide_eq_true hl, Bool.true_and]] at h
        exact h
      clear hd hB hF
      go_enter Tryd.func8, Tryd.ntmps8
      go_wp2_with (go_at_call 20; refine (H1.out _).mono ?_; rintro e w1 ⟨rfl, h1⟩; obtain rfl : w = w1 := h1.symm)
      (go_at_call 21; refine H2.out.mono ?_; rintro e w2 ⟨rfl, hb2⟩)
      cases d with
      | true =>
        go_wp2
        go_ret2
        exact ⟨ret_is (by rw [HV.out]; rfl), hb2⟩
      | false =>
        go_wp2
        go_ret2
        exact ⟨ret_is (by rw [HV.out]; rfl), hb2⟩
    · have hge : decide ((bs.length : Int) ≥ 7) = false := by rw [decide_eq_false_iff_not]; omega
      have hge2 : decide (7 ≤ (bs.length : Int)) = false := by rw [decide_eq_false_iff_not]; omega
      have HD : Hid (d = false) := by show d = false; rw [← hd]; unfold isD; rw [show decide (7 ≤ bs.length) = false from decide_eq_false hl, Bool.false_and]
      clear hd
      go_enter Tryd.func8, Tryd.ntmps8
      go_wp2_with (go_at_call 20; refine (H1.out _).mono ?_; rintro e w1 ⟨rfl, h1⟩; obtain rfl : w = w1 := h1.symm)
      all_goals go_ret2
      all_goals exact ⟨ret_is (by rw [HV.out, HD.out]; rfl), by first | exact Below.refl _ _ | exact (Below.refl _ _).drew⟩

set_option maxRecDepth 100000 in
set_option maxHeartbeats 4000000 in
/-- **letters.** -/
theorem letters_calls (bs : List UInt8) (w : World) :
    Calls Tryd.prog 22 #[.string ⟨bs.toArray⟩, .string ⟨#[100, 111, 99, 116, 121, 112, 101]⟩] w fun e w' => e = .returned (.bool (isD bs)) ∧ Below w.heap.size w w' := by
  have hz := byteArr_size bs
  by_cases hl : 7 ≤ bs.length
  · have hge : decide ((bs.length : Int) < 7) = false := by rw [decide_eq_false_iff_not]; omega
    have HD : Hid (isD bs = Lib.equalFold (bs.take 7) D7) := by show _ = _; unfold isD; rw [show decide (7 ≤ bs.length) = true from decide_eq_true hl, Bool.true_and]
    go_enter Tryd.func22, Tryd.ntmps22
    go_wp2
    go_loopw [5] (fun i wx => ∃ k : Nat, k ≤ 7 ∧ i = .int .i64 k ∧ Hid (isD bs = Lib.equalFold ((bs.take 7).drop k) (D7.drop k)) ∧ Below w.heap.size w wx) (fun i _ => 7 - (intOf i).toNat)
    case atStart => exact ⟨0, by omega, rfl, HD.out, Below.refl _ _⟩
    case round =>
      obtain ⟨k, hk, rfl, hR, hB⟩ := hrel
      by_cases hlt : k < 7
      · have hbk : k < bs.length := by omega
        have hbt : k < (bs.take 7).length := by rw [List.length_take]; omega
        have hdk : k < D7.length := hlt
        obtain ⟨x, hx⟩ : ∃ x : UInt8, bs[k] = x := ⟨_, rfl⟩
        obtain ⟨y, hy⟩ : ∃ y : UInt8, D7[k] = y := ⟨_, rfl⟩
        have hix : ∀ w, (Instr.index 9 (.string ⟨bs.toArray⟩) (.int .i64 k)).run Tryd.prog w = .ok (.int .u8 (x.toNat : Int)) w := fun w => run_byte w 9 ⟨bs.toArray⟩ .i64 k k x Tryd.underlying9 rfl (by rw [hz]; exact hbk) (by simp [hbk, hx])
        have hiy : ∀ w, (Instr.index 9 (.string ⟨#[100, 111, 99, 116, 121, 112, 101]⟩) (.int .i64 k)).run Tryd.prog w = .ok (.int .u8 (y.toNat : Int)) w := fun w => run_byte w 9 ⟨D7.toArray⟩ .i64 k k y Tryd.underlying9 rfl (by rw [byteArr_size]; exact hlt) (by rw [← hy]; simp [List.getD, hdk])
        obtain ⟨f1, f2, _, _⟩ := D7_fact k hlt
        rw [show D7.getD k 0 = y by rw [← hy]; simp [List.getD, hdk]] at f1 f2
        have HX : Hid ((bs.take 7).drop k = x :: (bs.take 7).drop (k + 1) ∧ D7.drop k = y :: D7.drop (k + 1)) := ⟨by rw [drop_head (bs.take 7) k hbt, List.getElem_take, hx], by rw [drop_head D7 k hdk, hy]⟩
        have hlx := UInt8.toNat_lt x
        clear hx hy
        by_cases hup : 65 ≤ x.toNat ∧ x.toNat ≤ 90
        · have u1 : decide ((x.toNat : Int) ≥ 65) = true := by rw [decide_eq_true_eq]; omega
          have u2 : decide (65 ≤ (x.toNat : Int)) = true := by rw [decide_eq_true_eq]; omega
          have u3 : decide ((x.toNat : Int) ≤ 90) = true := by rw [decide_eq_true_eq]; omega
          have wr : IntKind.u8.wrap ((x.toNat : Int) + 32) = (x.toNat : Int) + 32 := by rw [IntKind.wrap_u8]; omega
          by_cases he : x.toNat + 32 = y.toNat
          · have hne : ((x.toNat : Int) + 32 != (y.toNat : Int)) = false := by simp; omega
            go_wp2
            go_roundw
            case rel => exact ⟨k + 1, by omega, by go_num, by show _ = _; rw [hR.out, HX.out.1, HX.out.2, Lib.equalFold_yes _ _ _ _ (decide_eq_true (by omega))], hB⟩
            case measure => simp [intOf]; omega
          · have hne : ((x.toNat : Int) + 32 != (y.toNat : Int)) = true := by rw [bne_iff_ne]; omega
            go_wp2
            go_ret
            exact ⟨ret_is (by rw [hR.out, HX.out.1, HX.out.2, Lib.equalFold_no _ _ _ _ (decide_eq_false (by omega))]; rfl), hB⟩
        · have u4 : ¬ ((65 : Int) ≤ (x.toNat : Int) ∧ (x.toNat : Int) ≤ 90) := by omega
          by_cases he : x.toNat = y.toNat
          · have hne : ((x.toNat : Int) != (y.toNat : Int)) = false := by simp; omega
            have HY : Hid (Lib.equalFold ((bs.take 7).drop k) (D7.drop k) = Lib.equalFold ((bs.take 7).drop (k + 1)) (D7.drop (k + 1))) := by show _ = _; rw [HX.out.1, HX.out.2, Lib.equalFold_yes _ _ _ _ (decide_eq_true (by omega))]
            by_cases h65 : 65 ≤ x.toNat
            · have u1 : decide ((x.toNat : Int) ≥ 65) = true := by rw [decide_eq_true_eq]; omega
              have u2 : decide (65 ≤ (x.toNat : Int)) = true := by rw [decide_eq_true_eq]; omega
              have u3 : decide ((x.toNat : Int) ≤ 90) = false := by rw [decide_eq_false_iff_not]; omega
              clear u4 hup he
              go_wp2
              go_roundw
              case rel => exact ⟨k + 1, by omega, by go_num, by show _ = _; rw [hR.out, HY.out], hB⟩
              case measure => simp [intOf]; omega
            · omega
          · have hne : ((x.toNat : Int) != (y.toNat : Int)) = true := by rw [bne_iff_ne]; omega
            have HY : Hid (isD bs = false) := by show _ = _; rw [hR.out, HX.out.1, HX.out.2, Lib.equalFold_no _ _ _ _ (decide_eq_false (by omega))]
            by_cases h65 : 65 ≤ x.toNat
            · have u1 : decide ((x.toNat : Int) ≥ 65) = true := by rw [decide_eq_true_eq]; omega
              have u2 : decide (65 ≤ (x.toNat : Int)) = true := by rw [decide_eq_true_eq]; omega
              have u3 : decide ((x.toNat : Int) ≤ 90) = false := by rw [decide_eq_false_iff_not]; omega
              clear u4 hup he hR
              go_wp2
              go_ret
              exact ⟨ret_is (by rw [HY.out]; rfl), hB⟩
            · have u1 : decide ((x.toNat : Int) ≥ 65) = false := by rw [decide_eq_false_iff_not]; omega
              have u2 : decide (65 ≤ (x.toNat : Int)) = false := by rw [decide_eq_false_iff_not]; omega
              clear u4 hup he hR
              go_wp2
              go_ret
              exact ⟨ret_is (by rw [HY.out]; rfl), hB⟩
      · obtain rfl : k = 7 := by omega
        go_wp2
        go_ret
        refine ⟨ret_is ?_, hB⟩
        rw [hR.out, List.drop_eq_nil_of_le (by rw [List.length_take]; omega)]; rfl
  · have hge : decide ((bs.length : Int) < 7) = true := by rw [decide_eq_true_eq]; omega
    have HD : Hid (isD bs = false) := by show _ = _; unfold isD; rw [show decide (7 ≤ bs.length) = false from decide_eq_false hl, Bool.false_and]
    go_enter Tryd.func22, Tryd.ntmps22
    go_wp2
    go_ret
    exact ⟨ret_is (by rw [HD.out]; rfl), Below.refl _ _⟩

set_option maxRecDepth 100000 in
set_option maxHeartbeats 2000000 in
/-- **The document's Open.** -/
theorem ropen_calls (bs : List UInt8) (w : World) :
    Calls Tryd.prog 9 #[.string ⟨bs.toArray⟩] w fun e w' => e = .returned (openV bs) ∧ Below w.heap.size w w' := by
  have hz := byteArr_size bs
  obtain ⟨p, hp⟩ : ∃ p, pfx [45, 45] bs = p := ⟨_, rfl⟩
  obtain ⟨d, hd⟩ : ∃ d, isD bs = d := ⟨_, rfl⟩
  have H1 : Hid (∀ w, Calls Tryd.prog 22 #[.string ⟨bs.toArray⟩, .string ⟨#[100, 111, 99, 116, 121, 112, 101]⟩] w fun e w' => e = .returned (.bool d) ∧ Below w.heap.size w w') := fun w => by
    have h := letters_calls bs w
    rw [hd] at h
    exact h
  have HV : Hid (openV bs = if p = true then .tuple #[.int .i64 0, .int .i64 2] else if d = true then .tuple #[.int .i64 1, .int .i64 7] else .tuple #[.int .i64 2, .int .i64 0]) := by
    show openV bs = _
    unfold openV
    rw [hp, hd]
  clear hd
  by_cases hl : 2 ≤ bs.length
  · have hge : decide ((bs.length : Int) ≥ 2) = true := by rw [decide_eq_true_eq]; omega
    have hge2 : decide (2 ≤ (bs.length : Int)) = true := by rw [decide_eq_true_eq]; omega
    have hsl := slice_h bs 2 hl 2 rfl
    obtain ⟨B, hB⟩ : ∃ B, bs.take 2 = B := ⟨_, rfl⟩
    rw [hB] at hsl
    have hbe : (B == [45, 45]) = p := by rw [← hp, ← hB]; exact (pre_take [45, 45] bs).symm
    clear hp hB
    cases p with
    | true =>
      go_enter Tryd.func9, Tryd.ntmps9
      go_wp2_with fail
      all_goals go_ret2
      all_goals exact ⟨ret_is (by rw [HV.out]; rfl), by first | exact Below.refl _ _ | exact (Below.refl _ _).drew⟩
    | false =>
      go_enter Tryd.func9, Tryd.ntmps9
      go_wp2_with fail
      (go_at_call 22; refine (H1.out _).mono ?_; rintro e w2 ⟨rfl, hb2⟩)
      cases d with
      | true =>
        go_wp2
        go_ret2
        exact ⟨ret_is (by rw [HV.out]; rfl), hb2⟩
      | false =>
        go_wp2
        go_ret2
        exact ⟨ret_is (by rw [HV.out]; rfl), hb2⟩
  · have hge : decide ((bs.length : Int) ≥ 2) = false := by rw [decide_eq_false_iff_not]; omega
    have hge2 : decide (2 ≤ (bs.length : Int)) = false := by rw [decide_eq_false_iff_not]; omega
    obtain rfl : p = false := by
      rw [← hp]
      unfold pfx
      rw [Bool.eq_false_iff]
      intro h
      rw [List.isPrefixOf_iff_prefix] at h
      have := h.length_le
      simp at this
      omega
    clear hp
    go_enter Tryd.func9, Tryd.ntmps9
    go_wp2_with fail
    (go_at_call 22; refine (H1.out _).mono ?_; rintro e w2 ⟨rfl, hb2⟩)
    cases d with
    | true =>
      go_wp2
      go_ret2
      exact ⟨ret_is (by rw [HV.out]; rfl), hb2⟩
    | false =>
      go_wp2
      go_ret2
      exact ⟨ret_is (by rw [HV.out]; rfl), hb2⟩
set_option maxRecDepth 100000 in
set_option maxHeartbeats 2000000 in
theorem core (bs : List UInt8) (w : World) (hT : Tb w) (k n : Nat) (hv : openV bs = .tuple #[.int .i64 k, .int .i64 n]) :
    Calls Tryd.prog 3 #[.string ⟨bs.toArray⟩] w fun e w' => e = .returned (.bool true) ∧ Below w.heap.size w w' := by
  have H1 : Hid (Calls Tryd.prog 8 #[.string ⟨bs.toArray⟩] w fun e w' => e = .returned (.tuple #[.int .i64 k, .int .i64 n]) ∧ Below w.heap.size w w') := by
    have h := open_calls bs w hT.2
    rw [hv] at h
    exact h
  have H2 : Hid (∀ w, Calls Tryd.prog 9 #[.string ⟨bs.toArray⟩] w fun e w' => e = .returned (.tuple #[.int .i64 k, .int .i64 n]) ∧ Below w.heap.size w w') := fun w => by
    have h := ropen_calls bs w
    rw [hv] at h
    exact h
  have HT : Hid (Tb w) := hT
  have q1 : ((k : Int) == (k : Int)) = true := by simp
  have q2 : ((n : Int) == (n : Int)) = true := by simp
  clear hT hv
  go_enter Tryd.func3, Tryd.ntmps3
  go_wp2_with fail
  (go_at_call 8; refine H1.out.mono ?_; rintro e w1 ⟨rfl, hb1⟩)
  go_wp2_with fail
  (go_at_call 9; refine (H2.out _).mono ?_; rintro e w2 ⟨rfl, hb2⟩)
  have hB2 := hb1.trans (hb2.mono hb1.size)
  have HL : Hid (Calls Tryd.prog 10 #[] w2 fun e w' => e = .returned (.bool true) ∧ Below w2.heap.size w2 w') := lives_calls w2 (HT.out.below hB2)
  go_wp2_with fail
  (go_at_call 10; refine HL.out.mono ?_; rintro e w9 ⟨rfl, hb9⟩)
  go_wp2_with fail
  go_ret
  exact ⟨rfl, hB2.trans (hb9.mono hB2.size)⟩
theorem walk (w : World) (hT : Tb w) (s : ByteArray) (_hs : s.size ≤ 9223372036854775807) :
    Calls Tryd.prog 3 #[.string s] w fun e w' => e = .returned (.bool true) ∧ Below w.heap.size w w' := by
  obtain ⟨l, rfl⟩ : ∃ l : List UInt8, s = ⟨l.toArray⟩ := ⟨s.data.toList, (arr_eta s).symm⟩
  by_cases h1 : pfx [45, 45] l = true
  · exact core l w hT 0 2 (by unfold openV; rw [if_pos h1]; rfl)
  · by_cases h2 : isD l = true
    · exact core l w hT 1 7 (by unfold openV; rw [if_neg h1, if_pos h2]; rfl)
    · exact core l w hT 2 0 (by unfold openV; rw [if_neg h1, if_neg h2]; rfl)

set_option maxRecDepth 100000 in
theorem contract (H : Type) (enc : TypeId × Value → H) (W : World) (base : Nat) (args : Array Value) (ds gs : List (DataW H)) (before : List MemPlace)
    (hval : ∀ (j : Nat) t v, Tryd.f3.params[j]? = some t → args[j]? = some v → Value.okWide Tryd.prog W .any base t v)
    (hW : DataW.Whole enc Tryd.prog Tryd.f3.params.toList Rows.markupOpensSpec.vars false W args.toList ds gs before) (hL : laidMetH Tryd.prog Rows.markupOpensRow.laid W) :
    Calls Tryd.prog 3 args W fun e W' => ∃ v, e = .returned v ∧ Rows.markupOpensSpec.post enc Tryd.prog Tryd.f3 false true false false W args v W' := by
  have hW' := hW
  have hlt := hW.lt
  obtain ⟨p, q, hA0, hV, rfl, hfz, hnd⟩ := hW
  have hA : DataW.TrodAll enc Tryd.prog W 0 (fun _ => true) true Tryd.f3.params.toList args.toList ds p := hA0
  rw [Tryd.params3] at hA hval
  obtain ⟨v0, vs0, d0, ds0, p0, q0, hargs, rfl, rfl, h0, r0⟩ := trodAll_cons hA
  obtain ⟨rfl, rfl, rfl⟩ := trodAll_nil r0
  obtain rfl : args = #[v0] := by cases args; simp_all
  obtain ⟨rfl, rfl⟩ := trodVars_none hV
  clear hA0
  simp only [List.append_nil] at hW' hlt
  have h0' := h0
  obtain ⟨s0, rfl, rfl, e0, ws0⟩ := Go.ChangeMaps.open_string Tryd.underlying9 (hval 0 9 v0 rfl rfl) h0
  refine (walk W (tabs_of_laid hL) s0 ws0).mono fun e W' ⟨he, hb⟩ => ?_
  subst he
  exact ⟨_, rfl, post_below hW' (fun _ _ _ => trodAll_cons_mk (shut_bool Tryd.underlying4 _) trodAll_mk0) (trodAll_cons_mk (stays (by kernel_rfl) (of_decide_eq_true (by kernel_rfl)) h0' hb (fun x hx => hlt x (by simp [hx]))) trodAll_mk0) rfl hb⟩

set_option maxRecDepth 100000 in
theorem laid_met (os : Os) : laidMet Tryd.prog Rows.markupOpensRow.laid ((withTabs (World.holding Tryd.prog os ⟨moreBlocks, #[], []⟩)).forCall (fun _ _ => 0) ⟨#[], #[Value.string ⟨#[]⟩], []⟩).memory :=
  laid_all os _
set_option maxRecDepth 100000 in
theorem reads (os : Os) {H : Type} (enc : TypeId × Value → H) : ∃ places, DataW.whole enc Tryd.prog ((withTabs (World.holding Tryd.prog os ⟨moreBlocks, #[], []⟩)).forCall (fun _ _ => 0) ⟨#[], #[Value.string ⟨#[]⟩], []⟩).memory Tryd.f3.params.toList Rows.markupOpensSpec.vars false #[Value.string ⟨#[]⟩].toList 8 = some ([.lit (.string [])], [], places) :=
  ⟨[], by kernel_rfl⟩

set_option maxRecDepth 100000 in
theorem lifted (os : Os) (started : os.Started) (H : Type) (enc : TypeId × Value → H) (F : Stop.Interp) :
    ReturnsInHanded {} Tryd.checked os 3 .any ((OpenSpec.ofChange Rows.markupOpensSpec).preRow enc Tryd.prog Tryd.f3 Rows.markupOpensRow.domain false Rows.markupOpensRow.laid) (((OpenSpec.ofChange Rows.markupOpensSpec).at F).post enc Tryd.prog Tryd.f3 false true false false) := by
  obtain ⟨places, hx⟩ := reads os enc
  refine returnsInHanded_of_row (C := Tryd.checked) (s := OpenSpec.ofChange Rows.markupOpensSpec) own started (by kernel_rfl) Tryd.func3
    (witness_row_atRef (enc := enc) (C := Tryd.checked) false (withTabs (World.holding Tryd.prog os ⟨moreBlocks, #[], []⟩)) #[Value.string ⟨#[]⟩] rfl (by kernel_rfl) (by kernel_rfl) (by kernel_rfl)
      (OpenSpec.preRow_of_cond 8 hx (by kernel_rfl) (fun k hk => by cases hk) (by kernel_rfl) (laid_met os))) ?_
  intro W base args ds gs before hval hW _ _ _ hL _ _
  exact contract H enc W base args ds gs before hval hW hL

set_option maxRecDepth 100000 in
theorem said : Rows.MarkupOpensSaid :=
  OpenClaim.holds_of_cond 3 Tryd.f3 rfl rfl rfl rfl rfl rfl rfl ⟨rfl, rfl, rfl, rfl, rfl⟩ rfl rfl rfl rfl rfl (by kernel_rfl) Tryd.func3 (by kernel_rfl)
    (of_decide_eq_true (by kernel_rfl)) (by unfold Func.isWrapper; first | (rw [if_pos (by decide +kernel)]; kernel_rfl) | (rw [if_neg (by decide +kernel)]; exact ⟨rfl, rfl⟩))
    (fun os started H enc _ F => by rw [OpenClaim.pre_eq_preRow]; exact lifted os started H enc F)

theorem plain (f : FuncId) (fn : Func) (hf : Tryd.pinned.checked.prog.funcNamed "sieve/sievelaw09.MarkupOpens" = some f) (hfn : Tryd.pinned.checked.prog.funcs[f]? = some fn) :
    false = Tryd.pinned.checked.prog.looks [] ∧ ∀ (j : Nat) t, fn.params[j]? = some t → Tryd.pinned.checked.prog.wantsStandIn t = false := by
  obtain rfl : f = 3 := Option.some.inj ((show Tryd.prog.funcNamed "sieve/sievelaw09.MarkupOpens" = some 3 by kernel_rfl).symm.trans hf) |>.symm
  obtain rfl : fn = Tryd.f3 := (Option.some.inj (Tryd.func3.symm.trans hfn)).symm
  refine ⟨by kernel_rfl, fun j t ht => ?_⟩
  rw [Tryd.params3] at ht
  have hm := Array.mem_of_getElem? ht
  simp only [List.mem_toArray, List.mem_cons, List.not_mem_nil, or_false] at hm
  subst hm
  · exact (show Tryd.prog.wantsStandIn 9 = false by kernel_rfl)

theorem card : Rows.MarkupOpensCardSaid :=
  Claim7.holds_tied_plain_at .later [] _ _ _ _ said (fun _ h => by cases h) (by kernel_rfl) (fun _ h => by cases h) markupOpens_row_tie rfl ⟨rfl, rfl⟩ (by kernel_rfl) rfl plain (by kernel_rfl)

end Go.Proofs.YtckhnkkmcgbabaaDoor.KOpens
