/- What is proved here: the statement MarkupNone (scanners that no call made: Put and End say ErrMade, Text is empty) holds for any rune, with no condition but what the card says of the listed tables. -/
import Derived.Test.YtckhnkkmcgbabaaDoorCards
import Derived.Test.YtckhnkkmcgbabaaDoorTie
import Derived.Test.YtckhnkkmcgbabaaDoorKOpen
import Derived.Test.YtckhnkkmcgbabaaDoorKLives
import Derived.ProofKit
import Derived.OpenShut
import Derived.Lib.QuietBelow
import Derived.BigQuiet
namespace Go.Proofs.YtckhnkkmcgbabaaDoor.KNone
open Go.ChangeShapes Go.WideShapes Go.ChangeAt Go.RowKit U K

set_option maxRecDepth 100000 in
set_option maxHeartbeats 4000000 in
theorem walk (w : World) (hT : Tb w) (r : Int) (_hr : (Lit.int .i32 r).wf = true) :
    Calls Tryd.prog 6 #[.int .i32 r] w fun e w' => e = .returned (.bool true) ∧ Below w.heap.size w w' := by
  obtain ⟨X, hX⟩ : ∃ X, w.alloc (.cells #[.int .i64 0, .slice none 0 0] 45) = X := ⟨_, rfl⟩
  have hb0 : Below w.heap.size w X := by rw [← hX]; exact (Below.refl _ w).alloc (Nat.le_refl _) _
  have hS : ScAt X w.heap.size 0 [] := by rw [← hX]; exact scat_new w 0
  have hTX : Tb X := hT.below hb0
  have hwz : X.heap.size = w.heap.size + 1 := by rw [← hX]; simp
  have HL : Hid (Calls Tryd.prog 10 #[] X fun e w' => e = .returned (.bool true) ∧ Below X.heap.size X w') := lives_calls X hTX
  have P1 : Hid (Calls Tryd.prog 14 #[.pointer none, .int .i32 r] X fun e W' => e = .returned (.tuple #[.bool false, .int .i64 2]) ∧ W' = X) := put_refused _ 2 r X (by decide) (ready_nil X)
  have P2 : Hid (Calls Tryd.prog 14 #[.pointer (some ⟨w.heap.size, 0, none⟩), .int .i32 r] X fun e W' => e = .returned (.tuple #[.bool false, .int .i64 2]) ∧ W' = X) := put_refused _ 2 r X (by decide) (ready_zero _ [] X hS)
  have E1 : Hid (Calls Tryd.prog 17 #[.pointer none] X fun e W' => e = .returned (.int .i64 2) ∧ W' = X) := end_refused _ 2 X (by decide) (ready_nil X)
  have E2 : Hid (Calls Tryd.prog 17 #[.pointer (some ⟨w.heap.size, 0, none⟩)] X fun e W' => e = .returned (.int .i64 2) ∧ W' = X) := end_refused _ 2 X (by decide) (ready_zero _ [] X hS)
  have T1 : Hid (Calls Tryd.prog 16 #[.pointer none] X fun e W' => e = .returned (.string ⟨#[]⟩) ∧ W' = X) := text_nil X
  have T2 : Hid (Calls Tryd.prog 16 #[.pointer (some ⟨w.heap.size, 0, none⟩)] X fun e W' => e = .returned (.string ⟨#[]⟩) ∧ W' = X) := text_of _ 0 [] X hS
  have HX : Hid (w.alloc (.cells #[.int .i64 0, .slice none 0 0] 45) = X) := hX
  have HB0 : Hid (Below w.heap.size w X) := hb0
  clear hX hS hTX hT hb0
  go_enter Tryd.func6, Tryd.ntmps6
  go_wp2_with fail
  rw [HX.out]
  (go_at_call 14; refine P1.out.mono ?_; rintro e w1 ⟨rfl, h1⟩; obtain rfl : X = w1 := h1.symm)
  go_wp2_with fail
  (go_at_call 14; refine P2.out.mono ?_; rintro e w1 ⟨rfl, h1⟩; obtain rfl : X = w1 := h1.symm)
  go_wp2_with fail
  (go_at_call 17; refine E1.out.mono ?_; rintro e w1 ⟨rfl, h1⟩; obtain rfl : X = w1 := h1.symm)
  go_wp2_with fail
  (go_at_call 17; refine E2.out.mono ?_; rintro e w1 ⟨rfl, h1⟩; obtain rfl : X = w1 := h1.symm)
  go_wp2_with fail
  (go_at_call 16; refine T1.out.mono ?_; rintro e w1 ⟨rfl, h1⟩; obtain rfl : X = w1 := h1.symm)
  go_wp2_with fail
  (go_at_call 16; refine T2.out.mono ?_; rintro e w1 ⟨rfl, h1⟩; obtain rfl : X = w1 := h1.symm)
  go_wp2_with fail
  (go_at_call 10; refine HL.out.mono ?_; rintro e w9 ⟨rfl, hb9⟩)
  go_wp2_with fail
  go_ret
  exact ⟨rfl, HB0.out.trans (hb9.mono HB0.out.size)⟩

set_option maxRecDepth 100000 in
theorem contract (H : Type) (enc : TypeId × Value → H) (W : World) (base : Nat) (args : Array Value) (ds gs : List (DataW H)) (before : List MemPlace)
    (hval : ∀ (j : Nat) t v, Tryd.f6.params[j]? = some t → args[j]? = some v → Value.okWide Tryd.prog W .any base t v)
    (hW : DataW.Whole enc Tryd.prog Tryd.f6.params.toList Rows.markupNoneSpec.vars false W args.toList ds gs before) (hL : laidMetH Tryd.prog Rows.markupNoneRow.laid W) :
    Calls Tryd.prog 6 args W fun e W' => ∃ v, e = .returned v ∧ Rows.markupNoneSpec.post enc Tryd.prog Tryd.f6 false true false false W args v W' := by
  have hW' := hW
  have hlt := hW.lt
  obtain ⟨p, q, hA0, hV, rfl, hfz, hnd⟩ := hW
  have hA : DataW.TrodAll enc Tryd.prog W 0 (fun _ => true) true Tryd.f6.params.toList args.toList ds p := hA0
  rw [Tryd.params6] at hA hval
  obtain ⟨v0, vs0, d0, ds0, p0, q0, hargs, rfl, rfl, h0, r0⟩ := trodAll_cons hA
  obtain ⟨rfl, rfl, rfl⟩ := trodAll_nil r0
  obtain rfl : args = #[v0] := by cases args; simp_all
  obtain ⟨rfl, rfl⟩ := trodVars_none hV
  clear hA0
  simp only [List.append_nil] at hW' hlt
  have h0' := h0
  obtain ⟨x0, rfl, e0, -, w0⟩ := open_int Tryd.underlying21 (hval 0 21 v0 rfl rfl) h0
  refine (walk W (tabs_of_laid hL) x0 w0).mono fun e W' ⟨he, hb⟩ => ?_
  subst he
  exact ⟨_, rfl, post_below hW' (fun _ _ _ => trodAll_cons_mk (shut_bool Tryd.underlying4 _) trodAll_mk0) (trodAll_cons_mk (stays (by kernel_rfl) (of_decide_eq_true (by kernel_rfl)) h0' hb (fun x hx => hlt x (by simp [hx]))) trodAll_mk0) rfl hb⟩

set_option maxRecDepth 100000 in
theorem laid_met (os : Os) : laidMet Tryd.prog Rows.markupNoneRow.laid ((withTabs (World.holding Tryd.prog os ⟨moreBlocks, #[], []⟩)).forCall (fun _ _ => 0) ⟨#[], #[Value.int .i32 0], []⟩).memory :=
  laid_all os _
set_option maxRecDepth 100000 in
theorem reads (os : Os) {H : Type} (enc : TypeId × Value → H) : ∃ places, DataW.whole enc Tryd.prog ((withTabs (World.holding Tryd.prog os ⟨moreBlocks, #[], []⟩)).forCall (fun _ _ => 0) ⟨#[], #[Value.int .i32 0], []⟩).memory Tryd.f6.params.toList Rows.markupNoneSpec.vars false #[Value.int .i32 0].toList 8 = some ([.lit (.int .i32 0)], [], places) :=
  ⟨[], by kernel_rfl⟩

set_option maxRecDepth 100000 in
theorem lifted (os : Os) (started : os.Started) (H : Type) (enc : TypeId × Value → H) (F : Stop.Interp) :
    ReturnsInHanded {} Tryd.checked os 6 .any ((OpenSpec.ofChange Rows.markupNoneSpec).preRow enc Tryd.prog Tryd.f6 Rows.markupNoneRow.domain false Rows.markupNoneRow.laid) (((OpenSpec.ofChange Rows.markupNoneSpec).at F).post enc Tryd.prog Tryd.f6 false true false false) := by
  obtain ⟨places, hx⟩ := reads os enc
  refine returnsInHanded_of_row (C := Tryd.checked) (s := OpenSpec.ofChange Rows.markupNoneSpec) own started (by kernel_rfl) Tryd.func6
    (witness_row_atRef (enc := enc) (C := Tryd.checked) false (withTabs (World.holding Tryd.prog os ⟨moreBlocks, #[], []⟩)) #[Value.int .i32 0] rfl (by kernel_rfl) (by kernel_rfl) (by kernel_rfl)
      (OpenSpec.preRow_of_cond 8 hx (by kernel_rfl) (fun k hk => by cases hk) (by kernel_rfl) (laid_met os))) ?_
  intro W base args ds gs before hval hW _ _ _ hL _ _
  exact contract H enc W base args ds gs before hval hW hL

set_option maxRecDepth 100000 in
theorem said : Rows.MarkupNoneSaid :=
  OpenClaim.holds_of_cond 6 Tryd.f6 rfl rfl rfl rfl rfl rfl rfl ⟨rfl, rfl, rfl, rfl, rfl⟩ rfl rfl rfl rfl rfl (by kernel_rfl) Tryd.func6 (by kernel_rfl)
    (of_decide_eq_true (by kernel_rfl)) (by unfold Func.isWrapper; first | (rw [if_pos (by decide +kernel)]; kernel_rfl) | (rw [if_neg (by decide +kernel)]; exact ⟨rfl, rfl⟩))
    (fun os started H enc _ F => by rw [OpenClaim.pre_eq_preRow]; exact lifted os started H enc F)

theorem plain (f : FuncId) (fn : Func) (hf : Tryd.pinned.checked.prog.funcNamed "sieve/sievelaw09.MarkupNone" = some f) (hfn : Tryd.pinned.checked.prog.funcs[f]? = some fn) :
    false = Tryd.pinned.checked.prog.looks [] ∧ ∀ (j : Nat) t, fn.params[j]? = some t → Tryd.pinned.checked.prog.wantsStandIn t = false := by
  obtain rfl : f = 6 := Option.some.inj ((show Tryd.prog.funcNamed "sieve/sievelaw09.MarkupNone" = some 6 by kernel_rfl).symm.trans hf) |>.symm
  obtain rfl : fn = Tryd.f6 := (Option.some.inj (Tryd.func6.symm.trans hfn)).symm
  refine ⟨by kernel_rfl, fun j t ht => ?_⟩
  rw [Tryd.params6] at ht
  have hm := Array.mem_of_getElem? ht
  simp only [List.mem_toArray, List.mem_cons, List.not_mem_nil, or_false] at hm
  subst hm
  · exact (show Tryd.prog.wantsStandIn 21 = false by kernel_rfl)

theorem card : Rows.MarkupNoneCardSaid :=
  Claim7.holds_tied_plain_at .later [] _ _ _ _ said (fun _ h => by cases h) (by kernel_rfl) (fun _ h => by cases h) markupNone_row_tie rfl ⟨rfl, rfl⟩ (by kernel_rfl) rfl plain (by kernel_rfl)

end Go.Proofs.YtckhnkkmcgbabaaDoor.KNone
