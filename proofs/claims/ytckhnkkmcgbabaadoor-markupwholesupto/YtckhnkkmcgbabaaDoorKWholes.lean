/- What is proved here: the statement MarkupWholes (Whole of any kind and text is the document's: what it says, how many bytes it takes, whether it is closed, its error) holds for texts that are not too great, with no condition but that and what the card says of the listed tables. -/
import Derived.Test.YtckhnkkmcgbabaaDoorCards
import Derived.Test.YtckhnkkmcgbabaaDoorTie
import Derived.Test.YtckhnkkmcgbabaaDoorKOpen
import Derived.Test.YtckhnkkmcgbabaaDoorKLives
import Derived.ProofKit
import Derived.OpenShut
namespace Go.Proofs.YtckhnkkmcgbabaaDoor.KWholes
open Go.ChangeShapes Go.WideShapes Go.ChangeAt Go.RowKit U K

set_option maxRecDepth 100000 in
set_option maxHeartbeats 2000000 in
theorem whole_arg (kind : Int) (h : kind < 0 ∨ 2 < kind) (bs : List UInt8) (w : World) :
    Calls Tryd.prog 11 #[.int .i64 kind, .string ⟨bs.toArray⟩] w fun e w' => e = .returned (.tuple #[.string ⟨#[]⟩, .int .i64 0, .bool false, .int .i64 1]) ∧ w' = w := by
  have HN : Hid (Calls Tryd.prog 13 #[.int .i64 kind] w fun e W' => e = .returned (.tuple #[.pointer none, .int .i64 1]) ∧ W' = w) := new_arg kind w h
  clear h
  go_enter Tryd.func11, Tryd.ntmps11
  go_wp2_with (go_at_call 13; refine HN.out.mono ?_; rintro e w1 ⟨rfl, rfl⟩)
  (try simp only [Exit.inBlock, Exit.then])
  refine bodyPost_ret (results_tmp4 rfl _ _ _) rfl ?_
  exact ⟨rfl, rfl⟩
set_option maxRecDepth 100000 in
set_option maxHeartbeats 4000000 in
/-- Where both answer the same. -/
theorem core (kind : Int) (bs : List UInt8) (w : World) (hT : Tb w) (S : ByteArray) (n : Nat) (c : Bool) (k : Int)
    (h1 : Calls Tryd.prog 11 #[.int .i64 kind, .string ⟨bs.toArray⟩] w fun e w' => e = .returned (.tuple #[.string S, .int .i64 n, .bool c, .int .i64 k]) ∧ Below w.heap.size w w')
    (h2 : ∀ w, Calls Tryd.prog 12 #[.int .i64 kind, .string ⟨bs.toArray⟩] w fun e w' => e = .returned (.tuple #[.string S, .int .i64 n, .bool c, .int .i64 k]) ∧ Below w.heap.size w w') :
    Calls Tryd.prog 4 #[.int .i64 kind, .string ⟨bs.toArray⟩] w fun e w' => e = .returned (.bool true) ∧ Below w.heap.size w w' := by
  have H1 : Hid (Calls Tryd.prog 11 #[.int .i64 kind, .string ⟨bs.toArray⟩] w fun e w' => e = .returned (.tuple #[.string S, .int .i64 n, .bool c, .int .i64 k]) ∧ Below w.heap.size w w') := h1
  have H2 : Hid (∀ w, Calls Tryd.prog 12 #[.int .i64 kind, .string ⟨bs.toArray⟩] w fun e w' => e = .returned (.tuple #[.string S, .int .i64 n, .bool c, .int .i64 k]) ∧ Below w.heap.size w w') := h2
  have HT : Hid (Tb w) := hT
  have q1 : (S.toList == S.toList) = true := by simp
  have q2 : ((n : Int) == (n : Int)) = true := by simp
  have q3 : (c == c) = true := by simp
  have q4 : (k == k) = true := by simp
  clear h1 h2 hT
  go_enter Tryd.func4, Tryd.ntmps4
  go_wp2_with fail
  (go_at_call 11; refine H1.out.mono ?_; rintro e w1 ⟨rfl, hb1⟩)
  go_wp2_with fail
  (go_at_call 12; refine (H2.out _).mono ?_; rintro e w2 ⟨rfl, hb2⟩)
  have hB2 := hb1.trans (hb2.mono hb1.size)
  have HL : Hid (Calls Tryd.prog 10 #[] w2 fun e w' => e = .returned (.bool true) ∧ Below w2.heap.size w2 w') := lives_calls w2 (HT.out.below hB2)
  go_wp2_with fail
  (go_at_call 10; refine HL.out.mono ?_; rintro e w9 ⟨rfl, hb9⟩)
  go_wp2_with fail
  go_ret
  exact ⟨rfl, hB2.trans (hb9.mono hB2.size)⟩
theorem walk (w : World) (hT : Tb w) (kind : Int) (_hk : (Lit.int .i64 kind).wf = true) (s : ByteArray) (_hs0 : s.size ≤ 9223372036854775807) (hs : s.size ≤ 1048576) :
    Calls Tryd.prog 4 #[.int .i64 kind, .string s] w fun e w' => e = .returned (.bool true) ∧ Below w.heap.size w w' := by
  have hl : s.data.toList.length ≤ 1048576 := by rw [size_data]; exact hs
  rw [← arr_eta s]
  by_cases h : 0 ≤ kind ∧ kind ≤ 2
  · exact core kind s.data.toList w hT _ _ _ 0 (whole_calls kind h.1 h.2 s.data.toList w (by omega) hT.1) (fun w => rwhole_calls kind h.1 h.2 s.data.toList w (by omega))
  · refine core kind s.data.toList w hT ⟨#[]⟩ 0 false 1 ((whole_arg kind (by omega) s.data.toList w).mono ?_) (fun w => (rwhole_arg kind (by omega) s.data.toList w).mono ?_)
    · rintro e w' ⟨rfl, rfl⟩; exact ⟨rfl, Below.refl _ _⟩
    · rintro e w' ⟨rfl, rfl⟩; exact ⟨rfl, Below.refl _ _⟩

set_option maxRecDepth 100000 in
theorem contract (H : Type) (enc : TypeId × Value → H) (W : World) (base : Nat) (args : Array Value) (ds gs : List (DataW H)) (before : List MemPlace)
    (hval : ∀ (j : Nat) t v, Tryd.f4.params[j]? = some t → args[j]? = some v → Value.okWide Tryd.prog W .any base t v)
    (hW : DataW.Whole enc Tryd.prog Tryd.f4.params.toList Rows.markupWholesSpec.vars false W args.toList ds gs before) (hL : laidMetH Tryd.prog Rows.markupWholesUptoRow.laid W) (hk : Rows.uptoSmall H (ds ++ gs) = true) :
    Calls Tryd.prog 4 args W fun e W' => ∃ v, e = .returned v ∧ Rows.markupWholesSpec.post enc Tryd.prog Tryd.f4 false true false false W args v W' := by
  have hW' := hW
  have hlt := hW.lt
  obtain ⟨p, q, hA0, hV, rfl, hfz, hnd⟩ := hW
  have hA : DataW.TrodAll enc Tryd.prog W 0 (fun _ => true) true Tryd.f4.params.toList args.toList ds p := hA0
  rw [Tryd.params4] at hA hval
  obtain ⟨v0, vs0, d0, ds0, p0, q0, hargs, rfl, rfl, h0, r0⟩ := trodAll_cons hA
  obtain ⟨v1, vs1, d1, ds1, p1, q1, rfl, rfl, rfl, h1, r1⟩ := trodAll_cons r0
  obtain ⟨rfl, rfl, rfl⟩ := trodAll_nil r1
  obtain rfl : args = #[v0, v1] := by cases args; simp_all
  obtain ⟨rfl, rfl⟩ := trodVars_none hV
  clear hA0
  simp only [List.append_nil] at hW' hlt hk
  have hbulk := of_decide_eq_true hk
  simp only [Rows.uptoBulkAll] at hbulk
  have h0' := h0
  obtain ⟨x0, rfl, e0, -, w0⟩ := open_int Tryd.underlying3 (hval 0 3 v0 rfl rfl) h0
  have h1' := h1
  obtain ⟨s1, rfl, rfl, e1, ws1⟩ := Go.ChangeMaps.open_string Tryd.underlying9 (hval 1 9 v1 rfl rfl) h1
  refine (walk W (tabs_of_laid hL) x0 w0 s1 ws1 (by simp only [K.bulk_str, K.size_data] at hbulk; omega)).mono fun e W' ⟨he, hb⟩ => ?_
  subst he
  exact ⟨_, rfl, post_below hW' (fun _ _ _ => trodAll_cons_mk (shut_bool Tryd.underlying4 _) trodAll_mk0) (trodAll_cons_mk (stays (by kernel_rfl) (of_decide_eq_true (by kernel_rfl)) h0' hb (fun x hx => hlt x (by simp [hx]))) (trodAll_cons_mk (stays (by kernel_rfl) (of_decide_eq_true (by kernel_rfl)) h1' hb (fun x hx => hlt x (by simp [hx]))) trodAll_mk0)) rfl hb⟩

set_option maxRecDepth 100000 in
theorem laid_met (os : Os) : laidMet Tryd.prog Rows.markupWholesUptoRow.laid ((withTabs (World.holding Tryd.prog os ⟨moreBlocks, #[], []⟩)).forCall (fun _ _ => 0) ⟨#[], #[Value.int .i64 0, Value.string ⟨#[]⟩], []⟩).memory :=
  laid_all os _
set_option maxRecDepth 100000 in
theorem reads (os : Os) {H : Type} (enc : TypeId × Value → H) : ∃ places, DataW.whole enc Tryd.prog ((withTabs (World.holding Tryd.prog os ⟨moreBlocks, #[], []⟩)).forCall (fun _ _ => 0) ⟨#[], #[Value.int .i64 0, Value.string ⟨#[]⟩], []⟩).memory Tryd.f4.params.toList Rows.markupWholesSpec.vars false #[Value.int .i64 0, Value.string ⟨#[]⟩].toList 8 = some ([.lit (.int .i64 0), .lit (.string [])], [], places) :=
  ⟨[], by kernel_rfl⟩

set_option maxRecDepth 100000 in
theorem lifted (os : Os) (started : os.Started) (H : Type) (enc : TypeId × Value → H) (F : Stop.Interp) :
    ReturnsInHanded {} Tryd.checked os 4 .any ((Rows.OpenSpec.upto Rows.markupWholesSpec).preRow enc Tryd.prog Tryd.f4 Rows.markupWholesUptoRow.domain false Rows.markupWholesUptoRow.laid) (((Rows.OpenSpec.upto Rows.markupWholesSpec).at F).post enc Tryd.prog Tryd.f4 false true false false) := by
  obtain ⟨places, hx⟩ := reads os enc
  refine returnsInHanded_of_row (C := Tryd.checked) (s := Rows.OpenSpec.upto Rows.markupWholesSpec) own started (by kernel_rfl) Tryd.func4
    (witness_row_atRef (enc := enc) (C := Tryd.checked) false (withTabs (World.holding Tryd.prog os ⟨moreBlocks, #[], []⟩)) #[Value.int .i64 0, Value.string ⟨#[]⟩] rfl (by kernel_rfl) (by kernel_rfl) (by kernel_rfl)
      (OpenSpec.preRow_of_cond 8 hx (by kernel_rfl) (fun k hk => by cases hk; kernel_rfl) (by kernel_rfl) (laid_met os))) ?_
  intro W base args ds gs before hval hW _ hcond _ hL _ _
  exact contract H enc W base args ds gs before hval hW hL (hcond _ rfl)

set_option maxRecDepth 100000 in
theorem said : Rows.MarkupWholesUptoSaid :=
  OpenClaim.holds_of_cond 4 Tryd.f4 rfl rfl rfl rfl rfl rfl rfl ⟨rfl, rfl, rfl, rfl, rfl⟩ rfl rfl rfl rfl rfl (by kernel_rfl) Tryd.func4 (by kernel_rfl)
    (of_decide_eq_true (by kernel_rfl)) (by unfold Func.isWrapper; first | (rw [if_pos (by decide +kernel)]; kernel_rfl) | (rw [if_neg (by decide +kernel)]; exact ⟨rfl, rfl⟩))
    (fun os started H enc _ F => by rw [OpenClaim.pre_eq_preRow]; exact lifted os started H enc F)

theorem plain (f : FuncId) (fn : Func) (hf : Tryd.pinned.checked.prog.funcNamed "sieve/sievelaw09.MarkupWholes" = some f) (hfn : Tryd.pinned.checked.prog.funcs[f]? = some fn) :
    false = Tryd.pinned.checked.prog.looks [] ∧ ∀ (j : Nat) t, fn.params[j]? = some t → Tryd.pinned.checked.prog.wantsStandIn t = false := by
  obtain rfl : f = 4 := Option.some.inj ((show Tryd.prog.funcNamed "sieve/sievelaw09.MarkupWholes" = some 4 by kernel_rfl).symm.trans hf) |>.symm
  obtain rfl : fn = Tryd.f4 := (Option.some.inj (Tryd.func4.symm.trans hfn)).symm
  refine ⟨by kernel_rfl, fun j t ht => ?_⟩
  rw [Tryd.params4] at ht
  have hm := Array.mem_of_getElem? ht
  simp only [List.mem_toArray, List.mem_cons, List.not_mem_nil, or_false] at hm
  rcases hm with rfl | rfl
  · exact (show Tryd.prog.wantsStandIn 3 = false by kernel_rfl)
  · exact (show Tryd.prog.wantsStandIn 9 = false by kernel_rfl)

theorem card : Rows.MarkupWholesUptoCardSaid :=
  Claim7.holds_tied_plain_at .later [] _ _ _ _ said (fun _ h => by cases h) (by kernel_rfl) (fun _ h => by cases h) markupWholesUpto_row_tie rfl ⟨rfl, rfl⟩ (by kernel_rfl) rfl plain (by kernel_rfl)

end Go.Proofs.YtckhnkkmcgbabaaDoor.KWholes
