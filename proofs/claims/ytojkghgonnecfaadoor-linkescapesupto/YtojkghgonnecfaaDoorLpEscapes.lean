/- What is proved here: the statement LinkEscapes (every text with percent escapes, and without; every path without dot segments) holds for texts up to the size that the statement's narrower form names, with no other condition but what the card says of the listed tables. -/
import Derived.Test.YtojkghgonnecfaaDoorCards
import Derived.Test.YtojkghgonnecfaaDoorTie
import Derived.Test.YtojkghgonnecfaaDoorBun1
import Derived.Test.YtojkghgonnecfaaDoorLpAwake
import Derived.Test.YtojkghgonnecfaaDoorLpDec
import Derived.Test.YtojkghgonnecfaaDoorLkDec
import Derived.Test.YtojkghgonnecfaaDoorLkDots
import Derived.ProofKit
import Derived.OpenShut
namespace Go.Proofs.YtojkghgonnecfaaDoor.LpEscapes
open Go.ChangeShapes Go.WideShapes Go.ChangeAt Go.RowKit U N L

set_option maxRecDepth 100000 in
set_option maxHeartbeats 4000000 in
theorem walk_on (w : World) (hT : Tb w) (bs ps : List UInt8) (hb : bs.length ≤ 1048576) (hp : ps.length ≤ 1048576) : Calls Tryd.prog 6 #[.string ⟨bs.toArray⟩, .string ⟨ps.toArray⟩] w fun e w' => e = .returned (.bool true) ∧ Below w.heap.size w w' := by
  have HL : Hid (∀ W, Below w.heap.size w W → Calls Tryd.prog 9 #[] W fun e w' => e = .returned (.bool true) ∧ Below W.heap.size W w') := fun W h => awake_calls W (hT.below h)
  have hml := mend_le ps
  have H1 := hid_of (encode_calls bs w hT (by omega))
  have H2 : Hid (∀ W, Below w.heap.size w W → _) := fun W _ => rencode_calls bs W (by omega)
  have H3 : Hid (∀ W, Below w.heap.size w W → _) := fun W h => decode_calls bs W (hT.below h) (by omega)
  have H4 : Hid (∀ W, Below w.heap.size w W → _) := fun W _ => rdecode_calls bs W (by omega)
  have H5 : Hid (∀ W, Below w.heap.size w W → _) := fun W h => dots_calls ps W (hT.below h) (by omega)
  have H6 : Hid (∀ W, Below w.heap.size w W → Calls Tryd.prog 30 #[.string ⟨ps.toArray⟩] W fun e W' => e = .returned (.string ⟨(mendL ps).toArray⟩) ∧ Below W.heap.size W W') := fun W _ => R.rmend_calls ps W (by omega)
  have H7 : Hid (∀ W, Below w.heap.size w W → _) := fun W _ => rdots_calls (mendL ps) W (by omega)
  obtain ⟨E, hE⟩ : ∃ E, encodeM (mendL bs) = E := ⟨_, rfl⟩
  obtain ⟨D, hD⟩ : ∃ D, decL bs = D := ⟨_, rfl⟩
  obtain ⟨M, hM⟩ : ∃ M, mendL ps = M := ⟨_, rfl⟩
  rw [hE] at H1 H2
  rw [hD] at H3 H4
  rw [hM] at H5 H6 H7
  obtain ⟨X, hX⟩ : ∃ X, dotsM M = X := ⟨_, rfl⟩
  rw [hX] at H5 H7
  clear hE hD hM hX hT hml
  go_enter Tryd.func6, Tryd.ntmps6
  go_wp2_with fail
  (go_at_call 24; refine H1.out.mono ?_; rintro e w1 ⟨rfl, b1⟩)
  go_wp2_with fail
  (go_at_call 25; refine (H2.out _ b1).mono ?_; rintro e w2 ⟨rfl, h2⟩)
  have b2 := b1.trans (h2.mono b1.size)
  go_wp2_with fail
  (go_at_call 26; refine (H3.out _ b2).mono ?_; rintro e w3 ⟨rfl, h3⟩)
  have b3 := b2.trans (h3.mono b2.size)
  go_wp2_with fail
  (go_at_call 27; refine (H4.out _ b3).mono ?_; rintro e w4 ⟨rfl, h4⟩)
  have b4 := b3.trans (h4.mono b3.size)
  go_wp2_with fail
  (go_at_call 28; refine (H5.out _ b4).mono ?_; rintro e w5 ⟨rfl, h5⟩)
  have b5 := b4.trans (h5.mono b4.size)
  go_wp2_with fail
  (go_at_call 30; refine (H6.out _ b5).mono ?_; rintro e w6 ⟨rfl, h6⟩)
  have b6 := b5.trans (h6.mono b5.size)
  go_wp2_with fail
  (go_at_call 29; refine (H7.out _ b6).mono ?_; rintro e w7 ⟨rfl, h7⟩)
  have b7 := b6.trans (h7.mono b6.size)
  go_wp2_with fail
  (go_at_call 9; refine (HL.out _ b7).mono ?_; rintro e w8 ⟨rfl, h8⟩)
  go_wp2_with fail
  go_ret
  exact ⟨rfl, b7.trans (h8.mono b7.size)⟩
theorem walk (w : World) (hT : Tb w) (s : ByteArray) (_hs0 : s.size ≤ 9223372036854775807) (hs : s.size ≤ 1048576) (t : ByteArray) (_ht0 : t.size ≤ 9223372036854775807) (ht : t.size ≤ 1048576) :
    Calls Tryd.prog 6 #[.string s, .string t] w fun e w' => e = .returned (.bool true) ∧ Below w.heap.size w w' := by
  have h := walk_on w hT s.data.toList t.data.toList (by rw [N.size_data]; exact hs) (by rw [N.size_data]; exact ht)
  rw [Lib.mk_data, Lib.mk_data] at h
  exact h

set_option maxRecDepth 100000 in
theorem contract (H : Type) (enc : TypeId × Value → H) (W : World) (base : Nat) (args : Array Value) (ds gs : List (DataW H)) (before : List MemPlace)
    (hval : ∀ (j : Nat) t v, Tryd.f6.params[j]? = some t → args[j]? = some v → Value.okWide Tryd.prog W .any base t v)
    (hW : DataW.Whole enc Tryd.prog Tryd.f6.params.toList Rows.linkEscapesSpec.vars false W args.toList ds gs before) (hL : laidMetH Tryd.prog Rows.linkEscapesUptoRow.laid W) (hk : Rows.uptoSmall H (ds ++ gs) = true) :
    Calls Tryd.prog 6 args W fun e W' => ∃ v, e = .returned v ∧ Rows.linkEscapesSpec.post enc Tryd.prog Tryd.f6 false true false false W args v W' := by
  have hW' := hW
  have hlt := hW.lt
  obtain ⟨p, q, hA0, hV, rfl, hfz, hnd⟩ := hW
  have hA : DataW.TrodAll enc Tryd.prog W 0 (fun _ => true) true Tryd.f6.params.toList args.toList ds p := hA0
  rw [Tryd.params6] at hA hval
  obtain ⟨v0, vs0, d0, ds0, p0, q0, hargs, rfl, rfl, h0, r0⟩ := trodAll_cons hA
  obtain ⟨v1, vs1, d1, ds1, p1, q1, rfl, rfl, rfl, h1, r1⟩ := trodAll_cons r0
  obtain ⟨rfl, rfl, rfl⟩ := trodAll_nil r1
  obtain rfl : args = #[v0, v1] := by cases args; simp_all
  obtain ⟨rfl, rfl⟩ := trodVars_none hV
  clear hA0
  simp only [List.append_nil] at hW' hlt hk
  have hbulk := of_decide_eq_true hk
  simp only [Rows.uptoBulkAll] at hbulk
  have h0' := h0
  obtain ⟨s0, rfl, rfl, e0, ws0⟩ := Go.ChangeMaps.open_string Tryd.underlying9 (hval 0 9 v0 rfl rfl) h0
  have h1' := h1
  obtain ⟨s1, rfl, rfl, e1, ws1⟩ := Go.ChangeMaps.open_string Tryd.underlying9 (hval 1 9 v1 rfl rfl) h1
  refine (walk W (tabs_of_laid hL) s0 ws0 (by simp only [L.bulk_str, N.size_data] at hbulk; omega) s1 ws1 (by simp only [L.bulk_str, N.size_data] at hbulk; omega)).mono fun e W' ⟨he, hb⟩ => ?_
  subst he
  exact ⟨_, rfl, post_below hW' (fun _ _ _ => trodAll_cons_mk (shut_bool Tryd.underlying4 _) trodAll_mk0) (trodAll_cons_mk (stays (by kernel_rfl) (of_decide_eq_true (by kernel_rfl)) h0' hb (fun x hx => hlt x (by simp [hx]))) (trodAll_cons_mk (stays (by kernel_rfl) (of_decide_eq_true (by kernel_rfl)) h1' hb (fun x hx => hlt x (by simp [hx]))) trodAll_mk0)) rfl hb⟩

set_option maxRecDepth 100000 in
theorem laid_met (os : Os) : laidMet Tryd.prog Rows.linkEscapesUptoRow.laid ((withTabs (World.holding Tryd.prog os ⟨#[], #[], []⟩)).forCall (fun _ _ => 0) ⟨#[], #[Value.string ⟨#[]⟩, Value.string ⟨#[]⟩], []⟩).memory :=
  laidMet_of_run' 8 (by kernel_rfl) (by kernel_rfl)
set_option maxRecDepth 100000 in
theorem reads (os : Os) {H : Type} (enc : TypeId × Value → H) : ∃ places, DataW.whole enc Tryd.prog ((withTabs (World.holding Tryd.prog os ⟨#[], #[], []⟩)).forCall (fun _ _ => 0) ⟨#[], #[Value.string ⟨#[]⟩, Value.string ⟨#[]⟩], []⟩).memory Tryd.f6.params.toList Rows.linkEscapesSpec.vars false #[Value.string ⟨#[]⟩, Value.string ⟨#[]⟩].toList 8 = some ([.lit (.string []), .lit (.string [])], [], places) :=
  ⟨[], by kernel_rfl⟩

set_option maxRecDepth 100000 in
theorem lifted (os : Os) (started : os.Started) (H : Type) (enc : TypeId × Value → H) (F : Stop.Interp) :
    ReturnsInHanded {} Tryd.checked os 6 .any ((Rows.OpenSpec.upto Rows.linkEscapesSpec).preRow enc Tryd.prog Tryd.f6 Rows.linkEscapesUptoRow.domain false Rows.linkEscapesUptoRow.laid) (((Rows.OpenSpec.upto Rows.linkEscapesSpec).at F).post enc Tryd.prog Tryd.f6 false true false false) := by
  obtain ⟨places, hx⟩ := reads os enc
  refine returnsInHanded_of_row (C := Tryd.checked) (s := Rows.OpenSpec.upto Rows.linkEscapesSpec) own started (by kernel_rfl) Tryd.func6
    (witness_row_at (enc := enc) (C := Tryd.checked) false (withTabs (World.holding Tryd.prog os ⟨#[], #[], []⟩)) #[Value.string ⟨#[]⟩, Value.string ⟨#[]⟩] rfl (by kernel_rfl) (by kernel_rfl) (by kernel_rfl)
      (OpenSpec.preRow_of_cond 8 hx (by kernel_rfl) (fun k hk => by cases hk; kernel_rfl) (by kernel_rfl) (laid_met os))) ?_
  intro W base args ds gs before hval hW _ hcond _ hL _ _
  exact contract H enc W base args ds gs before hval hW hL (hcond _ rfl)

set_option maxRecDepth 100000 in
theorem said : Rows.LinkEscapesUptoSaid :=
  OpenClaim.holds_of_cond 6 Tryd.f6 rfl rfl rfl rfl rfl rfl rfl ⟨rfl, rfl, rfl, rfl, rfl⟩ rfl rfl rfl rfl rfl (by kernel_rfl) Tryd.func6 (by kernel_rfl)
    (of_decide_eq_true (by kernel_rfl)) (by unfold Func.isWrapper; first | (rw [if_pos (by decide +kernel)]; kernel_rfl) | (rw [if_neg (by decide +kernel)]; exact ⟨rfl, rfl⟩))
    (fun os started H enc _ F => by rw [OpenClaim.pre_eq_preRow]; exact lifted os started H enc F)

theorem plain (f : FuncId) (fn : Func) (hf : Tryd.pinned.checked.prog.funcNamed "sieve/sievelaw12.LinkEscapes" = some f) (hfn : Tryd.pinned.checked.prog.funcs[f]? = some fn) :
    false = Tryd.pinned.checked.prog.looks [] ∧ ∀ (j : Nat) t, fn.params[j]? = some t → Tryd.pinned.checked.prog.wantsStandIn t = false := by
  obtain rfl : f = 6 := Option.some.inj ((show Tryd.prog.funcNamed "sieve/sievelaw12.LinkEscapes" = some 6 by kernel_rfl).symm.trans hf) |>.symm
  obtain rfl : fn = Tryd.f6 := (Option.some.inj (Tryd.func6.symm.trans hfn)).symm
  refine ⟨by kernel_rfl, fun j t ht => ?_⟩
  rw [Tryd.params6] at ht
  have hm := Array.mem_of_getElem? ht
  simp only [List.mem_toArray, List.mem_cons, List.not_mem_nil, or_false] at hm
  rcases hm with rfl | rfl
  · exact (show Tryd.prog.wantsStandIn 9 = false by kernel_rfl)
  · exact (show Tryd.prog.wantsStandIn 9 = false by kernel_rfl)

theorem card : Rows.LinkEscapesUptoCardSaid :=
  Claim7.holds_tied_plain_at .later [] _ _ _ _ said (fun _ h => by cases h) (by kernel_rfl) (fun _ h => by cases h) linkEscapesUpto_row_tie rfl ⟨rfl, rfl⟩ (by kernel_rfl) rfl plain (by kernel_rfl)

end Go.Proofs.YtojkghgonnecfaaDoor.LpEscapes
