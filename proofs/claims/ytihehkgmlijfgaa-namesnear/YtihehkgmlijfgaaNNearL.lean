/- What is proved here: the statement NamesNear (how far any two texts are apart; the nearest known name) holds for any two texts, with no condition. -/
import Derived.Deep.RegionWith
import Derived.Test.YtihehkgmlijfgaaNFrame
import Derived.Test.YtihehkgmlijfgaaNApartM
import Derived.Test.YtihehkgmlijfgaaNRNear
namespace Go.Proofs.Ytihehkgmlijfgaa.NNearL
open Go.ChangeShapes Go.WideShapes Go.ChangeAt Go.RowKit N C

theorem rnear_is {w W : World} (hb : Below w.heap.size w W) (s : ByteArray) (hs : s.size ≤ 9223372036854775807) (N : List UInt8) (D : Nat) (h : NearOf s.data.toList N D) :
    Calls Try.prog 23 #[.string s] W fun e w' => e = .returned (.tuple #[.string ⟨N.toArray⟩, .int .i64 D]) ∧ Below w.heap.size w w' := by
  have h1 := (rnear_calls s W hs).mono fun _ _ h => And.intro h.1 (hb.trans (h.2.mono hb.size))
  rw [h.eq] at h1
  exact h1
theorem rdist_is {w W : World} (hb : Below w.heap.size w W) (s t : ByteArray) (hs : s.size ≤ 9223372036854775807) (ht : t.size ≤ 9223372036854775807) (X : Nat) (h : dist s.data.toList t.data.toList = X) :
    Calls Try.prog 25 #[.string s, .string t] W fun e w' => e = .returned (.int .i64 X) ∧ Below w.heap.size w w' := by
  subst h
  exact (rdist_calls s t W hs ht).mono fun _ _ h => ⟨h.1, hb.trans (h.2.mono hb.size)⟩

set_option maxRecDepth 100000 in
set_option maxHeartbeats 8000000 in
theorem walk (w : World) (hm : MaxOk w) (s : ByteArray) (hs : s.size ≤ 9223372036854775807) (t : ByteArray) (ht : t.size ≤ 9223372036854775807) :
    Calls Try.prog 6 #[.string s, .string t] w fun e w' => e = .returned (.bool true) ∧ Below w.heap.size w w' := by
  have HM : Hid (MaxOk w) := hm
  clear hm
  obtain ⟨X, hX⟩ : ∃ X, dist s.data.toList t.data.toList = X := ⟨_, rfl⟩
  have HX : Hid (dist s.data.toList t.data.toList = X) := hX
  obtain ⟨N, D, hNO⟩ := near_of_l s.data.toList
  have HNO : Hid (NearOf s.data.toList N D) := hNO
  clear hX hNO
  go_enter Try.func6, Try.ntmps6
  go_wp2_with fail
  refine (near_is (Below.refl _ w) s hs N D HNO.out).mono ?_
  rintro e W1 ⟨rfl, hb1⟩
  go_wp2_with fail
  refine (rnear_is hb1 s hs N D HNO.out).mono ?_
  rintro e W2 ⟨rfl, hb2⟩
  go_wp2_with (first
    | (go_at_call 24; refine (dist_is (by first | assumption | exact Below.drew (by assumption)) s t hs ht X HX.out).mono ?_; rintro e w6 ⟨rfl, hb6⟩)
    | (go_at_call 25; refine (rdist_is (by first | assumption | exact Below.drew (by assumption)) s t hs ht X HX.out).mono ?_; rintro e w7 ⟨rfl, hb7⟩)
    | (go_at_call 14; refine (awake_b (by first | assumption | exact Below.drew (by assumption)) HM.out).mono ?_; rintro e w' ⟨rfl, hbw⟩))
  go_ret
  exact ⟨rfl, hbw⟩

set_option maxRecDepth 100000 in
theorem contract (H : Type) (enc : TypeId × Value → H) (W : World) (base : Nat) (args : Array Value) (ds gs : List (DataW H)) (before : List MemPlace)
    (hval : ∀ (j : Nat) t v, Try.f6.params[j]? = some t → args[j]? = some v → Value.okWide Try.prog W .any base t v)
    (hW : DataW.Whole enc Try.prog Try.f6.params.toList Rows.namesNearSpec.vars false W args.toList ds gs before) (hsh : W.ShapedOpen Try.prog) :
    Calls Try.prog 6 args W fun e W' => ∃ v, e = .returned v ∧ Rows.namesNearSpec.post enc Try.prog Try.f6 false true false false W args v W' := by
  have hW' := hW
  have hlt := hW.lt
  obtain ⟨p, q, hA0, hV, rfl, hfz, hnd⟩ := hW
  have hA : DataW.TrodAll enc Try.prog W 0 (fun _ => true) true Try.f6.params.toList args.toList ds p := hA0
  rw [Try.params6] at hA hval
  obtain ⟨v0, vs0, d0, ds0, p0, q0, hargs, rfl, rfl, h0, r0⟩ := trodAll_cons hA
  obtain ⟨v1, vs1, d1, ds1, p1, q1, rfl, rfl, rfl, h1, r1⟩ := trodAll_cons r0
  obtain ⟨rfl, rfl, rfl⟩ := trodAll_nil r1
  obtain rfl : args = #[v0, v1] := by cases args; simp_all
  obtain ⟨rfl, rfl⟩ := trodVars_none hV
  clear hA0
  simp only [List.append_nil] at hW' hlt
  have h0' := h0
  obtain ⟨s0, rfl, rfl, e0, ws0⟩ := Go.ChangeMaps.open_string Try.underlying9 (hval 0 9 v0 rfl rfl) h0
  have h1' := h1
  obtain ⟨s1, rfl, rfl, e1, ws1⟩ := Go.ChangeMaps.open_string Try.underlying9 (hval 1 9 v1 rfl rfl) h1
  refine (walk W (Try.laysM144.s1_3 W hsh) s0 ws0 s1 ws1).mono fun e W' ⟨he, hb⟩ => ?_
  subst he
  exact ⟨_, rfl, post_below hW' (fun _ _ _ => trodAll_cons_mk (shut_bool Try.underlying4 _) trodAll_mk0) (trodAll_cons_mk (stays (by kernel_rfl) (of_decide_eq_true (by kernel_rfl)) h0' hb (fun x hx => hlt x (by simp [hx]))) (trodAll_cons_mk (stays (by kernel_rfl) (of_decide_eq_true (by kernel_rfl)) h1' hb (fun x hx => hlt x (by simp [hx]))) trodAll_mk0)) rfl hb⟩

set_option maxRecDepth 100000 in
theorem laid_met (os : Os) : laidMet Try.prog Rows.namesNearRow.laid ((World.holding Try.prog os ⟨#[], #[], []⟩).forCall (fun _ _ => 0) ⟨#[], #[Value.string ⟨#[]⟩, Value.string ⟨#[]⟩], []⟩).memory :=
  laidMet_of_run' 8 (by kernel_rfl) (by kernel_rfl)
set_option maxRecDepth 100000 in
theorem reads (os : Os) {H : Type} (enc : TypeId × Value → H) : ∃ places, DataW.whole enc Try.prog ((World.holding Try.prog os ⟨#[], #[], []⟩).forCall (fun _ _ => 0) ⟨#[], #[Value.string ⟨#[]⟩, Value.string ⟨#[]⟩], []⟩).memory Try.f6.params.toList Rows.namesNearSpec.vars false #[Value.string ⟨#[]⟩, Value.string ⟨#[]⟩].toList 8 = some ([.lit (.string []), .lit (.string [])], [], places) :=
  ⟨[], by kernel_rfl⟩

set_option maxRecDepth 100000 in
theorem lifted (os : Os) (started : os.Started) (H : Type) (enc : TypeId × Value → H) (F : Stop.Interp) :
    ReturnsInHanded {} Try.checked os 6 .any ((OpenSpec.ofChange Rows.namesNearSpec).preRow enc Try.prog Try.f6 Rows.namesNearRow.domain false Rows.namesNearRow.laid) (((OpenSpec.ofChange Rows.namesNearSpec).at F).post enc Try.prog Try.f6 false true false false) := by
  obtain ⟨places, hx⟩ := reads os enc
  refine returnsInHanded_of_row (C := Try.checked) (s := OpenSpec.ofChange Rows.namesNearSpec) own started (by kernel_rfl) Try.func6
    (witness_row_at (enc := enc) (C := Try.checked) false (World.holding Try.prog os ⟨#[], #[], []⟩) #[Value.string ⟨#[]⟩, Value.string ⟨#[]⟩] rfl (by kernel_rfl) (by kernel_rfl) (by kernel_rfl)
      (OpenSpec.preRow_of_cond 8 hx (by kernel_rfl) (fun k hk => by cases hk) (by kernel_rfl) (laid_met os))) ?_
  intro W base args ds gs before hval hW _ _ _ hL hsh _
  exact contract H enc W base args ds gs before hval hW hsh

set_option maxRecDepth 100000 in
theorem said : Rows.NamesNearSaid :=
  OpenClaim.holds_of_cond 6 Try.f6 rfl rfl rfl rfl rfl rfl rfl ⟨rfl, rfl, rfl, rfl, rfl⟩ rfl rfl rfl rfl rfl (by kernel_rfl) Try.func6 (by kernel_rfl)
    (of_decide_eq_true (by kernel_rfl)) (by unfold Func.isWrapper; first | (rw [if_pos (by decide +kernel)]; kernel_rfl) | (rw [if_neg (by decide +kernel)]; exact ⟨rfl, rfl⟩))
    (fun os started H enc _ F => by rw [OpenClaim.pre_eq_preRow]; exact lifted os started H enc F)


end Go.Proofs.Ytihehkgmlijfgaa.NNearL
