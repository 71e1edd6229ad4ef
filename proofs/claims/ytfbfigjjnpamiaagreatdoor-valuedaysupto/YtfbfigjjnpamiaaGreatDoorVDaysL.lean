/- What is proved here: the statement ValueDays (Date and Color of any value) holds for values up to the size that the statement's narrower form names, with no other condition but what the card says of the listed tables. -/
import Derived.Test.YtfbfigjjnpamiaaGreatDoorCards
import Derived.Test.YtfbfigjjnpamiaaGreatDoorTie
import Derived.Test.YtfbfigjjnpamiaaGreatDoorBun1
import Derived.Test.YtfbfigjjnpamiaaGreatDoorVTabs
import Derived.Test.YtfbfigjjnpamiaaGreatDoorBun12
import Derived.Test.YtfbfigjjnpamiaaGreatDoorVRDate2
import Derived.Test.YtfbfigjjnpamiaaGreatDoorVRColor
import Derived.ProofKit
import Derived.OpenShut
namespace Go.Proofs.YtfbfigjjnpamiaaGreatDoor.VDaysL
open Go.ChangeShapes Go.WideShapes Go.ChangeAt Go.RowKit U N L V

set_option maxRecDepth 100000 in
set_option maxHeartbeats 4000000 in
theorem walk_on (w : World) (hT : Vt w) (bs : List UInt8) (hb : bs.length ≤ 1048576) : Calls Tryz.prog 5 #[.string ⟨bs.toArray⟩] w fun e w' => e = .returned (.bool true) ∧ Below w.heap.size w w' := by
  have HK1 : Hid (∀ W, Below w.heap.size w W → Calls Tryz.prog 14 #[.string ⟨bs.toArray⟩] W fun e W' => e = .returned (dateV (dateB (clB bs))) ∧ Below W.heap.size W W') := fun W h => Date_calls bs W (hT.1.below h) (by omega)
  have HK2 : Hid (∀ W, Calls Tryz.prog 15 #[.string ⟨bs.toArray⟩] W fun e W' => e = .returned (dateV (dateB (clB bs))) ∧ Below W.heap.size W W') := fun W => rDate_calls bs W (by omega)
  have HK3 : Hid (∀ W, Below w.heap.size w W → Calls Tryz.prog 16 #[.string ⟨bs.toArray⟩] W fun e W' => e = .returned (colR (colB (clB bs))) ∧ Below W.heap.size W W') := fun W h => Color_calls bs W (hT.1.below h) (by omega)
  have HK4 : Hid (∀ W, Calls Tryz.prog 17 #[.string ⟨bs.toArray⟩] W fun e W' => e = .returned (colR (colB (clB bs))) ∧ Below W.heap.size W W') := fun W => rColor_calls bs W (by omega)
  have HK5 : Hid (∀ W, Below w.heap.size w W → Calls Tryz.prog 8 #[] W fun e W' => e = .returned (.bool true) ∧ Below W.heap.size W W') := fun W h => lives_calls W (hT.1.below h)
  unfold dateV at HK1 HK2
  unfold colR at HK3 HK4
  generalize ((dateB (clB bs)).getD (0, 0, 0)).1 = y at *
  generalize ((dateB (clB bs)).getD (0, 0, 0)).2.1 = m at *
  generalize ((dateB (clB bs)).getD (0, 0, 0)).2.2 = d at *
  generalize (dateB (clB bs)).isSome = ok at *
  generalize (colB (clB bs)).getD 0 = n at *
  generalize (colB (clB bs)).isSome = is at *
  clear hT hb
  go_enter Tryz.func5, Tryz.ntmps5
  go_wp2_with fail
  (go_at_call 14; refine (HK1.out _ (Below.refl _ _)).mono ?_; rintro e w1 ⟨rfl, h1⟩)
  go_wp2_with fail
  (go_at_call 15; refine (HK2.out _).mono ?_; rintro e w2 ⟨rfl, h2⟩)
  have HB2 := hid_of (h1.trans (h2.mono h1.size))
  clear h1 h2
  go_wp2_with fail
  (go_at_call 16; refine (HK3.out _ HB2.out).mono ?_; rintro e w3 ⟨rfl, h3⟩)
  have HB3 := hid_of (HB2.out.trans (h3.mono HB2.out.size))
  clear h3
  go_wp2_with fail
  (go_at_call 17; refine (HK4.out _).mono ?_; rintro e w4 ⟨rfl, h4⟩)
  have HB4 := hid_of (HB3.out.trans (h4.mono HB3.out.size))
  clear h4
  go_wp2_with fail
  (go_at_call 8; refine (HK5.out _ HB4.out).mono ?_; rintro e w5 ⟨rfl, h5⟩)
  have HB5 := hid_of (HB4.out.trans (h5.mono HB4.out.size))
  clear h5
  go_wp2_with fail
  go_ret
  exact ⟨rfl, HB5.out⟩
theorem walk (w : World) (hT : Vt w) (s : ByteArray) (_hs0 : s.size ≤ 9223372036854775807) (hs : s.size ≤ 1048576) : Calls Tryz.prog 5 #[.string s] w fun e w' => e = .returned (.bool true) ∧ Below w.heap.size w w' := by
  have h := walk_on w hT s.data.toList (by rw [N.size_data]; exact hs)
  rw [Lib.mk_data] at h
  exact h

set_option maxRecDepth 100000 in
theorem contract (H : Type) (enc : TypeId × Value → H) (W : World) (base : Nat) (args : Array Value) (ds gs : List (DataW H)) (before : List MemPlace)
    (hval : ∀ (j : Nat) t v, Tryz.f5.params[j]? = some t → args[j]? = some v → Value.okWide Tryz.prog W .any base t v)
    (hW : DataW.Whole enc Tryz.prog Tryz.f5.params.toList Rows.valueDaysSpec.vars false W args.toList ds gs before) (hL : laidMetH Tryz.prog Rows.valueDaysUptoRow.laid W) (hk : Rows.uptoSmall H (ds ++ gs) = true) :
    Calls Tryz.prog 5 args W fun e W' => ∃ v, e = .returned v ∧ Rows.valueDaysSpec.post enc Tryz.prog Tryz.f5 false true false false W args v W' := by
  have hW' := hW
  have hlt := hW.lt
  obtain ⟨p, q, hA0, hV, rfl, hfz, hnd⟩ := hW
  have hA : DataW.TrodAll enc Tryz.prog W 0 (fun _ => true) true Tryz.f5.params.toList args.toList ds p := hA0
  rw [Tryz.params5] at hA hval
  obtain ⟨v0, vs0, d0, ds0, p0, q0, hargs, rfl, rfl, h0, r0⟩ := trodAll_cons hA
  obtain ⟨rfl, rfl, rfl⟩ := trodAll_nil r0
  obtain rfl : args = #[v0] := by cases args; simp_all
  obtain ⟨rfl, rfl⟩ := trodVars_none hV
  clear hA0
  simp only [List.append_nil] at hW' hlt hk
  have hbulk := of_decide_eq_true hk
  simp only [Rows.uptoBulkAll] at hbulk
  have h0' := h0
  obtain ⟨s0, rfl, rfl, e0, ws0⟩ := Go.ChangeMaps.open_string Tryz.underlying9 (hval 0 9 v0 rfl rfl) h0
  refine (walk W (tabsV_of_laid hL) s0 ws0 (by simp only [V.bulk_str, N.size_data] at hbulk; omega)).mono fun e W' ⟨he, hb⟩ => ?_
  subst he
  exact ⟨_, rfl, post_below hW' (fun _ _ _ => trodAll_cons_mk (shut_bool Tryz.underlying4 _) trodAll_mk0) (trodAll_cons_mk (stays (by kernel_rfl) (of_decide_eq_true (by kernel_rfl)) h0' hb (fun x hx => hlt x (by simp [hx]))) trodAll_mk0) rfl hb⟩

set_option maxRecDepth 100000 in
theorem laid_met (os : Os) : laidMet Tryz.prog Rows.valueDaysUptoRow.laid ((withTabsV (World.holding Tryz.prog os ⟨#[], #[], []⟩)).forCall (fun _ _ => 0) ⟨#[], #[Value.string ⟨#[]⟩], []⟩).memory :=
  laidMet_of_run' 8 (by kernel_rfl) (by kernel_rfl)
set_option maxRecDepth 100000 in
theorem reads (os : Os) {H : Type} (enc : TypeId × Value → H) : ∃ places, DataW.whole enc Tryz.prog ((withTabsV (World.holding Tryz.prog os ⟨#[], #[], []⟩)).forCall (fun _ _ => 0) ⟨#[], #[Value.string ⟨#[]⟩], []⟩).memory Tryz.f5.params.toList Rows.valueDaysSpec.vars false #[Value.string ⟨#[]⟩].toList 8 = some ([.lit (.string [])], [], places) :=
  ⟨[], by kernel_rfl⟩

set_option maxRecDepth 100000 in
theorem lifted (os : Os) (started : os.Started) (H : Type) (enc : TypeId × Value → H) (F : Stop.Interp) :
    ReturnsInHanded {} Tryz.checked os 5 .any ((Rows.OpenSpec.upto Rows.valueDaysSpec).preRow enc Tryz.prog Tryz.f5 Rows.valueDaysUptoRow.domain false Rows.valueDaysUptoRow.laid) (((Rows.OpenSpec.upto Rows.valueDaysSpec).at F).post enc Tryz.prog Tryz.f5 false true false false) := by
  obtain ⟨places, hx⟩ := reads os enc
  refine returnsInHanded_of_row (C := Tryz.checked) (s := Rows.OpenSpec.upto Rows.valueDaysSpec) own started (by kernel_rfl) Tryz.func5
    (witness_row_at (enc := enc) (C := Tryz.checked) false (withTabsV (World.holding Tryz.prog os ⟨#[], #[], []⟩)) #[Value.string ⟨#[]⟩] rfl (by kernel_rfl) (by kernel_rfl) (by kernel_rfl)
      (OpenSpec.preRow_of_cond 8 hx (by kernel_rfl) (fun k hk => by cases hk; kernel_rfl) (by kernel_rfl) (laid_met os))) ?_
  intro W base args ds gs before hval hW _ hcond _ hL _ _
  exact contract H enc W base args ds gs before hval hW hL (hcond _ rfl)

set_option maxRecDepth 100000 in
theorem said : Rows.ValueDaysUptoSaid :=
  OpenClaim.holds_of_cond 5 Tryz.f5 rfl rfl rfl rfl rfl rfl rfl ⟨rfl, rfl, rfl, rfl, rfl⟩ rfl rfl rfl rfl rfl (by kernel_rfl) Tryz.func5 (by kernel_rfl)
    (of_decide_eq_true (by kernel_rfl)) (by unfold Func.isWrapper; first | (rw [if_pos (by decide +kernel)]; kernel_rfl) | (rw [if_neg (by decide +kernel)]; exact ⟨rfl, rfl⟩))
    (fun os started H enc _ F => by rw [OpenClaim.pre_eq_preRow]; exact lifted os started H enc F)

theorem plain (f : FuncId) (fn : Func) (hf : Tryz.pinned.checked.prog.funcNamed "sieve/sievelaw13.ValueDays" = some f) (hfn : Tryz.pinned.checked.prog.funcs[f]? = some fn) :
    false = Tryz.pinned.checked.prog.looks [] ∧ ∀ (j : Nat) t, fn.params[j]? = some t → Tryz.pinned.checked.prog.wantsStandIn t = false := by
  obtain rfl : f = 5 := Option.some.inj ((show Tryz.prog.funcNamed "sieve/sievelaw13.ValueDays" = some 5 by kernel_rfl).symm.trans hf) |>.symm
  obtain rfl : fn = Tryz.f5 := (Option.some.inj (Tryz.func5.symm.trans hfn)).symm
  refine ⟨by kernel_rfl, fun j t ht => ?_⟩
  rw [Tryz.params5] at ht
  have hm := Array.mem_of_getElem? ht
  simp only [List.mem_toArray, List.mem_cons, List.not_mem_nil, or_false] at hm
  subst hm
  · exact (show Tryz.prog.wantsStandIn 9 = false by kernel_rfl)

theorem card : Rows.ValueDaysUptoCardSaid :=
  Claim7.holds_tied_plain_at .later [] _ _ _ _ said (fun _ h => by cases h) (by kernel_rfl) (fun _ h => by cases h) valueDaysUpto_row_tie rfl ⟨rfl, rfl⟩ (by kernel_rfl) rfl plain (by kernel_rfl)

end Go.Proofs.YtfbfigjjnpamiaaGreatDoor.VDaysL
