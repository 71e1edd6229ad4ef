/- What is proved here: the statement BalanceNone (balancers that no call made) holds, with no condition but what the card says of the listed tables. -/
import Derived.Test.YtdkcibafbdmajabGreatDoorCards
import Derived.Test.YtdkcibafbdmajabGreatDoorTie
import Derived.Test.YtdkcibafbdmajabGreatDoorBun3
import Derived.Test.YtdkcibafbdmajabGreatDoorBun19
namespace Go.Proofs.YtdkcibafbdmajabGreatDoor.BaNoneL
open Go.ChangeShapes Go.WideShapes Go.ChangeAt Go.RowKit Go.Shelf N C E Bt

set_option maxRecDepth 100000 in
set_option maxHeartbeats 40000000 in
theorem walk (w : World) (hm : MaxOk w) (k : Int) (nm tx : ByteArray) (av : Value) (sf : Bool) (p0 p1 p2 : Int) : Calls Tryz.prog 5 #[.agg #[.int .i64 k, .string nm, .string tx, av, .bool sf, .int .i64 p0, .int .i64 p1, .int .i64 p2]] w fun e w' => e = .returned (.bool true) ∧ Below w.heap.size w w' := by
  obtain ⟨W1, hW1⟩ : ∃ W, w.alloc (.cells #[.int .i64 k, .string nm, .string tx, av, .bool sf, .int .i64 p0, .int .i64 p1, .int .i64 p2] 37) = W := ⟨_, rfl⟩
  have b1 : Below w.heap.size w W1 := by rw [← hW1]; exact (Below.refl _ w).alloc (Nat.le_refl _) _
  have q1 : Blk W1 w.heap.size #[.int .i64 k, .string nm, .string tx, av, .bool sf, .int .i64 p0, .int .i64 p1, .int .i64 p2] 37 := by rw [← hW1]; exact Blk.new _ _ _
  obtain ⟨W2, hW2⟩ : ∃ W, W1.alloc (.cells B.zeroCells 69) = W := ⟨_, rfl⟩
  have b2 : Below W1.heap.size W1 W2 := by rw [← hW2]; exact (Below.refl _ W1).alloc (Nat.le_refl _) _
  have q2 : Blk W2 W1.heap.size B.zeroCells 69 := by rw [← hW2]; exact Blk.new _ _ _
  have HB2 : Hid (Below w.heap.size w W2) := hid_of (b1.trans (b2.mono b1.size))
  have HQ2 := hid_of (q1.below b2)
  have hz1 : W1.heap.size = w.heap.size + 1 := by rw [← hW1]; simp
  have HZ2 : Hid (B.NoneV W2 (.pointer (some ⟨w.heap.size + 1, 0, none⟩))) := hid_of (.inr ⟨_, rfl, by rw [← hW2]; simp [hz1], by rw [← hz1]; exact q2⟩)
  have HM : Hid (∀ W, Below w.heap.size w W → MaxOk W) := hid_of (fun W hW => hm.below hW)
  have hW1' := hid_of hW1
  have hW2' := hid_of hW2
  have e0 : W2.cell? ⟨w.heap.size, 0, none⟩ = some (.int .i64 k) := HQ2.out.cell 0
  have e1 : W2.cell? ⟨w.heap.size, 1, none⟩ = some (.string nm) := HQ2.out.cell 1
  have e2 : W2.cell? ⟨w.heap.size, 2, none⟩ = some (.string tx) := HQ2.out.cell 2
  have e3 : W2.cell? ⟨w.heap.size, 3, none⟩ = some av := HQ2.out.cell 3
  have e4 : W2.cell? ⟨w.heap.size, 4, none⟩ = some (.bool sf) := HQ2.out.cell 4
  have e5 : W2.cell? ⟨w.heap.size, 5, none⟩ = some (.int .i64 p0) := HQ2.out.cell 5
  have e6 : W2.cell? ⟨w.heap.size, 6, none⟩ = some (.int .i64 p1) := HQ2.out.cell 6
  have e7 : W2.cell? ⟨w.heap.size, 7, none⟩ = some (.int .i64 p2) := HQ2.out.cell 7
  clear hm hW1 hW2 b1 b2 q1 q2 hz1
  go_enter Tryz.func5, Tryz.ntmps5
  go_upto_region 3 with fail
  rw [hW1'.out]
  rw [show (W1.alloc (.cells #[.slice none 0 0, .slice none 0 0, .slice none 0 0, .slice none 0 0, .map none, .bool false, .int .i64 0, .bool false] 69)) = W2 from hW2'.out]
  clear hW1' hW2'
  go_wp2_with fail
  (go_at_call 9; refine (B.ntake_calls _ k nm tx av sf p0 p1 p2 _ (.inl rfl)).mono ?_; rintro e w3 ⟨rfl, b3⟩)
  have HB3 : Hid (Below w.heap.size w w3) := hid_of (HB2.out.trans (b3.mono HB2.out.size))
  have HQ3 := hid_of (HQ2.out.below b3)
  have HZ3 := hid_of (HZ2.out.below b3)
  have g0 : w3.cell? ⟨w.heap.size, 0, none⟩ = some (.int .i64 k) := HQ3.out.cell 0
  have g1 : w3.cell? ⟨w.heap.size, 1, none⟩ = some (.string nm) := HQ3.out.cell 1
  have g2 : w3.cell? ⟨w.heap.size, 2, none⟩ = some (.string tx) := HQ3.out.cell 2
  have g3 : w3.cell? ⟨w.heap.size, 3, none⟩ = some av := HQ3.out.cell 3
  have g4 : w3.cell? ⟨w.heap.size, 4, none⟩ = some (.bool sf) := HQ3.out.cell 4
  have g5 : w3.cell? ⟨w.heap.size, 5, none⟩ = some (.int .i64 p0) := HQ3.out.cell 5
  have g6 : w3.cell? ⟨w.heap.size, 6, none⟩ = some (.int .i64 p1) := HQ3.out.cell 6
  have g7 : w3.cell? ⟨w.heap.size, 7, none⟩ = some (.int .i64 p2) := HQ3.out.cell 7
  clear e0 e1 e2 e3 e4 e5 e6 e7 b3 HB2 HQ2 HZ2
  go_wp2_with fail
  (go_at_call 9; refine (B.ntake_calls _ k nm tx av sf p0 p1 p2 _ HZ3.out).mono ?_; rintro e w4 ⟨rfl, b4⟩)
  have HB4 : Hid (Below w.heap.size w w4) := hid_of (HB3.out.trans (b4.mono HB3.out.size))
  have HZ4 := hid_of (HZ3.out.below b4)
  clear g0 g1 g2 g3 g4 g5 g6 g7 b4 HB3 HQ3 HZ3
  go_wp2_with fail
  (go_at_call 17; refine (B.nend_calls _ _ (.inl rfl)).mono ?_; rintro e w' ⟨rfl, hw'⟩; have hx' := hw'.symm; subst hx')
  go_wp2_with fail
  (go_at_call 17; refine (B.nend_calls _ _ HZ4.out).mono ?_; rintro e w' ⟨rfl, hw'⟩; have hx' := hw'.symm; subst hx')
  go_wp2_with fail
  (go_at_call 15; refine (B.nopen_calls _ _ (.inl rfl)).mono ?_; rintro e w' ⟨rfl, hw'⟩; have hx' := hw'.symm; subst hx')
  go_wp2_with fail
  (go_at_call 15; refine (B.nopen_calls _ _ HZ4.out).mono ?_; rintro e w' ⟨rfl, hw'⟩; have hx' := hw'.symm; subst hx')
  go_wp2_with fail
  (go_at_call 16; refine (B.nghosts_calls _ _ (.inl rfl)).mono ?_; rintro e w' ⟨rfl, hw'⟩; have hx' := hw'.symm; subst hx')
  go_wp2_with fail
  (go_at_call 16; refine (B.nghosts_calls _ _ HZ4.out).mono ?_; rintro e w' ⟨rfl, hw'⟩; have hx' := hw'.symm; subst hx')
  go_wp2_with fail
  (go_at_call 8; refine (B.lives_calls _ (HM.out _ HB4.out)).mono ?_; rintro e w9 ⟨rfl, b9⟩)
  have HB9 : Hid (Below w.heap.size w w9) := hid_of (HB4.out.trans (b9.mono HB4.out.size))
  clear b9
  go_wp2_with fail
  go_ret
  exact ⟨rfl, HB9.out⟩

set_option maxRecDepth 100000 in
theorem contract (H : Type) (enc : TypeId × Value → H) (W : World) (base : Nat) (args : Array Value) (ds gs : List (DataW H)) (before : List MemPlace)
    (hval : ∀ (j : Nat) t v, Tryz.f5.params[j]? = some t → args[j]? = some v → Value.okWide Tryz.prog W .any base t v)
    (hW : DataW.Whole enc Tryz.prog Tryz.f5.params.toList Rows.balanceNoneSpec.vars false W args.toList ds gs before) (_hL : laidMetH Tryz.prog Rows.balanceNoneRow.laid W)(hsh : W.ShapedOpen Tryz.prog) :
    Calls Tryz.prog 5 args W fun e W' => ∃ v, e = .returned v ∧ Rows.balanceNoneSpec.post enc Tryz.prog Tryz.f5 false true false false W args v W' := by
  have hW' := hW
  have hlt := hW.lt
  obtain ⟨p, q, hA0, hV, rfl, hfz, hnd⟩ := hW
  have hA : DataW.TrodAll enc Tryz.prog W 0 (fun _ => true) true Tryz.f5.params.toList args.toList ds p := hA0
  rw [Tryz.params5] at hA hval
  obtain ⟨v0, vs0, d0, ds0, p0, q0, hargs, rfl, rfl, h0, r0⟩ := trodAll_cons hA
  obtain ⟨rfl, rfl, rfl⟩ := trodAll_nil r0
  obtain rfl : args = #[v0] := by cases args; simp_all
  obtain ⟨rfl, rfl⟩ := trodVars_none hV
  clear hA0
  simp only [List.append_nil] at hW' hlt
  obtain ⟨k0, nm0, tx0, av0, sf0, pa0, pb0, pc0, rfl⟩ := B.tok_shape (hval 0 37 v0 rfl rfl) h0
  refine (walk W (Tryz.laysM144.s1_3 W hsh) k0 nm0 tx0 av0 sf0 pa0 pb0 pc0).mono fun e W' ⟨he, hb⟩ => ?_
  subst he
  exact ⟨_, rfl, post_below hW' (fun _ _ _ => trodAll_cons_mk (shut_bool Tryz.underlying4 _) trodAll_mk0) (trodAll_cons_mk (stays (by kernel_rfl) (of_decide_eq_true (by kernel_rfl)) h0 hb (fun x hx => hlt x (by simp [hx]))) trodAll_mk0) rfl hb⟩

set_option maxRecDepth 100000 in
theorem laid_met (os : Os) : laidMet Tryz.prog Rows.balanceNoneRow.laid ((withTabs (World.holding Tryz.prog os ⟨#[], #[], []⟩)).forCall (fun _ _ => 0) ⟨#[], #[Value.agg #[.int .i64 0, .string ⟨#[]⟩, .string ⟨#[]⟩, .slice none 0 0, .bool false, .int .i64 0, .int .i64 0, .int .i64 0]], []⟩).memory :=
  laidMet_of_run' 8 (by kernel_rfl) (by kernel_rfl)
set_option maxRecDepth 100000 in
theorem reads (os : Os) {H : Type} (enc : TypeId × Value → H) : ∃ places, DataW.whole enc Tryz.prog ((withTabs (World.holding Tryz.prog os ⟨#[], #[], []⟩)).forCall (fun _ _ => 0) ⟨#[], #[Value.agg #[.int .i64 0, .string ⟨#[]⟩, .string ⟨#[]⟩, .slice none 0 0, .bool false, .int .i64 0, .int .i64 0, .int .i64 0]], []⟩).memory Tryz.f5.params.toList Rows.balanceNoneSpec.vars false #[Value.agg #[.int .i64 0, .string ⟨#[]⟩, .string ⟨#[]⟩, .slice none 0 0, .bool false, .int .i64 0, .int .i64 0, .int .i64 0]].toList 8 = some ([.agg [.lit (.int .i64 0), .lit (.string []), .lit (.string []), .nil, .lit (.bool false), .agg [.lit (.int .i64 0), .lit (.int .i64 0), .lit (.int .i64 0)]]], [], places) :=
  ⟨[], by kernel_rfl⟩

set_option maxRecDepth 100000 in
theorem lifted (os : Os) (started : os.Started) (H : Type) (enc : TypeId × Value → H) (F : Stop.Interp) :
    ReturnsInHanded {} Tryz.checked os 5 .any ((OpenSpec.ofChange Rows.balanceNoneSpec).preRow enc Tryz.prog Tryz.f5 Rows.balanceNoneRow.domain false Rows.balanceNoneRow.laid) (((OpenSpec.ofChange Rows.balanceNoneSpec).at F).post enc Tryz.prog Tryz.f5 false true false false) := by
  obtain ⟨places, hx⟩ := reads os enc
  refine returnsInHanded_of_row (C := Tryz.checked) (s := OpenSpec.ofChange Rows.balanceNoneSpec) own started (by kernel_rfl) Tryz.func5
    (witness_row_at (enc := enc) (C := Tryz.checked) false (withTabs (World.holding Tryz.prog os ⟨#[], #[], []⟩)) #[Value.agg #[.int .i64 0, .string ⟨#[]⟩, .string ⟨#[]⟩, .slice none 0 0, .bool false, .int .i64 0, .int .i64 0, .int .i64 0]] rfl (by kernel_rfl) (by kernel_rfl) (by kernel_rfl)
      (OpenSpec.preRow_of_cond 8 hx (by kernel_rfl) (fun k hk => by cases hk) (by kernel_rfl) (laid_met os))) ?_
  intro W base args ds gs before hval hW _ _ _ hL hsh _
  exact contract H enc W base args ds gs before hval hW hL hsh

set_option maxRecDepth 100000 in
theorem said : Rows.BalanceNoneSaid :=
  OpenClaim.holds_of_cond 5 Tryz.f5 rfl rfl rfl rfl rfl rfl rfl ⟨rfl, rfl, rfl, rfl, rfl⟩ rfl rfl rfl rfl rfl (by kernel_rfl) Tryz.func5 (by kernel_rfl)
    (of_decide_eq_true (by kernel_rfl)) (by unfold Func.isWrapper; first | (rw [if_pos (by decide +kernel)]; kernel_rfl) | (rw [if_neg (by decide +kernel)]; exact ⟨rfl, rfl⟩))
    (fun os started H enc _ F => by rw [OpenClaim.pre_eq_preRow]; exact lifted os started H enc F)

theorem plain (f : FuncId) (fn : Func) (hf : Tryz.pinned.checked.prog.funcNamed "sieve/sievelaw17.BalanceNone" = some f) (hfn : Tryz.pinned.checked.prog.funcs[f]? = some fn) :
    false = Tryz.pinned.checked.prog.looks [] ∧ ∀ (j : Nat) t, fn.params[j]? = some t → Tryz.pinned.checked.prog.wantsStandIn t = false := by
  obtain rfl : f = 5 := Option.some.inj ((show Tryz.prog.funcNamed "sieve/sievelaw17.BalanceNone" = some 5 by kernel_rfl).symm.trans hf) |>.symm
  obtain rfl : fn = Tryz.f5 := (Option.some.inj (Tryz.func5.symm.trans hfn)).symm
  refine ⟨by kernel_rfl, fun j t ht => ?_⟩
  rw [Tryz.params5] at ht
  have hm := Array.mem_of_getElem? ht
  simp only [List.mem_toArray, List.mem_cons, List.not_mem_nil, or_false] at hm
  subst hm
  · exact (show Tryz.prog.wantsStandIn 37 = false by kernel_rfl)

theorem card : Rows.BalanceNoneCardSaid :=
  Claim7.holds_tied_plain_at .later [] _ _ _ _ said (fun _ h => by cases h) (by kernel_rfl) (fun _ h => by cases h) balanceNone_row_tie rfl ⟨rfl, rfl⟩ (by kernel_rfl) rfl plain (by kernel_rfl)

end Go.Proofs.YtdkcibafbdmajabGreatDoor.BaNoneL
