/- What is proved here: the statement ValueWords (Tokens and Number of any value) holds for values up to the size that the statement's narrower form names, with no other condition but what the card says of the listed tables. -/
import Derived.Test.YtfbfigjjnpamiaaGreatDoorCards
import Derived.Test.YtfbfigjjnpamiaaGreatDoorTie
import Derived.Test.YtfbfigjjnpamiaaGreatDoorBun1
import Derived.Test.YtfbfigjjnpamiaaGreatDoorVTabs
import Derived.Test.YtfbfigjjnpamiaaGreatDoorVTok
import Derived.Test.YtfbfigjjnpamiaaGreatDoorVRTok
import Derived.ProofKit
import Derived.OpenShut
namespace Go.Proofs.YtfbfigjjnpamiaaGreatDoor.VWordsL
open Go.ChangeShapes Go.WideShapes Go.ChangeAt Go.RowKit U N L V

theorem grown_set (w : World) (g j : Nat) (u : Value) : w.grownBy (w.setCell ⟨g, j, none⟩ u) (some g) := ⟨rfl, rfl, rfl, by simp [World.setCell], fun k _ hk => Below.heap_setCell _ _ _ k (fun e => hk (by rw [show k = g from e]))⟩
/-- Only blocks of a kind may have turned, of those that were there. -/
structure KeepP (P : Nat → Prop) (w w' : World) : Prop where
  os : w'.os = w.os
  tape : w'.tape = w.tape
  output : w'.output = w.output
  size : w.heap.size ≤ w'.heap.size
  block : ∀ k, k < w.heap.size → ¬ P k → w'.heap[k]? = w.heap[k]?
theorem KeepP.refl (P : Nat → Prop) (w : World) : KeepP P w w := ⟨rfl, rfl, rfl, Nat.le_refl _, fun _ _ _ => rfl⟩
theorem KeepP.setCell {P : Nat → Prop} {A B : World} (h : KeepP P A B) (g j : Nat) (u : Value) (hg : P g) : KeepP P A (B.setCell ⟨g, j, none⟩ u) := by
  have k := grown_set B g j u
  exact ⟨k.os.trans h.os, k.tape.trans h.tape, k.output.trans h.output, Nat.le_trans h.size k.size, fun i hi hp => (k.block i (Nat.lt_of_lt_of_le hi h.size) (fun e => hp (by cases e; exact hg))).trans (h.block i hi hp)⟩
theorem KeepP.owns {P : Nat → Prop} {w w' : World} {base : Nat} {v : Value} {L : List (List UInt8)} (h : KeepP P w w') (ho : OwnT base w v L) (hp : ∀ k, base ≤ k → ¬ P k) : OwnT base w' v L := by
  refine ⟨ho.1, ?_⟩
  have hlt := World.ownsRow.lt ho
  rcases ho.2 with hn | ⟨g, cap, cur, rfl, hb, hg, rest⟩
  · exact .inl hn
  · refine .inr ⟨g, cap, cur, rfl, hb, ?_, rest⟩
    rw [h.block g (hlt g rfl).2 (hp g (hlt g rfl).1)]; exact hg
theorem KeepP.below {P : Nat → Prop} {n : Nat} {w w' : World} (h : KeepP P w w') (hn : n ≤ w.heap.size) (hp : ∀ k, k < n → ¬ P k) : Below n w w' := ⟨h.os, h.tape, h.output, h.size, fun k hk => h.block k (by omega) (hp k hk)⟩

set_option maxRecDepth 100000 in
set_option maxHeartbeats 4000000 in
theorem walk_on (w : World) (hT : Vt w) (bs : List UInt8) (hb : bs.length ≤ 1048576) : Calls Tryz.prog 4 #[.string ⟨bs.toArray⟩] w fun e w' => e = .returned (.bool true) ∧ Below w.heap.size w w' := by
  have hfc := fields_count (clB bs)
  have hcl := clB_len bs
  have HK1 : Hid (∀ W, Below w.heap.size w W → Calls Tryz.prog 9 #[.string ⟨bs.toArray⟩] W fun e W' => ∃ v, e = .returned v ∧ OwnT W.heap.size W' v (fields (clB bs)) ∧ Below W.heap.size W W') := fun W h => Tokens_calls bs W (hT.1.below h) (by omega)
  have HK2 : Hid (∀ W, Calls Tryz.prog 10 #[.string ⟨bs.toArray⟩] W fun e W' => ∃ v, e = .returned v ∧ OwnT W.heap.size W' v (fields (clB bs)) ∧ Below W.heap.size W W') := fun W => rTokens_calls bs W (by omega)
  have HK3 : Hid (∀ W, Below w.heap.size w W → Calls Tryz.prog 11 #[.string ⟨bs.toArray⟩] W fun e W' => e = .returned (.tuple #[.int .i64 ((numB (clB bs)).getD 0 : Nat), .bool (numB (clB bs)).isSome]) ∧ Below W.heap.size W W') := fun W h => Number_calls bs W (hT.1.below h) (by omega)
  have HK4 : Hid (∀ W, Calls Tryz.prog 12 #[.string ⟨bs.toArray⟩] W fun e W' => e = .returned (.tuple #[.int .i64 ((numB (clB bs)).getD 0 : Nat), .bool (numB (clB bs)).isSome]) ∧ Below W.heap.size W W') := fun W => rNumber_calls bs W (by omega)
  have HK5 : Hid (∀ W, Below w.heap.size w W → Calls Tryz.prog 8 #[] W fun e W' => e = .returned (.bool true) ∧ Below W.heap.size W W') := fun W h => lives_calls W (hT.1.below h)
  obtain ⟨F, hF⟩ : ∃ F, fields (clB bs) = F := ⟨_, rfl⟩
  have hFl : F.length ≤ 8000000 := by rw [← hF]; omega
  rw [hF] at HK1 HK2
  have HNN : Hid ((numB (clB bs)).isSome = false → ((numB (clB bs)).getD 0) = 0) := fun h => by
    cases e : numB (clB bs) with
    | none => rfl
    | some x => rw [e] at h; cases h
  obtain ⟨n, hn⟩ : ∃ n, (numB (clB bs)).getD 0 = n := ⟨_, rfl⟩
  obtain ⟨ok, hok⟩ : ∃ ok, (numB (clB bs)).isSome = ok := ⟨_, rfl⟩
  rw [hn, hok] at HK3 HK4 HNN
  clear hF hn hok hfc hcl hT hb
  go_enter Tryz.func4, Tryz.ntmps4
  go_wp2_with fail
  (go_at_call 9; refine (HK1.out _ (Below.refl _ _)).mono ?_; rintro e w1 ⟨v1, rfl, hO1, h1⟩)
  have s1 := h1.size
  have HLT : Hid (∀ j, v1.ownBlock = some j → w.heap.size ≤ j ∧ j < w1.heap.size) := fun j hj => World.ownsRow.lt hO1 j hj
  go_wp2_with fail
  (go_at_call 9; refine (HK1.out _ h1).mono ?_; rintro e w2 ⟨v2, rfl, hO2, h2⟩)
  have hB2 := h1.trans (h2.mono s1)
  have hO1 : OwnT w.heap.size w2 v1 F := owns_below hO1 h2
  have s2 := h2.size
  go_wp2_with fail
  (go_at_call 10; refine (HK2.out _).mono ?_; rintro e w3 ⟨v3, rfl, hO3, h3⟩)
  have hB3 := hB2.trans (h3.mono hB2.size)
  have hO1 : OwnT w.heap.size w3 v1 F := owns_below hO1 h3
  have hO2 : OwnT w1.heap.size w3 v2 F := owns_below hO2 h3
  have s3 := h3.size
  go_wp2_with fail
  (go_at_call 11; refine (HK3.out _ hB3).mono ?_; rintro e w4 ⟨rfl, h4⟩)
  have hB4 := hB3.trans (h4.mono hB3.size)
  have hO1 : OwnT w.heap.size w4 v1 F := owns_below hO1 h4
  have hO2 : OwnT w1.heap.size w4 v2 F := owns_below hO2 h4
  have hO3 : OwnT w2.heap.size w4 v3 F := owns_below hO3 h4
  go_wp2_with fail
  (go_at_call 12; refine (HK4.out _).mono ?_; rintro e w5 ⟨rfl, h5⟩)
  have HB5 := hid_of (hB4.trans (h5.mono hB4.size))
  have hO1 : OwnT w.heap.size w5 v1 F := owns_below hO1 h5
  have hO2 : OwnT w1.heap.size w5 v2 F := owns_below hO2 h5
  have hO3 : OwnT w2.heap.size w5 v3 F := owns_below hO3 h5
  have HS1 := hid_of (same_calls F F v1 v3 w5 (by omega) (by omega) (HasT.of hO1) (HasT.of hO3))
  have HO1 := hid_of hO1
  have HO2 := hid_of hO2
  have HO3 := hid_of hO3
  rw [show decide (F = F) = true by simp] at HS1
  have s5 := HB5.out.size
  have s15 : w1.heap.size ≤ w5.heap.size := by have := h4.size; have := h5.size; omega
  obtain ⟨a1, c1, rfl⟩ := owns_slice hO1
  obtain ⟨a2, c2, rfl⟩ := owns_slice hO2
  obtain ⟨a3, c3, rfl⟩ := owns_slice hO3
  clear h1 h2 h3 h4 h5 hB2 hB3 hB4 hO1 hO2 hO3
  cases ok
  case' false =>
    have hn0 := HNN.out rfl
    subst hn0
  all_goals clear HNN HK1 HK2 HK3 HK4
  all_goals go_wp2_with fail
  all_goals (go_at_call 13; refine HS1.out.mono ?_; rintro e w6 ⟨rfl, h6⟩)
  all_goals
    have HB6 := hid_of (HB5.out.trans (h6.mono s5))
    have HO16 : Hid (OwnT w.heap.size w6 (.slice a1 F.length c1) F) := owns_below HO1.out h6
    have HO26 : Hid (OwnT w1.heap.size w6 (.slice a2 F.length c2) F) := owns_below HO2.out h6
    have HO36 : Hid (OwnT w2.heap.size w6 (.slice a3 F.length c3) F) := owns_below HO3.out h6
    have s6 := h6.size
    clear h6 HS1 HO1 HO2 HO3 HB5
    go_wp2_with fail
    go_loopw [10, 45] (fun _ i wr => ∃ (k : Nat) (cs : List Value), k ≤ F.length ∧ i = .int .i64 k ∧ Hid (wr.ownsRow w.heap.size 9 1 (.slice a1 F.length c1) F.length cs) ∧ Hid (KeepP (fun j => (Value.slice a1 F.length c1).ownBlock = some j) w6 wr)) (fun _ i _ => F.length - (intOf i).toNat)
    case atStart => exact ⟨0, svs F, by omega, rfl, HO16, KeepP.refl _ _⟩
    case round =>
      obtain ⟨k, cs, hk, rfl, hO, hKP⟩ := hrel
      by_cases hlt : k < F.length
      · obtain ⟨g, hg⟩ : ∃ g, a1 = some ⟨g, 0, none⟩ := by
          rcases hO.out.2 with ⟨e, e0⟩ | ⟨g, cap, cur, e, _⟩
          · omega
          · simp at e; exact ⟨g, e.1⟩
        subst hg
        have hcl := hO.out.1
        obtain ⟨u, hcell⟩ : ∃ u, wr.cell? ⟨g, k, none⟩ = some u := ⟨cs[k]'(by omega), by rw [World.ownsRow.cellAt hO.out k (by omega), List.getElem?_eq_getElem (by omega)]⟩
        have hfr := World.ownsRow.frozenAt hO.out k
        have HOn := hid_of (World.ownsRow.stored hO.out k (.string ⟨#[63]⟩)).1
        have HKn : Hid (KeepP (fun j => (Value.slice (some ⟨g, 0, none⟩) F.length c1).ownBlock = some j) w6 (wr.setCell ⟨g, k, none⟩ (.string ⟨#[63]⟩))) := hKP.out.setCell g k _ rfl
        have hlt' : decide ((k : Int) < (F.length : Int)) = true := by rw [decide_eq_true_eq]; omega
        have hcap : F.length ≤ c1 := by
          rcases hO.out.2 with ⟨e, e0⟩ | ⟨g, cap, cur, e, _, _, hc, _⟩
          · omega
          · simp at e; omega
        clear hcl hO hKP
        go_wp2
        go_roundw
        case rel => exact ⟨k + 1, _, by omega, by go_num, HOn, HKn⟩
        case measure => simp [intOf]; omega
      · obtain rfl : k = F.length := by omega
        have hBr : Below w6.heap.size w6 w6 := Below.refl _ _
        have HBr : Hid (Below w.heap.size w wr) := HB6.out.trans (hKP.out.below (by omega) (fun j hj e => by have := (HLT.out j e).1; omega))
        have hO2 := hKP.out.owns HO26.out (fun j hj e => by have := (HLT.out j e).2; omega)
        have hO3 := hKP.out.owns HO36.out (fun j hj e => by have := (HLT.out j e).2; omega)
        have HS2 := hid_of (same_calls F F _ _ wr (by omega) (by omega) (HasT.of hO2) (HasT.of hO3))
        rw [show decide (F = F) = true by simp] at HS2
        have hlt' : decide ((F.length : Int) < (F.length : Int)) = false := by rw [decide_eq_false_iff_not]; omega
        clear hO hKP hO2 hO3 hBr
        go_wp2_with fail
        (go_at_call 13; refine HS2.out.mono ?_; rintro e w7 ⟨rfl, h7⟩)
        have HB7 := hid_of (HBr.out.trans (h7.mono HBr.out.size))
        clear h7 HS2
        go_wp2_with fail
        (go_at_call 8; refine (HK5.out _ HB7.out).mono ?_; rintro e w8 ⟨rfl, h8⟩)
        have HB8 := hid_of (HB7.out.trans (h8.mono HB7.out.size))
        clear h8
        go_wp2_with fail
        go_ret
        exact ⟨rfl, HB8.out⟩
theorem walk (w : World) (hT : Vt w) (s : ByteArray) (_hs0 : s.size ≤ 9223372036854775807) (hs : s.size ≤ 1048576) : Calls Tryz.prog 4 #[.string s] w fun e w' => e = .returned (.bool true) ∧ Below w.heap.size w w' := by
  have h := walk_on w hT s.data.toList (by rw [N.size_data]; exact hs)
  rw [Lib.mk_data] at h
  exact h

set_option maxRecDepth 100000 in
theorem contract (H : Type) (enc : TypeId × Value → H) (W : World) (base : Nat) (args : Array Value) (ds gs : List (DataW H)) (before : List MemPlace)
    (hval : ∀ (j : Nat) t v, Tryz.f4.params[j]? = some t → args[j]? = some v → Value.okWide Tryz.prog W .any base t v)
    (hW : DataW.Whole enc Tryz.prog Tryz.f4.params.toList Rows.valueWordsSpec.vars false W args.toList ds gs before) (hL : laidMetH Tryz.prog Rows.valueWordsUptoRow.laid W) (hk : Rows.uptoSmall H (ds ++ gs) = true) :
    Calls Tryz.prog 4 args W fun e W' => ∃ v, e = .returned v ∧ Rows.valueWordsSpec.post enc Tryz.prog Tryz.f4 false true false false W args v W' := by
  have hW' := hW
  have hlt := hW.lt
  obtain ⟨p, q, hA0, hV, rfl, hfz, hnd⟩ := hW
  have hA : DataW.TrodAll enc Tryz.prog W 0 (fun _ => true) true Tryz.f4.params.toList args.toList ds p := hA0
  rw [Tryz.params4] at hA hval
  obtain ⟨v0, vs0, d0, ds0, p0, q0, hargs, rfl, rfl, h0, r0⟩ := trodAll_cons hA
  obtain ⟨rfl, rfl, rfl⟩ := trodAll_nil r0
  obtain rfl : args = #[v0] := by cases args; simp_all
  obtain ⟨rfl, rfl⟩ := trodVars_none hV
  clear hA0
  simp only [List.append_nil] at hW' hlt hk
  have hbulk := of_decide_eq_true hk
  simp only [Rows.uptoBulkAll] at hbulk
  have h0' := h0
  obtain ⟨s0, rfl, rfl, e0, ws0⟩ := Go.ChangeMaps.open_string Tryz.underlying9 (hval 0 9 v0 rfl rfl) h0
  refine (walk W (tabsV_of_laid hL) s0 ws0 (by simp only [V.bulk_str, N.size_data] at hbulk; omega)).mono fun e W' ⟨he, hb⟩ => ?_
  subst he
  exact ⟨_, rfl, post_below hW' (fun _ _ _ => trodAll_cons_mk (shut_bool Tryz.underlying4 _) trodAll_mk0) (trodAll_cons_mk (stays (by kernel_rfl) (of_decide_eq_true (by kernel_rfl)) h0' hb (fun x hx => hlt x (by simp [hx]))) trodAll_mk0) rfl hb⟩

set_option maxRecDepth 100000 in
theorem laid_met (os : Os) : laidMet Tryz.prog Rows.valueWordsUptoRow.laid ((withTabsV (World.holding Tryz.prog os ⟨#[], #[], []⟩)).forCall (fun _ _ => 0) ⟨#[], #[Value.string ⟨#[]⟩], []⟩).memory :=
  laidMet_of_run' 8 (by kernel_rfl) (by kernel_rfl)
set_option maxRecDepth 100000 in
theorem reads (os : Os) {H : Type} (enc : TypeId × Value → H) : ∃ places, DataW.whole enc Tryz.prog ((withTabsV (World.holding Tryz.prog os ⟨#[], #[], []⟩)).forCall (fun _ _ => 0) ⟨#[], #[Value.string ⟨#[]⟩], []⟩).memory Tryz.f4.params.toList Rows.valueWordsSpec.vars false #[Value.string ⟨#[]⟩].toList 8 = some ([.lit (.string [])], [], places) :=
  ⟨[], by kernel_rfl⟩

set_option maxRecDepth 100000 in
theorem lifted (os : Os) (started : os.Started) (H : Type) (enc : TypeId × Value → H) (F : Stop.Interp) :
    ReturnsInHanded {} Tryz.checked os 4 .any ((Rows.OpenSpec.upto Rows.valueWordsSpec).preRow enc Tryz.prog Tryz.f4 Rows.valueWordsUptoRow.domain false Rows.valueWordsUptoRow.laid) (((Rows.OpenSpec.upto Rows.valueWordsSpec).at F).post enc Tryz.prog Tryz.f4 false true false false) := by
  obtain ⟨places, hx⟩ := reads os enc
  refine returnsInHanded_of_row (C := Tryz.checked) (s := Rows.OpenSpec.upto Rows.valueWordsSpec) own started (by kernel_rfl) Tryz.func4
    (witness_row_at (enc := enc) (C := Tryz.checked) false (withTabsV (World.holding Tryz.prog os ⟨#[], #[], []⟩)) #[Value.string ⟨#[]⟩] rfl (by kernel_rfl) (by kernel_rfl) (by kernel_rfl)
      (OpenSpec.preRow_of_cond 8 hx (by kernel_rfl) (fun k hk => by cases hk; kernel_rfl) (by kernel_rfl) (laid_met os))) ?_
  intro W base args ds gs before hval hW _ hcond _ hL _ _
  exact contract H enc W base args ds gs before hval hW hL (hcond _ rfl)

set_option maxRecDepth 100000 in
theorem said : Rows.ValueWordsUptoSaid :=
  OpenClaim.holds_of_cond 4 Tryz.f4 rfl rfl rfl rfl rfl rfl rfl ⟨rfl, rfl, rfl, rfl, rfl⟩ rfl rfl rfl rfl rfl (by kernel_rfl) Tryz.func4 (by kernel_rfl)
    (of_decide_eq_true (by kernel_rfl)) (by unfold Func.isWrapper; first | (rw [if_pos (by decide +kernel)]; kernel_rfl) | (rw [if_neg (by decide +kernel)]; exact ⟨rfl, rfl⟩))
    (fun os started H enc _ F => by rw [OpenClaim.pre_eq_preRow]; exact lifted os started H enc F)

theorem plain (f : FuncId) (fn : Func) (hf : Tryz.pinned.checked.prog.funcNamed "sieve/sievelaw13.ValueWords" = some f) (hfn : Tryz.pinned.checked.prog.funcs[f]? = some fn) :
    false = Tryz.pinned.checked.prog.looks [] ∧ ∀ (j : Nat) t, fn.params[j]? = some t → Tryz.pinned.checked.prog.wantsStandIn t = false := by
  obtain rfl : f = 4 := Option.some.inj ((show Tryz.prog.funcNamed "sieve/sievelaw13.ValueWords" = some 4 by kernel_rfl).symm.trans hf) |>.symm
  obtain rfl : fn = Tryz.f4 := (Option.some.inj (Tryz.func4.symm.trans hfn)).symm
  refine ⟨by kernel_rfl, fun j t ht => ?_⟩
  rw [Tryz.params4] at ht
  have hm := Array.mem_of_getElem? ht
  simp only [List.mem_toArray, List.mem_cons, List.not_mem_nil, or_false] at hm
  subst hm
  · exact (show Tryz.prog.wantsStandIn 9 = false by kernel_rfl)

theorem card : Rows.ValueWordsUptoCardSaid :=
  Claim7.holds_tied_plain_at .later [] _ _ _ _ said (fun _ h => by cases h) (by kernel_rfl) (fun _ h => by cases h) valueWordsUpto_row_tie rfl ⟨rfl, rfl⟩ (by kernel_rfl) rfl plain (by kernel_rfl)

end Go.Proofs.YtfbfigjjnpamiaaGreatDoor.VWordsL
