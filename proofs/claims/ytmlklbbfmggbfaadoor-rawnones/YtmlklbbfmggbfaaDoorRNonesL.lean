/- What is proved here: the statement RawNones (scanners that no call made: Put and End say ErrMade, Take, Held, Ended and Rune tell nothing) holds for any rune, with no condition but what the card says of the listed tables. -/
import Derived.Test.YtmlklbbfmggbfaaDoorCards
import Derived.Test.YtmlklbbfmggbfaaDoorTie
import Derived.Test.YtmlklbbfmggbfaaDoorOpen
import Derived.Test.YtmlklbbfmggbfaaDoorRAwake
import Derived.ProofKit
import Derived.OpenShut
namespace Go.Proofs.YtmlklbbfmggbfaaDoor.RNonesL
open Go.ChangeShapes Go.WideShapes Go.ChangeAt Go.RowKit U N R

/-- A scanner that no call made. -/
abbrev zcells : Array Value := #[.int .i64 0, .int .i64 0, .slice none 0 0, .int .i64 0, .slice none 0 0, .slice none 0 0, .int .i32 0]
/-- What is there: nothing, or such a scanner at b. -/
def NoneAt (W : World) (b : Nat) (p : Option Addr) : Prop := W.heap[b]? = some (.cells zcells 54 (0, 0)) ∧ (p = none ∨ p = some ⟨b, 0, none⟩)
theorem none_ready {W : World} {b : Nat} {p : Option Addr} (h : NoneAt W b p) : Calls Tryd.prog 37 #[.pointer p] W fun e W' => e = .returned (.int .i64 2) ∧ W' = W := by
  obtain ⟨h1, rfl | rfl⟩ := h
  · exact ready_nil W
  · exact ready_zero b W (by rw [cell_blk h1]; rfl)
set_option maxRecDepth 100000 in
set_option maxHeartbeats 1000000 in
theorem none_held {W : World} {b : Nat} {p : Option Addr} (h : NoneAt W b p) : Calls Tryd.prog 22 #[.pointer p] W fun e W' => e = .returned (.int .i64 0) ∧ W' = W := by
  obtain ⟨h1, rfl | rfl⟩ := h
  · clear h1
    go_enter Tryd.func22, Tryd.ntmps22
    go_wp2
    go_ret
    exact ⟨rfl, rfl⟩
  · have c5 : W.cell? ⟨b, 5, none⟩ = some (.slice none 0 0) := by rw [cell_blk h1]; rfl
    clear h1
    go_enter Tryd.func22, Tryd.ntmps22
    go_wp2
    go_ret
    exact ⟨rfl, rfl⟩
set_option maxRecDepth 100000 in
set_option maxHeartbeats 1000000 in
theorem none_ended {W : World} {b : Nat} {p : Option Addr} (h : NoneAt W b p) : Calls Tryd.prog 23 #[.pointer p] W fun e W' => e = .returned (.bool false) ∧ W' = W := by
  obtain ⟨h1, rfl | rfl⟩ := h
  · clear h1
    go_enter Tryd.func23, Tryd.ntmps23
    go_wp2
    go_ret
    exact ⟨rfl, rfl⟩
  · have c0 : W.cell? ⟨b, 0, none⟩ = some (.int .i64 0) := by rw [cell_blk h1]; rfl
    clear h1
    go_enter Tryd.func23, Tryd.ntmps23
    go_wp2
    go_ret
    exact ⟨rfl, rfl⟩
set_option maxRecDepth 100000 in
set_option maxHeartbeats 1000000 in
theorem none_rune {W : World} {b : Nat} {p : Option Addr} (h : NoneAt W b p) : Calls Tryd.prog 24 #[.pointer p] W fun e W' => e = .returned (.int .i32 0) ∧ W' = W := by
  obtain ⟨h1, rfl | rfl⟩ := h
  · clear h1
    go_enter Tryd.func24, Tryd.ntmps24
    go_wp2
    go_ret
    exact ⟨rfl, rfl⟩
  · have c6 : W.cell? ⟨b, 6, none⟩ = some (.int .i32 0) := by rw [cell_blk h1]; rfl
    clear h1
    go_enter Tryd.func24, Tryd.ntmps24
    go_wp2
    go_ret
    exact ⟨rfl, rfl⟩
set_option maxRecDepth 100000 in
set_option maxHeartbeats 1000000 in
theorem none_take {W : World} {b : Nat} {p : Option Addr} (h : NoneAt W b p) : Calls Tryd.prog 25 #[.pointer p] W fun e W' => e = .returned (.string ⟨#[]⟩) ∧ NoneAt W' b p ∧ Below b W W' ∧ W'.heap.size = W.heap.size ∧ ∀ j, j ≠ b → W'.heap[j]? = W.heap[j]? := by
  obtain ⟨h1, rfl | rfl⟩ := h
  · have H1 := hid_of h1
    clear h1
    go_enter Tryd.func25, Tryd.ntmps25
    go_wp2
    go_ret
    exact ⟨rfl, ⟨H1.out, .inl rfl⟩, Below.refl _ _, rfl, fun _ _ => rfl⟩
  · have H1 := hid_of h1
    have c4 : W.cell? ⟨b, 4, none⟩ = some (.slice none 0 0) := by rw [cell_blk h1]; rfl
    have f4 : W.frozen? ⟨b, 4, none⟩ = false := frozen_blk h1 4
    clear h1
    have hcv : (convert 34 9 (.slice none 0 0)).run Tryd.prog W = .ok (.string ⟨#[]⟩) W := conv_bytes (n₀ := W.heap.size) (bs := []) (.inl ⟨rfl, none, 0, rfl⟩)
    go_enter Tryd.func25, Tryd.ntmps25
    go_wp2
    go_ret
    exact ⟨rfl, ⟨by rw [set_blk H1.out]; rfl, .inr rfl⟩, (Below.refl b W).setCell (p := ⟨b, 4, none⟩) (Nat.le_refl _) _, by simp [World.setCell], fun j hj => Below.heap_setCell _ _ _ j (fun e => hj e)⟩
set_option maxRecDepth 100000 in
set_option maxHeartbeats 4000000 in
theorem walk (w : World) (hT : Tb w) (hm : MaxOk w) (r : Int) (_hr : (Lit.int .i32 r).wf = true) :
    Calls Tryd.prog 6 #[.int .i32 r] w fun e w' => e = .returned (.bool true) ∧ Below w.heap.size w w' := by
  have HL : Hid (∀ W, Below w.heap.size w W → Calls Tryd.prog 10 #[] W fun e w' => e = .returned (.bool true) ∧ Below W.heap.size W w') := fun W hb => awake_calls W (tabs_below hT hb) (max_below hm hb)
  clear hT hm
  have hn0 := World.alloc_heap_new w (.cells zcells 54)
  have hb0 : Below w.heap.size w (w.alloc (.cells zcells 54)) := (Below.refl _ w).alloc (Nat.le_refl _) _
  obtain ⟨X, hX⟩ : ∃ X, w.alloc (.cells zcells 54) = X := ⟨_, rfl⟩
  have hwz : X.heap.size = w.heap.size + 1 := by rw [← hX]; simp
  rw [hX] at hn0 hb0
  have HN0 := hid_of hn0
  have HX := hid_of hX
  have HB0 := hid_of hb0
  clear hn0 hX hb0
  go_enter Tryd.func6, Tryd.ntmps6
  go_wp2_with fail
  rw [HX.out]
  go_loopw [11] (fun i wr => ∃ k : Nat, k ≤ 2 ∧ i = .int .i64 k ∧ Hid (wr.heap[w.heap.size]? = some (.cells zcells 54 (0, 0)) ∧ wr.heap[w.heap.size + 1]? = some (.cells #[.pointer none, .pointer (some ⟨w.heap.size, 0, none⟩)] 39 (0, 0))) ∧ Below w.heap.size w wr) (fun i _ => 2 - (intOf i).toNat)
  case atStart => exact ⟨0, by omega, rfl, ⟨by rw [Lib.alloc_old X _ _ (by omega)]; exact HN0.out, by have := World.alloc_heap_new X (.cells #[.pointer none, .pointer (some ⟨w.heap.size, 0, none⟩)] 39); rw [hwz] at this; exact this⟩, HB0.out.alloc (by omega) _⟩
  case round =>
    obtain ⟨k, hk, rfl, hH, hB⟩ := hrel
    by_cases hlt : k < 2
    · obtain ⟨p, hp⟩ : ∃ p : Option Addr, (p = none ∨ p = some ⟨w.heap.size, 0, none⟩) ∧ wr.cell? ⟨w.heap.size + 1, k, none⟩ = some (.pointer p) := by
        have hc := cell_blk hH.out.2 k
        have : k = 0 ∨ k = 1 := by omega
        rcases this with rfl | rfl
        · exact ⟨none, .inl rfl, hc⟩
        · exact ⟨some ⟨w.heap.size, 0, none⟩, .inr rfl, hc⟩
      have cp := hp.2
      have hN : NoneAt wr w.heap.size p := ⟨hH.out.1, hp.1⟩
      have HN := hid_of hN
      have H2 := hid_of hH.out.2
      have HS := hid_of hB.size
      have hsz2 := lt_of_blk hH.out.2
      clear hp hN hH
      have hklt : decide ((k : Int) < 2) = true := by simp; omega
      go_wp2_with fail
      (go_at_call 20; refine (put_refused _ 2 r _ (by decide) (none_ready HN.out)).mono ?_; rintro e w1 ⟨rfl, h1⟩; obtain rfl : wr = w1 := h1.symm)
      go_wp2_with fail
      (go_at_call 9; refine (num_calls 2 _ (by decide) (by decide)).mono ?_; rintro e w1 ⟨rfl, h1⟩; obtain rfl : wr = w1 := h1.symm)
      go_wp2_with fail
      (go_at_call 25; refine (none_take HN.out).mono ?_; rintro e w2 ⟨rfl, hN2, hb2, hs2, hj2⟩)
      have HN2 := hid_of hN2
      clear hN2
      go_wp2_with fail
      (go_at_call 22; refine (none_held HN2.out).mono ?_; rintro e w1 ⟨rfl, h1⟩; obtain rfl : w2 = w1 := h1.symm)
      go_wp2_with fail
      (go_at_call 23; refine (none_ended HN2.out).mono ?_; rintro e w1 ⟨rfl, h1⟩; obtain rfl : w2 = w1 := h1.symm)
      go_wp2_with fail
      (go_at_call 24; refine (none_rune HN2.out).mono ?_; rintro e w1 ⟨rfl, h1⟩; obtain rfl : w2 = w1 := h1.symm)
      go_wp2_with fail
      (go_at_call 26; refine (end_refused _ 2 _ (by decide) (none_ready HN2.out)).mono ?_; rintro e w1 ⟨rfl, h1⟩; obtain rfl : w2 = w1 := h1.symm)
      go_wp2_with fail
      (go_at_call 9; refine (num_calls 2 _ (by decide) (by decide)).mono ?_; rintro e w1 ⟨rfl, h1⟩; obtain rfl : w2 = w1 := h1.symm)
      go_wp2_with fail
      go_roundw
      case rel => exact ⟨k + 1, by omega, by go_num, ⟨HN2.out.1, by rw [hj2 _ (by omega)]; exact H2.out⟩, hB.trans hb2⟩
      case measure => simp [intOf]; omega
    · obtain rfl : k = 2 := by omega
      go_wp2_with fail
      (go_at_call 10; refine (HL.out _ hB).mono ?_; rintro e w9 ⟨rfl, hb9⟩)
      go_wp2_with fail
      go_ret
      exact ⟨rfl, hB.trans (hb9.mono hB.size)⟩

set_option maxRecDepth 100000 in
theorem contract (H : Type) (enc : TypeId × Value → H) (W : World) (base : Nat) (args : Array Value) (ds gs : List (DataW H)) (before : List MemPlace)
    (hval : ∀ (j : Nat) t v, Tryd.f6.params[j]? = some t → args[j]? = some v → Value.okWide Tryd.prog W .any base t v)
    (hW : DataW.Whole enc Tryd.prog Tryd.f6.params.toList Rows.rawNonesSpec.vars false W args.toList ds gs before) (hL : laidMetH Tryd.prog Rows.rawNonesRow.laid W)(hsh : W.ShapedOpen Tryd.prog) :
    Calls Tryd.prog 6 args W fun e W' => ∃ v, e = .returned v ∧ Rows.rawNonesSpec.post enc Tryd.prog Tryd.f6 false true false false W args v W' := by
  have hW' := hW
  have hlt := hW.lt
  obtain ⟨p, q, hA0, hV, rfl, hfz, hnd⟩ := hW
  have hA : DataW.TrodAll enc Tryd.prog W 0 (fun _ => true) true Tryd.f6.params.toList args.toList ds p := hA0
  rw [Tryd.params6] at hA hval
  obtain ⟨v0, vs0, d0, ds0, p0, q0, hargs, rfl, rfl, h0, r0⟩ := trodAll_cons hA
  obtain ⟨rfl, rfl, rfl⟩ := trodAll_nil r0
  obtain rfl : args = #[v0] := by cases args; simp_all
  obtain ⟨rfl, rfl⟩ := trodVars_none hV
  clear hA0
  simp only [List.append_nil] at hW' hlt
  have h0' := h0
  obtain ⟨x0, rfl, e0, -, w0⟩ := open_int Tryd.underlying21 (hval 0 21 v0 rfl rfl) h0
  refine (walk W (tabs_of_laid hL) (Tryd.laysM144.s1_3 W hsh) x0 w0).mono fun e W' ⟨he, hb⟩ => ?_
  subst he
  exact ⟨_, rfl, post_below hW' (fun _ _ _ => trodAll_cons_mk (shut_bool Tryd.underlying4 _) trodAll_mk0) (trodAll_cons_mk (stays (by kernel_rfl) (of_decide_eq_true (by kernel_rfl)) h0' hb (fun x hx => hlt x (by simp [hx]))) trodAll_mk0) rfl hb⟩

set_option maxRecDepth 100000 in
theorem laid_met (os : Os) : laidMet Tryd.prog Rows.rawNonesRow.laid ((withTabs (World.holding Tryd.prog os ⟨#[], #[], []⟩)).forCall (fun _ _ => 0) ⟨#[], #[Value.int .i32 0], []⟩).memory :=
  laidMet_of_run' 8 (by kernel_rfl) (by kernel_rfl)
set_option maxRecDepth 100000 in
theorem reads (os : Os) {H : Type} (enc : TypeId × Value → H) : ∃ places, DataW.whole enc Tryd.prog ((withTabs (World.holding Tryd.prog os ⟨#[], #[], []⟩)).forCall (fun _ _ => 0) ⟨#[], #[Value.int .i32 0], []⟩).memory Tryd.f6.params.toList Rows.rawNonesSpec.vars false #[Value.int .i32 0].toList 8 = some ([.lit (.int .i32 0)], [], places) :=
  ⟨[], by kernel_rfl⟩

set_option maxRecDepth 100000 in
theorem lifted (os : Os) (started : os.Started) (H : Type) (enc : TypeId × Value → H) (F : Stop.Interp) :
    ReturnsInHanded {} Tryd.checked os 6 .any ((OpenSpec.ofChange Rows.rawNonesSpec).preRow enc Tryd.prog Tryd.f6 Rows.rawNonesRow.domain false Rows.rawNonesRow.laid) (((OpenSpec.ofChange Rows.rawNonesSpec).at F).post enc Tryd.prog Tryd.f6 false true false false) := by
  obtain ⟨places, hx⟩ := reads os enc
  refine returnsInHanded_of_row (C := Tryd.checked) (s := OpenSpec.ofChange Rows.rawNonesSpec) own started (by kernel_rfl) Tryd.func6
    (witness_row_at (enc := enc) (C := Tryd.checked) false (withTabs (World.holding Tryd.prog os ⟨#[], #[], []⟩)) #[Value.int .i32 0] rfl (by kernel_rfl) (by kernel_rfl) (by kernel_rfl)
      (OpenSpec.preRow_of_cond 8 hx (by kernel_rfl) (fun k hk => by cases hk) (by kernel_rfl) (laid_met os))) ?_
  intro W base args ds gs before hval hW _ _ _ hL hsh _
  exact contract H enc W base args ds gs before hval hW hL hsh

set_option maxRecDepth 100000 in
theorem said : Rows.RawNonesSaid :=
  OpenClaim.holds_of_cond 6 Tryd.f6 rfl rfl rfl rfl rfl rfl rfl ⟨rfl, rfl, rfl, rfl, rfl⟩ rfl rfl rfl rfl rfl (by kernel_rfl) Tryd.func6 (by kernel_rfl)
    (of_decide_eq_true (by kernel_rfl)) (by unfold Func.isWrapper; first | (rw [if_pos (by decide +kernel)]; kernel_rfl) | (rw [if_neg (by decide +kernel)]; exact ⟨rfl, rfl⟩))
    (fun os started H enc _ F => by rw [OpenClaim.pre_eq_preRow]; exact lifted os started H enc F)

theorem plain (f : FuncId) (fn : Func) (hf : Tryd.pinned.checked.prog.funcNamed "sieve/sievelaw10.RawNones" = some f) (hfn : Tryd.pinned.checked.prog.funcs[f]? = some fn) :
    false = Tryd.pinned.checked.prog.looks [] ∧ ∀ (j : Nat) t, fn.params[j]? = some t → Tryd.pinned.checked.prog.wantsStandIn t = false := by
  obtain rfl : f = 6 := Option.some.inj ((show Tryd.prog.funcNamed "sieve/sievelaw10.RawNones" = some 6 by kernel_rfl).symm.trans hf) |>.symm
  obtain rfl : fn = Tryd.f6 := (Option.some.inj (Tryd.func6.symm.trans hfn)).symm
  refine ⟨by kernel_rfl, fun j t ht => ?_⟩
  rw [Tryd.params6] at ht
  have hm := Array.mem_of_getElem? ht
  simp only [List.mem_toArray, List.mem_cons, List.not_mem_nil, or_false] at hm
  subst hm
  · exact (show Tryd.prog.wantsStandIn 21 = false by kernel_rfl)

theorem card : Rows.RawNonesCardSaid :=
  Claim7.holds_tied_plain_at .later [] _ _ _ _ said (fun _ h => by cases h) (by kernel_rfl) (fun _ h => by cases h) rawNones_row_tie rfl ⟨rfl, rfl⟩ (by kernel_rfl) rfl plain (by kernel_rfl)

end Go.Proofs.YtmlklbbfmggbfaaDoor.RNonesL
