/- What is proved here: the statement NestEnds (the end of the top closes one, that of what is not open closes nothing) holds for stacks and names up to the size that the statement's narrower form names, with no other condition. -/
import Derived.Test.YtgiefjkdekckaabNeRead
import Derived.Test.YtgiefjkdekckaabNeEnd
import Derived.Test.YtgiefjkdekckaabNeFacts
namespace Go.Proofs.Ytgiefjkdekckaab.NeEnds
open Go.ChangeShapes Go.WideShapes Go.ChangeAt Go.RowKit Go.Shelf N C E

/-- Is the name a heading's, or among the first k? -/
def thereK (S : List Txt) (x : Txt) : Nat → Bool
  | 0 => headB x
  | k + 1 => thereK S x k || (S.getD k [] == x)
theorem there_not (S : List Txt) (x : Txt) : ∀ k, thereK S x k = false → headB x = false ∧ ∀ j, j < k → S.getD j [] ≠ x
  | 0, h => ⟨h, fun j hj => by omega⟩
  | k + 1, h => by
    unfold thereK at h
    rw [Bool.or_eq_false_iff, beq_eq_false_iff_ne] at h
    obtain ⟨h1, h2⟩ := there_not S x k h.1
    refine ⟨h1, fun j hj => ?_⟩
    by_cases e : j = k
    · subst e; exact h.2
    · exact h2 j (by omega)
theorem end_not (S : List Txt) (x : Txt) (h : thereK S x S.length = false) : endN S x = 0 := by
  obtain ⟨h1, h2⟩ := there_not S x _ h
  unfold endN
  split
  · rw [ended_none S x h1 (fun hm => by
      obtain ⟨j, hj, e⟩ := List.mem_iff_getElem.1 hm
      apply h2 j hj
      rw [List.getD_eq_getElem?_getD, List.getElem?_eq_getElem hj]
      exact e)]
    rfl
  · rfl
theorem end_top (S : List Txt) (j : Nat) (hj : S.length = j + 1) (hr : rightK S S.length = true) : endN S (S.getD j []) = 1 := by
  unfold endN
  rw [if_pos hr, hj, ended_top, if_neg (by omega)]
  simp only [Int.natCast_add, Int.cast_ofNat_Int]
  omega
set_option maxRecDepth 100000 in
set_option maxHeartbeats 8000000 in
theorem walk (w : World) (hm : MaxOk w) (a : Option Addr) (c : Nat) (S : List Txt) (hc : S.length ≤ c) (hT : TextsAt w a S) (hl : S.length ≤ 1048576) (hx : ∀ x ∈ S, x.length ≤ 1048576) (s : ByteArray) (_hs0 : s.size ≤ 9223372036854775807) (hs : s.size ≤ 1048576) :
    Calls Try.prog 5 #[.slice a S.length c, .string s] w fun e w' => e = .returned (.bool true) ∧ Below w.heap.size w w' := by
  obtain ⟨x, hsx⟩ : ∃ x : Txt, s = ⟨x.toArray⟩ := ⟨s.data.toList, by cases s; simp⟩
  subst hsx
  have hxl : x.length ≤ 1048576 := by simpa [ByteArray.size] using hs
  clear hs _hs0
  have HAW : Hid (∀ W, Below w.heap.size w W → Calls Try.prog 7 #[] W fun e w' => e = .returned (.bool true) ∧ Below W.heap.size W w') := fun W hW => awake_calls W (hm.below hW)
  have HM := hid_of hm
  have HLG : Hid (∀ W, Calls Try.prog 6 #[.slice a S.length c] W fun e w' => e = .returned (.bool (decide (600 < S.length))) ∧ w' = W) := fun W => long_calls a S.length c (by omega) W
  by_cases hlong : 600 < S.length
  · rw [decide_eq_true hlong] at HLG
    clear hm hT hx hlong
    go_enter Try.func5, Try.ntmps5
    go_wp2_with (first
      | (go_at_call 6; refine (HLG.out _).mono ?_; rintro e w' ⟨rfl, rfl⟩)
      | (go_at_call 7; refine (HAW.out _ (Below.refl _ _)).mono ?_; rintro e w2 ⟨rfl, hb2⟩))
    go_ret
    exact ⟨rfl, hb2⟩
  · rw [decide_eq_false hlong] at HLG
    have hst := stack_of hc hT (by omega) hx
    have HST := hid_of hst
    have HR := hid_of (Right_calls w hm a S c hst)
    have HEX : Hid (∀ W, Below w.heap.size w W → ∀ y : Txt, y.length ≤ 10000000000 → Calls Try.prog 15 #[.slice a S.length c, .string ⟨y.toArray⟩] W fun e w' => e = .returned (.tuple #[.int .i64 (endN S y), .int .i64 (endCode S)]) ∧ Below W.heap.size W w') := fun W hW y hy => End_calls W (hm.below hW) a S c (hst.below hW) y hy
    have HIN : Hid (∀ W, MaxOk W → Calls Try.prog 11 #[.string ⟨x.toArray⟩, .int .i64 5] W fun e w' => e = .returned (.bool (headB x)) ∧ w' = W) := fun W hm => by
      have := in_calls ⟨x.toArray⟩ 5 W (by show x.toArray.size ≤ _; simp; omega) hm
      rwa [show (⟨x.toArray⟩ : ByteArray).data.toList = x from rfl] at this
    have hfew := hst.few.each
    clear hm hT hx hlong hst
    cases hr : rightK S S.length
    · rw [hr] at HR
      clear hr
      go_enter Try.func5, Try.ntmps5
      go_wp2_with (first
        | (go_at_call 6; refine (HLG.out _).mono ?_; rintro e w' ⟨rfl, rfl⟩)
        | (go_at_call 13; refine HR.out.mono ?_; rintro e w1 ⟨rfl, hb1⟩)
        | (go_at_call 7; refine (HAW.out _ hb1).mono ?_; rintro e w2 ⟨rfl, hb2⟩))
      go_ret
      exact ⟨rfl, hb1.trans (hb2.mono hb1.size)⟩
    · rw [hr] at HR
      have HEC : Hid (endCode S = 0) := by show _ = _; unfold endCode; rw [hr]; rfl
      have HET : Hid (∀ j, S.length = j + 1 → endN S (S.getD j []) = 1) := fun j hj => end_top S j hj hr
      have HEN : Hid (thereK S x S.length = false → endN S x = 0) := end_not S x
      have HE0 : Hid (S.length = 0 → endN S x = 0) := fun h0 => by
        show endN S x = 0
        unfold endN
        rw [h0]
        split
        · have : endedK S 0 x = -1 := by unfold endedK; split; rfl; split; rfl; split <;> rfl
          rw [this]; rfl
        · rfl
      clear hr
      go_enter Try.func5, Try.ntmps5
      go_wp2_with fail
      (go_at_call 6; refine (HLG.out _).mono ?_; rintro e w' ⟨rfl, hw'⟩; have hx' := hw'.symm; subst hx')
      go_wp2_with fail
      (go_at_call 13; refine HR.out.mono ?_; rintro e w1 ⟨rfl, hb1⟩)
      have HB1 := hid_of hb1
      have HM1 := hid_of (HM.out.below hb1)
      have H1 := hid_of (HEX.out w1 hb1 x (by omega))
      rw [HEC.out] at H1
      clear hb1 HM
      go_wp2_with fail
      (go_at_call 15; refine H1.out.mono ?_; rintro e w2 ⟨rfl, hb2⟩)
      have HB2 := hid_of (HB1.out.trans (hb2.mono HB1.out.size))
      have HM2 := hid_of (HM1.out.below hb2)
      clear hb2 H1 HB1 HM1
      go_wp2_with (first
        | (go_at_call 9; refine (num_calls _ _).mono ?_; rintro e w' ⟨rfl, hw'⟩; have hx' := hw'.symm; subst hx')
        | (go_at_call 11; refine (HIN.out _ HM2.out).mono ?_; rintro e w' ⟨rfl, hw'⟩; have hx' := hw'.symm; subst hx'))
      go_loopw [7, 33] (fun t i wr => wr = w2 ∧ ∃ k : Nat, k ≤ S.length ∧ i = .int .i64 k ∧ t = .bool (thereK S x k)) (fun _ i _ => S.length - (intOf i).toNat)
      case atStart => exact ⟨rfl, 0, by omega, rfl, rfl⟩
      case round =>
        obtain ⟨rfl, k, hk, rfl, rfl⟩ := hrel
        by_cases hlt : k < S.length
        · obtain ⟨b, off, rfl, hcx⟩ := (HST.out.below HB2.out).txt k hlt
          have HTK : Hid (thereK S x (k + 1) = (thereK S x k || (S.getD k [] == x))) := rfl
          obtain ⟨y, hy⟩ : ∃ y, S.getD k [] = y := ⟨_, rfl⟩
          rw [hy] at hcx HTK
          clear hy
          generalize thereK S x k = tk at *
          cases tk
          · go_wp2
            exact ⟨⟨trivial, k + 1, by omega, by go_num, by rw [HTK.out]; rfl⟩, by simp [intOf]; omega⟩
          · go_wp2
            exact ⟨⟨trivial, k + 1, by omega, by go_num, by rw [HTK.out]; rfl⟩, by simp [intOf]; omega⟩
        · obtain rfl : k = S.length := by omega
          by_cases h0 : S.length = 0
          · have he0 := HE0.out h0
            have hl0 : (S.length : Int) = 0 := by omega
            generalize thereK S x S.length = tk at *
            cases tk
            · go_wp2_with (go_at_call 7; refine (HAW.out _ HB2.out).mono ?_; rintro e w3 ⟨rfl, hb3⟩)
              go_ret
              exact ⟨rfl, HB2.out.trans (hb3.mono HB2.out.size)⟩
            · go_wp2_with (go_at_call 7; refine (HAW.out _ HB2.out).mono ?_; rintro e w3 ⟨rfl, hb3⟩)
              go_ret
              exact ⟨rfl, HB2.out.trans (hb3.mono HB2.out.size)⟩
          · obtain ⟨j, hj⟩ : ∃ j, S.length = j + 1 := ⟨S.length - 1, by omega⟩
            have HJ := hid_of hj
            have H2 := hid_of (HEX.out wr HB2.out (S.getD j []) (hfew j))
            rw [HEC.out, HET.out j hj] at H2
            obtain ⟨b, off, rfl, hcx⟩ := (HST.out.below HB2.out).txt j (by omega)
            obtain ⟨y, hy⟩ : ∃ y, S.getD j [] = y := ⟨_, rfl⟩
            rw [hy] at hcx H2
            have hex : thereK S x S.length = false → endN S x = 0 := HEN.out
            generalize thereK S x S.length = tk at *
            have hw1 : IntKind.i64.wrap ((S.length : Int) - 1) = (j : Int) := by rw [IntKind.wrap_i64]; omega
            have hl1 : ((S.length : Int) == 0) = false := by rw [beq_eq_false_iff_ne]; omega
            have hj1 : (j : Int) < (S.length : Int) := by omega
            have hj2 : j < S.length := by omega
            have hj0 : (0 : Int) ≤ (j : Int) := by omega
            clear hj h0 hy
            cases tk
            · have he0 := hex rfl
              go_wp2_with fail
              (go_at_call 15; refine H2.out.mono ?_; rintro e w3 ⟨rfl, hb3⟩)
              have HB3 := hid_of (HB2.out.trans (hb3.mono HB2.out.size))
              clear hb3
              go_wp2_with (first
                | (go_at_call 9; refine (num_calls _ _).mono ?_; rintro e w' ⟨rfl, hw'⟩; have hx' := hw'.symm; subst hx')
                | (go_at_call 7; refine (HAW.out _ HB3.out).mono ?_; rintro e w4 ⟨rfl, hb4⟩))
              go_ret
              exact ⟨rfl, HB3.out.trans (hb4.mono HB3.out.size)⟩
            · go_wp2_with fail
              (go_at_call 15; refine H2.out.mono ?_; rintro e w3 ⟨rfl, hb3⟩)
              have HB3 := hid_of (HB2.out.trans (hb3.mono HB2.out.size))
              clear hb3
              go_wp2_with (first
                | (go_at_call 9; refine (num_calls _ _).mono ?_; rintro e w' ⟨rfl, hw'⟩; have hx' := hw'.symm; subst hx')
                | (go_at_call 7; refine (HAW.out _ HB3.out).mono ?_; rintro e w4 ⟨rfl, hb4⟩))
              go_ret
              exact ⟨rfl, HB3.out.trans (hb4.mono HB3.out.size)⟩
set_option maxRecDepth 100000 in
theorem contract (H : Type) (enc : TypeId × Value → H) (W : World) (base : Nat) (args : Array Value) (ds gs : List (DataW H)) (before : List MemPlace)
    (hval : ∀ (j : Nat) t v, Try.f5.params[j]? = some t → args[j]? = some v → Value.okWide Try.prog W .any base t v)
    (hW : DataW.Whole enc Try.prog Try.f5.params.toList Rows.nestEndsSpec.vars false W args.toList ds gs before) (hsh : W.ShapedOpen Try.prog) (hk : Rows.uptoSmall H (ds ++ gs) = true) :
    Calls Try.prog 5 args W fun e W' => ∃ v, e = .returned v ∧ Rows.nestEndsSpec.post enc Try.prog Try.f5 false true false false W args v W' := by
  have hW' := hW
  have hlt := hW.lt
  obtain ⟨p, q, hA0, hV, rfl, hfz, hnd⟩ := hW
  have hA : DataW.TrodAll enc Try.prog W 0 (fun _ => true) true Try.f5.params.toList args.toList ds p := hA0
  rw [Try.params5] at hA hval
  obtain ⟨v0, vs0, d0, ds0, p0, q0, hargs, rfl, rfl, h0, r0⟩ := trodAll_cons hA
  obtain ⟨v1, vs1, d1, ds1, p1, q1, rfl, rfl, rfl, h1, r1⟩ := trodAll_cons r0
  obtain ⟨rfl, rfl, rfl⟩ := trodAll_nil r1
  obtain rfl : args = #[v0, v1] := by cases args; simp_all
  obtain ⟨rfl, rfl⟩ := trodVars_none hV
  clear hA0
  simp only [List.append_nil] at hW' hlt hk
  have hbulk := of_decide_eq_true hk
  simp only [Rows.uptoBulkAll] at hbulk
  have e0 := okWide_slice Try.underlying22 (hval 0 22 v0 rfl rfl)
  obtain ⟨wa0, wc0, ws0, rfl, cw0, hw0, l0, lx0⟩ := words_of_read e0 h0
  have h1' := h1
  obtain ⟨s1, rfl, rfl, e1, ws1⟩ := Go.ChangeMaps.open_string Try.underlying9 (hval 1 9 v1 rfl rfl) h1
  refine (walk W (Try.laysM144.s1_3 W hsh) wa0 wc0 ws0 cw0 hw0 (by omega) (fun x hx => by have := lx0 x hx; omega) s1 ws1 (by simp only [N.bulk_str, N.size_data] at hbulk; omega)).mono fun e W' ⟨he, hb⟩ => ?_
  subst he
  exact ⟨_, rfl, post_below hW' (fun _ _ _ => trodAll_cons_mk (shut_bool Try.underlying4 _) trodAll_mk0) (trodAll_cons_mk (stays (by kernel_rfl) (of_decide_eq_true (by kernel_rfl)) h0 hb (fun x hx => hlt x (by simp [hx]))) (trodAll_cons_mk (stays (by kernel_rfl) (of_decide_eq_true (by kernel_rfl)) h1' hb (fun x hx => hlt x (by simp [hx]))) trodAll_mk0)) rfl hb⟩

set_option maxRecDepth 100000 in
theorem laid_met (os : Os) : laidMet Try.prog Rows.nestEndsUptoRow.laid ((World.holding Try.prog os ⟨#[], #[], []⟩).forCall (fun _ _ => 0) ⟨#[], #[Value.slice none 0 0, Value.string ⟨#[]⟩], []⟩).memory :=
  laidMet_of_run' 8 (by kernel_rfl) (by kernel_rfl)
set_option maxRecDepth 100000 in
theorem reads (os : Os) {H : Type} (enc : TypeId × Value → H) : ∃ places, DataW.whole enc Try.prog ((World.holding Try.prog os ⟨#[], #[], []⟩).forCall (fun _ _ => 0) ⟨#[], #[Value.slice none 0 0, Value.string ⟨#[]⟩], []⟩).memory Try.f5.params.toList Rows.nestEndsSpec.vars false #[Value.slice none 0 0, Value.string ⟨#[]⟩].toList 8 = some ([.nil, .lit (.string [])], [], places) :=
  ⟨[], by kernel_rfl⟩

set_option maxRecDepth 100000 in
theorem lifted (os : Os) (started : os.Started) (H : Type) (enc : TypeId × Value → H) (F : Stop.Interp) :
    ReturnsInHanded {} Try.checked os 5 .any ((Rows.OpenSpec.upto Rows.nestEndsSpec).preRow enc Try.prog Try.f5 Rows.nestEndsUptoRow.domain false Rows.nestEndsUptoRow.laid) (((Rows.OpenSpec.upto Rows.nestEndsSpec).at F).post enc Try.prog Try.f5 false true false false) := by
  obtain ⟨places, hx⟩ := reads os enc
  refine returnsInHanded_of_row (C := Try.checked) (s := Rows.OpenSpec.upto Rows.nestEndsSpec) own started (by kernel_rfl) Try.func5
    (witness_row_at (enc := enc) (C := Try.checked) false (World.holding Try.prog os ⟨#[], #[], []⟩) #[Value.slice none 0 0, Value.string ⟨#[]⟩] rfl (by kernel_rfl) (by kernel_rfl) (by kernel_rfl)
      (OpenSpec.preRow_of_cond 8 hx (by kernel_rfl) (fun k hk => by cases hk; kernel_rfl) (by kernel_rfl) (laid_met os))) ?_
  intro W base args ds gs before hval hW _ hcond _ hL hsh _
  exact contract H enc W base args ds gs before hval hW hsh (hcond _ rfl)

set_option maxRecDepth 100000 in
theorem said : Rows.NestEndsUptoSaid :=
  OpenClaim.holds_of_cond 5 Try.f5 rfl rfl rfl rfl rfl rfl rfl ⟨rfl, rfl, rfl, rfl, rfl⟩ rfl rfl rfl rfl rfl (by kernel_rfl) Try.func5 (by kernel_rfl)
    (of_decide_eq_true (by kernel_rfl)) (by unfold Func.isWrapper; first | (rw [if_pos (by decide +kernel)]; kernel_rfl) | (rw [if_neg (by decide +kernel)]; exact ⟨rfl, rfl⟩))
    (fun os started H enc _ F => by rw [OpenClaim.pre_eq_preRow]; exact lifted os started H enc F)


end Go.Proofs.Ytgiefjkdekckaab.NeEnds
