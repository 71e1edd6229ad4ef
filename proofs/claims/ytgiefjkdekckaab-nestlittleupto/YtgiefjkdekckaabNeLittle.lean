/- What is proved here: the statement NestLittle (what is put in is little, and may be allowed; what asks nothing closes nothing) holds for stacks and names up to the size that the statement's narrower form names, with no other condition. -/
import Derived.Test.YtgiefjkdekckaabNeRead
import Derived.Test.YtgiefjkdekckaabNeMay
import Derived.Test.YtgiefjkdekckaabNePlan
import Derived.Test.YtgiefjkdekckaabNeRFacts
namespace Go.Proofs.Ytgiefjkdekckaab.NeLittle
open Go.ChangeShapes Go.WideShapes Go.ChangeAt Go.RowKit Go.Shelf N C E

theorem open_right {S : List Txt} {x : Txt} (h : openCode S x = 0) : rightK S S.length = true := by
  unfold openCode at h
  cases hr : rightK S S.length
  · rw [hr] at h; cases h
  · rfl
theorem open_codes (S : List Txt) (x : Txt) : openCode S x = 0 ∨ openCode S x = 160 ∨ openCode S x = 161 := by
  unfold openCode
  split
  · split
    · exact .inl rfl
    · exact .inr (.inl rfl)
  · exact .inr (.inr rfl)
theorem open_z {S : List Txt} {x : Txt} : 0 ≤ openZ S x ∧ openZ S x ≤ S.length := by
  unfold openZ
  have := element_le S S.length x
  split <;> omega
theorem open_i {S : List Txt} {x : Txt} : (openI S x).length ≤ 4 := by
  unfold openI
  split
  · rename_i h; exact ins_four (open_right h)
  · simp
theorem open_fine {S : List Txt} {x : Txt} : ∀ j, j < (openI S x).length → allowB ((openI S x).getD j []) = true ∧ voidB ((openI S x).getD j []) = false ∧ ((openI S x).getD j []).length ≤ 100000 := fun j hj => by
  have hm : (openI S x).getD j [] ∈ openI S x := by rw [List.getD_eq_getElem?_getD, List.getElem?_eq_getElem hj]; exact List.getElem_mem hj
  generalize (openI S x).getD j [] = y at *
  unfold openI at hm
  split at hm
  · obtain ⟨h1, h2⟩ := fine_ins S S.length x y hm
    refine ⟨h1, h2, ?_⟩
    have h3 : y ∈ SW 15 := by unfold allowB inZ at h1; simpa using h1
    have h4 : ∀ z ∈ SW 15, z.length ≤ 100000 := by decide +kernel
    exact h4 y h3
  · simp at hm
set_option maxRecDepth 100000 in
set_option maxHeartbeats 8000000 in
theorem walk (w : World) (hm : MaxOk w) (a : Option Addr) (c : Nat) (S : List Txt) (hc : S.length ≤ c) (hT : TextsAt w a S) (hl : S.length ≤ 1048576) (hx : ∀ x ∈ S, x.length ≤ 1048576) (s : ByteArray) (_hs0 : s.size ≤ 9223372036854775807) (hs : s.size ≤ 1048576) :
    Calls Try.prog 3 #[.slice a S.length c, .string s] w fun e w' => e = .returned (.bool true) ∧ Below w.heap.size w w' := by
  obtain ⟨x, hsx⟩ : ∃ x : Txt, s = ⟨x.toArray⟩ := ⟨s.data.toList, by cases s; simp⟩
  subst hsx
  have hxl : x.length ≤ 1048576 := by simpa [ByteArray.size] using hs
  clear hs _hs0
  have HAW : Hid (∀ W, Below w.heap.size w W → Calls Try.prog 7 #[] W fun e w' => e = .returned (.bool true) ∧ Below W.heap.size W w') := fun W hW => awake_calls W (hm.below hW)
  have HM := hid_of hm
  have HLG : Hid (∀ W, Calls Try.prog 6 #[.slice a S.length c] W fun e w' => e = .returned (.bool (decide (600 < S.length))) ∧ w' = W) := fun W => long_calls a S.length c (by omega) W
  by_cases hlong : 600 < S.length
  · rw [decide_eq_true hlong] at HLG
    clear hm hT hx hlong
    go_enter Try.func3, Try.ntmps3
    go_wp2_with (first
      | (go_at_call 6; refine (HLG.out _).mono ?_; rintro e w' ⟨rfl, rfl⟩)
      | (go_at_call 7; refine (HAW.out _ (Below.refl _ _)).mono ?_; rintro e w2 ⟨rfl, hb2⟩))
    go_ret
    exact ⟨rfl, hb2⟩
  · rw [decide_eq_false hlong] at HLG
    have hst := stack_of hc hT (by omega) hx
    have HO := hid_of (Open_calls w hm a S c hst x (by omega))
    have HMY : Hid (∀ W, Below w.heap.size w W → Calls Try.prog 12 #[.slice a S.length c, .string ⟨x.toArray⟩] W fun e w' => e = .returned (.tuple #[.bool (mayB S x), .int .i64 (openCode S x)]) ∧ Below W.heap.size W w') := fun W hW => May_calls W (hm.below hW) a S c (hst.below hW) x (by omega)
    have hoz := open_z (S := S) (x := x)
    have hoi := open_i (S := S) (x := x)
    have HOF := hid_of (open_fine (S := S) (x := x))
    have HMB : Hid (openCode S x = 0 → mayB S x = (decide (openZ S x = 0) && decide ((openI S x).length = 0))) := fun h => by show mayB S x = _; unfold mayB; rw [decide_eq_true h, Bool.true_and]
    have HO0 : Hid (openCode S x ≠ 0 → openZ S x = 0 ∧ openI S x = []) := fun h => by
      constructor
      · unfold openZ; rw [if_neg h]
      · unfold openI; rw [if_neg h]
    clear hm hT hx hlong hst
    by_cases hcode : openCode S x = 0
    · rw [hcode] at HO HMY
      have HMB1 := hid_of (HMB.out hcode)
      clear HO0 hcode HMB
      have hoi0 := hoi
      generalize openZ S x = oz at *
      generalize openI S x = oi at *
      go_enter Try.func3, Try.ntmps3
      go_wp2_with fail
      (go_at_call 6; refine (HLG.out _).mono ?_; rintro e w' ⟨rfl, hw'⟩; have hx' := hw'.symm; subst hx')
      go_wp2_with fail
      (go_at_call 8; refine HO.out.mono ?_; rintro e w1 ⟨v1, c1, rfl, ho1, hb1⟩)
      go_upto_region 4 with fail
      obtain ⟨ht1, hc1, _, hl1⟩ := texts_own ho1
      obtain ⟨W2, hW2⟩ : ∃ W, w1.alloc (.cells #[.int .i64 oz, .slice v1 oi.length c1, .bool false] 26) = W := ⟨_, rfl⟩
      have b2 : Below w1.heap.size w1 W2 := by rw [← hW2]; exact (Below.refl _ _).alloc (Nat.le_refl _) _
      have q2 : Blk W2 w1.heap.size #[.int .i64 oz, .slice v1 oi.length c1, .bool false] 26 := by rw [← hW2]; exact Blk.new _ _ _
      rw [hW2]
      have HB2 : Hid (Below w.heap.size w W2) := hb1.trans (b2.mono hb1.size)
      have HQ2 := hid_of q2
      have HT2 := hid_of (ht1.below b2)
      have HM2 := hid_of (HM.out.below HB2.out)
      have d1 : W2.cell? ⟨w1.heap.size, 1, none⟩ = some (.slice v1 oi.length c1) := q2.cell 1
      clear hW2 b2 q2 ho1 hb1 ht1
      go_wp2_with (go_at_call 9; refine (num_calls _ _).mono ?_; rintro e w' ⟨rfl, hw'⟩; have hx' := hw'.symm; subst hx')
      go_loopw [4, 31] (fun _ i wr => wr = W2 ∧ ∃ k : Nat, k ≤ oi.length ∧ i = .int .i64 k) (fun _ i _ => oi.length - (intOf i).toNat)
      case atStart => exact ⟨rfl, 0, by omega, rfl⟩
      case round =>
        obtain ⟨rfl, k, hk, rfl⟩ := hrel
        by_cases hlt : k < oi.length
        · obtain ⟨b, off, rfl, hcx⟩ := HT2.out k hlt
          obtain ⟨f1, f2, f3⟩ := HOF.out k hlt
          obtain ⟨y, hy⟩ : ∃ y, oi.getD k [] = y := ⟨_, rfl⟩
          rw [hy] at hcx f1 f2 f3
          have HIN : Hid (∀ z W, MaxOk W → Calls Try.prog 11 #[.string ⟨y.toArray⟩, .int .i64 z] W fun e w' => e = .returned (.bool (inZ z y)) ∧ w' = W) := fun z W hm => by
            have := in_calls ⟨y.toArray⟩ z W (by show y.toArray.size ≤ _; simp; omega) hm
            rwa [show (⟨y.toArray⟩ : ByteArray).data.toList = y from rfl] at this
          have f1' : inZ 15 y = true := f1
          have f2' : inZ 0 y = false := f2
          clear hy f1 f2 f3
          go_wp2_with (go_at_call 11; refine (HIN.out _ _ HM2.out).mono ?_; rintro e w' ⟨rfl, hw'⟩; have hx' := hw'.symm; subst hx'; first | rw [f1'] | rw [f2'])
          exact ⟨⟨trivial, k + 1, by omega, by go_num⟩, by simp [intOf]; omega⟩
        · obtain rfl : k = oi.length := by omega
          have le4 : decide ((oi.length : Int) ≤ 4) = true := decide_eq_true (by omega)
          have ge0 : decide (oz ≥ 0) = true := decide_eq_true hoz.1
          have lel : decide (oz ≤ (S.length : Int)) = true := decide_eq_true hoz.2
          clear hoz hoi hoi0 HT2
          by_cases h0 : oz = 0
          · have hz : (oz == 0) = true := by rw [h0]; rfl
            by_cases h1 : oi.length = 0
            · have hL : ((oi.length : Int) == 0) = true := by rw [h1]; rfl
              have DZ := decide_eq_true h0
              have DL := decide_eq_true h1
              have HDZ := hid_of DZ
              have HDL := hid_of DL
              clear h0 h1 DZ DL
              go_wp2_with fail
              (go_at_call 12; refine (HMY.out wr HB2.out).mono ?_; rintro e w3 ⟨rfl, hb3⟩; rw [HMB1.out, HDZ.out, HDL.out])
              have q3 := HQ2.out.below hb3
              have g0 : w3.cell? ⟨w1.heap.size, 0, none⟩ = some (.int .i64 oz) := q3.cell 0
              have g1 : w3.cell? ⟨w1.heap.size, 1, none⟩ = some (.slice v1 oi.length c1) := q3.cell 1
              have g2 : w3.cell? ⟨w1.heap.size, 2, none⟩ = some (.bool false) := q3.cell 2
              have HB3 := hid_of (HB2.out.trans (hb3.mono HB2.out.size))
              clear q3 hb3
              go_wp2_with (first
                | (go_at_call 9; refine (num_calls _ _).mono ?_; rintro e w' ⟨rfl, hw'⟩; have hx' := hw'.symm; subst hx')
                | (go_at_call 7; refine (HAW.out _ HB3.out).mono ?_; rintro e w4 ⟨rfl, hb4⟩))
              go_ret
              exact ⟨rfl, HB3.out.trans (hb4.mono HB3.out.size)⟩
            · have hL : ((oi.length : Int) == 0) = false := by rw [beq_eq_false_iff_ne]; omega
              have HDZ := hid_of (decide_eq_true h0)
              have HDL := hid_of (decide_eq_false h1)
              clear h0 h1
              go_wp2_with fail
              (go_at_call 12; refine (HMY.out wr HB2.out).mono ?_; rintro e w3 ⟨rfl, hb3⟩; rw [HMB1.out, HDZ.out, HDL.out])
              have q3 := HQ2.out.below hb3
              have g0 : w3.cell? ⟨w1.heap.size, 0, none⟩ = some (.int .i64 oz) := q3.cell 0
              have g1 : w3.cell? ⟨w1.heap.size, 1, none⟩ = some (.slice v1 oi.length c1) := q3.cell 1
              have g2 : w3.cell? ⟨w1.heap.size, 2, none⟩ = some (.bool false) := q3.cell 2
              have HB3 := hid_of (HB2.out.trans (hb3.mono HB2.out.size))
              clear q3 hb3
              go_wp2_with (first
                | (go_at_call 9; refine (num_calls _ _).mono ?_; rintro e w' ⟨rfl, hw'⟩; have hx' := hw'.symm; subst hx')
                | (go_at_call 7; refine (HAW.out _ HB3.out).mono ?_; rintro e w4 ⟨rfl, hb4⟩))
              go_ret
              exact ⟨rfl, HB3.out.trans (hb4.mono HB3.out.size)⟩
          · have hz : (oz == 0) = false := by rw [beq_eq_false_iff_ne]; exact h0
            have HDZ := hid_of (decide_eq_false h0)
            clear h0
            by_cases h1 : oi.length = 0
            · have hL : ((oi.length : Int) == 0) = true := by rw [h1]; rfl
              have HDL := hid_of (decide_eq_true h1)
              clear h1
              go_wp2_with fail
              (go_at_call 12; refine (HMY.out wr HB2.out).mono ?_; rintro e w3 ⟨rfl, hb3⟩; rw [HMB1.out, HDZ.out, HDL.out])
              have q3 := HQ2.out.below hb3
              have g0 : w3.cell? ⟨w1.heap.size, 0, none⟩ = some (.int .i64 oz) := q3.cell 0
              have g1 : w3.cell? ⟨w1.heap.size, 1, none⟩ = some (.slice v1 oi.length c1) := q3.cell 1
              have g2 : w3.cell? ⟨w1.heap.size, 2, none⟩ = some (.bool false) := q3.cell 2
              have HB3 := hid_of (HB2.out.trans (hb3.mono HB2.out.size))
              clear q3 hb3
              go_wp2_with (first
                | (go_at_call 9; refine (num_calls _ _).mono ?_; rintro e w' ⟨rfl, hw'⟩; have hx' := hw'.symm; subst hx')
                | (go_at_call 7; refine (HAW.out _ HB3.out).mono ?_; rintro e w4 ⟨rfl, hb4⟩))
              go_ret
              exact ⟨rfl, HB3.out.trans (hb4.mono HB3.out.size)⟩
            · have hL : ((oi.length : Int) == 0) = false := by rw [beq_eq_false_iff_ne]; omega
              have HDL := hid_of (decide_eq_false h1)
              clear h1
              go_wp2_with fail
              (go_at_call 12; refine (HMY.out wr HB2.out).mono ?_; rintro e w3 ⟨rfl, hb3⟩; rw [HMB1.out, HDZ.out, HDL.out])
              have q3 := HQ2.out.below hb3
              have g0 : w3.cell? ⟨w1.heap.size, 0, none⟩ = some (.int .i64 oz) := q3.cell 0
              have g1 : w3.cell? ⟨w1.heap.size, 1, none⟩ = some (.slice v1 oi.length c1) := q3.cell 1
              have g2 : w3.cell? ⟨w1.heap.size, 2, none⟩ = some (.bool false) := q3.cell 2
              have HB3 := hid_of (HB2.out.trans (hb3.mono HB2.out.size))
              clear q3 hb3
              go_wp2_with (first
                | (go_at_call 9; refine (num_calls _ _).mono ?_; rintro e w' ⟨rfl, hw'⟩; have hx' := hw'.symm; subst hx')
                | (go_at_call 7; refine (HAW.out _ HB3.out).mono ?_; rintro e w4 ⟨rfl, hb4⟩))
              go_ret
              exact ⟨rfl, HB3.out.trans (hb4.mono HB3.out.size)⟩
    · obtain ⟨e1, e2⟩ := HO0.out hcode
      rw [e1, e2] at HO
      have hcz : (openCode S x != 0) = true := by simp [hcode]
      clear HO0 HMB HOF hoz hoi e1 e2 HMY
      generalize openCode S x = oc at *
      clear hcode
      go_enter Try.func3, Try.ntmps3
      go_wp2_with fail
      (go_at_call 6; refine (HLG.out _).mono ?_; rintro e w' ⟨rfl, hw'⟩; have hx' := hw'.symm; subst hx')
      go_wp2_with fail
      (go_at_call 8; refine HO.out.mono ?_; rintro e w1 ⟨v1, c1, rfl, ho1, hb1⟩)
      go_upto_region 4 with fail
      obtain ⟨W2, hW2⟩ : ∃ W, w1.alloc (.cells #[.int .i64 0, .slice v1 0 c1, .bool false] 26) = W := ⟨_, rfl⟩
      have b2 : Below w1.heap.size w1 W2 := by rw [← hW2]; exact (Below.refl _ _).alloc (Nat.le_refl _) _
      have q2 : Blk W2 w1.heap.size #[.int .i64 0, .slice v1 0 c1, .bool false] 26 := by rw [← hW2]; exact Blk.new _ _ _
      try rw [hW2]
      have HB2 : Hid (Below w.heap.size w W2) := hb1.trans (b2.mono hb1.size)
      have HN := hid_of (lnothing_calls 0 false [] v1 c1 W2 (by simp) (fun j hj => absurd hj (by simp)))
      rw [show nothB 0 false [] = true from rfl] at HN
      have d0 : W2.cell? ⟨w1.heap.size, 0, none⟩ = some (.int .i64 0) := q2.cell 0
      have d1 : W2.cell? ⟨w1.heap.size, 1, none⟩ = some (.slice v1 0 c1) := q2.cell 1
      have d2 : W2.cell? ⟨w1.heap.size, 2, none⟩ = some (.bool false) := q2.cell 2
      clear hW2 b2 q2 ho1 hb1
      go_wp2_with (first
        | (go_at_call 9; refine (num_calls _ _).mono ?_; rintro e w' ⟨rfl, hw'⟩; have hx' := hw'.symm; subst hx')
        | (go_at_call 10; refine HN.out.mono ?_; rintro e w3 ⟨rfl, hb3⟩; have HB3 := hid_of (HB2.out.trans (hb3.mono HB2.out.size)))
        | (go_at_call 7; refine (HAW.out _ HB3.out).mono ?_; rintro e w4 ⟨rfl, hb4⟩))
      go_ret
      exact ⟨rfl, HB3.out.trans (hb4.mono HB3.out.size)⟩
set_option maxRecDepth 100000 in
theorem contract (H : Type) (enc : TypeId × Value → H) (W : World) (base : Nat) (args : Array Value) (ds gs : List (DataW H)) (before : List MemPlace)
    (hval : ∀ (j : Nat) t v, Try.f3.params[j]? = some t → args[j]? = some v → Value.okWide Try.prog W .any base t v)
    (hW : DataW.Whole enc Try.prog Try.f3.params.toList Rows.nestLittleSpec.vars false W args.toList ds gs before) (hsh : W.ShapedOpen Try.prog) (hk : Rows.uptoSmall H (ds ++ gs) = true) :
    Calls Try.prog 3 args W fun e W' => ∃ v, e = .returned v ∧ Rows.nestLittleSpec.post enc Try.prog Try.f3 false true false false W args v W' := by
  have hW' := hW
  have hlt := hW.lt
  obtain ⟨p, q, hA0, hV, rfl, hfz, hnd⟩ := hW
  have hA : DataW.TrodAll enc Try.prog W 0 (fun _ => true) true Try.f3.params.toList args.toList ds p := hA0
  rw [Try.params3] at hA hval
  obtain ⟨v0, vs0, d0, ds0, p0, q0, hargs, rfl, rfl, h0, r0⟩ := trodAll_cons hA
  obtain ⟨v1, vs1, d1, ds1, p1, q1, rfl, rfl, rfl, h1, r1⟩ := trodAll_cons r0
  obtain ⟨rfl, rfl, rfl⟩ := trodAll_nil r1
  obtain rfl : args = #[v0, v1] := by cases args; simp_all
  obtain ⟨rfl, rfl⟩ := trodVars_none hV
  clear hA0
  simp only [List.append_nil] at hW' hlt hk
  have hbulk := of_decide_eq_true hk
  simp only [Rows.uptoBulkAll] at hbulk
  have e0 := okWide_slice Try.underlying22 (hval 0 22 v0 rfl rfl)
  obtain ⟨wa0, wc0, ws0, rfl, cw0, hw0, l0, lx0⟩ := words_of_read e0 h0
  have h1' := h1
  obtain ⟨s1, rfl, rfl, e1, ws1⟩ := Go.ChangeMaps.open_string Try.underlying9 (hval 1 9 v1 rfl rfl) h1
  refine (walk W (Try.laysM144.s1_3 W hsh) wa0 wc0 ws0 cw0 hw0 (by omega) (fun x hx => by have := lx0 x hx; omega) s1 ws1 (by simp only [N.bulk_str, N.size_data] at hbulk; omega)).mono fun e W' ⟨he, hb⟩ => ?_
  subst he
  exact ⟨_, rfl, post_below hW' (fun _ _ _ => trodAll_cons_mk (shut_bool Try.underlying4 _) trodAll_mk0) (trodAll_cons_mk (stays (by kernel_rfl) (of_decide_eq_true (by kernel_rfl)) h0 hb (fun x hx => hlt x (by simp [hx]))) (trodAll_cons_mk (stays (by kernel_rfl) (of_decide_eq_true (by kernel_rfl)) h1' hb (fun x hx => hlt x (by simp [hx]))) trodAll_mk0)) rfl hb⟩

set_option maxRecDepth 100000 in
theorem laid_met (os : Os) : laidMet Try.prog Rows.nestLittleUptoRow.laid ((World.holding Try.prog os ⟨#[], #[], []⟩).forCall (fun _ _ => 0) ⟨#[], #[Value.slice none 0 0, Value.string ⟨#[]⟩], []⟩).memory :=
  laidMet_of_run' 8 (by kernel_rfl) (by kernel_rfl)
set_option maxRecDepth 100000 in
theorem reads (os : Os) {H : Type} (enc : TypeId × Value → H) : ∃ places, DataW.whole enc Try.prog ((World.holding Try.prog os ⟨#[], #[], []⟩).forCall (fun _ _ => 0) ⟨#[], #[Value.slice none 0 0, Value.string ⟨#[]⟩], []⟩).memory Try.f3.params.toList Rows.nestLittleSpec.vars false #[Value.slice none 0 0, Value.string ⟨#[]⟩].toList 8 = some ([.nil, .lit (.string [])], [], places) :=
  ⟨[], by kernel_rfl⟩

set_option maxRecDepth 100000 in
theorem lifted (os : Os) (started : os.Started) (H : Type) (enc : TypeId × Value → H) (F : Stop.Interp) :
    ReturnsInHanded {} Try.checked os 3 .any ((Rows.OpenSpec.upto Rows.nestLittleSpec).preRow enc Try.prog Try.f3 Rows.nestLittleUptoRow.domain false Rows.nestLittleUptoRow.laid) (((Rows.OpenSpec.upto Rows.nestLittleSpec).at F).post enc Try.prog Try.f3 false true false false) := by
  obtain ⟨places, hx⟩ := reads os enc
  refine returnsInHanded_of_row (C := Try.checked) (s := Rows.OpenSpec.upto Rows.nestLittleSpec) own started (by kernel_rfl) Try.func3
    (witness_row_at (enc := enc) (C := Try.checked) false (World.holding Try.prog os ⟨#[], #[], []⟩) #[Value.slice none 0 0, Value.string ⟨#[]⟩] rfl (by kernel_rfl) (by kernel_rfl) (by kernel_rfl)
      (OpenSpec.preRow_of_cond 8 hx (by kernel_rfl) (fun k hk => by cases hk; kernel_rfl) (by kernel_rfl) (laid_met os))) ?_
  intro W base args ds gs before hval hW _ hcond _ hL hsh _
  exact contract H enc W base args ds gs before hval hW hsh (hcond _ rfl)

set_option maxRecDepth 100000 in
theorem said : Rows.NestLittleUptoSaid :=
  OpenClaim.holds_of_cond 3 Try.f3 rfl rfl rfl rfl rfl rfl rfl ⟨rfl, rfl, rfl, rfl, rfl⟩ rfl rfl rfl rfl rfl (by kernel_rfl) Try.func3 (by kernel_rfl)
    (of_decide_eq_true (by kernel_rfl)) (by unfold Func.isWrapper; first | (rw [if_pos (by decide +kernel)]; kernel_rfl) | (rw [if_neg (by decide +kernel)]; exact ⟨rfl, rfl⟩))
    (fun os started H enc _ F => by rw [OpenClaim.pre_eq_preRow]; exact lifted os started H enc F)


end Go.Proofs.Ytgiefjkdekckaab.NeLittle
