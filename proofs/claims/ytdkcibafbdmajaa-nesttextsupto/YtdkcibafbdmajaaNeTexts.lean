/- What is proved here: the statement NestTexts (what a text asks of every stack, and what every end tag closes) holds for stacks and names up to the size that the statement's narrower form names, with no other condition. -/
import Derived.Test.YtdkcibafbdmajaaNeText
import Derived.Test.YtdkcibafbdmajaaNdEnd
import Derived.Test.YtdkcibafbdmajaaNdOpen
import Derived.Test.YtdkcibafbdmajaaBun2
namespace Go.Proofs.Ytdkcibafbdmajaa.NeTexts
open Go.ChangeShapes Go.WideShapes Go.ChangeAt Go.RowKit Go.Shelf N C E

theorem end_same {S : List Txt} (hr : rightK S S.length = true) (x : Txt) : endN S x = dendZ S S.length x := by
  unfold endN dendZ
  rw [hr, if_pos rfl, dend_ended hr]
set_option maxRecDepth 100000 in
set_option maxHeartbeats 40000000 in
theorem walk (w : World) (hm : MaxOk w) (a : Option Addr) (c : Nat) (S : List Txt) (hc : S.length ≤ c) (hT : TextsAt w a S) (hl : S.length ≤ 1048576) (hx : ∀ x ∈ S, x.length ≤ 1048576) (bl : Bool) (s : ByteArray) (_hs0 : s.size ≤ 9223372036854775807) (hs : s.size ≤ 1048576) :
    Calls Try.prog 4 #[.slice a S.length c, .bool bl, .string s] w fun e w' => e = .returned (.bool true) ∧ Below w.heap.size w w' := by
  obtain ⟨x, hsx⟩ : ∃ x : Txt, s = ⟨x.toArray⟩ := ⟨s.data.toList, by cases s; simp⟩
  subst hsx
  have hxl : x.length ≤ 1048576 := by simpa [ByteArray.size] using hs
  clear hs _hs0
  have HAW : Hid (∀ W, Below w.heap.size w W → Calls Try.prog 9 #[] W fun e w' => e = .returned (.bool true) ∧ Below W.heap.size W w') := fun W hW => awake_calls W (hm.below hW)
  have HLG : Hid (∀ W, Calls Try.prog 8 #[.slice a S.length c] W fun e w' => e = .returned (.bool (decide (600 < S.length))) ∧ w' = W) := fun W => long_calls a S.length c (by omega) W
  by_cases hlong : 600 < S.length
  · rw [decide_eq_true hlong] at HLG
    clear hm hT hx hlong
    go_enter Try.func4, Try.ntmps4
    go_wp2_with (first
      | (go_at_call 8; refine (HLG.out _).mono ?_; rintro e w' ⟨rfl, rfl⟩)
      | (go_at_call 9; refine (HAW.out _ (Below.refl _ _)).mono ?_; rintro e w2 ⟨rfl, hb2⟩))
    go_ret
    exact ⟨rfl, hb2⟩
  · rw [decide_eq_false hlong] at HLG
    have hst := stack_of hc hT (by omega) hx
    have HX := hid_of (Text_calls w hm a S c hst bl)
    have HE : Hid (∀ W, Below w.heap.size w W → Calls Try.prog 23 #[.slice a S.length c, .string ⟨x.toArray⟩] W fun e w' => e = .returned (.tuple #[.int .i64 (endN S x), .int .i64 (endCode S)]) ∧ Below W.heap.size W w') := fun W hW => End_calls W (hm.below hW) a S c (hst.below hW) x (by omega)
    have HDR : Hid (∀ W, Below w.heap.size w W → Calls Try.prog 13 #[.slice a S.length c] W fun e w' => e = .returned (.bool (rightK S S.length)) ∧ Below W.heap.size W w') := fun W hW => dRight_calls S a c hc (by omega) W (hT.below hW)
    have HDT := hid_of (fun W hW => dtext_calls S a S.length c (Nat.le_refl _) hc (by omega) bl W (hT.below (w' := W) hW))
    have HDE := hid_of (fun W hW => dEnd_calls S x (by omega) a c (by omega) W (hT.below (w' := W) hW))
    have HN : Hid (rightK S S.length = false → endCode S = 161 ∧ textP S bl = (0, [], false) ∧ endN S x = 0) := fun h => by
      refine ⟨?_, ?_, ?_⟩
      · unfold endCode; rw [h]; rfl
      · unfold textP; rw [h]; rfl
      · unfold endN; rw [h]; rfl
    have HY : Hid (rightK S S.length = true → endCode S = 0 ∧ textP S bl = (((textD S S.length bl).1 : Int), (textD S S.length bl).2.1, (textD S S.length bl).2.2) ∧ endN S x = dendZ S S.length x) := fun h => by
      refine ⟨?_, text_same h bl, end_same h x⟩
      unfold endCode; rw [h]; rfl
    have hti : (textD S S.length bl).2.1.length ≤ 3 := by
      unfold textD
      split
      · exact Nat.zero_le _
      · split
        · exact Nat.zero_le _
        · exact inner_len S S.length
    clear hm hT hx hlong hst
    generalize textD S S.length bl = td at *
    generalize textP S bl = tp at *
    generalize endN S x = en at *
    generalize dendZ S S.length x = dz at *
    generalize endCode S = ec at *
    go_enter Try.func4, Try.ntmps4
    go_upto_region 4 with (first
      | (go_at_call 8; refine (HLG.out _).mono ?_; rintro e w' ⟨rfl, hw'⟩; have hx' := hw'.symm; subst hx')
      | (go_at_call 22; refine HX.out.mono ?_; rintro e w1 ⟨v1, c1, rfl, ho1, hb1⟩))
    obtain ⟨t1, t2, t3⟩ := tp
    simp only at ho1 ⊢
    obtain ⟨W1, hW1⟩ : ∃ W, w1.alloc (.cells #[.int .i64 t1, .slice v1 t2.length c1, .bool t3] 27) = W := ⟨_, rfl⟩
    have b1 : Below w1.heap.size w1 W1 := by rw [← hW1]; exact (Below.refl _ _).alloc (Nat.le_refl _) _
    have q1 : Blk W1 w1.heap.size #[.int .i64 t1, .slice v1 t2.length c1, .bool t3] 27 := by rw [← hW1]; exact Blk.new _ _ _
    rw [hW1]
    have HB1 : Hid (Below w.heap.size w W1) := hb1.trans (b1.mono hb1.size)
    have HQ1 := hid_of q1
    have HT1 := hid_of ((texts_own ho1).1.below b1)
    clear hW1 b1 q1 ho1 hb1 HX HLG
    go_upto_region 5 with (go_at_call 23; refine (HE.out _ HB1.out).mono ?_; rintro e w2 ⟨rfl, hb2⟩)
    have HB2 : Hid (Below w.heap.size w w2) := HB1.out.trans (hb2.mono HB1.out.size)
    have HQ2 := hid_of (HQ1.out.below hb2)
    have HT2 := hid_of (HT1.out.below hb2)
    clear hb2 HB1 HQ1 HT1 HE
    cases hr : rightK S S.length
    · obtain ⟨e1, e2, e3⟩ := HN.out hr
      cases e2
      subst e1 e3
      rw [hr] at HDR
      clear HY HN hr HDT HDE hti
      go_wp2_with fail
      (go_at_call 13; refine (HDR.out _ HB2.out).mono ?_; rintro e w3 ⟨rfl, hb3⟩)
      have HB3 : Hid (Below w.heap.size w w3) := HB2.out.trans (hb3.mono HB2.out.size)
      have q3 := HQ2.out.below hb3
      have d0 : w3.cell? ⟨w1.heap.size, 0, none⟩ = some (.int .i64 0) := q3.cell 0
      have d1 : w3.cell? ⟨w1.heap.size, 1, none⟩ = some (.slice v1 0 c1) := q3.cell 1
      have d2 : w3.cell? ⟨w1.heap.size, 2, none⟩ = some (.bool false) := q3.cell 2
      clear hb3 q3
      go_wp2_with (go_at_call 16; refine (num_calls _ _).mono ?_; rintro e w' ⟨rfl, hw'⟩; have hx' := hw'.symm; subst hx')
      (go_at_call 18; refine (lnothing_calls 0 false [] v1 c1 w3 (by simp) (fun j hj => absurd hj (by simp))).mono ?_; rintro e w4 ⟨rfl, hb4⟩; rw [show nothB 0 false [] = true from rfl])
      have HB4 : Hid (Below w.heap.size w w4) := HB3.out.trans (hb4.mono HB3.out.size)
      clear hb4
      go_wp2_with (first
        | (go_at_call 16; refine (num_calls _ _).mono ?_; rintro e w' ⟨rfl, hw'⟩; have hx' := hw'.symm; subst hx')
        | (go_at_call 9; refine (HAW.out _ HB4.out).mono ?_; rintro e w5 ⟨rfl, hb5⟩))
      go_ret
      exact ⟨rfl, HB4.out.trans (hb5.mono HB4.out.size)⟩
    · obtain ⟨e1, e2, e3⟩ := HY.out hr
      obtain ⟨u1, u2, u3⟩ := td
      cases e2
      subst e1 e3
      rw [hr] at HDR
      simp only at hti HDT
      clear HY HN hr
      have HPL : Hid (∀ (v' : Option Addr) (d' : Nat) (W : World), TextsAt W v1 u2 → TextsAt W v' u2 → Calls Try.prog 20 #[.agg #[.int .i64 (u1 : Int), .slice v1 u2.length c1, .bool u3], .agg #[.int .i64 (u1 : Int), .slice v' u2.length d', .bool u3]] W fun e w' => e = .returned (.bool true) ∧ Below W.heap.size W w') := fun v' d' W h1 h2 => by
        have h := lplan_calls (u1 : Int) (u1 : Int) u3 u3 u2 u2 v1 v' c1 d' W (by omega) (by omega) h1 h2
        rwa [decide_eq_true (rfl : (u1 : Int) = (u1 : Int)), decide_eq_true (rfl : u2 = u2), decide_eq_true (rfl : u3 = u3)] at h
      go_wp2_with fail
      (go_at_call 13; refine (HDR.out _ HB2.out).mono ?_; rintro e w3 ⟨rfl, hb3⟩)
      have HB3 : Hid (Below w.heap.size w w3) := HB2.out.trans (hb3.mono HB2.out.size)
      have HQ3 := hid_of (HQ2.out.below hb3)
      have HT3 := hid_of (HT2.out.below hb3)
      clear hb3 HQ2 HT2 HB2 HDR
      have c0 : w3.cell? ⟨w1.heap.size, 0, none⟩ = some (.int .i64 (u1 : Int)) := HQ3.out.cell 0
      have c1' : w3.cell? ⟨w1.heap.size, 1, none⟩ = some (.slice v1 u2.length c1) := HQ3.out.cell 1
      have c2' : w3.cell? ⟨w1.heap.size, 2, none⟩ = some (.bool u3) := HQ3.out.cell 2
      go_wp2_with fail
      go_region_held3 (fun w' => w'.cell? ⟨w1.heap.size, 0, none⟩ = some (.int .i64 (u1 : Int)) ∧ w'.cell? ⟨w1.heap.size, 1, none⟩ = some (.slice v1 u2.length c1) ∧ w'.cell? ⟨w1.heap.size, 2, none⟩ = some (.bool u3)) (first | exact ⟨c0, c1', c2'⟩ | exact ⟨d0, d1, d2⟩ | go_keep) ((first
        | (go_at_call 16; refine (num_calls _ _).mono ?_; rintro e w' ⟨rfl, hw'⟩; have hx' := hw'.symm; subst hx')
        | (go_at_call 24; refine (HDT.out _ (HB3.out.trans (Below.mono (by first | exact Below.refl _ w3 | exact (Below.refl _ w3).drew) HB3.out.size))).mono ?_; rintro e w4 ⟨v4, c4, rfl, ho4, hb4⟩; have HB34 : Hid (Below w3.heap.size w3 w4) := (by first | exact hb4 | exact (Below.refl w3.heap.size w3).drew.trans hb4); have HT4 := hid_of (texts_own ho4).1; have q4 := HQ3.out.below HB34.out; have d0 : w4.cell? ⟨w1.heap.size, 0, none⟩ = some (.int .i64 (u1 : Int)) := q4.cell 0; have d1 : w4.cell? ⟨w1.heap.size, 1, none⟩ = some (.slice v1 u2.length c1) := q4.cell 1; have d2 : w4.cell? ⟨w1.heap.size, 2, none⟩ = some (.bool u3) := q4.cell 2; clear q4)
        | (go_at_call 20; refine (HPL.out v4 c4 w4 (HT3.out.below HB34.out) HT4.out).mono ?_; rintro e w5 ⟨rfl, hb5⟩; have HB35 : Hid (Below w3.heap.size w3 w5) := HB34.out.trans (hb5.mono HB34.out.size); have q5 := HQ3.out.below HB35.out; have d0 : w5.cell? ⟨w1.heap.size, 0, none⟩ = some (.int .i64 (u1 : Int)) := q5.cell 0; have d1 : w5.cell? ⟨w1.heap.size, 1, none⟩ = some (.slice v1 u2.length c1) := q5.cell 1; have d2 : w5.cell? ⟨w1.heap.size, 2, none⟩ = some (.bool u3) := q5.cell 2; clear q5)
        | (go_at_call 25; refine (HDE.out _ (HB3.out.trans (HB35.out.mono HB3.out.size))).mono ?_; rintro e w6 ⟨rfl, hb6⟩; have HB36 : Hid (Below w3.heap.size w3 w6) := HB35.out.trans (hb6.mono HB35.out.size); have q6 := HQ3.out.below HB36.out; have d0 : w6.cell? ⟨w1.heap.size, 0, none⟩ = some (.int .i64 (u1 : Int)) := q6.cell 0; have d1 : w6.cell? ⟨w1.heap.size, 1, none⟩ = some (.slice v1 u2.length c1) := q6.cell 1; have d2 : w6.cell? ⟨w1.heap.size, 2, none⟩ = some (.bool u3) := q6.cell 2; clear q6)
        | (go_at_call 9; refine (HAW.out _ (HB3.out.trans (HB36.out.mono HB3.out.size))).mono ?_; rintro e w7 ⟨rfl, hb7⟩; have HB37 : Hid (Below w3.heap.size w3 w7) := HB36.out.trans (hb7.mono HB36.out.size); have q7 := HQ3.out.below HB37.out; have d0 : w7.cell? ⟨w1.heap.size, 0, none⟩ = some (.int .i64 (u1 : Int)) := q7.cell 0; have d1 : w7.cell? ⟨w1.heap.size, 1, none⟩ = some (.slice v1 u2.length c1) := q7.cell 1; have d2 : w7.cell? ⟨w1.heap.size, 2, none⟩ = some (.bool u3) := q7.cell 2; clear q7)))
      all_goals go_wp2_with fail
      all_goals go_ret
      all_goals exact ⟨rfl, HB3.out.trans (HB37.out.mono HB3.out.size)⟩
set_option maxRecDepth 100000 in
theorem contract (H : Type) (enc : TypeId × Value → H) (W : World) (base : Nat) (args : Array Value) (ds gs : List (DataW H)) (before : List MemPlace)
    (hval : ∀ (j : Nat) t v, Try.f4.params[j]? = some t → args[j]? = some v → Value.okWide Try.prog W .any base t v)
    (hW : DataW.Whole enc Try.prog Try.f4.params.toList Rows.nestTextsSpec.vars false W args.toList ds gs before) (hsh : W.ShapedOpen Try.prog) (hk : Rows.uptoSmall H (ds ++ gs) = true) :
    Calls Try.prog 4 args W fun e W' => ∃ v, e = .returned v ∧ Rows.nestTextsSpec.post enc Try.prog Try.f4 false true false false W args v W' := by
  have hW' := hW
  have hlt := hW.lt
  obtain ⟨p, q, hA0, hV, rfl, hfz, hnd⟩ := hW
  have hA : DataW.TrodAll enc Try.prog W 0 (fun _ => true) true Try.f4.params.toList args.toList ds p := hA0
  rw [Try.params4] at hA hval
  obtain ⟨v0, vs0, d0, ds0, p0, q0, hargs, rfl, rfl, h0, r0⟩ := trodAll_cons hA
  obtain ⟨v1, vs1, d1, ds1, p1, q1, rfl, rfl, rfl, h1, r1⟩ := trodAll_cons r0
  obtain ⟨v2, vs2, d2, ds2, p2, q2, rfl, rfl, rfl, h2, r2⟩ := trodAll_cons r1
  obtain ⟨rfl, rfl, rfl⟩ := trodAll_nil r2
  obtain rfl : args = #[v0, v1, v2] := by cases args; simp_all
  obtain ⟨rfl, rfl⟩ := trodVars_none hV
  clear hA0
  simp only [List.append_nil] at hW' hlt hk
  have hbulk := of_decide_eq_true hk
  simp only [Rows.uptoBulkAll] at hbulk
  have e0 := okWide_slice Try.underlying22 (hval 0 22 v0 rfl rfl)
  obtain ⟨wa0, wc0, ws0, rfl, cw0, hw0, l0, lx0⟩ := words_of_read e0 h0
  have h1' := h1
  obtain ⟨z1, rfl, e1, -⟩ := open_bool Try.underlying4 (hval 1 4 v1 rfl rfl) h1
  have h2' := h2
  obtain ⟨s2, rfl, rfl, e2, ws2⟩ := Go.ChangeMaps.open_string Try.underlying9 (hval 2 9 v2 rfl rfl) h2
  refine (walk W (Try.laysM144.s1_3 W hsh) wa0 wc0 ws0 cw0 hw0 (by omega) (fun x hx => by have := lx0 x hx; omega) z1 s2 ws2 (by simp only [N.bulk_str, N.size_data] at hbulk; omega)).mono fun e W' ⟨he, hb⟩ => ?_
  subst he
  exact ⟨_, rfl, post_below hW' (fun _ _ _ => trodAll_cons_mk (shut_bool Try.underlying4 _) trodAll_mk0) (trodAll_cons_mk (stays (by kernel_rfl) (of_decide_eq_true (by kernel_rfl)) h0 hb (fun x hx => hlt x (by simp [hx]))) (trodAll_cons_mk (stays (by kernel_rfl) (of_decide_eq_true (by kernel_rfl)) h1' hb (fun x hx => hlt x (by simp [hx]))) (trodAll_cons_mk (stays (by kernel_rfl) (of_decide_eq_true (by kernel_rfl)) h2' hb (fun x hx => hlt x (by simp [hx]))) trodAll_mk0))) rfl hb⟩

set_option maxRecDepth 100000 in
theorem laid_met (os : Os) : laidMet Try.prog Rows.nestTextsUptoRow.laid ((World.holding Try.prog os ⟨#[], #[], []⟩).forCall (fun _ _ => 0) ⟨#[], #[Value.slice none 0 0, Value.bool false, Value.string ⟨#[]⟩], []⟩).memory :=
  laidMet_of_run' 8 (by kernel_rfl) (by kernel_rfl)
set_option maxRecDepth 100000 in
theorem reads (os : Os) {H : Type} (enc : TypeId × Value → H) : ∃ places, DataW.whole enc Try.prog ((World.holding Try.prog os ⟨#[], #[], []⟩).forCall (fun _ _ => 0) ⟨#[], #[Value.slice none 0 0, Value.bool false, Value.string ⟨#[]⟩], []⟩).memory Try.f4.params.toList Rows.nestTextsSpec.vars false #[Value.slice none 0 0, Value.bool false, Value.string ⟨#[]⟩].toList 8 = some ([.nil, .lit (.bool false), .lit (.string [])], [], places) :=
  ⟨[], by kernel_rfl⟩

set_option maxRecDepth 100000 in
theorem lifted (os : Os) (started : os.Started) (H : Type) (enc : TypeId × Value → H) (F : Stop.Interp) :
    ReturnsInHanded {} Try.checked os 4 .any ((Rows.OpenSpec.upto Rows.nestTextsSpec).preRow enc Try.prog Try.f4 Rows.nestTextsUptoRow.domain false Rows.nestTextsUptoRow.laid) (((Rows.OpenSpec.upto Rows.nestTextsSpec).at F).post enc Try.prog Try.f4 false true false false) := by
  obtain ⟨places, hx⟩ := reads os enc
  refine returnsInHanded_of_row (C := Try.checked) (s := Rows.OpenSpec.upto Rows.nestTextsSpec) own started (by kernel_rfl) Try.func4
    (witness_row_at (enc := enc) (C := Try.checked) false (World.holding Try.prog os ⟨#[], #[], []⟩) #[Value.slice none 0 0, Value.bool false, Value.string ⟨#[]⟩] rfl (by kernel_rfl) (by kernel_rfl) (by kernel_rfl)
      (OpenSpec.preRow_of_cond 8 hx (by kernel_rfl) (fun k hk => by cases hk; kernel_rfl) (by kernel_rfl) (laid_met os))) ?_
  intro W base args ds gs before hval hW _ hcond _ hL hsh _
  exact contract H enc W base args ds gs before hval hW hsh (hcond _ rfl)

set_option maxRecDepth 100000 in
theorem said : Rows.NestTextsUptoSaid :=
  OpenClaim.holds_of_cond 4 Try.f4 rfl rfl rfl rfl rfl rfl rfl ⟨rfl, rfl, rfl, rfl, rfl⟩ rfl rfl rfl rfl rfl (by kernel_rfl) Try.func4 (by kernel_rfl)
    (of_decide_eq_true (by kernel_rfl)) (by unfold Func.isWrapper; first | (rw [if_pos (by decide +kernel)]; kernel_rfl) | (rw [if_neg (by decide +kernel)]; exact ⟨rfl, rfl⟩))
    (fun os started H enc _ F => by rw [OpenClaim.pre_eq_preRow]; exact lifted os started H enc F)


end Go.Proofs.Ytdkcibafbdmajaa.NeTexts
