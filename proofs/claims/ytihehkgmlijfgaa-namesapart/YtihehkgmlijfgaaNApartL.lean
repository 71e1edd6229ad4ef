/- What is proved here: the statement NamesApart (no distance but of the same texts is 0; it is the same both ways; no way around is shorter; a known name is nearest to itself) holds for any three texts, with no condition. -/
import Derived.Deep.RegionWith
import Derived.Test.YtihehkgmlijfgaaNFrame
import Derived.Test.YtihehkgmlijfgaaNApartM
namespace Go.Proofs.Ytihehkgmlijfgaa.NApartL
open Go.ChangeShapes Go.WideShapes Go.ChangeAt Go.RowKit N C

set_option maxRecDepth 100000 in
set_option maxHeartbeats 8000000 in
theorem walk (w : World) (hm : MaxOk w) (s : ByteArray) (hs : s.size ≤ 9223372036854775807) (t : ByteArray) (ht : t.size ≤ 9223372036854775807) (u : ByteArray) (hu : u.size ≤ 9223372036854775807) :
    Calls Try.prog 7 #[.string s, .string t, .string u] w fun e w' => e = .returned (.bool true) ∧ Below w.heap.size w w' := by
  have HM : Hid (MaxOk w) := hm
  clear hm
  go_enter Try.func7, Try.ntmps7
  by_cases h1 : s.size ≤ 100
  · by_cases h2 : t.size ≤ 100
    · by_cases h3 : u.size ≤ 100
      · obtain ⟨X, hX⟩ : ∃ X, dist s.data.toList t.data.toList = X := ⟨_, rfl⟩
        obtain ⟨Y, hY⟩ : ∃ Y, dist t.data.toList u.data.toList = Y := ⟨_, rfl⟩
        obtain ⟨Z, hZ⟩ : ∃ Z, dist s.data.toList u.data.toList = Z := ⟨_, rfl⟩
        have hX' : dist t.data.toList s.data.toList = X := by rw [dist_comm]; exact hX
        have htri := dist_tri s.data.toList t.data.toList u.data.toList
        have hmax := dist_max s.data.toList t.data.toList
        have hlow := dist_low s.data.toList t.data.toList (by rw [size_data]; exact h1)
        have hiff := dist_iff s.data.toList t.data.toList (by rw [size_data]; exact h1) (by rw [size_data]; exact h2)
        have hx100 := dist_le s.data.toList t.data.toList
        have hy100 := dist_le t.data.toList u.data.toList
        rw [size_data, size_data] at hmax hlow
        rw [hX, hY, hZ] at htri
        rw [hX] at hmax hlow hiff hx100
        rw [hY] at hy100
        have HX : Hid (dist s.data.toList t.data.toList = X) := hX
        have HX' : Hid (dist t.data.toList s.data.toList = X) := hX'
        have HY : Hid (dist t.data.toList u.data.toList = Y) := hY
        have HZ : Hid (dist s.data.toList u.data.toList = Z) := hZ
        obtain ⟨N, D, hNO⟩ := near_of_l s.data.toList
        have HNO : Hid (NearOf s.data.toList N D) := hNO
        have HNN : Hid (NearOf (⟨N.toArray⟩ : ByteArray).data.toList N 0) := by rw [data_mk]; exact hNO.again
        have HDD : Hid (dist (⟨(lower s.data.toList).toArray⟩ : ByteArray).data.toList (⟨N.toArray⟩ : ByteArray).data.toList = D) := by rw [data_mk, data_mk]; exact hNO.far
        have hns : (⟨N.toArray⟩ : ByteArray).size ≤ 9223372036854775807 := by rw [size_mk]; have := kn_short N hNO.mem; omega
        have hls : (⟨(lower s.data.toList).toArray⟩ : ByteArray).size ≤ 9223372036854775807 := by rw [size_mk, lower, List.length_map, size_data]; exact hs
        obtain ⟨P, hP⟩ : ∃ P, (setsOf s.data.toList).length = P := ⟨_, rfl⟩
        have HP : Hid ((setsOf s.data.toList).length = P) := hP
        have hd100 : D ≤ 100 := by rw [← hNO.far]; exact dist_le _ _
        have hpl : P ≤ 16 := by rw [← hP]; exact setsTo_length _ 16
        have HST : Hid (P ≠ 0 → (N == s.toList) = true) := fun h => by rw [Lib.toList_data, beq_iff_eq]; exact hNO.self (by rw [hP]; omega)
        have HAB : Hid ((s.toList == t.toList) = decide (X = 0)) := by
          show _ = _
          rw [Lib.toList_data, Lib.toList_data, Bool.eq_iff_iff, beq_iff_eq, decide_eq_true_eq]
          exact hiff.symm
        clear hX hY hZ hX' hiff hNO hP
        go_wp2_with fail
        refine (dist_is (Below.refl _ w) s t hs ht X HX.out).mono ?_
        rintro e W1 ⟨rfl, hb1⟩
        go_wp2_with fail
        refine (dist_is hb1 t u ht hu Y HY.out).mono ?_
        rintro e W2 ⟨rfl, hb2⟩
        go_wp2_with fail
        refine (dist_is hb2 s u hs hu Z HZ.out).mono ?_
        rintro e W3 ⟨rfl, hb3⟩
        by_cases hX0 : X = 0
        · subst hX0
          have hab : (s.toList == t.toList) = true := by rw [HAB.out]; rfl
          go_wp2_with (go_at_call 24; refine (dist_is (by first | assumption | exact Below.drew (by assumption) | exact Below.drew (Below.drew (by assumption)) | exact Below.refl _ _) t s ht hs 0 HX'.out).mono ?_; rintro e W4 ⟨rfl, hb4⟩)
          refine (near_is (by first | assumption | exact Below.drew (by assumption) | exact Below.drew (Below.drew (by assumption)) | exact Below.refl _ _) s hs N D HNO.out).mono ?_
          rintro e W5 ⟨rfl, hb5⟩
          go_wp2_with fail
          refine (near_is (by first | assumption | exact Below.drew (by assumption) | exact Below.drew (Below.drew (by assumption)) | exact Below.refl _ _) ⟨N.toArray⟩ hns N 0 HNN.out).mono ?_
          rintro e W6 ⟨rfl, hb6⟩
          by_cases hP0 : P = 0
          · subst hP0
            go_wp2_with (first
                | (go_at_call 26; refine (lower_b (by first | assumption | exact Below.drew (by assumption) | exact Below.drew (Below.drew (by assumption)) | exact Below.refl _ _) s hs).mono ?_; rintro e w5 ⟨rfl, hb5⟩)
                | (go_at_call 24; refine (dist_is (by first | assumption | exact Below.drew (by assumption) | exact Below.drew (Below.drew (by assumption)) | exact Below.refl _ _) ⟨(lower s.data.toList).toArray⟩ ⟨N.toArray⟩ hls hns D HDD.out).mono ?_; rintro e w6 ⟨rfl, hb6⟩)
                | (go_at_call 15; refine (sets_is (by first | assumption | exact Below.drew (by assumption) | exact Below.drew (Below.drew (by assumption)) | exact Below.refl _ _) s hs HM.out 0 HP.out).mono ?_; rintro e w7 ⟨pa, pcap, rfl, hb7⟩)
                | (go_at_call 14; refine (awake_b (by first | assumption | exact Below.drew (by assumption) | exact Below.drew (Below.drew (by assumption)) | exact Below.refl _ _) HM.out).mono ?_; rintro e w' ⟨rfl, hbw⟩))
            go_ret
            exact ⟨rfl, hbw⟩
          · have hst := HST.out hP0
            have hp1 : ((P : Int) == 0) = false := by rw [beq_eq_false_iff_ne]; omega
            go_wp2_with (first
                | (go_at_call 26; refine (lower_b (by first | assumption | exact Below.drew (by assumption) | exact Below.drew (Below.drew (by assumption)) | exact Below.refl _ _) s hs).mono ?_; rintro e w5 ⟨rfl, hb5⟩)
                | (go_at_call 24; refine (dist_is (by first | assumption | exact Below.drew (by assumption) | exact Below.drew (Below.drew (by assumption)) | exact Below.refl _ _) ⟨(lower s.data.toList).toArray⟩ ⟨N.toArray⟩ hls hns D HDD.out).mono ?_; rintro e w6 ⟨rfl, hb6⟩)
                | (go_at_call 15; refine (sets_is (by first | assumption | exact Below.drew (by assumption) | exact Below.drew (Below.drew (by assumption)) | exact Below.refl _ _) s hs HM.out P HP.out).mono ?_; rintro e w7 ⟨pa, pcap, rfl, hb7⟩)
                | (go_at_call 14; refine (awake_b (by first | assumption | exact Below.drew (by assumption) | exact Below.drew (Below.drew (by assumption)) | exact Below.refl _ _) HM.out).mono ?_; rintro e w' ⟨rfl, hbw⟩))
            go_ret
            exact ⟨rfl, hbw⟩
        · have hab : (s.toList == t.toList) = false := by rw [HAB.out]; exact decide_eq_false hX0
          have hx1 : ((X : Int) == 0) = false := by rw [beq_eq_false_iff_ne]; omega
          go_wp2_with (go_at_call 24; refine (dist_is (by first | assumption | exact Below.drew (by assumption) | exact Below.drew (Below.drew (by assumption)) | exact Below.refl _ _) t s ht hs X HX'.out).mono ?_; rintro e W4 ⟨rfl, hb4⟩)
          refine (near_is (by first | assumption | exact Below.drew (by assumption) | exact Below.drew (Below.drew (by assumption)) | exact Below.refl _ _) s hs N D HNO.out).mono ?_
          rintro e W5 ⟨rfl, hb5⟩
          go_wp2_with fail
          refine (near_is (by first | assumption | exact Below.drew (by assumption) | exact Below.drew (Below.drew (by assumption)) | exact Below.refl _ _) ⟨N.toArray⟩ hns N 0 HNN.out).mono ?_
          rintro e W6 ⟨rfl, hb6⟩
          by_cases hP0 : P = 0
          · subst hP0
            go_wp2_with (first
                | (go_at_call 26; refine (lower_b (by first | assumption | exact Below.drew (by assumption) | exact Below.drew (Below.drew (by assumption)) | exact Below.refl _ _) s hs).mono ?_; rintro e w5 ⟨rfl, hb5⟩)
                | (go_at_call 24; refine (dist_is (by first | assumption | exact Below.drew (by assumption) | exact Below.drew (Below.drew (by assumption)) | exact Below.refl _ _) ⟨(lower s.data.toList).toArray⟩ ⟨N.toArray⟩ hls hns D HDD.out).mono ?_; rintro e w6 ⟨rfl, hb6⟩)
                | (go_at_call 15; refine (sets_is (by first | assumption | exact Below.drew (by assumption) | exact Below.drew (Below.drew (by assumption)) | exact Below.refl _ _) s hs HM.out 0 HP.out).mono ?_; rintro e w7 ⟨pa, pcap, rfl, hb7⟩)
                | (go_at_call 14; refine (awake_b (by first | assumption | exact Below.drew (by assumption) | exact Below.drew (Below.drew (by assumption)) | exact Below.refl _ _) HM.out).mono ?_; rintro e w' ⟨rfl, hbw⟩))
            go_ret
            exact ⟨rfl, hbw⟩
          · have hst := HST.out hP0
            have hp1 : ((P : Int) == 0) = false := by rw [beq_eq_false_iff_ne]; omega
            go_wp2_with (first
                | (go_at_call 26; refine (lower_b (by first | assumption | exact Below.drew (by assumption) | exact Below.drew (Below.drew (by assumption)) | exact Below.refl _ _) s hs).mono ?_; rintro e w5 ⟨rfl, hb5⟩)
                | (go_at_call 24; refine (dist_is (by first | assumption | exact Below.drew (by assumption) | exact Below.drew (Below.drew (by assumption)) | exact Below.refl _ _) ⟨(lower s.data.toList).toArray⟩ ⟨N.toArray⟩ hls hns D HDD.out).mono ?_; rintro e w6 ⟨rfl, hb6⟩)
                | (go_at_call 15; refine (sets_is (by first | assumption | exact Below.drew (by assumption) | exact Below.drew (Below.drew (by assumption)) | exact Below.refl _ _) s hs HM.out P HP.out).mono ?_; rintro e w7 ⟨pa, pcap, rfl, hb7⟩)
                | (go_at_call 14; refine (awake_b (by first | assumption | exact Below.drew (by assumption) | exact Below.drew (Below.drew (by assumption)) | exact Below.refl _ _) HM.out).mono ?_; rintro e w' ⟨rfl, hbw⟩))
            go_ret
            exact ⟨rfl, hbw⟩
      · go_wp2_with (go_at_call 14; refine (awake_b (by first | assumption | exact Below.drew (by assumption) | exact Below.drew (Below.drew (by assumption)) | exact Below.refl _ _) HM.out).mono ?_; rintro e w' ⟨rfl, hbw⟩)
        go_ret
        exact ⟨rfl, hbw⟩
    · go_wp2_with (go_at_call 14; refine (awake_b (by first | assumption | exact Below.drew (by assumption) | exact Below.drew (Below.drew (by assumption)) | exact Below.refl _ _) HM.out).mono ?_; rintro e w' ⟨rfl, hbw⟩)
      go_ret
      exact ⟨rfl, hbw⟩
  · go_wp2_with (go_at_call 14; refine (awake_b (by first | assumption | exact Below.drew (by assumption) | exact Below.drew (Below.drew (by assumption)) | exact Below.refl _ _) HM.out).mono ?_; rintro e w' ⟨rfl, hbw⟩)
    go_ret
    exact ⟨rfl, hbw⟩

set_option maxRecDepth 100000 in
theorem contract (H : Type) (enc : TypeId × Value → H) (W : World) (base : Nat) (args : Array Value) (ds gs : List (DataW H)) (before : List MemPlace)
    (hval : ∀ (j : Nat) t v, Try.f7.params[j]? = some t → args[j]? = some v → Value.okWide Try.prog W .any base t v)
    (hW : DataW.Whole enc Try.prog Try.f7.params.toList Rows.namesApartSpec.vars false W args.toList ds gs before) (hsh : W.ShapedOpen Try.prog) :
    Calls Try.prog 7 args W fun e W' => ∃ v, e = .returned v ∧ Rows.namesApartSpec.post enc Try.prog Try.f7 false true false false W args v W' := by
  have hW' := hW
  have hlt := hW.lt
  obtain ⟨p, q, hA0, hV, rfl, hfz, hnd⟩ := hW
  have hA : DataW.TrodAll enc Try.prog W 0 (fun _ => true) true Try.f7.params.toList args.toList ds p := hA0
  rw [Try.params7] at hA hval
  obtain ⟨v0, vs0, d0, ds0, p0, q0, hargs, rfl, rfl, h0, r0⟩ := trodAll_cons hA
  obtain ⟨v1, vs1, d1, ds1, p1, q1, rfl, rfl, rfl, h1, r1⟩ := trodAll_cons r0
  obtain ⟨v2, vs2, d2, ds2, p2, q2, rfl, rfl, rfl, h2, r2⟩ := trodAll_cons r1
  obtain ⟨rfl, rfl, rfl⟩ := trodAll_nil r2
  obtain rfl : args = #[v0, v1, v2] := by cases args; simp_all
  obtain ⟨rfl, rfl⟩ := trodVars_none hV
  clear hA0
  simp only [List.append_nil] at hW' hlt
  have h0' := h0
  obtain ⟨s0, rfl, rfl, e0, ws0⟩ := Go.ChangeMaps.open_string Try.underlying9 (hval 0 9 v0 rfl rfl) h0
  have h1' := h1
  obtain ⟨s1, rfl, rfl, e1, ws1⟩ := Go.ChangeMaps.open_string Try.underlying9 (hval 1 9 v1 rfl rfl) h1
  have h2' := h2
  obtain ⟨s2, rfl, rfl, e2, ws2⟩ := Go.ChangeMaps.open_string Try.underlying9 (hval 2 9 v2 rfl rfl) h2
  refine (walk W (Try.laysM144.s1_3 W hsh) s0 ws0 s1 ws1 s2 ws2).mono fun e W' ⟨he, hb⟩ => ?_
  subst he
  exact ⟨_, rfl, post_below hW' (fun _ _ _ => trodAll_cons_mk (shut_bool Try.underlying4 _) trodAll_mk0) (trodAll_cons_mk (stays (by kernel_rfl) (of_decide_eq_true (by kernel_rfl)) h0' hb (fun x hx => hlt x (by simp [hx]))) (trodAll_cons_mk (stays (by kernel_rfl) (of_decide_eq_true (by kernel_rfl)) h1' hb (fun x hx => hlt x (by simp [hx]))) (trodAll_cons_mk (stays (by kernel_rfl) (of_decide_eq_true (by kernel_rfl)) h2' hb (fun x hx => hlt x (by simp [hx]))) trodAll_mk0))) rfl hb⟩

set_option maxRecDepth 100000 in
theorem laid_met (os : Os) : laidMet Try.prog Rows.namesApartRow.laid ((World.holding Try.prog os ⟨#[], #[], []⟩).forCall (fun _ _ => 0) ⟨#[], #[Value.string ⟨#[]⟩, Value.string ⟨#[]⟩, Value.string ⟨#[]⟩], []⟩).memory :=
  laidMet_of_run' 8 (by kernel_rfl) (by kernel_rfl)
set_option maxRecDepth 100000 in
theorem reads (os : Os) {H : Type} (enc : TypeId × Value → H) : ∃ places, DataW.whole enc Try.prog ((World.holding Try.prog os ⟨#[], #[], []⟩).forCall (fun _ _ => 0) ⟨#[], #[Value.string ⟨#[]⟩, Value.string ⟨#[]⟩, Value.string ⟨#[]⟩], []⟩).memory Try.f7.params.toList Rows.namesApartSpec.vars false #[Value.string ⟨#[]⟩, Value.string ⟨#[]⟩, Value.string ⟨#[]⟩].toList 8 = some ([.lit (.string []), .lit (.string []), .lit (.string [])], [], places) :=
  ⟨[], by kernel_rfl⟩

set_option maxRecDepth 100000 in
theorem lifted (os : Os) (started : os.Started) (H : Type) (enc : TypeId × Value → H) (F : Stop.Interp) :
    ReturnsInHanded {} Try.checked os 7 .any ((OpenSpec.ofChange Rows.namesApartSpec).preRow enc Try.prog Try.f7 Rows.namesApartRow.domain false Rows.namesApartRow.laid) (((OpenSpec.ofChange Rows.namesApartSpec).at F).post enc Try.prog Try.f7 false true false false) := by
  obtain ⟨places, hx⟩ := reads os enc
  refine returnsInHanded_of_row (C := Try.checked) (s := OpenSpec.ofChange Rows.namesApartSpec) own started (by kernel_rfl) Try.func7
    (witness_row_at (enc := enc) (C := Try.checked) false (World.holding Try.prog os ⟨#[], #[], []⟩) #[Value.string ⟨#[]⟩, Value.string ⟨#[]⟩, Value.string ⟨#[]⟩] rfl (by kernel_rfl) (by kernel_rfl) (by kernel_rfl)
      (OpenSpec.preRow_of_cond 8 hx (by kernel_rfl) (fun k hk => by cases hk) (by kernel_rfl) (laid_met os))) ?_
  intro W base args ds gs before hval hW _ _ _ hL hsh _
  exact contract H enc W base args ds gs before hval hW hsh

set_option maxRecDepth 100000 in
theorem said : Rows.NamesApartSaid :=
  OpenClaim.holds_of_cond 7 Try.f7 rfl rfl rfl rfl rfl rfl rfl ⟨rfl, rfl, rfl, rfl, rfl⟩ rfl rfl rfl rfl rfl (by kernel_rfl) Try.func7 (by kernel_rfl)
    (of_decide_eq_true (by kernel_rfl)) (by unfold Func.isWrapper; first | (rw [if_pos (by decide +kernel)]; kernel_rfl) | (rw [if_neg (by decide +kernel)]; exact ⟨rfl, rfl⟩))
    (fun os started H enc _ F => by rw [OpenClaim.pre_eq_preRow]; exact lifted os started H enc F)


end Go.Proofs.Ytihehkgmlijfgaa.NApartL
