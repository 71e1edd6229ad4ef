/- What is proved here: the statement NamesKnown (the sets of every name; all names; how many of some are in each set) holds for any name and any texts, with no condition. -/
import Derived.Deep.RegionWith
import Derived.Test.YtihehkgmlijfgaaNReadT
import Derived.Test.YtihehkgmlijfgaaNRCount
import Derived.Test.YtihehkgmlijfgaaNArr
import Derived.Test.YtihehkgmlijfgaaNKnown
namespace Go.Proofs.Ytihehkgmlijfgaa.NKnownL
open Go.ChangeShapes Go.WideShapes Go.ChangeAt Go.RowKit N C

set_option maxRecDepth 100000 in
theorem same_kn (v v' : Value) (w : World) (h : HasT w v KN) (h' : HasT w v' KN) : Calls Try.prog 12 #[v, v'] w fun e w' => e = .returned (.bool true) ∧ Below w.heap.size w w' := by
  have h1 := same_calls KN KN v v' w (by decide) (by decide) h h'
  rw [decide_eq_true rfl] at h1
  exact h1

set_option maxRecDepth 100000 in
set_option maxHeartbeats 8000000 in
theorem walk (w : World) (hm : MaxOk w) (s : ByteArray) (hs : s.size ≤ 9223372036854775807) (v : Value) (L : List (List UInt8)) (hL : HasO w v L) (hz : ∀ x ∈ L, x.length ≤ 9223372036854775807) (hl : L.length ≤ 8796093021952) :
    Calls Try.prog 4 #[.string s, v] w fun e w' => e = .returned (.bool true) ∧ Below w.heap.size w w' := by
  obtain ⟨la, lcap, rfl⟩ := hL.slice
  have HM : Hid (MaxOk w) := hm
  have HL : Hid (HasO w (.slice la L.length lcap) L) := hL
  have HZ : Hid (∀ x ∈ L, x.length ≤ 9223372036854775807) := hz
  clear hm hL hz
  go_enter Try.func4, Try.ntmps4
  go_wp2_with fail
  refine (sets_calls s w hs HM.out).mono ?_
  rintro e W1 ⟨v1, rfl, hO1, hB1⟩
  go_wp2_with fail
  refine (rsets_calls s W1).mono ?_
  rintro e W2 ⟨v2, rfl, hO2, hB2⟩
  obtain ⟨a1, c1, rfl⟩ := owns_slice hO1
  obtain ⟨a2, c2, rfl⟩ := owns_slice hO2
  have HO1 : Hid (W2.ownsRow w.heap.size 22 1 (.slice a1 (setsOf s.data.toList).length c1) (setsOf s.data.toList).length (nvs (setsOf s.data.toList))) := owns_below hO1 hB2
  have HO2 : Hid (W2.ownsRow W1.heap.size 3 1 (.slice a2 (setsOf s.data.toList).length c2) (setsOf s.data.toList).length (nvs (setsOf s.data.toList))) := hO2
  have HB2 : Hid (Below w.heap.size w W2) := hB1.trans (hB2.mono hB1.size)
  have hpl : (setsOf s.data.toList).length ≤ 16 := setsTo_length _ 16
  have HPI : Hid (∀ k ∈ setsOf s.data.toList, k < 16) := fun k hk => ((mem_setsOf _ k).1 hk).1
  clear hO1 hO2 hB1 hB2
  generalize setsOf s.data.toList = P at *
  have hne : ((P.length : Int) != (P.length : Int)) = false := by simp
  go_wp2
  go_loopw [7, 20] (fun _ i wr => ∃ k : Nat, k ≤ P.length ∧ i = .int .i64 k ∧ Hid (wr.ownsRow w.heap.size 22 1 (.slice a1 P.length c1) P.length (nvs P)) ∧ Hid (wr.ownsRow W1.heap.size 3 1 (.slice a2 P.length c2) P.length (nvs P)) ∧ Hid (Below w.heap.size w wr)) (fun _ i _ => P.length - (intOf i).toNat)
  case atStart => exact ⟨0, by omega, rfl, HO1, HO2, HB2⟩
  case round =>
    clear HO1 HO2 HB2
    obtain ⟨k, hk, rfl, HO1, HO2, HB2⟩ := hrel
    by_cases hlt : k < P.length
    · obtain ⟨g1, rfl⟩ : ∃ g, a1 = some ⟨g, 0, none⟩ := by
        rcases HO1.out.2 with ⟨e, _⟩ | ⟨g, cap', cur, e, _⟩
        · simp only [Value.slice.injEq] at e; omega
        · simp only [Value.slice.injEq] at e; exact ⟨g, e.1⟩
      obtain ⟨g2, rfl⟩ : ∃ g, a2 = some ⟨g, 0, none⟩ := by
        rcases HO2.out.2 with ⟨e, _⟩ | ⟨g, cap', cur, e, _⟩
        · simp only [Value.slice.injEq] at e; omega
        · simp only [Value.slice.injEq] at e; exact ⟨g, e.1⟩
      have hx1 : wr.cell? ⟨g1, k, none⟩ = some (.int .i64 (P[k] : Int)) := by rw [World.ownsRow.cellAt HO1.out k (by omega)]; simp [nvs, hlt]
      have hx2 : wr.cell? ⟨g2, k, none⟩ = some (.int .i64 (P[k] : Int)) := by rw [World.ownsRow.cellAt HO2.out k (by omega)]; simp [nvs, hlt]
      generalize P[k] = x at *
      go_wp2
      go_region
      all_goals go_wp2
      all_goals exact ⟨⟨k + 1, by omega, by go_num, World.ownsRow.drew HO1.out, World.ownsRow.drew HO2.out, HB2.out.drew⟩, by simp [intOf]; omega⟩
    · obtain rfl : k = P.length := by omega
      clear HO1 HO2
      have s2 := HB2.out.size
      obtain ⟨AA, hAA⟩ : ∃ AA, arr16 (fun j => ((cnt L j L.length : Nat) : Int)) = AA := ⟨_, rfl⟩
      have HAA : Hid (arr16 (fun j => ((cnt L j L.length : Nat) : Int)) = AA) := hAA
      have hae := NArr.arr_eq (fun j => ((cnt L j L.length : Nat) : Int))
      rw [hAA] at hae
      have hgd : Try.prog.eqGuardType Try.prog.depth 39 = false := by kernel_rfl
      clear hAA
      go_wp2_with (at_builtin; refine append_given rfl _ _ rfl wr.heap.size (.slice (some ⟨wr.heap.size, 0, none⟩) 0 0) rfl (owns_empty wr _ 1) _ L rfl (HL.out.below (HB2.out.alloc s2 _)) (by omega) (by simp) ?_; intro v5 w5 hown5 hgrow5)
      have HG5 : Hid (HasT w5 v5 L) := HasT.of hown5
      have HB5 : Hid (Below w.heap.size w w5) := (HB2.out.alloc s2 _).grown hgrow5 (by simp; omega) (fun j hj => by simp [Value.ownBlock] at hj; omega)
      obtain ⟨a5, c5, rfl⟩ := owns_slice hown5
      clear hown5 hgrow5
      refine (count_calls L _ w5 (by omega) HZ.out HG5.out).mono ?_
      rintro e w6 ⟨rfl, hb6⟩
      rw [HAA.out]
      have HB6 : Hid (Below w.heap.size w w6) := HB5.out.trans (hb6.mono HB5.out.size)
      have HG6 : Hid (HasT w6 (.slice a5 L.length c5) L) := HG5.out.below hb6
      clear hb6
      go_wp2_with fail
      refine (rcount_calls L _ w6 (by omega) (HL.out.below HB6.out)).mono ?_
      rintro e w7 ⟨rfl, hb7⟩
      rw [HAA.out]
      have HB7 : Hid (Below w.heap.size w w7) := HB6.out.trans (hb7.mono HB6.out.size)
      have HG7 : Hid (HasT w7 (.slice a5 L.length c5) L) := HG6.out.below hb7
      clear hb7
      go_wp2_with fail
      refine (same_given L _ _ w7 (by omega) HG7.out (HL.out.below HB7.out)).mono ?_
      rintro e w8 ⟨rfl, hb8⟩
      have HB8 : Hid (Below w.heap.size w w8) := HB7.out.trans (hb8.mono HB7.out.size)
      clear hb8
      go_wp2_with fail
      refine (known_calls w8).mono ?_
      rintro e w9 ⟨k9, rfl, hK9, hb9⟩
      have HB9 : Hid (Below w.heap.size w w9) := HB8.out.trans (hb9.mono HB8.out.size)
      go_wp2_with fail
      refine (rknown_calls w9).mono ?_
      rintro e wa ⟨ka, rfl, hKa, hba⟩
      have HBa : Hid (Below w.heap.size w wa) := HB9.out.trans (hba.mono HB9.out.size)
      have HK9 : Hid (HasT wa k9 KN) := (HasT.of hK9).below hba
      have HKa : Hid (HasT wa ka KN) := HasT.of hKa
      clear hK9 hKa hb9 hba
      go_wp2_with fail
      refine (same_kn k9 ka wa HK9.out HKa.out).mono ?_
      rintro e wb ⟨rfl, hbb⟩
      have HBb : Hid (Below w.heap.size w wb) := HBa.out.trans (hbb.mono HBa.out.size)
      go_wp2_with fail
      refine (awake_calls wb (HM.out.below HBb.out)).mono ?_
      rintro e wc ⟨rfl, hbc⟩
      go_wp2
      go_ret
      exact ⟨rfl, HBb.out.trans (hbc.mono HBb.out.size)⟩

set_option maxRecDepth 100000 in
theorem contract (H : Type) (enc : TypeId × Value → H) (W : World) (base : Nat) (args : Array Value) (ds gs : List (DataW H)) (before : List MemPlace)
    (hval : ∀ (j : Nat) t v, Try.f4.params[j]? = some t → args[j]? = some v → Value.okWide Try.prog W .any base t v)
    (hW : DataW.Whole enc Try.prog Try.f4.params.toList Rows.namesKnownSpec.vars false W args.toList ds gs before) (hsh : W.ShapedOpen Try.prog) (hsz : (DataW.weightsEach Try.prog (Try.f4.params.toList ++ (OpenSpec.ofChange Rows.namesKnownSpec).bare.plain.varTypes Try.prog) (ds ++ gs)).all (· ≤ reachBytes) = true) :
    Calls Try.prog 4 args W fun e W' => ∃ v, e = .returned v ∧ Rows.namesKnownSpec.post enc Try.prog Try.f4 false true false false W args v W' := by
  have hW' := hW
  have hlt := hW.lt
  obtain ⟨p, q, hA0, hV, rfl, hfz, hnd⟩ := hW
  have hA : DataW.TrodAll enc Try.prog W 0 (fun _ => true) true Try.f4.params.toList args.toList ds p := hA0
  rw [Try.params4] at hA hval
  obtain ⟨v0, vs0, d0, ds0, p0, q0, hargs, rfl, rfl, h0, r0⟩ := trodAll_cons hA
  obtain ⟨v1, vs1, d1, ds1, p1, q1, rfl, rfl, rfl, h1, r1⟩ := trodAll_cons r0
  obtain ⟨rfl, rfl, rfl⟩ := trodAll_nil r1
  obtain rfl : args = #[v0, v1] := by cases args; simp_all
  obtain ⟨rfl, rfl⟩ := trodVars_none hV
  clear hA0
  simp only [List.append_nil] at hW' hlt
  have h0' := h0
  obtain ⟨s0, rfl, rfl, e0, ws0⟩ := Go.ChangeMaps.open_string Try.underlying9 (hval 0 9 v0 rfl rfl) h0
  have e1 := okWide_slice Try.underlying23 (hval 1 23 v1 rfl rfl)
  obtain ⟨L1, hL1, z1, l1, y1⟩ := N.texts_of_read e1 h1
  have b1 : L1.length ≤ 8796093021952 := by
    rcases y1 with h | ⟨el, sp, hd, hel⟩
    · rw [h]; simp
    · have h := sized_slice hsz (j := 1) (t := 23) (e := 9) (by kernel_rfl) (by rw [hd]; rfl) Try.underlying23
      rw [show Try.prog.bytesOf 9 = 16 by kernel_rfl] at h
      simp only [reachBytes] at h
      omega
  refine (walk W (Try.laysM144.s1_3 W hsh) s0 ws0 v1 L1 hL1 z1 b1).mono fun e W' ⟨he, hb⟩ => ?_
  subst he
  exact ⟨_, rfl, post_below hW' (fun _ _ _ => trodAll_cons_mk (shut_bool Try.underlying4 _) trodAll_mk0) (trodAll_cons_mk (stays (by kernel_rfl) (of_decide_eq_true (by kernel_rfl)) h0' hb (fun x hx => hlt x (by simp [hx]))) (trodAll_cons_mk (stays (by kernel_rfl) (of_decide_eq_true (by kernel_rfl)) h1 hb (fun x hx => hlt x (by simp [hx]))) trodAll_mk0)) rfl hb⟩

set_option maxRecDepth 100000 in
theorem laid_met (os : Os) : laidMet Try.prog Rows.namesKnownRow.laid ((World.holding Try.prog os ⟨#[], #[], []⟩).forCall (fun _ _ => 0) ⟨#[], #[Value.string ⟨#[]⟩, Value.slice none 0 0], []⟩).memory :=
  laidMet_of_run' 8 (by kernel_rfl) (by kernel_rfl)
set_option maxRecDepth 100000 in
theorem reads (os : Os) {H : Type} (enc : TypeId × Value → H) : ∃ places, DataW.whole enc Try.prog ((World.holding Try.prog os ⟨#[], #[], []⟩).forCall (fun _ _ => 0) ⟨#[], #[Value.string ⟨#[]⟩, Value.slice none 0 0], []⟩).memory Try.f4.params.toList Rows.namesKnownSpec.vars false #[Value.string ⟨#[]⟩, Value.slice none 0 0].toList 8 = some ([.lit (.string []), .nil], [], places) :=
  ⟨[], by kernel_rfl⟩

set_option maxRecDepth 100000 in
theorem lifted (os : Os) (started : os.Started) (H : Type) (enc : TypeId × Value → H) (F : Stop.Interp) :
    ReturnsInHanded {} Try.checked os 4 .any ((OpenSpec.ofChange Rows.namesKnownSpec).preRow enc Try.prog Try.f4 Rows.namesKnownRow.domain false Rows.namesKnownRow.laid) (((OpenSpec.ofChange Rows.namesKnownSpec).at F).post enc Try.prog Try.f4 false true false false) := by
  obtain ⟨places, hx⟩ := reads os enc
  refine returnsInHanded_of_row (C := Try.checked) (s := OpenSpec.ofChange Rows.namesKnownSpec) own started (by kernel_rfl) Try.func4
    (witness_row_at (enc := enc) (C := Try.checked) false (World.holding Try.prog os ⟨#[], #[], []⟩) #[Value.string ⟨#[]⟩, Value.slice none 0 0] rfl (by kernel_rfl) (by kernel_rfl) (by kernel_rfl)
      (OpenSpec.preRow_of_cond 8 hx (by kernel_rfl) (fun k hk => by cases hk) (by kernel_rfl) (laid_met os))) ?_
  intro W base args ds gs before hval hW _ _ hsz hL hsh _
  exact contract H enc W base args ds gs before hval hW hsh hsz

set_option maxRecDepth 100000 in
theorem said : Rows.NamesKnownSaid :=
  OpenClaim.holds_of_cond 4 Try.f4 rfl rfl rfl rfl rfl rfl rfl ⟨rfl, rfl, rfl, rfl, rfl⟩ rfl rfl rfl rfl rfl (by kernel_rfl) Try.func4 (by kernel_rfl)
    (of_decide_eq_true (by kernel_rfl)) (by unfold Func.isWrapper; first | (rw [if_pos (by decide +kernel)]; kernel_rfl) | (rw [if_neg (by decide +kernel)]; exact ⟨rfl, rfl⟩))
    (fun os started H enc _ F => by rw [OpenClaim.pre_eq_preRow]; exact lifted os started H enc F)


end Go.Proofs.Ytihehkgmlijfgaa.NKnownL
