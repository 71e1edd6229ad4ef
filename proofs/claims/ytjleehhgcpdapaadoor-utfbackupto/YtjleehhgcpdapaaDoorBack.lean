/- What is proved here: the statement UtfBack (there and back, of bytes and of runes) holds for any bytes and any runes, where the arguments hold at most 1048576 values, with no other condition but what the card says of the two tables of unicode/utf8. -/
import Derived.Test.YtjleehhgcpdapaaDoorCards
import Derived.Test.YtjleehhgcpdapaaDoorTie
import Derived.Test.YtjleehhgcpdapaaDoorOpen
import Derived.Test.YtjleehhgcpdapaaDoorCount
import Derived.Test.YtjleehhgcpdapaaDoorMend
import Derived.Test.YtjleehhgcpdapaaDoorMathB
namespace Go.Proofs.YtjleehhgcpdapaaDoor.Back
open Go.ChangeShapes Go.WideShapes Go.ChangeAt Go.RowKit Go.Shelf U

theorem hasB_mono {n₀ n₁ : Nat} {w : World} {v : Value} {bs : List UInt8} (hl : HasB n₀ w v bs) (h : n₀ ≤ n₁) : HasB n₁ w v bs := by
  rcases hl with hl | ⟨hp, b, off, cap, hv, hc, hb, hx⟩
  · exact .inl hl
  · exact .inr ⟨hp, b, off, cap, hv, hc, by omega, hx⟩

theorem hasB_slice {n₀ : Nat} {w : World} {v : Value} {bs : List UInt8} (hl : HasB n₀ w v bs) : ∃ a cap, v = .slice a bs.length cap := by
  rcases hl with ⟨rfl, a, cap, rfl⟩ | ⟨hp, b, off, cap, rfl, _⟩
  · exact ⟨a, cap, rfl⟩
  · exact ⟨_, cap, rfl⟩
theorem hasI_slice {q : IntKind} {w : World} {v : Value} {zs : List Int} (hl : HasI q w v zs) : ∃ a cap, v = .slice a zs.length cap := by
  rcases hl with ⟨rfl, a, cap, rfl⟩ | ⟨hp, b, off, cap, rfl, _⟩
  · exact ⟨a, cap, rfl⟩
  · exact ⟨_, cap, rfl⟩
theorem hasI_at {q : IntKind} {w : World} {a : Option Addr} {cap : Nat} {zs : List Int} {n : Nat} (hl : HasI q w (.slice a n cap) zs) (k : Nat) (hk : k < zs.length) : ∃ b off, a = some ⟨b, off, none⟩ ∧ w.cell? ⟨b, off + k, none⟩ = some (.int q (zAt zs k)) := by
  rcases hl with ⟨rfl, _⟩ | ⟨_, b, off, cp, he, _, hx⟩
  · simp at hk
  · cases he; exact ⟨b, off, rfl, hx k hk⟩
theorem cells_two (W : World) (a b : Value) (t : TypeId) (n : Nat) (hn : n = W.heap.size) : ∀ j u, [a, b][j]? = some u → (W.alloc (.cells #[a, b] t)).cell? ((⟨n, 0, none⟩ : Addr).add j) = some u := by
  intro j u h
  subst hn
  rw [add_none, Nat.zero_add]
  have hb := World.alloc_heap_new W (.cells #[a, b] t)
  simp only [World.cell?, hb]
  simpa using h
theorem kept_far {w w' : World} {base : Nat} {e : TypeId} {size : Nat} {v : Value} {n : Nat} {xs : List Value} {row : Option Nat} (h : w.ownsRow base e size v n xs) (hg : w.grownBy w' row) (hr : ∀ k, row = some k → k < base) : w'.ownsRow base e size v n xs :=
  h.kept hg (by
    cases e : v.ownBlock with
    | none => exact .inl rfl
    | some k => exact .inr (fun e' => by have := (h.lt k e).1; have := hr k e'.symm; omega))
theorem grown_trans {A B C : World} {row : Option Nat} (h : A.grownBy B row) (k : B.grownBy C row) : A.grownBy C row :=
  ⟨k.os.trans h.os, k.tape.trans h.tape, k.output.trans h.output, Nat.le_trans h.size k.size, fun j hj hne => (k.block j (Nat.lt_of_lt_of_le hj h.size) hne).trans (h.block j hj hne)⟩

set_option maxRecDepth 100000 in
set_option maxHeartbeats 1000000 in
theorem walk (w : World) (hT : Lib.Utf8Tabs (Tryd.lays32_ren.g 2) (Tryd.lays32_ren.g 3) w) (v : Value) (bs : List UInt8) (hb : HasB w.heap.size w v bs) (hl : bs.length ≤ 1048576) (u : Value) (zs : List Int) (hu : HasI .i32 w u zs) (_wu : ∀ z ∈ zs, (Lit.int .i32 z).wf = true) (hm : zs.length ≤ 1048576) :
    Calls Tryd.prog 7 #[v, u] w fun e w' => e = .returned (.bool true) ∧ Below w.heap.size w w' := by
  obtain ⟨xa, xc, rfl⟩ := hasB_slice hb
  have HB : Hid (HasB w.heap.size w (.slice xa bs.length xc) bs) := hb
  have HT : Hid (Lib.Utf8Tabs (Tryd.lays32_ren.g 2) (Tryd.lays32_ren.g 3) w) := hT
  obtain ⟨ua, uc, rfl⟩ := hasI_slice hu
  have HU : Hid (HasI .i32 w (.slice ua zs.length uc) zs) := hu
  clear hT hb hu
  go_enter Tryd.func7, Tryd.ntmps7
  go_wp2_with fail
  refine (runes_calls _ _ _ bs w (by omega) HB.out HT.out).mono ?_
  rintro e w1 ⟨vg, rfl, hown1, hb1⟩
  rw [runes_len, runesI_map] at hown1
  obtain ⟨ga, gc, rfl⟩ := owns_slice hown1
  have s1 := hb1.size
  go_wp2_with fail
  refine (ubytes_calls _ (runesI bs) w1 (hasI_owns hown1)).mono ?_
  rintro e w2 ⟨c2, rfl, hc2, hr2, hb2, hz2⟩
  have k2 : Below w.heap.size w w2 := hb1.trans (hb2.mono s1)
  have hA2 : Hid (HasB w2.heap.size w2 (.slice (some ⟨w1.heap.size, 0, none⟩) (encs (runesI bs)).length c2) (encs (runesI bs))) := hr2.hasB0 rfl hc2 _ hz2
  have hB2 : Hid (HasB w.heap.size w2 (.slice xa bs.length xc) bs) := HB.out.below k2
  have hrl : Hid ((runesI bs).length = (pcs bs).length) := runesI_length bs
  have hpl := pcs_length bs
  have hel : (encs (runesI bs)).length ≤ 4 * bs.length := by have := encs_length (runesI bs); have := hrl.out; omega
  clear hown1 hr2 hb1 hb2
  go_wp2_with fail
  refine (samebytes_calls _ _ _ _ w2.heap.size w.heap.size w2 hA2.out hB2.out).mono ?_
  rintro e w3 ⟨rfl, k3⟩
  obtain rfl : w2 = w3 := k3.symm
  rw [again_iff]
  have K3 : Below w2.heap.size w2 w2 := Below.refl _ _
  have z2 := k2.size
  have htk : Hid ((toks bs).length = (pcs bs).length) := by show (toks bs).length = _; rw [toks_pcs]; simp
  have hta : Hid ((toks (encs (runesI bs))).length = (pcs bs).length) := by
    show (toks (encs (runesI bs))).length = _
    have := congrArg List.length (runesI_encs (runesI bs)).1
    rw [runesI_length, List.length_map, runesI_length] at this
    rw [toks_pcs, List.length_map]; exact this
  go_wp2_with fail
  refine (valid_calls _ bs w2.heap.size w2 (by omega) (hasB_mono (hB2.out.below (K3.mono z2)) z2)).mono ?_
  rintro e w4 ⟨rfl, k4⟩
  have K4 : Below w2.heap.size w2 w4 := K3.trans (k4.mono K3.size)
  clear k4 K3
  generalize hok : (pcs bs).all Pc.ok = ok
  have HOK : Hid ((pcs bs).all Pc.ok = ok) := hok
  clear hok
  go_wp2_with fail
  refine (valid_calls _ (encs (runesI bs)) w2.heap.size w4 (by omega) (hA2.out.below K4)).mono ?_
  rintro e w5 ⟨rfl, k5⟩
  have K5 : Below w2.heap.size w2 w5 := K4.trans (k5.mono K4.size)
  clear k5 K4
  rw [(runesI_encs (runesI bs)).2]
  have T5 : Hid (Lib.Utf8Tabs (Tryd.lays32_ren.g 2) (Tryd.lays32_ren.g 3) w5) := tabs_below HT.out (k2.trans (K5.mono z2))
  go_wp2_with fail
  refine (count_calls _ _ _ (encs (runesI bs)) w5 (by omega) (hasB_mono (hA2.out.below K5) K5.size) T5.out).mono ?_
  rintro e w6 ⟨rfl, k6⟩
  have K6 : Below w2.heap.size w2 w6 := K5.trans (k6.mono K5.size)
  clear k6 K5 T5
  rw [hta.out]
  have T6 : Hid (Lib.Utf8Tabs (Tryd.lays32_ren.g 2) (Tryd.lays32_ren.g 3) w6) := tabs_below HT.out (k2.trans (K6.mono z2))
  go_wp2_with fail
  refine (count_calls _ _ _ bs w6 (by omega) (hasB_mono (hB2.out.below (K6.mono z2)) (by have := K6.size; omega)) T6.out).mono ?_
  rintro e w7 ⟨rfl, k7⟩
  have K7 : Below w2.heap.size w2 w7 := K6.trans (k7.mono K6.size)
  clear k7 K6 T6
  rw [htk.out]
  have T7 : Hid (Lib.Utf8Tabs (Tryd.lays32_ren.g 2) (Tryd.lays32_ren.g 3) w7) := tabs_below HT.out (k2.trans (K7.mono z2))
  go_wp2_with fail
  refine (count_calls _ _ _ bs w7 (by omega) (hasB_mono (hB2.out.below (K7.mono z2)) (by have := K7.size; omega)) T7.out).mono ?_
  rintro e w8 ⟨rfl, k8⟩
  have K8 : Below w2.heap.size w2 w8 := K7.trans (k8.mono K7.size)
  clear k8 K7 T7
  rw [htk.out]
  have T8 : Hid (Lib.Utf8Tabs (Tryd.lays32_ren.g 2) (Tryd.lays32_ren.g 3) w8) := tabs_below HT.out (k2.trans (K8.mono z2))
  go_wp2_with fail
  refine (count_calls _ _ _ bs w8 (by omega) (hasB_mono (hB2.out.below (K8.mono z2)) (by have := K8.size; omega)) T8.out).mono ?_
  rintro e w9 ⟨rfl, k9⟩
  have K9 : Below w2.heap.size w2 w9 := K8.trans (k9.mono K8.size)
  clear k9 K8 T8
  rw [htk.out]
  have hp4 := pcs_four bs
  have J9 : Below w.heap.size w w9 := k2.trans (K9.mono z2)
  go_wp2_with fail
  refine (ubytes_calls _ zs w9 (HU.out.below J9)).mono ?_
  rintro e w10 ⟨c10, rfl, hc10, hr10, hb10, hz10⟩
  have J10 : Below w.heap.size w w10 := J9.trans (hb10.mono J9.size)
  have hez := encs_length zs
  go_wp2_with fail
  refine (runes_calls _ _ _ (encs zs) w10 (by omega) (hr10.hasB0 rfl hc10 _ hz10) (tabs_below HT.out J10)).mono ?_
  rintro e w11 ⟨vo, rfl, hown11, hb11⟩
  rw [runes_len, runesI_map, (runesI_encs zs).1, List.length_map] at hown11
  obtain ⟨oa, oc, rfl⟩ := owns_slice hown11
  have J11 : Below w.heap.size w w11 := J10.trans (hb11.mono J10.size)
  have O11 : Hid (w11.ownsRow w10.heap.size 21 1 (.slice oa zs.length oc) zs.length ((zs.map mendR).map (Value.int .i32))) := hown11
  have hxo : Hid (HasI .i32 w11 (.slice oa zs.length oc) (zs.map mendR)) := by have := hasI_owns (zs := zs.map mendR) (by rw [List.length_map]; exact hown11); exact this
  have hxu : Hid (HasI .i32 w11 (.slice ua zs.length uc) zs) := HU.out.below J11
  clear hown11 hr10 hb10 hb11 J9 J10 K9
  go_wp2
  go_loop [7, 8, 55] (fun _ _ i => ∃ k : Nat, k ≤ zs.length ∧ i = .int .i64 k) (fun _ _ i => zs.length - (intOf i).toNat)
  case atStart => exact ⟨0, by omega, rfl⟩
  case round =>
    obtain ⟨k, hk, rfl⟩ := hrel
    by_cases hlt : k < zs.length
    · obtain ⟨ub, uo, rfl, cu⟩ := hasI_at hxu.out k hlt
      obtain ⟨ob, oo, rfl, co⟩ := hasI_at hxo.out k (by rw [List.length_map]; exact hlt)
      have ez : zAt (zs.map mendR) k = mendR (zAt zs k) := by simp [zAt, hlt]
      rw [ez] at co
      clear ez
      generalize zAt zs k = z at *
      by_cases hv : Utf8.valid z = true
      · have em : mendR z = z := by unfold mendR; rw [if_pos hv]
        rw [em] at co
        clear hv em
        go_wp2
        go_round
        case rel => exact ⟨k + 1, by omega, by go_num⟩
        case measure => simp [intOf]; omega
      · have em : mendR z = 65533 := by unfold mendR; rw [if_neg hv]
        have hne : ((65533 : Int) != z) = true := by rw [bne_iff_ne]; intro e; subst e; exact hv (by decide)
        have CC : Hid (∀ w', Calls Tryd.prog 36 #[.int .i32 z] w' fun e W' => e = .returned (.bool false) ∧ W' = w') := fun w' => by
          have := char_calls z w'
          rw [show Utf8.valid z = false by simpa using hv] at this
          exact this
        rw [em] at co
        clear hv em
        go_wp2_with (go_at_call 36; refine (CC.out _).mono ?_; rintro e w' ⟨rfl, hw⟩; obtain rfl : w11 = w' := hw.symm)
        go_round
        case rel => exact ⟨k + 1, by omega, by go_num⟩
        case measure => simp [intOf]; omega
    · have hcv : ∀ w', Below w.heap.size w w' → (convert 22 9 (.slice xa bs.length xc)).run Tryd.prog w' = .ok (.string ⟨bs.toArray⟩) w' := fun w' h => conv_bytes (HB.out.below h)
      have M1 : Hid (∀ w', Below w.heap.size w w' → Calls Tryd.prog 18 #[.string ⟨bs.toArray⟩] w' fun e W' => e = .returned (.string ⟨(encs (runesI bs)).toArray⟩) ∧ Below w.heap.size w W') := fun w' h => (mend_calls bs w' (by omega) (tabs_below HT.out h)).mono fun e W' ⟨a, b⟩ => ⟨a, h.trans (b.mono h.size)⟩
      have M2 : Hid (∀ w', Below w.heap.size w w' → Calls Tryd.prog 18 #[.string ⟨(encs (runesI bs)).toArray⟩] w' fun e W' => e = .returned (.string ⟨(encs (runesI bs)).toArray⟩) ∧ Below w.heap.size w W') := fun w' h => (mend_calls (encs (runesI bs)) w' (by omega) (tabs_below HT.out h)).mono fun e W' ⟨a, b⟩ => ⟨by rw [a, (runesI_encs (runesI bs)).1, encs_mendR], h.trans (b.mono h.size)⟩
      have ML : Hid (∀ w', Below w.heap.size w w' → Calls Tryd.prog 22 #[] w' fun e W' => e = .returned (.bool true) ∧ Below w.heap.size w W') := fun w' h => (lives_calls w' (tabs_below HT.out h)).mono fun e W' ⟨a, b⟩ => ⟨a, h.trans (b.mono h.size)⟩
      have J11d : Below w.heap.size w w11.drew := J11.drew
      go_wp2_with fail
      go_region_with (first
        | (go_at_call_of 18 (Value.string ⟨bs.toArray⟩); refine (M1.out _ ?_).mono ?_; (first | exact J11d | assumption); rintro e w12 ⟨rfl, J12⟩)
        | (go_at_call_of 18 (Value.string ⟨(encs (runesI bs)).toArray⟩); refine (M2.out _ ?_).mono ?_; (first | exact J11d | assumption); rintro e w13 ⟨rfl, J13⟩)
        | (go_at_call 22; refine (ML.out _ ?_).mono ?_; assumption; rintro e w15 ⟨rfl, J15⟩))
      all_goals
        go_wp2
        go_ret
        exact ⟨rfl, J15⟩

theorem contract (H : Type) (enc : TypeId × Value → H) (W : World) (base : Nat) (args : Array Value) (ds gs : List (DataW H)) (before : List MemPlace)
    (hval : ∀ (j : Nat) t v, Tryd.f7.params[j]? = some t → args[j]? = some v → Value.okWide Tryd.prog W .any base t v)
    (hW : DataW.Whole enc Tryd.prog Tryd.f7.params.toList Rows.utfBackSpec.vars false W args.toList ds gs before) (hL : laidMetH Tryd.prog Rows.utfBackUptoRow.laid W) (hk : Rows.uptoSmall H (ds ++ gs) = true) :
    Calls Tryd.prog 7 args W fun e W' => ∃ v, e = .returned v ∧ Rows.utfBackSpec.post enc Tryd.prog Tryd.f7 false true false false W args v W' := by
  have hW' := hW
  have hlt := hW.lt
  obtain ⟨p, q, hA0, hV, rfl, hfz, hnd⟩ := hW
  have hA : DataW.TrodAll enc Tryd.prog W 0 (fun _ => true) true Tryd.f7.params.toList args.toList ds p := hA0
  rw [Tryd.params7] at hA hval
  obtain ⟨v0, vs0, d0, ds0, p0, q0, hargs, rfl, rfl, h0, r0⟩ := trodAll_cons hA
  obtain ⟨v1, vs1, d1, ds1, p1, q1, rfl, rfl, rfl, h1, r1⟩ := trodAll_cons r0
  obtain ⟨rfl, rfl, rfl⟩ := trodAll_nil r1
  obtain rfl : args = #[v0, v1] := by cases args; simp_all
  obtain ⟨rfl, rfl⟩ := trodVars_none hV
  clear hA0
  simp only [List.append_nil] at hW' hlt hk
  have hbulk := of_decide_eq_true hk
  simp only [Rows.uptoBulkAll] at hbulk
  have e0 := okWide_slice Tryd.underlying22 (hval 0 22 v0 rfl rfl)
  obtain ⟨b0, hb0, l0⟩ := bytes_of_read (by kernel_rfl) e0 h0
  have e1 := okWide_slice Tryd.underlying27 (hval 1 27 v1 rfl rfl)
  obtain ⟨z1, hb1, l1, w1⟩ := ints_of_read Tryd.underlying27 Tryd.underlying21 (by kernel_rfl) e1 h1
  refine (walk W (tabs_of_laid hL) v0 b0 hb0 (by omega) v1 z1 hb1 w1 (by omega)).mono fun e W' ⟨he, hb⟩ => ?_
  subst he
  exact ⟨_, rfl, post_below hW' (fun _ _ _ => trodAll_cons_mk (shut_bool Tryd.underlying4 _) trodAll_mk0) (trodAll_cons_mk (stays (by kernel_rfl) (of_decide_eq_true (by kernel_rfl)) h0 hb (fun x hx => hlt x (by simp [hx]))) (trodAll_cons_mk (stays (by kernel_rfl) (of_decide_eq_true (by kernel_rfl)) h1 hb (fun x hx => hlt x (by simp [hx]))) trodAll_mk0)) rfl hb⟩

theorem laid_met (os : Os) : laidMet Tryd.prog Rows.utfBackUptoRow.laid ((withTabs (World.holding Tryd.prog os ⟨#[], #[], []⟩)).forCall (fun _ _ => 0) ⟨#[], #[Value.slice none 0 0, Value.slice none 0 0], []⟩).memory :=
  laidMet_of_run' 8 (by kernel_rfl) (by kernel_rfl)
theorem reads (os : Os) {H : Type} (enc : TypeId × Value → H) : ∃ places, DataW.whole enc Tryd.prog ((withTabs (World.holding Tryd.prog os ⟨#[], #[], []⟩)).forCall (fun _ _ => 0) ⟨#[], #[Value.slice none 0 0, Value.slice none 0 0], []⟩).memory Tryd.f7.params.toList Rows.utfBackSpec.vars false #[Value.slice none 0 0, Value.slice none 0 0].toList 8 = some ([.nil, .nil], [], places) :=
  ⟨[], by kernel_rfl⟩

set_option maxRecDepth 100000 in
theorem lifted (os : Os) (started : os.Started) (H : Type) (enc : TypeId × Value → H) (F : Stop.Interp) :
    ReturnsInHanded {} Tryd.checked os 7 .any ((Rows.OpenSpec.upto Rows.utfBackSpec).preRow enc Tryd.prog Tryd.f7 Rows.utfBackUptoRow.domain false Rows.utfBackUptoRow.laid) (((Rows.OpenSpec.upto Rows.utfBackSpec).at F).post enc Tryd.prog Tryd.f7 false true false false) := by
  obtain ⟨places, hx⟩ := reads os enc
  refine returnsInHanded_of_row (C := Tryd.checked) (s := Rows.OpenSpec.upto Rows.utfBackSpec) own started (by kernel_rfl) Tryd.func7
    (witness_row_at (enc := enc) (C := Tryd.checked) false (withTabs (World.holding Tryd.prog os ⟨#[], #[], []⟩)) #[Value.slice none 0 0, Value.slice none 0 0] rfl (by kernel_rfl) (by kernel_rfl) (by kernel_rfl)
      (OpenSpec.preRow_of_cond 8 hx (by kernel_rfl) (fun k hk => by cases hk; kernel_rfl) (by kernel_rfl) (laid_met os))) ?_
  intro W base args ds gs before hval hW _ hcond _ hL _ _
  exact contract H enc W base args ds gs before hval hW hL (hcond _ rfl)

theorem said : Rows.UtfBackUptoSaid :=
  OpenClaim.holds_of_cond 7 Tryd.f7 rfl rfl rfl rfl rfl rfl rfl ⟨rfl, rfl, rfl, rfl, rfl⟩ rfl rfl rfl rfl rfl (by kernel_rfl) Tryd.func7 (by kernel_rfl)
    (of_decide_eq_true (by kernel_rfl)) (by unfold Func.isWrapper; first | (rw [if_pos (by decide +kernel)]; kernel_rfl) | (rw [if_neg (by decide +kernel)]; exact ⟨rfl, rfl⟩))
    (fun os started H enc _ F => by rw [OpenClaim.pre_eq_preRow]; exact lifted os started H enc F)

theorem plain (f : FuncId) (fn : Func) (hf : Tryd.pinned.checked.prog.funcNamed "sieve/sievelaw01.UtfBack" = some f) (hfn : Tryd.pinned.checked.prog.funcs[f]? = some fn) :
    false = Tryd.pinned.checked.prog.looks [] ∧ ∀ (j : Nat) t, fn.params[j]? = some t → Tryd.pinned.checked.prog.wantsStandIn t = false := by
  obtain rfl : f = 7 := Option.some.inj ((show Tryd.prog.funcNamed "sieve/sievelaw01.UtfBack" = some 7 by kernel_rfl).symm.trans hf) |>.symm
  obtain rfl : fn = Tryd.f7 := (Option.some.inj (Tryd.func7.symm.trans hfn)).symm
  refine ⟨by kernel_rfl, fun j t ht => ?_⟩
  rw [Tryd.params7] at ht
  have hm := Array.mem_of_getElem? ht
  simp only [List.mem_toArray, List.mem_cons, List.not_mem_nil, or_false] at hm
  rcases hm with rfl | rfl
  · exact (show Tryd.prog.wantsStandIn 22 = false by kernel_rfl)
  · exact (show Tryd.prog.wantsStandIn 27 = false by kernel_rfl)

theorem card : Rows.UtfBackUptoCardSaid :=
  Claim7.holds_tied_plain_at .later [] _ _ _ _ said (fun _ h => by cases h) (by kernel_rfl) (fun _ h => by cases h) utfBackUpto_row_tie rfl ⟨rfl, rfl⟩ (by kernel_rfl) rfl plain (by kernel_rfl)

end Go.Proofs.YtjleehhgcpdapaaDoor.Back
