/- What is proved here: the statement RawSafe (what is safe comes back as it is, in front of the end tag, and whatever stands behind) holds where the three texts have no more than 2^20 bytes together with what else the row counts, with no other condition but what the card says of the listed tables. -/
import Derived.Test.YtmlklbbfmggbfabDoorCards
import Derived.Test.YtmlklbbfmggbfabDoorTie
import Derived.Test.YtmlklbbfmggbfabDoorBun2
import Derived.Test.YtmlklbbfmggbfabDoorBun9
import Derived.Test.YtmlklbbfmggbfabDoorBun10
import Derived.ProofKit
import Derived.OpenShut
namespace Go.Proofs.YtmlklbbfmggbfabDoor.RSafeL
open Go.ChangeShapes Go.WideShapes Go.ChangeAt Go.RowKit U N R

theorem refR_le {nm : List Int} (hnm : NmOk nm) {p : Nat} (h1 : 1 ≤ p) (h3 : p ≤ 3) {l : List Int} {k : Nat} (h : refR nm p l = some k) : k ≤ l.length := by
  obtain ⟨l1, r, l2, n, e0, _, _, e3⟩ := ref_some hnm h1 h3 h
  rw [e0]; simp; omega
/-- What is safe ends where it should, whatever stands behind. -/
theorem safe_more (l : List UInt8) (hw : whZ l ≠ 0) (bs u t t' : List UInt8) (n n' : Nat) (ok ok' : Bool) (hW : WholeIs (R.zs l) (p0 l) (bs ++ endB l) t n ok) (hs : t = encs (runesI bs)) (hW' : WholeIs (R.zs l) (p0 l) (bs ++ endB l ++ u) t' n' ok') :
    ok' = true ∧ t' = encs (runesI bs) ∧ n' = (bs ++ endB l).length := by
  have hnm := wh_ok l hw
  have hp := p0_range l
  have hlr : (runesI (bs ++ endB l)).length = (runesI bs).length + (l.length + 3) := by rw [with_end l hw]; simp
  have hS := safe_right l hw bs t n ok hW
  cases hr : refR (R.zs l) (p0 l) (runesI (bs ++ endB l)) with
  | none => rw [hr] at hS; rw [decide_eq_false_iff_not] at hS; exact absurd hs hS
  | some k =>
    rw [hr] at hS
    have hS : decide (t = encs (runesI bs)) = (decide (encs ((runesI (bs ++ endB l)).take k) = encs (runesI bs)) && decide (placeV (bs ++ endB l) (k + 2 + l.length + 1) = (bs ++ endB l).length)) := hS
    rw [decide_eq_true hs, eq_comm, Bool.and_eq_true, decide_eq_true_eq, decide_eq_true_eq] at hS
    have hk : k = (runesI bs).length := by
      have h6 := congrArg List.length (encs_inj (take_mend _ _) (runesI_mend _) hS.1)
      have h7 := refR_le hnm hp.1 hp.2 hr
      rw [List.length_take] at h6
      omega
    obtain ⟨l1, r, l2, m, i0, i1, i2, i3⟩ := ref_some hnm hp.1 hp.2 hr
    have hl2 : l2 = [] := by
      have := congrArg List.length i0
      rw [hlr] at this
      simp at this
      rw [show (R.zs l).length = l.length by simp] at i3
      have : l2.length = 0 := by omega
      exact List.length_eq_zero_iff.1 this
    subst hl2
    have hcut : Cut (bs ++ endB l) := by
      rw [endB_eq, show bs ++ 60 :: 47 :: (l ++ [62]) = (bs ++ 60 :: 47 :: l) ++ [62] by simp]
      exact fun Y => runesI_behind _ Y 62 (by decide)
    have hru : runesI (bs ++ endB l ++ u) = l1 ++ r :: runesI u := by rw [hcut u, i0]; simp
    have hlen : k ≤ (l1 ++ [r]).length := by simp; omega
    have htk : (l1 ++ [r]).take k = runesI bs := by
      rw [show l1 ++ [r] = runesI (bs ++ endB l) from i0.symm, with_end l hw, hk, List.take_left]
    rcases hW' with ⟨w1, w2, w3, m1, q, w4, w5, w6, w7⟩ | ⟨w1, w2, w3, w4⟩
    · have hb : runesI (bs ++ endB l ++ u) = m1 ++ q :: runesI ((bs ++ endB l ++ u).drop n') := by
        have := w3 ((bs ++ endB l ++ u).drop n')
        rw [List.take_append_drop] at this
        rw [this, w4, List.append_assoc]
        rfl
      obtain ⟨rfl, rfl⟩ := first_one hru hb i1 (by rw [i2]) w5 w6
      have ht' : t' = encs (runesI bs) := by
        rw [w7, i2, i0, htk]
      refine ⟨w1, ht', ?_⟩
      have hWW : WholeIs (R.zs l) (p0 l) (bs ++ endB l ++ u) t' n' true := .inl ⟨rfl, w2, w3, _, _, w4, w5, w6, w7⟩
      have e1 := whole_place hp.1 (by omega) hWW
      have hW2 : WholeIs (R.zs l) (p0 l) (bs ++ endB l ++ u) t' (bs ++ endB l).length true := .inl ⟨rfl, by simp, by rw [List.take_left]; exact hcut, _, _, by rw [List.take_left]; exact i0, w5, w6, w7⟩
      have e2 := whole_place hp.1 (by omega) hW2
      rw [List.take_left, i0, ← w4, e1] at e2
      exact e2
    · exfalso
      apply w3
      rw [hru, show l1 ++ r :: runesI u = (l1 ++ [r]) ++ runesI u by simp]
      exact over_more (by rw [i2]) _
set_option maxRecDepth 100000 in
set_option maxHeartbeats 1000000 in
theorem walk_data (w : World) (hT : Tb w) (hm : MaxOk w) (l bs us : List UInt8) (hl : l.length ≤ 1048576) (hb : bs.length ≤ 1048576) (hw : whZ l = 0) :
    Calls Tryd.prog 3 #[.string ⟨l.toArray⟩, .string ⟨bs.toArray⟩, .string ⟨us.toArray⟩] w fun e w' => e = .returned (.bool true) ∧ Below w.heap.size w w' := by
  have HL := hid_of (awake_calls w hT hm)
  have HS := hid_of (safe_data l bs w hw hl hb hm)
  clear hT hm hw
  go_enter Tryd.func3, Tryd.ntmps3
  go_wp2_with fail
  (go_at_call 4; refine HS.out.mono ?_; rintro e w2 ⟨rfl, h2⟩; obtain rfl : w = w2 := h2.symm)
  go_wp2_with fail
  (go_at_call 5; refine (num_calls 100 _ (by decide) (by decide)).mono ?_; rintro e w2 ⟨rfl, h2⟩; obtain rfl : w = w2 := h2.symm)
  go_wp2_with fail
  (go_at_call 6; refine HL.out.mono ?_; rintro e w9 ⟨rfl, hb9⟩)
  go_wp2_with fail
  go_ret
  exact ⟨rfl, hb9⟩
set_option maxRecDepth 100000 in
set_option maxHeartbeats 2000000 in
theorem walk_on (w : World) (hT : Tb w) (hm : MaxOk w) (l bs us : List UInt8) (hb : bs.length ≤ 1048576) (hu : us.length ≤ 1048576) (hw : whZ l ≠ 0) :
    Calls Tryd.prog 3 #[.string ⟨l.toArray⟩, .string ⟨bs.toArray⟩, .string ⟨us.toArray⟩] w fun e w' => e = .returned (.bool true) ∧ Below w.heap.size w w' := by
  have HL : Hid (∀ W, Below w.heap.size w W → Calls Tryd.prog 6 #[] W fun e w' => e = .returned (.bool true) ∧ Below W.heap.size W w') := fun W h => awake_calls W (tabs_below hT h) (max_below hm h)
  have hln := wh_len l hw
  have HS := hid_of (safe_calls l hw bs w (by omega) hT hm)
  have HWK := hid_of (fun W (h : Below w.heap.size w W) => whole_calls l hw (bs ++ endB l ++ us) W (by simp; omega) (tabs_below hT h) (max_below hm h))
  have HMD := hid_of (fun W => rmend_calls bs W (by omega))
  have HSM := hid_of (fun t t' n n' ok ok' => safe_more l hw bs us t t' n n' ok ok')
  have a1 : (⟨#[60, 47]⟩ : ByteArray) ++ ⟨l.toArray⟩ = ⟨([60, 47] ++ l).toArray⟩ := str_add [60, 47] l
  have a2 : (⟨([60, 47] ++ l).toArray⟩ : ByteArray) ++ ⟨#[62]⟩ = ⟨(endB l).toArray⟩ := str_add ([60, 47] ++ l) [62]
  have a3 : (⟨bs.toArray⟩ : ByteArray) ++ ⟨(endB l).toArray⟩ = ⟨(bs ++ endB l).toArray⟩ := str_add bs (endB l)
  have a4 : (⟨(bs ++ endB l).toArray⟩ : ByteArray) ++ ⟨us.toArray⟩ = ⟨(bs ++ endB l ++ us).toArray⟩ := str_add _ us
  have sb := arr_size bs
  have sl := arr_size l
  have su := arr_size us
  have s1 : (⟨([60, 47] ++ l).toArray⟩ : ByteArray).size = l.length + 2 := by rw [arr_size]; simp
  have s2 : (⟨(endB l).toArray⟩ : ByteArray).size = l.length + 3 := by rw [arr_size]; simp
  have s3 : (⟨(bs ++ endB l).toArray⟩ : ByteArray).size = (bs ++ endB l).length := by rw [arr_size]
  have hel : (bs ++ endB l).length ≤ 1048600 := by simp; omega
  obtain ⟨es, hes⟩ : ∃ es, bs ++ endB l = es := ⟨_, rfl⟩
  rw [hes] at a3 a4 s3 hel HWK HSM
  have HSE : Hid (∀ e W', SEnd w l bs e W' → ∃ t n ok, e = .returned (.tuple #[.bool (decide (t = encs (runesI bs))), .int .i64 0]) ∧ WholeIs (R.zs l) (p0 l) es t n ok ∧ Below w.heap.size w W') := fun e W' h => by rw [← hes]; exact h
  obtain ⟨x1, hx1⟩ : ∃ x1 : ByteArray, ⟨([60, 47] ++ l).toArray⟩ = x1 := ⟨_, rfl⟩
  obtain ⟨x2, hx2⟩ : ∃ x2 : ByteArray, ⟨(endB l).toArray⟩ = x2 := ⟨_, rfl⟩
  obtain ⟨x4, hx4⟩ : ∃ x4 : ByteArray, ⟨(es ++ us).toArray⟩ = x4 := ⟨_, rfl⟩
  rw [hx1] at a1 a2 s1
  rw [hx2] at a2 a3 s2
  rw [hx4] at a4 HWK
  clear hx1 hx2 hx4 hes hT hm hw
  go_enter Tryd.func3, Tryd.ntmps3
  go_wp2_with fail
  go_at_call 4
  refine HS.out.mono ?_
  intro e w1 hne
  obtain ⟨t, n, ok, rfl, hW, hb1⟩ := HSE.out e w1 hne
  clear hne
  have HW1 := hid_of hW
  clear hW
  go_wp2_with fail
  (go_at_call 5; refine (num_calls 0 _ (by decide) (by decide)).mono ?_; rintro e w2 ⟨rfl, h2⟩; obtain rfl : w1 = w2 := h2.symm)
  by_cases hs : t = encs (runesI bs)
  · have hd : decide (t = encs (runesI bs)) = true := decide_eq_true hs
    rw [hd]
    have HSS := hid_of hs
    clear hs hd
    generalize encs (runesI bs) = ms at *
    go_wp2_with fail
    go_at_call 7
    refine (HWK.out _ hb1).mono ?_
    rintro e w3 ⟨t', n', ok', rfl, hW', hb3'⟩
    have hb3 := hb1.trans (hb3'.mono hb1.size)
    obtain ⟨rfl, rfl, rfl⟩ := HSM.out t t' n n' ok ok' HW1.out HSS.out hW'
    clear hW' hb3'
    go_wp2_with fail
    (go_at_call 5; refine (num_calls 0 _ (by decide) (by decide)).mono ?_; rintro e w2 ⟨rfl, h2⟩; obtain rfl : w3 = w2 := h2.symm)
    go_wp2_with fail
    (go_at_call 8; refine (HMD.out _).mono ?_; rintro e w4 ⟨rfl, hb4'⟩)
    have hb4 := hb3.trans (hb4'.mono hb3.size)
    go_wp2_with fail
    (go_at_call 6; refine (HL.out _ hb4).mono ?_; rintro e w9 ⟨rfl, hb9⟩)
    go_wp2_with fail
    go_ret
    exact ⟨rfl, hb4.trans (hb9.mono hb4.size)⟩
  · have hd : decide (t = encs (runesI bs)) = false := decide_eq_false hs
    rw [hd]
    clear hs hd HSM HMD
    go_wp2_with fail
    go_at_call 7
    refine (HWK.out _ hb1).mono ?_
    rintro e w3 ⟨t', n', ok', rfl, hW', hb3'⟩
    have hb3 := hb1.trans (hb3'.mono hb1.size)
    clear hW' hb3'
    go_wp2_with fail
    (go_at_call 5; refine (num_calls 0 _ (by decide) (by decide)).mono ?_; rintro e w2 ⟨rfl, h2⟩; obtain rfl : w3 = w2 := h2.symm)
    go_wp2_with fail
    (go_at_call 6; refine (HL.out _ hb3).mono ?_; rintro e w9 ⟨rfl, hb9⟩)
    go_wp2_with fail
    go_ret
    exact ⟨rfl, hb3.trans (hb9.mono hb3.size)⟩
theorem walk (w : World) (hT : Tb w) (hm : MaxOk w) (s : ByteArray) (_hs0 : s.size ≤ 9223372036854775807) (hs : s.size ≤ 1048576) (t : ByteArray) (_ht0 : t.size ≤ 9223372036854775807) (ht : t.size ≤ 1048576) (u : ByteArray) (_hu0 : u.size ≤ 9223372036854775807) (hu : u.size ≤ 1048576) :
    Calls Tryd.prog 3 #[.string s, .string t, .string u] w fun e w' => e = .returned (.bool true) ∧ Below w.heap.size w w' := by
  have hl : s.data.toList.length ≤ 1048576 := by rw [size_data]; exact hs
  have hb : t.data.toList.length ≤ 1048576 := by rw [size_data]; exact ht
  have hc : u.data.toList.length ≤ 1048576 := by rw [size_data]; exact hu
  rw [← arr_eta s, ← arr_eta t, ← arr_eta u]
  by_cases h : whZ s.data.toList = 0
  · exact walk_data w hT hm _ _ _ hl hb h
  · exact walk_on w hT hm _ _ _ hb hc h

set_option maxRecDepth 100000 in
theorem contract (H : Type) (enc : TypeId × Value → H) (W : World) (base : Nat) (args : Array Value) (ds gs : List (DataW H)) (before : List MemPlace)
    (hval : ∀ (j : Nat) t v, Tryd.f3.params[j]? = some t → args[j]? = some v → Value.okWide Tryd.prog W .any base t v)
    (hW : DataW.Whole enc Tryd.prog Tryd.f3.params.toList Rows.rawSafeSpec.vars false W args.toList ds gs before) (hL : laidMetH Tryd.prog Rows.rawSafeUptoRow.laid W)(hsh : W.ShapedOpen Tryd.prog) (hk : Rows.uptoSmall H (ds ++ gs) = true) :
    Calls Tryd.prog 3 args W fun e W' => ∃ v, e = .returned v ∧ Rows.rawSafeSpec.post enc Tryd.prog Tryd.f3 false true false false W args v W' := by
  have hW' := hW
  have hlt := hW.lt
  obtain ⟨p, q, hA0, hV, rfl, hfz, hnd⟩ := hW
  have hA : DataW.TrodAll enc Tryd.prog W 0 (fun _ => true) true Tryd.f3.params.toList args.toList ds p := hA0
  rw [Tryd.params3] at hA hval
  obtain ⟨v0, vs0, d0, ds0, p0, q0, hargs, rfl, rfl, h0, r0⟩ := trodAll_cons hA
  obtain ⟨v1, vs1, d1, ds1, p1, q1, rfl, rfl, rfl, h1, r1⟩ := trodAll_cons r0
  obtain ⟨v2, vs2, d2, ds2, p2, q2, rfl, rfl, rfl, h2, r2⟩ := trodAll_cons r1
  obtain ⟨rfl, rfl, rfl⟩ := trodAll_nil r2
  obtain rfl : args = #[v0, v1, v2] := by cases args; simp_all
  obtain ⟨rfl, rfl⟩ := trodVars_none hV
  clear hA0
  simp only [List.append_nil] at hW' hlt hk
  have hbulk := of_decide_eq_true hk
  simp only [Rows.uptoBulkAll] at hbulk
  have h0' := h0
  obtain ⟨s0, rfl, rfl, e0, ws0⟩ := Go.ChangeMaps.open_string Tryd.underlying9 (hval 0 9 v0 rfl rfl) h0
  have h1' := h1
  obtain ⟨s1, rfl, rfl, e1, ws1⟩ := Go.ChangeMaps.open_string Tryd.underlying9 (hval 1 9 v1 rfl rfl) h1
  have h2' := h2
  obtain ⟨s2, rfl, rfl, e2, ws2⟩ := Go.ChangeMaps.open_string Tryd.underlying9 (hval 2 9 v2 rfl rfl) h2
  refine (walk W (tabs_of_laid hL) (Tryd.laysM144.s1_3 W hsh) s0 ws0 (by simp only [R.bulk_str, N.size_data] at hbulk; omega) s1 ws1 (by simp only [R.bulk_str, N.size_data] at hbulk; omega) s2 ws2 (by simp only [R.bulk_str, N.size_data] at hbulk; omega)).mono fun e W' ⟨he, hb⟩ => ?_
  subst he
  exact ⟨_, rfl, post_below hW' (fun _ _ _ => trodAll_cons_mk (shut_bool Tryd.underlying4 _) trodAll_mk0) (trodAll_cons_mk (stays (by kernel_rfl) (of_decide_eq_true (by kernel_rfl)) h0' hb (fun x hx => hlt x (by simp [hx]))) (trodAll_cons_mk (stays (by kernel_rfl) (of_decide_eq_true (by kernel_rfl)) h1' hb (fun x hx => hlt x (by simp [hx]))) (trodAll_cons_mk (stays (by kernel_rfl) (of_decide_eq_true (by kernel_rfl)) h2' hb (fun x hx => hlt x (by simp [hx]))) trodAll_mk0))) rfl hb⟩

set_option maxRecDepth 100000 in
theorem laid_met (os : Os) : laidMet Tryd.prog Rows.rawSafeUptoRow.laid ((withTabs (World.holding Tryd.prog os ⟨#[], #[], []⟩)).forCall (fun _ _ => 0) ⟨#[], #[Value.string ⟨#[]⟩, Value.string ⟨#[]⟩, Value.string ⟨#[]⟩], []⟩).memory :=
  laidMet_of_run' 8 (by kernel_rfl) (by kernel_rfl)
set_option maxRecDepth 100000 in
theorem reads (os : Os) {H : Type} (enc : TypeId × Value → H) : ∃ places, DataW.whole enc Tryd.prog ((withTabs (World.holding Tryd.prog os ⟨#[], #[], []⟩)).forCall (fun _ _ => 0) ⟨#[], #[Value.string ⟨#[]⟩, Value.string ⟨#[]⟩, Value.string ⟨#[]⟩], []⟩).memory Tryd.f3.params.toList Rows.rawSafeSpec.vars false #[Value.string ⟨#[]⟩, Value.string ⟨#[]⟩, Value.string ⟨#[]⟩].toList 8 = some ([.lit (.string []), .lit (.string []), .lit (.string [])], [], places) :=
  ⟨[], by kernel_rfl⟩

set_option maxRecDepth 100000 in
theorem lifted (os : Os) (started : os.Started) (H : Type) (enc : TypeId × Value → H) (F : Stop.Interp) :
    ReturnsInHanded {} Tryd.checked os 3 .any ((Rows.OpenSpec.upto Rows.rawSafeSpec).preRow enc Tryd.prog Tryd.f3 Rows.rawSafeUptoRow.domain false Rows.rawSafeUptoRow.laid) (((Rows.OpenSpec.upto Rows.rawSafeSpec).at F).post enc Tryd.prog Tryd.f3 false true false false) := by
  obtain ⟨places, hx⟩ := reads os enc
  refine returnsInHanded_of_row (C := Tryd.checked) (s := Rows.OpenSpec.upto Rows.rawSafeSpec) own started (by kernel_rfl) Tryd.func3
    (witness_row_at (enc := enc) (C := Tryd.checked) false (withTabs (World.holding Tryd.prog os ⟨#[], #[], []⟩)) #[Value.string ⟨#[]⟩, Value.string ⟨#[]⟩, Value.string ⟨#[]⟩] rfl (by kernel_rfl) (by kernel_rfl) (by kernel_rfl)
      (OpenSpec.preRow_of_cond 8 hx (by kernel_rfl) (fun k hk => by cases hk; kernel_rfl) (by kernel_rfl) (laid_met os))) ?_
  intro W base args ds gs before hval hW _ hcond _ hL hsh _
  exact contract H enc W base args ds gs before hval hW hL hsh (hcond _ rfl)

set_option maxRecDepth 100000 in
theorem said : Rows.RawSafeUptoSaid :=
  OpenClaim.holds_of_cond 3 Tryd.f3 rfl rfl rfl rfl rfl rfl rfl ⟨rfl, rfl, rfl, rfl, rfl⟩ rfl rfl rfl rfl rfl (by kernel_rfl) Tryd.func3 (by kernel_rfl)
    (of_decide_eq_true (by kernel_rfl)) (by unfold Func.isWrapper; first | (rw [if_pos (by decide +kernel)]; kernel_rfl) | (rw [if_neg (by decide +kernel)]; exact ⟨rfl, rfl⟩))
    (fun os started H enc _ F => by rw [OpenClaim.pre_eq_preRow]; exact lifted os started H enc F)

theorem plain (f : FuncId) (fn : Func) (hf : Tryd.pinned.checked.prog.funcNamed "sieve/sievelaw10.RawSafe" = some f) (hfn : Tryd.pinned.checked.prog.funcs[f]? = some fn) :
    false = Tryd.pinned.checked.prog.looks [] ∧ ∀ (j : Nat) t, fn.params[j]? = some t → Tryd.pinned.checked.prog.wantsStandIn t = false := by
  obtain rfl : f = 3 := Option.some.inj ((show Tryd.prog.funcNamed "sieve/sievelaw10.RawSafe" = some 3 by kernel_rfl).symm.trans hf) |>.symm
  obtain rfl : fn = Tryd.f3 := (Option.some.inj (Tryd.func3.symm.trans hfn)).symm
  refine ⟨by kernel_rfl, fun j t ht => ?_⟩
  rw [Tryd.params3] at ht
  have hm := Array.mem_of_getElem? ht
  simp only [List.mem_toArray, List.mem_cons, List.not_mem_nil, or_false] at hm
  rcases hm with rfl | rfl | rfl
  · exact (show Tryd.prog.wantsStandIn 9 = false by kernel_rfl)
  · exact (show Tryd.prog.wantsStandIn 9 = false by kernel_rfl)
  · exact (show Tryd.prog.wantsStandIn 9 = false by kernel_rfl)

theorem card : Rows.RawSafeUptoCardSaid :=
  Claim7.holds_tied_plain_at .later [] _ _ _ _ said (fun _ h => by cases h) (by kernel_rfl) (fun _ h => by cases h) rawSafeUpto_row_tie rfl ⟨rfl, rfl⟩ (by kernel_rfl) rfl plain (by kernel_rfl)

end Go.Proofs.YtmlklbbfmggbfabDoor.RSafeL
