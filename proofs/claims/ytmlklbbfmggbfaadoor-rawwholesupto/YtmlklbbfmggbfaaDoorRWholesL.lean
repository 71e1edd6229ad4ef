/- What is proved here: the statement RawWholes (every text as the content of every element: Where, Whole and Safe of raw are the document's) holds where the two texts have no more than 2^20 bytes together with what else the row counts, with no other condition but what the card says of the listed tables. -/
import Derived.Test.YtmlklbbfmggbfaaDoorCards
import Derived.Test.YtmlklbbfmggbfaaDoorTie
import Derived.Test.YtmlklbbfmggbfaaDoorBun2
import Derived.Test.YtmlklbbfmggbfaaDoorBun11
import Derived.Test.YtmlklbbfmggbfaaDoorRRWhole
import Derived.Test.YtmlklbbfmggbfaaDoorBun12
import Derived.ProofKit
import Derived.OpenShut
namespace Go.Proofs.YtmlklbbfmggbfaaDoor.RWholesL
open Go.ChangeShapes Go.WideShapes Go.ChangeAt Go.RowKit U N R

set_option maxRecDepth 100000 in
set_option maxHeartbeats 2000000 in
/-- Of a name whose content is data. -/
theorem walk_data (w : World) (hT : Tb w) (hm : MaxOk w) (l bs : List UInt8) (hl : l.length ≤ 1048576) (hb : bs.length ≤ 1048576) (hw : whZ l = 0) :
    Calls Tryd.prog 4 #[.string ⟨l.toArray⟩, .string ⟨bs.toArray⟩] w fun e w' => e = .returned (.bool true) ∧ Below w.heap.size w w' := by
  have HR := hid_of (rwhere_calls l w)
  have HM : Hid (∀ W, Below w.heap.size w W → MaxOk W) := fun W h => max_below hm h
  have HL : Hid (∀ W, Below w.heap.size w W → Calls Tryd.prog 10 #[] W fun e w' => e = .returned (.bool true) ∧ Below W.heap.size W w') := fun W h => awake_calls W (tabs_below hT h) (max_below hm h)
  have HW0 := hid_of hw
  rw [hw] at HR
  clear hT hm hw
  go_enter Tryd.func4, Tryd.ntmps4
  go_wp2_with fail
  (go_at_call 11; refine HR.out.mono ?_; rintro e w1 ⟨rfl, hb1⟩)
  go_wp2_with fail
  (go_at_call 12; refine (where_calls l _ (by omega) (HM.out _ hb1)).mono ?_; rintro e w2 ⟨rfl, h2⟩; obtain rfl : w1 = w2 := h2.symm; rw [HW0.out])
  go_wp2_with fail
  (go_at_call 13; refine (whole_data l bs _ HW0.out (by omega) (HM.out _ hb1)).mono ?_; rintro e w2 ⟨rfl, h2⟩; obtain rfl : w1 = w2 := h2.symm)
  go_wp2_with fail
  (go_at_call 14; refine (safe_data l bs _ HW0.out (by omega) (by omega) (HM.out _ hb1)).mono ?_; rintro e w2 ⟨rfl, h2⟩; obtain rfl : w1 = w2 := h2.symm)
  go_wp2_with fail
  (go_at_call 9; refine (num_calls 100 _ (by decide) (by decide)).mono ?_; rintro e w2 ⟨rfl, h2⟩; obtain rfl : w1 = w2 := h2.symm)
  go_wp2_with fail
  (go_at_call 9; refine (num_calls 100 _ (by decide) (by decide)).mono ?_; rintro e w2 ⟨rfl, h2⟩; obtain rfl : w1 = w2 := h2.symm)
  go_wp2_with fail
  (go_at_call 10; refine (HL.out _ hb1).mono ?_; rintro e w9 ⟨rfl, hb9⟩)
  go_wp2_with fail
  go_ret
  exact ⟨rfl, hb1.trans (hb9.mono hb1.size)⟩
/-- The document's runes of a text. -/
theorem runes_conv (bs : List UInt8) (w : World) (hl : bs.length ≤ 100000000) : Hid (∀ cap, bs.length ≤ cap → Calls Tryd.prog 15 #[.slice (some ⟨w.heap.size, 0, none⟩) bs.length cap] (Lib.bytesWorld w 5 ⟨bs.toArray⟩) fun e W' => ∃ a cap, e = .returned (.slice a (runesI bs).length cap) ∧ HasR W' a (runesI bs).length cap (runesI bs) ∧ Below w.heap.size w W') := fun cap hcap => by
  refine (rrunes_calls _ bs (w.heap.size + 1) _ (by omega) (RowB.hasB0 rfl (bytesWorld_row w 5 bs) hcap _ (Nat.lt_succ_self _))).mono ?_
  rintro e W' ⟨a, c, he, hown, hb⟩
  exact ⟨a, c, he, hasI_owns (e := 21) hown, (bytesWorld_below w 5 ⟨bs.toArray⟩).trans (hb.mono (bytesWorld_below w 5 ⟨bs.toArray⟩).size)⟩
theorem runes_range (bs : List UInt8) : ∀ z ∈ runesI bs, -2147483648 ≤ z ∧ z ≤ 2147483647 := by
  intro z hz
  have h : z ∈ (runesI bs).map mendR := by rw [runesI_mend]; exact hz
  obtain ⟨y, _, rfl⟩ := List.mem_map.1 h
  have := (valid_iff _).1 (mendR_valid y)
  omega
theorem first_part (l : List UInt8) (hw : whZ l ≠ 0) (bs t : List UInt8) (n : Nat) (ok : Bool) (hW : WholeIs (R.zs l) (p0 l) bs t n ok) : ∃ kk : Nat, rwV l (runesI bs) (refR (R.zs l) (p0 l) (runesI bs)) = .tuple #[.string ⟨t.toArray⟩, .int .i64 kk, .bool ok] ∧ placeV bs kk = n := by
  have hnm := wh_ok l hw
  have hp := p0_range l
  cases hr : refR (R.zs l) (p0 l) (runesI bs) with
  | none =>
    obtain ⟨rfl, rfl, rfl⟩ := whole_none hnm hp.1 hp.2 hW hr
    exact ⟨(runesI bs).length, by unfold rwV; simp, place_all bs⟩
  | some k =>
    obtain ⟨rfl, rfl, h3, h4, h5⟩ := whole_some hnm hp.1 hp.2 hW hr
    have hpl := whole_place hp.1 (by omega) hW
    rw [h5, show (R.zs l).length = l.length by simp] at hpl
    exact ⟨k + 2 + l.length + 1, by unfold rwV; simp, by rw [show k + 2 + l.length + 1 = k + 3 + l.length by omega]; exact hpl⟩
set_option maxRecDepth 100000 in
set_option maxHeartbeats 4000000 in
theorem walk_on (w : World) (hT : Tb w) (hm : MaxOk w) (l bs : List UInt8) (hb : bs.length ≤ 1048576) (hw : whZ l ≠ 0) :
    Calls Tryd.prog 4 #[.string ⟨l.toArray⟩, .string ⟨bs.toArray⟩] w fun e w' => e = .returned (.bool true) ∧ Below w.heap.size w w' := by
  have HR := hid_of (rwhere_calls l w)
  have HM : Hid (∀ W, Below w.heap.size w W → MaxOk W) := fun W h => max_below hm h
  have HTB : Hid (∀ W, Below w.heap.size w W → Tb W) := fun W h => tabs_below hT h
  have HL : Hid (∀ W, Below w.heap.size w W → Calls Tryd.prog 10 #[] W fun e w' => e = .returned (.bool true) ∧ Below W.heap.size W w') := fun W h => awake_calls W (tabs_below hT h) (max_below hm h)
  have hln := wh_len l hw
  have HW0 := hid_of hw
  have hne0 : ((whZ l : Int) == 0) = false := by simp; omega
  have hnq : ((whZ l : Int) != (whZ l : Int)) = false := by simp
  obtain ⟨wz, hwz⟩ : ∃ wz, whZ l = wz := ⟨_, rfl⟩
  rw [hwz] at HR hne0 hnq
  have HWZ := hid_of hwz
  clear hT hm hw hwz
  go_enter Tryd.func4, Tryd.ntmps4
  go_wp2_with fail
  (go_at_call 11; refine HR.out.mono ?_; rintro e w1 ⟨rfl, hb1⟩)
  go_wp2_with fail
  (go_at_call 12; refine (where_calls l _ (by omega) (HM.out _ hb1)).mono ?_; rintro e w2 ⟨rfl, h2⟩; obtain rfl : w1 = w2 := h2.symm; rw [HWZ.out])
  go_wp2_with fail
  go_at_call 13
  refine (whole_calls l HW0.out bs _ (by omega) (HTB.out _ hb1) (HM.out _ hb1)).mono ?_
  rintro e w2 ⟨t, n, ok, rfl, hW, hb2'⟩
  have hb2 := hb1.trans (hb2'.mono hb1.size)
  have HW1 := hid_of hW
  clear hW hb2'
  go_wp2_with fail
  go_at_call 14
  refine (safe_calls l HW0.out bs _ (by omega) (HTB.out _ hb2) (HM.out _ hb2)).mono ?_
  rintro e w3 ⟨t', n', ok', rfl, hW', hb3'⟩
  have hb3 := hb2.trans (hb3'.mono hb2.size)
  have HSR := hid_of (safe_right l HW0.out bs t' n' ok' hW')
  generalize decide (t' = encs (runesI bs)) = sf at *
  clear hW' hb3'
  have hcv := fun w => Lib.run_convert_string_bytes (P := Tryd.prog) w 9 34 5 ⟨bs.toArray⟩ Tryd.underlying9 Tryd.underlying34 Tryd.underlying5
  rw [byteArr_size] at hcv
  go_wp2_with fail
  go_at_call 15
  refine ((runes_conv bs w3 (by omega)).out _ (grownCap_ge _ _ _ _)).mono ?_
  rintro e w4 ⟨a4, c4, rfl, hI4, hb4'⟩
  have hb4 := hb3.trans (hb4'.mono hb3.size)
  have HI4 := hid_of hI4
  obtain ⟨kk, hkk, hpl⟩ := first_part l HW0.out bs t n ok HW1.out
  have hrl : (runesI bs).length ≤ 1048576 := by rw [runesI_length]; have := pcs_length bs; omega
  have HRW := hid_of (rwhole_calls l HW0.out a4 _ c4 (runesI bs) w4 hI4 (runes_range bs) (by omega))
  rw [hkk] at HRW
  have HBY : Hid (∀ W, Calls Tryd.prog 17 #[.string ⟨bs.toArray⟩, .int .i64 kk] W fun e W' => e = .returned (.int .i64 (placeV bs kk)) ∧ Below W.heap.size W W') := fun W => bytes_calls bs kk W (by omega)
  rw [hpl] at HBY
  clear hcv hb4' hI4 hkk hpl HW1
  go_wp2_with fail
  go_at_call 16
  refine HRW.out.mono ?_
  rintro e w5 ⟨rfl, hb5'⟩
  have hb5 := hb4.trans (hb5'.mono hb4.size)
  have HI5 := hid_of (HI4.out.below hb5')
  clear hb5' HI4
  go_wp2_with fail
  (go_at_call 9; refine (num_calls 0 _ (by decide) (by decide)).mono ?_; rintro e w2 ⟨rfl, h2⟩; obtain rfl : w5 = w2 := h2.symm)
  go_wp2_with fail
  (go_at_call 17; refine (HBY.out _).mono ?_; rintro e w6 ⟨rfl, hb6'⟩)
  have hb6 := hb5.trans (hb6'.mono hb5.size)
  have HI6 := hid_of (HI5.out.below hb6')
  clear hb6' HI5
  go_wp2_with fail
  (go_at_call 9; refine (num_calls 0 _ (by decide) (by decide)).mono ?_; rintro e w2 ⟨rfl, h2⟩; obtain rfl : w6 = w2 := h2.symm)
  have a1 : (⟨#[60, 47]⟩ : ByteArray) ++ ⟨l.toArray⟩ = ⟨([60, 47] ++ l).toArray⟩ := str_add [60, 47] l
  have a2 : (⟨([60, 47] ++ l).toArray⟩ : ByteArray) ++ ⟨#[62]⟩ = ⟨(endB l).toArray⟩ := str_add ([60, 47] ++ l) [62]
  have a3 : (⟨bs.toArray⟩ : ByteArray) ++ ⟨(endB l).toArray⟩ = ⟨(bs ++ endB l).toArray⟩ := str_add bs (endB l)
  have sb := arr_size bs
  have sl := arr_size l
  have s1 : (⟨([60, 47] ++ l).toArray⟩ : ByteArray).size = l.length + 2 := by rw [arr_size]; simp
  have s2 : (⟨(endB l).toArray⟩ : ByteArray).size = l.length + 3 := by rw [arr_size]; simp
  have s3 : (⟨(bs ++ endB l).toArray⟩ : ByteArray).size = (bs ++ endB l).length := by rw [arr_size]
  have hel : (bs ++ endB l).length = bs.length + l.length + 3 := by simp; omega
  obtain ⟨es, hes⟩ : ∃ es, bs ++ endB l = es := ⟨_, rfl⟩
  rw [hes] at a3 s3 hel HSR
  obtain ⟨x1, hx1⟩ : ∃ x1 : ByteArray, ⟨([60, 47] ++ l).toArray⟩ = x1 := ⟨_, rfl⟩
  obtain ⟨x2, hx2⟩ : ∃ x2 : ByteArray, ⟨(endB l).toArray⟩ = x2 := ⟨_, rfl⟩
  rw [hx1] at a1 a2 s1
  rw [hx2] at a2 a3 s2
  have hel2 : es.length ≤ 1048600 := by omega
  clear hx1 hx2 hes hel
  have hcv := fun w => Lib.run_convert_string_bytes (P := Tryd.prog) w 9 34 5 ⟨es.toArray⟩ Tryd.underlying9 Tryd.underlying34 Tryd.underlying5
  rw [byteArr_size] at hcv
  go_wp2_with fail
  go_at_call 15
  refine ((runes_conv es w6 (by omega)).out _ (grownCap_ge _ _ _ _)).mono ?_
  rintro e w7 ⟨a7, c7, rfl, hI7, hb7'⟩
  have hb7 := hb6.trans (hb7'.mono hb6.size)
  have HI8 := hid_of (HI6.out.below hb7')
  have hrl2 : (runesI es).length ≤ 1048600 := by rw [runesI_length]; have := pcs_length es; omega
  have HRW2 := hid_of (rwhole_calls l HW0.out a7 _ c7 (runesI es) w7 hI7 (runes_range es) (by omega))
  clear hcv hb7' hI7 HI6
  go_wp2_with fail
  go_at_call 16
  refine HRW2.out.mono ?_
  rintro e w8 ⟨rfl, hb8'⟩
  have hb8 := hb7.trans (hb8'.mono hb7.size)
  have hcr := conv_runes (HI8.out.below hb8')
  clear hb8' HI8 HRW2
  cases hr : refR (R.zs l) (p0 l) (runesI es) with
  | none =>
    have hsf : sf = false := by have h := HSR.out; rw [hr] at h; exact h
    have hv : rwV l (runesI es) none = .tuple #[.string ⟨(encs ((runesI es).take (runesI es).length)).toArray⟩, .int .i64 ((runesI es).length : Nat), .bool false] := rfl
    rw [hv]
    subst hsf
    clear hv hr
    go_wp2_with fail
    (go_at_call 10; refine (HL.out _ hb8).mono ?_; rintro e w9 ⟨rfl, hb9⟩)
    go_wp2_with fail
    go_ret
    exact ⟨rfl, hb8.trans (hb9.mono hb8.size)⟩
  | some k =>
    have hsf : sf = (decide (encs ((runesI es).take k) = encs (runesI bs)) && decide (placeV es (k + 2 + l.length + 1) = es.length)) := by have h := HSR.out; rw [hr] at h; exact h
    have hv : rwV l (runesI es) (some k) = .tuple #[.string ⟨(encs ((runesI es).take k)).toArray⟩, .int .i64 ((k + 2 + l.length + 1 : Nat) : Int), .bool true] := rfl
    rw [hv]
    clear hv hr HSR
    obtain ⟨m, hmm⟩ : ∃ m, k + 2 + l.length + 1 = m := ⟨_, rfl⟩
    rw [hmm] at hsf ⊢
    have HB2 : Hid (∀ W, Calls Tryd.prog 17 #[.string ⟨es.toArray⟩, .int .i64 m] W fun e W' => e = .returned (.int .i64 (placeV es m)) ∧ Below W.heap.size W W') := fun W => bytes_calls es m W (by omega)
    generalize placeV es m = pv at *
    generalize encs ((runesI es).take k) = x at *
    generalize encs (runesI bs) = y at *
    by_cases hxy : x = y
    · subst hxy
      by_cases hpv : pv = es.length
      · have : sf = true := by rw [hsf]; simp [hpv]
        subst this
        have e9 : ((pv : Int) == (es.length : Int)) = true := by simp [hpv]
        clear hsf hpv hmm
        go_wp2_with fail
        (go_at_call 17; refine (HB2.out _).mono ?_; rintro e w10 ⟨rfl, hb10'⟩)
        have hb10 := hb8.trans (hb10'.mono hb8.size)
        go_wp2_with fail
        (go_at_call 10; refine (HL.out _ hb10).mono ?_; rintro e w9 ⟨rfl, hb9⟩)
        go_wp2_with fail
        go_ret
        exact ⟨rfl, hb10.trans (hb9.mono hb10.size)⟩
      · have : sf = false := by rw [hsf]; simp [hpv]
        subst this
        have e9 : ((pv : Int) == (es.length : Int)) = false := by simp; omega
        clear hsf hpv hmm
        go_wp2_with fail
        (go_at_call 17; refine (HB2.out _).mono ?_; rintro e w10 ⟨rfl, hb10'⟩)
        have hb10 := hb8.trans (hb10'.mono hb8.size)
        go_wp2_with fail
        (go_at_call 10; refine (HL.out _ hb10).mono ?_; rintro e w9 ⟨rfl, hb9⟩)
        go_wp2_with fail
        go_ret
        exact ⟨rfl, hb10.trans (hb9.mono hb10.size)⟩
    · have : sf = false := by rw [hsf]; simp [hxy]
      subst this
      have e8 : (x == y) = false := by simpa using hxy
      clear hsf hxy hmm
      go_wp2_with fail
      (go_at_call 10; refine (HL.out _ hb8).mono ?_; rintro e w9 ⟨rfl, hb9⟩)
      go_wp2_with fail
      go_ret
      exact ⟨rfl, hb8.trans (hb9.mono hb8.size)⟩
theorem walk (w : World) (hT : Tb w) (hm : MaxOk w) (s : ByteArray) (_hs0 : s.size ≤ 9223372036854775807) (hs : s.size ≤ 1048576) (t : ByteArray) (_ht0 : t.size ≤ 9223372036854775807) (ht : t.size ≤ 1048576) :
    Calls Tryd.prog 4 #[.string s, .string t] w fun e w' => e = .returned (.bool true) ∧ Below w.heap.size w w' := by
  have hl : s.data.toList.length ≤ 1048576 := by rw [size_data]; exact hs
  have hb : t.data.toList.length ≤ 1048576 := by rw [size_data]; exact ht
  rw [← arr_eta s, ← arr_eta t]
  by_cases h : whZ s.data.toList = 0
  · exact walk_data w hT hm _ _ (by omega) (by omega) h
  · exact walk_on w hT hm _ _ (by omega) h

set_option maxRecDepth 100000 in
theorem contract (H : Type) (enc : TypeId × Value → H) (W : World) (base : Nat) (args : Array Value) (ds gs : List (DataW H)) (before : List MemPlace)
    (hval : ∀ (j : Nat) t v, Tryd.f4.params[j]? = some t → args[j]? = some v → Value.okWide Tryd.prog W .any base t v)
    (hW : DataW.Whole enc Tryd.prog Tryd.f4.params.toList Rows.rawWholesSpec.vars false W args.toList ds gs before) (hL : laidMetH Tryd.prog Rows.rawWholesUptoRow.laid W)(hsh : W.ShapedOpen Tryd.prog) (hk : Rows.uptoSmall H (ds ++ gs) = true) :
    Calls Tryd.prog 4 args W fun e W' => ∃ v, e = .returned v ∧ Rows.rawWholesSpec.post enc Tryd.prog Tryd.f4 false true false false W args v W' := by
  have hW' := hW
  have hlt := hW.lt
  obtain ⟨p, q, hA0, hV, rfl, hfz, hnd⟩ := hW
  have hA : DataW.TrodAll enc Tryd.prog W 0 (fun _ => true) true Tryd.f4.params.toList args.toList ds p := hA0
  rw [Tryd.params4] at hA hval
  obtain ⟨v0, vs0, d0, ds0, p0, q0, hargs, rfl, rfl, h0, r0⟩ := trodAll_cons hA
  obtain ⟨v1, vs1, d1, ds1, p1, q1, rfl, rfl, rfl, h1, r1⟩ := trodAll_cons r0
  obtain ⟨rfl, rfl, rfl⟩ := trodAll_nil r1
  obtain rfl : args = #[v0, v1] := by cases args; simp_all
  obtain ⟨rfl, rfl⟩ := trodVars_none hV
  clear hA0
  simp only [List.append_nil] at hW' hlt hk
  have hbulk := of_decide_eq_true hk
  simp only [Rows.uptoBulkAll] at hbulk
  have h0' := h0
  obtain ⟨s0, rfl, rfl, e0, ws0⟩ := Go.ChangeMaps.open_string Tryd.underlying9 (hval 0 9 v0 rfl rfl) h0
  have h1' := h1
  obtain ⟨s1, rfl, rfl, e1, ws1⟩ := Go.ChangeMaps.open_string Tryd.underlying9 (hval 1 9 v1 rfl rfl) h1
  refine (walk W (tabs_of_laid hL) (Tryd.laysM144.s1_3 W hsh) s0 ws0 (by simp only [R.bulk_str, N.size_data] at hbulk; omega) s1 ws1 (by simp only [R.bulk_str, N.size_data] at hbulk; omega)).mono fun e W' ⟨he, hb⟩ => ?_
  subst he
  exact ⟨_, rfl, post_below hW' (fun _ _ _ => trodAll_cons_mk (shut_bool Tryd.underlying4 _) trodAll_mk0) (trodAll_cons_mk (stays (by kernel_rfl) (of_decide_eq_true (by kernel_rfl)) h0' hb (fun x hx => hlt x (by simp [hx]))) (trodAll_cons_mk (stays (by kernel_rfl) (of_decide_eq_true (by kernel_rfl)) h1' hb (fun x hx => hlt x (by simp [hx]))) trodAll_mk0)) rfl hb⟩

set_option maxRecDepth 100000 in
theorem laid_met (os : Os) : laidMet Tryd.prog Rows.rawWholesUptoRow.laid ((withTabs (World.holding Tryd.prog os ⟨#[], #[], []⟩)).forCall (fun _ _ => 0) ⟨#[], #[Value.string ⟨#[]⟩, Value.string ⟨#[]⟩], []⟩).memory :=
  laidMet_of_run' 8 (by kernel_rfl) (by kernel_rfl)
set_option maxRecDepth 100000 in
theorem reads (os : Os) {H : Type} (enc : TypeId × Value → H) : ∃ places, DataW.whole enc Tryd.prog ((withTabs (World.holding Tryd.prog os ⟨#[], #[], []⟩)).forCall (fun _ _ => 0) ⟨#[], #[Value.string ⟨#[]⟩, Value.string ⟨#[]⟩], []⟩).memory Tryd.f4.params.toList Rows.rawWholesSpec.vars false #[Value.string ⟨#[]⟩, Value.string ⟨#[]⟩].toList 8 = some ([.lit (.string []), .lit (.string [])], [], places) :=
  ⟨[], by kernel_rfl⟩

set_option maxRecDepth 100000 in
theorem lifted (os : Os) (started : os.Started) (H : Type) (enc : TypeId × Value → H) (F : Stop.Interp) :
    ReturnsInHanded {} Tryd.checked os 4 .any ((Rows.OpenSpec.upto Rows.rawWholesSpec).preRow enc Tryd.prog Tryd.f4 Rows.rawWholesUptoRow.domain false Rows.rawWholesUptoRow.laid) (((Rows.OpenSpec.upto Rows.rawWholesSpec).at F).post enc Tryd.prog Tryd.f4 false true false false) := by
  obtain ⟨places, hx⟩ := reads os enc
  refine returnsInHanded_of_row (C := Tryd.checked) (s := Rows.OpenSpec.upto Rows.rawWholesSpec) own started (by kernel_rfl) Tryd.func4
    (witness_row_at (enc := enc) (C := Tryd.checked) false (withTabs (World.holding Tryd.prog os ⟨#[], #[], []⟩)) #[Value.string ⟨#[]⟩, Value.string ⟨#[]⟩] rfl (by kernel_rfl) (by kernel_rfl) (by kernel_rfl)
      (OpenSpec.preRow_of_cond 8 hx (by kernel_rfl) (fun k hk => by cases hk; kernel_rfl) (by kernel_rfl) (laid_met os))) ?_
  intro W base args ds gs before hval hW _ hcond _ hL hsh _
  exact contract H enc W base args ds gs before hval hW hL hsh (hcond _ rfl)

set_option maxRecDepth 100000 in
theorem said : Rows.RawWholesUptoSaid :=
  OpenClaim.holds_of_cond 4 Tryd.f4 rfl rfl rfl rfl rfl rfl rfl ⟨rfl, rfl, rfl, rfl, rfl⟩ rfl rfl rfl rfl rfl (by kernel_rfl) Tryd.func4 (by kernel_rfl)
    (of_decide_eq_true (by kernel_rfl)) (by unfold Func.isWrapper; first | (rw [if_pos (by decide +kernel)]; kernel_rfl) | (rw [if_neg (by decide +kernel)]; exact ⟨rfl, rfl⟩))
    (fun os started H enc _ F => by rw [OpenClaim.pre_eq_preRow]; exact lifted os started H enc F)

theorem plain (f : FuncId) (fn : Func) (hf : Tryd.pinned.checked.prog.funcNamed "sieve/sievelaw10.RawWholes" = some f) (hfn : Tryd.pinned.checked.prog.funcs[f]? = some fn) :
    false = Tryd.pinned.checked.prog.looks [] ∧ ∀ (j : Nat) t, fn.params[j]? = some t → Tryd.pinned.checked.prog.wantsStandIn t = false := by
  obtain rfl : f = 4 := Option.some.inj ((show Tryd.prog.funcNamed "sieve/sievelaw10.RawWholes" = some 4 by kernel_rfl).symm.trans hf) |>.symm
  obtain rfl : fn = Tryd.f4 := (Option.some.inj (Tryd.func4.symm.trans hfn)).symm
  refine ⟨by kernel_rfl, fun j t ht => ?_⟩
  rw [Tryd.params4] at ht
  have hm := Array.mem_of_getElem? ht
  simp only [List.mem_toArray, List.mem_cons, List.not_mem_nil, or_false] at hm
  rcases hm with rfl | rfl
  · exact (show Tryd.prog.wantsStandIn 9 = false by kernel_rfl)
  · exact (show Tryd.prog.wantsStandIn 9 = false by kernel_rfl)

theorem card : Rows.RawWholesUptoCardSaid :=
  Claim7.holds_tied_plain_at .later [] _ _ _ _ said (fun _ h => by cases h) (by kernel_rfl) (fun _ h => by cases h) rawWholesUpto_row_tie rfl ⟨rfl, rfl⟩ (by kernel_rfl) rfl plain (by kernel_rfl)

end Go.Proofs.YtmlklbbfmggbfaaDoor.RWholesL
