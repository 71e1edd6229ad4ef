/- What is proved here: the statement ValueStays (what is written stays, is valid and plain; the words of words that are written are the words) holds for rules, schemes and values up to the size that the statement's narrower form names, with no other condition but what the card says of the listed tables. -/
import Derived.Test.YtfbfigjjnpamiaaGreatDoorCards
import Derived.Test.YtfbfigjjnpamiaaGreatDoorTie
import Derived.Test.YtfbfigjjnpamiaaGreatDoorBun1
import Derived.Test.YtfbfigjjnpamiaaGreatDoorVAll
import Derived.ProofKit
import Derived.OpenShut
namespace Go.Proofs.YtfbfigjjnpamiaaGreatDoor.VStaysL
open Go.ChangeShapes Go.WideShapes Go.ChangeAt Go.RowKit U N L V

theorem pl_ok {t : List UInt8} (h : Pl t) : (pcs t).all Pc.ok = true := by
  obtain ⟨zs, hV, _, rfl⟩ := h
  exact (runesI_encs zs).2
theorem two_new (w : World) (b r : Array Value) (W : World) (hW : (w.alloc (.cells b 39)).alloc (.cells r 41) = W) : Blk W w.heap.size b 39 ∧ Blk W (w.heap.size + 1) r 41 ∧ Below w.heap.size w W := by
  subst hW
  have z1 : (w.alloc (.cells b 39)).heap.size = w.heap.size + 1 := Array.size_push _
  refine ⟨(Blk.new w _ _).alloc _, ?_, ((Below.refl _ w).alloc (Nat.le_refl _) _).alloc (by omega) _⟩
  have := Blk.new (w.alloc (.cells b 39)) r 41
  rw [z1] at this
  exact this
set_option maxRecDepth 100000 in
set_option maxHeartbeats 8000000 in
theorem walk_on (w : World) (hT : Vt w) (hm : MaxV w) (nm : ByteArray) (kd : Int) (wa : Option Addr) (wc : Nat) (ws : List (List UInt8)) (hw : TextsAt w wa ws) (hwl : ws.length ≤ 1048576) (hwx : ∀ x ∈ ws, x.length ≤ 1048576)
    (sa : Option Addr) (sc : Nat) (L : List (List UInt8)) (rel : Bool) (hL : TextsAt w sa L) (hll : L.length ≤ 1048576) (hlx : ∀ x ∈ L, x.length ≤ 1048576) (v : List UInt8) (hv : v.length ≤ 1048576) :
    Calls Tryz.prog 7 #[.agg #[.string nm, .int .i64 kd, .slice wa ws.length wc], .agg #[.slice sa L.length sc, .bool rel], .string ⟨v.toArray⟩] w fun e w' => e = .returned (.bool true) ∧ Below w.heap.size w w' := by
  obtain ⟨W, hW⟩ : ∃ W, (w.alloc (.cells #[.string nm, .int .i64 kd, .slice wa ws.length wc] 39)).alloc (.cells #[.slice sa L.length sc, .bool rel] 41) = W := ⟨_, rfl⟩
  obtain ⟨hK0, hK1, hb0⟩ := two_new w _ _ W hW
  have HW := hid_of hW
  have HB0 := hid_of hb0
  have HK0 := hid_of hK0
  have HK1 := hid_of hK1
  have HRI := hid_of (right_calls sa sc L W (hL.below hb0) (by omega))
  have hfl : (L.filter rightC).length ≤ 1048576 := Nat.le_trans (List.length_filter_le _ _) hll
  have HFX : Hid (∀ x ∈ L.filter rightC, x.length ≤ 1000000000) := fun x hx => by have := hlx x (List.mem_filter.1 hx).1; omega
  have HLI : Hid (∀ W, Below w.heap.size w W → Calls Tryz.prog 8 #[] W fun e W' => e = .returned (.bool true) ∧ Below W.heap.size W W') := fun W h => lives_calls W (hT.1.below h)
  have HTO : Hid (∀ (x : List UInt8) W, x.length ≤ 100000000 → Below w.heap.size w W → Calls Tryz.prog 9 #[.string ⟨x.toArray⟩] W fun e W' => ∃ u, e = .returned u ∧ OwnT W.heap.size W' u (fields (clB x)) ∧ Below W.heap.size W W') := fun x W hx h => Tokens_calls x W (hT.1.below h) (by omega)
  have HTI : Hid (∀ (k : Nat) (x : List UInt8) W a c, k < 9 → x.length ≤ 100000000 → Below w.heap.size w W → TextsAt W a (L.filter rightC) → (L.filter rightC).length ≤ c → Calls Tryz.prog 20 #[.agg #[.string nm, .int .i64 k, .slice wa ws.length wc], .slice a (L.filter rightC).length c, .bool rel, .string ⟨x.toArray⟩] W fun e W' => e = .returned (.tuple #[.string ⟨((tidyK k ws (L.filter rightC) rel (clB x)).getD []).toArray⟩, .bool (tidyK k ws (L.filter rightC) rel (clB x)).isSome, .int .i64 0]) ∧ Below W.heap.size W W') := fun k x W a c hk hx h ht hc =>
    Tidy_calls k hk nm wa a wc c ws (L.filter rightC) rel x W ⟨hT.1.below h, hT.2.1.below h, pow_below hT.2.2 h⟩ (hm.below h) hx (hw.below h) ht (by omega) (by omega) hc (fun y hy => by have := hwx y hy; omega) HFX.out
  have HSA : Hid (∀ k x t, tidyK k ws (L.filter rightC) rel (clB x) = some t → (Pl t ∧ tidyK k ws (L.filter rightC) rel t = some t) ∧ t.length ≤ 4 * (clB x).length + 16) := fun k x t h => ⟨tidy_stays k _ _ _ _ _ (pl_cl x) h, tidy_len k _ _ _ _ _ (pl_cl x) h⟩
  generalize L.filter rightC = SS at *
  have x0 := hK0.cell 0
  have x1 := hK0.cell 1
  have x2 := hK0.cell 2
  have y0 := hK1.cell 0
  have y1 := hK1.cell 1
  simp at x0 x1 x2 y0 y1
  clear hW hK0 hK1 hb0 hT hm hw hwl hwx hL hlx
  go_enter Tryz.func7, Tryz.ntmps7
  go_upto_region 1 with fail
  rw [HW.out]
  go_wp2_with fail
  (go_at_call 19; refine HRI.out.mono ?_; rintro e w1 ⟨u, rfl, hO, hb1⟩)
  obtain ⟨la, lc, rfl⟩ := owns_slice hO
  obtain ⟨hTA, _, hlc⟩ := textsAt_own hO
  have HTA := hid_of hTA
  have HB1 := hid_of (HB0.out.trans (hb1.mono HB0.out.size))
  have HK01 := hid_of (HK0.out.below hb1)
  have HK11 := hid_of (HK1.out.below hb1)
  clear hb1 hO hTA x0 x1 x2 y0 y1 HK0 HK1 HRI
  have x0 := HK01.out.cell 0
  have x1 := HK01.out.cell 1
  have x2 := HK01.out.cell 2
  have y0 := HK11.out.cell 0
  have y1 := HK11.out.cell 1
  simp at x0 x1 x2 y0 y1
  by_cases hkd : kd < 0 ∨ 8 < kd
  case' pos =>
    have HNO := hid_of (Tidy_none kd hkd nm wa la ws.length wc SS.length lc rel v w1)
    clear hkd HTI HSA
    go_wp2_with fail
    (go_at_call 20; refine HNO.out.mono ?_; rintro e w2 ⟨rfl, hb2⟩)
    have HB2 := hid_of (HB1.out.trans (hb2.mono HB1.out.size))
    clear hb2
    go_wp2_with fail
    (go_at_call 8; refine (HLI.out _ HB2.out).mono ?_; rintro e w3 ⟨rfl, hb3⟩)
    have HB3 := hid_of (HB2.out.trans (hb3.mono HB2.out.size))
    clear hb3
    go_wp2_with fail
    go_ret
    exact ⟨rfl, HB3.out⟩
  obtain ⟨k, rfl⟩ : ∃ k : Nat, kd = k := ⟨kd.toNat, by omega⟩
  have hk9 : k < 9 := by omega
  have HT1 := hid_of (HTI.out k v w1 la lc hk9 (by omega) HB1.out HTA.out hlc)
  obtain ⟨o, ho⟩ : ∃ o, tidyK k ws SS rel (clB v) = o := ⟨_, rfl⟩
  have HO := hid_of ho
  rw [ho] at HT1
  clear hkd ho
  cases o with
  | none =>
    go_wp2_with fail
    (go_at_call 20; refine HT1.out.mono ?_; rintro e w2 ⟨rfl, hb2⟩)
    have HB2 := hid_of (HB1.out.trans (hb2.mono HB1.out.size))
    clear hb2
    go_wp2_with fail
    (go_at_call 8; refine (HLI.out _ HB2.out).mono ?_; rintro e w3 ⟨rfl, hb3⟩)
    have HB3 := hid_of (HB2.out.trans (hb3.mono HB2.out.size))
    clear hb3
    go_wp2_with fail
    go_ret
    exact ⟨rfl, HB3.out⟩
  | some t =>
    obtain ⟨⟨hpl, hag⟩, htl0⟩ := HSA.out k v t HO.out
    have hcv0 := clB_len v
    have htl : t.length ≤ 100000000 := by omega
    have hct := hpl.cl
    have hok := pl_ok hpl
    simp only [Option.getD_some, Option.isSome_some] at HT1
    have HCT := hid_of hct
    have HT2 : Hid (∀ W, Below w.heap.size w W → TextsAt W la SS → Calls Tryz.prog 20 #[.agg #[.string nm, .int .i64 k, .slice wa ws.length wc], .slice la SS.length lc, .bool rel, .string ⟨t.toArray⟩] W fun e W' => e = .returned (.tuple #[.string ⟨t.toArray⟩, .bool true, .int .i64 0]) ∧ Below W.heap.size W W') := fun W h ht => by
      have hh := HTI.out k t W la lc hk9 htl h ht hlc
      rw [hct, hag] at hh
      exact hh
    have HVA : Hid (∀ W cap, t.length ≤ cap → Calls Tryz.prog 21 #[.slice (some ⟨W.heap.size, 0, none⟩) t.length cap] (Lib.bytesWorld W 5 ⟨t.toArray⟩) fun e w' => e = .returned (.bool true) ∧ Below (Lib.bytesWorld W 5 ⟨t.toArray⟩).heap.size (Lib.bytesWorld W 5 ⟨t.toArray⟩) w') := fun W cap hc => by
      have h := rvalid_calls _ t (W.heap.size + 1) _ (by omega) (RowB.hasB0 rfl (bytesWorld_row W 5 t) hc _ (Nat.lt_succ_self _))
      rw [hok] at h
      exact h
    have HRC : Hid (∀ W, Calls Tryz.prog 22 #[.string ⟨t.toArray⟩] W fun e W' => e = .returned (.string ⟨t.toArray⟩) ∧ Below W.heap.size W W') := fun W => by
      have h := rclean_calls t W (by omega)
      rw [hct] at h
      exact h
    have HF1 : Hid (k = 1 → fields (clB t) = fields (clB v)) := fun h => by
      subst h
      have ht : collapse (clB v) = t := Option.some.inj HO.out
      rw [hct, ← ht, fields_collapse]
    have hfc := fields_count (clB v)
    have hte : (t == t) = true := by simp
    clear hpl hag hct hok HTI HSA HO htl0
    go_wp2_with fail
    (go_at_call 20; refine HT1.out.mono ?_; rintro e w2 ⟨rfl, hb2⟩)
    have HB2 := hid_of (HB1.out.trans (hb2.mono HB1.out.size))
    have HTA2 := hid_of (HTA.out.below hb2)
    have HK02 := hid_of (HK01.out.below hb2)
    have HK12 := hid_of (HK11.out.below hb2)
    clear hb2 x0 x1 x2 y0 y1 HK01 HK11 HT1 HB1 HTA
    have x0 := HK02.out.cell 0
    have x1 := HK02.out.cell 1
    have x2 := HK02.out.cell 2
    have y0 := HK12.out.cell 0
    have y1 := HK12.out.cell 1
    simp at x0 x1 x2 y0 y1
    go_wp2_with fail
    (go_at_call 20; refine (HT2.out _ HB2.out HTA2.out).mono ?_; rintro e w3 ⟨rfl, hb3⟩)
    have HB3 := hid_of (HB2.out.trans (hb3.mono HB2.out.size))
    have HK03 := hid_of (HK02.out.below hb3)
    have hcv := Lib.run_convert_string_bytes (P := Tryz.prog) w3 9 47 5 ⟨t.toArray⟩ Tryz.underlying9 Tryz.underlying47 Tryz.underlying5
    rw [byteArr_size] at hcv
    have HB4 : Hid (Below w.heap.size w (Lib.bytesWorld w3 5 ⟨t.toArray⟩)) := HB3.out.trans ((bytesWorld_below w3 5 ⟨t.toArray⟩).mono HB3.out.size)
    have HK04 : Hid (Blk (Lib.bytesWorld w3 5 ⟨t.toArray⟩) w.heap.size #[.string nm, .int .i64 k, .slice wa ws.length wc] 39) := HK03.out.below (bytesWorld_below w3 5 ⟨t.toArray⟩)
    clear hb3 x0 x1 x2 y0 y1 HK02 HK12 HT2 HB2 HTA2 HK03
    go_wp2_with fail
    (go_at_call 21; refine (HVA.out _ _ (grownCap_ge _ _ _ _)).mono ?_; rintro e w5 ⟨rfl, hb5⟩)
    have HB5 := hid_of (HB4.out.trans (hb5.mono HB4.out.size))
    have HK05 := hid_of (HK04.out.below hb5)
    clear hb5 hcv HB4 HK04 HB3
    go_wp2_with fail
    (go_at_call 22; refine (HRC.out _).mono ?_; rintro e w6 ⟨rfl, hb6⟩)
    have HB6 := hid_of (HB5.out.trans (hb6.mono HB5.out.size))
    have HK06 := hid_of (HK05.out.below hb6)
    clear hb6 HB5 HK05
    have x1 := HK06.out.cell 1
    simp at x1
    by_cases h1 : k = 1
    case' neg =>
      have c1 : ((k : Int) != 1) = true := by rw [bne_iff_ne]; omega
      clear h1
      go_wp2_with fail
      (go_at_call 8; refine (HLI.out _ HB6.out).mono ?_; rintro e w7 ⟨rfl, hb7⟩)
      have HB7 := hid_of (HB6.out.trans (hb7.mono HB6.out.size))
      clear hb7
      go_wp2_with fail
      go_ret
      exact ⟨rfl, HB7.out⟩
    have HF := hid_of (HF1.out h1)
    have c1 : ((k : Int) != 1) = false := by rw [bne_eq_false_iff_eq]; omega
    clear h1 HF1
    go_wp2_with fail
    (go_at_call 9; refine (HTO.out t _ htl HB6.out).mono ?_; rintro e w7 ⟨u1, rfl, hO1, hb7⟩)
    have HB7 := hid_of (HB6.out.trans (hb7.mono HB6.out.size))
    rw [HF.out] at hO1
    have HO1 := hid_of hO1
    clear hb7 hO1
    go_wp2_with fail
    (go_at_call 9; refine (HTO.out v _ (by omega) HB7.out).mono ?_; rintro e w8 ⟨u2, rfl, hO2, hb8⟩)
    have HB8 := hid_of (HB7.out.trans (hb8.mono HB7.out.size))
    have hO1 : OwnT w6.heap.size w8 u1 (fields (clB v)) := owns_below HO1.out hb8
    have HSM := hid_of (same_calls (fields (clB v)) (fields (clB v)) u1 u2 w8 (by omega) (by omega) (HasT.of hO1) (HasT.of hO2))
    rw [show decide (fields (clB v) = fields (clB v)) = true by simp] at HSM
    clear hb8 hO1 hO2 HO1
    go_wp2_with fail
    (go_at_call 13; refine HSM.out.mono ?_; rintro e w9 ⟨rfl, hb9⟩)
    have HB9 := hid_of (HB8.out.trans (hb9.mono HB8.out.size))
    clear hb9
    go_wp2_with fail
    (go_at_call 8; refine (HLI.out _ HB9.out).mono ?_; rintro e w10 ⟨rfl, hb10⟩)
    have HB10 := hid_of (HB9.out.trans (hb10.mono HB9.out.size))
    clear hb10
    go_wp2_with fail
    go_ret
    exact ⟨rfl, HB10.out⟩
theorem walk (w : World) (hT : Vt w) (hm : MaxV w) (nm : ByteArray) (kd : Int) (wa : Option Addr) (wc : Nat) (ws : List (List UInt8)) (hw : TextsAt w wa ws) (hwl : ws.length ≤ 1048576) (hwx : ∀ x ∈ ws, x.length ≤ 1048576)
    (sa : Option Addr) (sc : Nat) (L : List (List UInt8)) (rel : Bool) (hL : TextsAt w sa L) (hll : L.length ≤ 1048576) (hlx : ∀ x ∈ L, x.length ≤ 1048576) (s : ByteArray) (_hs0 : s.size ≤ 9223372036854775807) (hs : s.size ≤ 1048576) :
    Calls Tryz.prog 7 #[.agg #[.string nm, .int .i64 kd, .slice wa ws.length wc], .agg #[.slice sa L.length sc, .bool rel], .string s] w fun e w' => e = .returned (.bool true) ∧ Below w.heap.size w w' := by
  have h := walk_on w hT hm nm kd wa wc ws hw hwl hwx sa sc L rel hL hll hlx s.data.toList (by rw [N.size_data]; exact hs)
  rw [Lib.mk_data] at h
  exact h

set_option maxRecDepth 100000 in
theorem contract (H : Type) (enc : TypeId × Value → H) (W : World) (base : Nat) (args : Array Value) (ds gs : List (DataW H)) (before : List MemPlace)
    (hval : ∀ (j : Nat) t v, Tryz.f7.params[j]? = some t → args[j]? = some v → Value.okWide Tryz.prog W .any base t v)
    (hW : DataW.Whole enc Tryz.prog Tryz.f7.params.toList Rows.valueStaysSpec.vars false W args.toList ds gs before) (hL : laidMetH Tryz.prog Rows.valueStaysUptoRow.laid W)(hsh : W.ShapedOpen Tryz.prog) (hk : Rows.uptoSmall H (ds ++ gs) = true) :
    Calls Tryz.prog 7 args W fun e W' => ∃ v, e = .returned v ∧ Rows.valueStaysSpec.post enc Tryz.prog Tryz.f7 false true false false W args v W' := by
  have hW' := hW
  have hlt := hW.lt
  obtain ⟨p, q, hA0, hV, rfl, hfz, hnd⟩ := hW
  have hA : DataW.TrodAll enc Tryz.prog W 0 (fun _ => true) true Tryz.f7.params.toList args.toList ds p := hA0
  rw [Tryz.params7] at hA hval
  obtain ⟨v0, vs0, d0, ds0, p0, q0, hargs, rfl, rfl, h0, r0⟩ := trodAll_cons hA
  obtain ⟨v1, vs1, d1, ds1, p1, q1, rfl, rfl, rfl, h1, r1⟩ := trodAll_cons r0
  obtain ⟨v2, vs2, d2, ds2, p2, q2, rfl, rfl, rfl, h2, r2⟩ := trodAll_cons r1
  obtain ⟨rfl, rfl, rfl⟩ := trodAll_nil r2
  obtain rfl : args = #[v0, v1, v2] := by cases args; simp_all
  obtain ⟨rfl, rfl⟩ := trodVars_none hV
  clear hA0
  simp only [List.append_nil] at hW' hlt hk
  have hbulk := of_decide_eq_true hk
  simp only [Rows.uptoBulkAll] at hbulk
  obtain ⟨nm0, kd0, wa0, wc0, ws0, rfl, cw0, hw0, l0, lx0⟩ := V.rule_of_read (hval 0 39 v0 rfl rfl) h0
  obtain ⟨sa1, sc1, ss1, rl1, rfl, cs1, hs1, l1, lx1⟩ := V.schemes_of_read (hval 1 41 v1 rfl rfl) h1
  have h2' := h2
  obtain ⟨s2, rfl, rfl, e2, ws2⟩ := Go.ChangeMaps.open_string Tryz.underlying9 (hval 2 9 v2 rfl rfl) h2
  refine (walk W (tabsV_of_laid hL) (Tryz.laysM146.s1_3 W hsh) nm0 kd0 wa0 wc0 ws0 hw0 (by omega) (fun x hx => by have := lx0 x hx; omega) sa1 sc1 ss1 rl1 hs1 (by omega) (fun x hx => by have := lx1 x hx; omega) s2 ws2 (by simp only [V.bulk_str, N.size_data] at hbulk; omega)).mono fun e W' ⟨he, hb⟩ => ?_
  subst he
  exact ⟨_, rfl, post_below hW' (fun _ _ _ => trodAll_cons_mk (shut_bool Tryz.underlying4 _) trodAll_mk0) (trodAll_cons_mk (stays (by kernel_rfl) (of_decide_eq_true (by kernel_rfl)) h0 hb (fun x hx => hlt x (by simp [hx]))) (trodAll_cons_mk (stays (by kernel_rfl) (of_decide_eq_true (by kernel_rfl)) h1 hb (fun x hx => hlt x (by simp [hx]))) (trodAll_cons_mk (stays (by kernel_rfl) (of_decide_eq_true (by kernel_rfl)) h2' hb (fun x hx => hlt x (by simp [hx]))) trodAll_mk0))) rfl hb⟩

set_option maxRecDepth 100000 in
theorem laid_met (os : Os) : laidMet Tryz.prog Rows.valueStaysUptoRow.laid ((withTabsV (World.holding Tryz.prog os ⟨#[], #[], []⟩)).forCall (fun _ _ => 0) ⟨#[], #[Value.agg #[.string ⟨#[]⟩, .int .i64 0, .slice none 0 0], Value.agg #[.slice none 0 0, .bool false], Value.string ⟨#[]⟩], []⟩).memory :=
  laidMet_of_run' 8 (by kernel_rfl) (by kernel_rfl)
set_option maxRecDepth 100000 in
theorem reads (os : Os) {H : Type} (enc : TypeId × Value → H) : ∃ places, DataW.whole enc Tryz.prog ((withTabsV (World.holding Tryz.prog os ⟨#[], #[], []⟩)).forCall (fun _ _ => 0) ⟨#[], #[Value.agg #[.string ⟨#[]⟩, .int .i64 0, .slice none 0 0], Value.agg #[.slice none 0 0, .bool false], Value.string ⟨#[]⟩], []⟩).memory Tryz.f7.params.toList Rows.valueStaysSpec.vars false #[Value.agg #[.string ⟨#[]⟩, .int .i64 0, .slice none 0 0], Value.agg #[.slice none 0 0, .bool false], Value.string ⟨#[]⟩].toList 8 = some ([.agg [.lit (.string []), .lit (.int .i64 0), .nil], .agg [.nil, .lit (.bool false)], .lit (.string [])], [], places) :=
  ⟨[], by kernel_rfl⟩

set_option maxRecDepth 100000 in
theorem lifted (os : Os) (started : os.Started) (H : Type) (enc : TypeId × Value → H) (F : Stop.Interp) :
    ReturnsInHanded {} Tryz.checked os 7 .any ((Rows.OpenSpec.upto Rows.valueStaysSpec).preRow enc Tryz.prog Tryz.f7 Rows.valueStaysUptoRow.domain false Rows.valueStaysUptoRow.laid) (((Rows.OpenSpec.upto Rows.valueStaysSpec).at F).post enc Tryz.prog Tryz.f7 false true false false) := by
  obtain ⟨places, hx⟩ := reads os enc
  refine returnsInHanded_of_row (C := Tryz.checked) (s := Rows.OpenSpec.upto Rows.valueStaysSpec) own started (by kernel_rfl) Tryz.func7
    (witness_row_at (enc := enc) (C := Tryz.checked) false (withTabsV (World.holding Tryz.prog os ⟨#[], #[], []⟩)) #[Value.agg #[.string ⟨#[]⟩, .int .i64 0, .slice none 0 0], Value.agg #[.slice none 0 0, .bool false], Value.string ⟨#[]⟩] rfl (by kernel_rfl) (by kernel_rfl) (by kernel_rfl)
      (OpenSpec.preRow_of_cond 8 hx (by kernel_rfl) (fun k hk => by cases hk; kernel_rfl) (by kernel_rfl) (laid_met os))) ?_
  intro W base args ds gs before hval hW _ hcond _ hL hsh _
  exact contract H enc W base args ds gs before hval hW hL hsh (hcond _ rfl)

set_option maxRecDepth 100000 in
theorem said : Rows.ValueStaysUptoSaid :=
  OpenClaim.holds_of_cond 7 Tryz.f7 rfl rfl rfl rfl rfl rfl rfl ⟨rfl, rfl, rfl, rfl, rfl⟩ rfl rfl rfl rfl rfl (by kernel_rfl) Tryz.func7 (by kernel_rfl)
    (of_decide_eq_true (by kernel_rfl)) (by unfold Func.isWrapper; first | (rw [if_pos (by decide +kernel)]; kernel_rfl) | (rw [if_neg (by decide +kernel)]; exact ⟨rfl, rfl⟩))
    (fun os started H enc _ F => by rw [OpenClaim.pre_eq_preRow]; exact lifted os started H enc F)

theorem plain (f : FuncId) (fn : Func) (hf : Tryz.pinned.checked.prog.funcNamed "sieve/sievelaw13.ValueStays" = some f) (hfn : Tryz.pinned.checked.prog.funcs[f]? = some fn) :
    false = Tryz.pinned.checked.prog.looks [] ∧ ∀ (j : Nat) t, fn.params[j]? = some t → Tryz.pinned.checked.prog.wantsStandIn t = false := by
  obtain rfl : f = 7 := Option.some.inj ((show Tryz.prog.funcNamed "sieve/sievelaw13.ValueStays" = some 7 by kernel_rfl).symm.trans hf) |>.symm
  obtain rfl : fn = Tryz.f7 := (Option.some.inj (Tryz.func7.symm.trans hfn)).symm
  refine ⟨by kernel_rfl, fun j t ht => ?_⟩
  rw [Tryz.params7] at ht
  have hm := Array.mem_of_getElem? ht
  simp only [List.mem_toArray, List.mem_cons, List.not_mem_nil, or_false] at hm
  rcases hm with rfl | rfl | rfl
  · exact (show Tryz.prog.wantsStandIn 39 = false by kernel_rfl)
  · exact (show Tryz.prog.wantsStandIn 41 = false by kernel_rfl)
  · exact (show Tryz.prog.wantsStandIn 9 = false by kernel_rfl)

theorem card : Rows.ValueStaysUptoCardSaid :=
  Claim7.holds_tied_plain_at .later [] _ _ _ _ said (fun _ h => by cases h) (by kernel_rfl) (fun _ h => by cases h) valueStaysUpto_row_tie rfl ⟨rfl, rfl⟩ (by kernel_rfl) rfl plain (by kernel_rfl)

end Go.Proofs.YtfbfigjjnpamiaaGreatDoor.VStaysL
