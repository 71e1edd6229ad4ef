/- What is proved here: the statement UtfSixteen (Sixteen of any runes, FromSixteen of any units; and back) holds for any runes and units, where the arguments hold at most 1048576 values, with no other condition but what the card says of the two tables of unicode/utf8. -/
import Derived.Laws.AppendOwnNone
import Derived.Test.YtjleehhgcpdapaaDoorCards
import Derived.Test.YtjleehhgcpdapaaDoorTie
import Derived.Test.YtjleehhgcpdapaaDoorOpen
import Derived.Test.YtjleehhgcpdapaaDoorSix
namespace Go.Proofs.YtjleehhgcpdapaaDoor.Sixteen
open Go.ChangeShapes Go.WideShapes Go.ChangeAt Go.RowKit Go.Shelf U

theorem hasB_mono {n₀ n₁ : Nat} {w : World} {v : Value} {bs : List UInt8} (hl : HasB n₀ w v bs) (h : n₀ ≤ n₁) : HasB n₁ w v bs := by
  rcases hl with hl | ⟨hp, b, off, cap, hv, hc, hb, hx⟩
  · exact .inl hl
  · exact .inr ⟨hp, b, off, cap, hv, hc, by omega, hx⟩

theorem hasB_slice {n₀ : Nat} {w : World} {v : Value} {bs : List UInt8} (hl : HasB n₀ w v bs) : ∃ a cap, v = .slice a bs.length cap := by
  rcases hl with ⟨rfl, a, cap, rfl⟩ | ⟨hp, b, off, cap, rfl, _⟩
  · exact ⟨a, cap, rfl⟩
  · exact ⟨_, cap, rfl⟩
theorem hasI_slice {q : IntKind} {w : World} {v : Value} {zs : List Int} (hl : HasI q w v zs) : ∃ a cap, v = .slice a zs.length cap := by
  rcases hl with ⟨rfl, a, cap, rfl⟩ | ⟨hp, b, off, cap, rfl, _⟩
  · exact ⟨a, cap, rfl⟩
  · exact ⟨_, cap, rfl⟩
theorem hasI_at {q : IntKind} {w : World} {a : Option Addr} {cap : Nat} {zs : List Int} {n : Nat} (hl : HasI q w (.slice a n cap) zs) (k : Nat) (hk : k < zs.length) : ∃ b off, a = some ⟨b, off, none⟩ ∧ w.cell? ⟨b, off + k, none⟩ = some (.int q (zAt zs k)) := by
  rcases hl with ⟨rfl, _⟩ | ⟨_, b, off, cp, he, _, hx⟩
  · simp at hk
  · cases he; exact ⟨b, off, rfl, hx k hk⟩

/-- 'append(s, x...)' of numbers in memory to a row of one's own, x nil or not. -/
theorem append_ints {w : World} {ops : Array Oper} {rest : List Oper} {o : Oper} {a : Act} {Q : Exit → Act → World → Prop} (hgd : o.guard = none) (s x : Operand) (t : TypeId)
    (ho : o.op = .call { callee := .builtin .append, args := #[s, x], argTypes := #[t, t] }) (base : Nat) (e : TypeId) (i : TypeInfo) (q : IntKind) (bytes : Nat) (ht : Tryd.prog.underlying t = some (.slice e)) (hi : Tryd.prog.info? e = some i) (hz : i.zero = some (.int q 0)) (hsize : i.size = 1) (hby : i.bytes = bytes)
    (v : Value) (n : Nat) (xs : List Value) (hs : a.eval s = v) (hown : w.ownsRow base e 1 v n xs) (xv : Value) (zs : List Int) (hx : a.eval x = xv) (hH : HasI q w xv zs) (hn : xv = .slice none 0 0 ∨ ∃ ad len cap, xv = .slice (some ad) len cap)
    (h63 : n + zs.length ≤ maxLen) (hbytes : (n + zs.length) * bytes ≤ 140737488355328) (hbase : base ≤ w.heap.size)
    (h : ∀ v' w', w'.ownsRow base e 1 v' (n + zs.length) (xs ++ zs.map (Value.int q)) → w.grownBy w' v.ownBlock → wpList Tryd.prog ops Q rest (a.put o.dst v') w') : wpList Tryd.prog ops Q (o :: rest) a w := by
  rcases hn with rfl | ⟨ad, len, cap, rfl⟩
  · have hz0 : zs = [] := by
      rcases hH with ⟨rfl, _⟩ | ⟨hp, b, off, c, e, _⟩
      · rfl
      · simp at e
    subst hz0
    exact wpList_append_own_none hgd s x t ho base e i 1 ht hi v n xs hs hown hx (h v w (by simpa using hown) (World.grownBy.refl _ _))
  · have hl : len = zs.length ∧ ∀ j u, (zs.map (Value.int q))[j]? = some u → w.cell? (ad.add j) = some u := by
      rcases hH with ⟨rfl, a', c', e⟩ | ⟨hp, b, off, c, e, _, hc⟩
      · simp at e; exact ⟨e.2.1, fun j u hj => by simp at hj⟩
      · obtain ⟨rfl, rfl, rfl⟩ : ad = ⟨b, off, none⟩ ∧ len = zs.length ∧ cap = c := by simpa using e
        refine ⟨rfl, fun j u hj => ?_⟩
        obtain ⟨hj1, hj2⟩ := List.getElem?_eq_some_iff.1 hj
        simp at hj1
        rw [add_none, hc j hj1, ← hj2]
        simp [zAt, hj1]
    obtain ⟨rfl, hnews⟩ := hl
    exact wpList_append_own w hgd s x t ho base e i (.int q 0) 1 bytes ht hi hz hsize hby rfl (by decide) v n xs hs hown ad zs.length cap (zs.map (Value.int q)) hx (by simp) hnews (fun u hu => by simp at hu; obtain ⟨c, _, rfl⟩ := hu; rfl) h63 hbytes hbase (fun v' w' h1 h2 _ => h v' w' h1 h2)

theorem fr_back (zs : List Int) : fr (sixs zs) = zs.map mendR := fr_sixs zs _ (Nat.le_refl _)
theorem six_bounds (zs : List Int) : ∀ z ∈ sixs zs, 0 ≤ z ∧ z ≤ 65535 := by
  intro u hu
  obtain ⟨r, _, hr⟩ := List.mem_flatMap.1 hu
  unfold six at hr
  split at hr
  · rename_i hv
    obtain ⟨v0, v1, v2⟩ := (valid_iff r).1 hv
    split at hr
    · simp at hr; subst hr; omega
    · simp at hr; rcases hr with rfl | rfl <;> omega
  · simp at hr; subst hr; omega

set_option maxRecDepth 100000 in
set_option maxHeartbeats 2000000 in
theorem walk (w : World) (hT : Lib.Utf8Tabs (Tryd.lays32_ren.g 2) (Tryd.lays32_ren.g 3) w) (lv : Value) (zs : List Int) (hlv : HasI .i32 w lv zs) (_wl : ∀ z ∈ zs, (Lit.int .i32 z).wf = true) (hl : zs.length ≤ 1048576) (nl : lv = .slice none 0 0 ∨ ∃ ad len cap, lv = .slice (some ad) len cap) (uv : Value) (us : List Int) (huv : HasI .u16 w uv us) (wu : ∀ z ∈ us, (Lit.int .u16 z).wf = true) (hm : us.length ≤ 1048576) (nu : uv = .slice none 0 0 ∨ ∃ ad len cap, uv = .slice (some ad) len cap) :
    Calls Tryd.prog 6 #[lv, uv] w fun e w' => e = .returned (.bool true) ∧ Below w.heap.size w w' := by
  obtain ⟨i1, hi1, ha0, ha1, ha2⟩ := info_parts info21
  obtain ⟨i2, hi2, hb0, hb1, hb2⟩ := info_parts info16
  have HT : Hid (Lib.Utf8Tabs (Tryd.lays32_ren.g 2) (Tryd.lays32_ren.g 3) w) := hT
  have HL : Hid (HasI .i32 w lv zs) := hlv
  have HU : Hid (HasI .u16 w uv us) := huv
  have NL : Hid (lv = .slice none 0 0 ∨ ∃ ad len cap, lv = .slice (some ad) len cap) := nl
  have NU : Hid (uv = .slice none 0 0 ∨ ∃ ad len cap, uv = .slice (some ad) len cap) := nu
  have HW : Hid (∀ z ∈ us, 0 ≤ z ∧ z ≤ 65535) := fun z hz => by have := wf_bounds (wu z hz); simp [IntKind.min, IntKind.max, IntKind.signed, IntKind.bits] at this; omega
  clear hT hlv huv nl nu wu
  go_enter Tryd.func6, Tryd.ntmps6
  go_wp2_with (first
    | (at_builtin; refine append_ints rfl _ _ 27 rfl w.heap.size 21 i1 .i32 4 Tryd.underlying27 hi1 ha0 ha1 ha2 _ _ _ rfl (owns_empty w _) lv zs rfl (HL.out.below ((Below.refl _ w).alloc (Nat.le_refl _) _)) NL.out (by unfold maxLen; omega) (by omega) (by simp) ?_; intro v1 w1 ho1 hg1; have b1 : Below w.heap.size w w1 := ((Below.refl _ w).alloc (Nat.le_refl _) _).grown hg1 (by simp) (fun k hk => ((owns_empty w 21).lt k hk).1); have HU1 : Hid (HasI .u16 (w1.alloc (.cells #[] 81)) uv us) := HU.out.below (b1.alloc b1.size _))
    | (at_builtin; refine append_ints rfl _ _ 56 rfl w1.heap.size 81 i2 .u16 2 Tryd.underlying56 hi2 hb0 hb1 hb2 _ _ _ rfl (owns_empty w1 _) uv us rfl HU1.out NU.out (by unfold maxLen; omega) (by omega) (by simp) ?_; intro v2 w2 ho2 hg2))
  have b12 : Below w1.heap.size w1 w2 := ((Below.refl _ w1).alloc (Nat.le_refl _) _).grown hg2 (by simp) (fun k hk => ((owns_empty w1 81).lt k hk).1)
  have s1 := b1.size
  simp only [Nat.zero_add, List.nil_append] at ho1 ho2
  have G2 : Hid (HasI .i32 w2 v1 zs) := (hasI_owns ho1).below b12
  have A2 : Hid (HasI .u16 w2 v2 us) := hasI_owns ho2
  have J2 : Below w.heap.size w w2 := b1.trans (b12.mono s1)
  clear ho1 ho2 hg1 hg2 b12 b1
  refine (six_calls v1 zs w2 (by omega) G2.out).mono ?_
  rintro e w3 ⟨xv, rfl, hx3, k3⟩
  obtain ⟨xa, xc, rfl⟩ := owns_slice hx3
  have X3 : Hid (HasI .u16 w3 (.slice xa (sixs zs).length xc) (sixs zs)) := hasI_owns hx3
  have K3 : Below w2.heap.size w2 w3 := k3
  have hsl := sixs_length zs
  clear hx3 k3
  go_wp2_with fail
  refine (from_calls v2 us w3 (by omega) HW.out (A2.out.below K3)).mono ?_
  rintro e w4 ⟨yv, rfl, hy4, k4⟩
  obtain ⟨ya, yc, rfl⟩ := owns_slice hy4
  have Y4 : Hid (HasI .i32 w4 (.slice ya (fr us).length yc) (fr us)) := hasI_owns hy4
  have X4 : Hid (HasI .u16 w4 (.slice xa (sixs zs).length xc) (sixs zs)) := X3.out.below k4
  have K4 : Below w2.heap.size w2 w4 := K3.trans (k4.mono K3.size)
  have J4 : Below w.heap.size w w4 := J2.trans (K4.mono J2.size)
  have hfl := fr_length us
  clear hy4 k4 X3 K3
  go_wp2_with fail
  refine (rsix_calls lv zs w4 (by omega) (HL.out.below J4)).mono ?_
  rintro e w5 ⟨rv, rfl, hr5, k5⟩
  obtain ⟨ra, rc, rfl⟩ := owns_slice hr5
  have R5 : Hid (HasI .u16 w5 (.slice ra (sixs zs).length rc) (sixs zs)) := hasI_owns hr5
  clear hr5
  go_wp2_with fail
  refine (units_calls _ _ (sixs zs) (sixs zs) w5 (by omega) (X4.out.below k5) R5.out).mono ?_
  rintro e w6 ⟨rfl, k6⟩
  rw [show decide (sixs zs = sixs zs) = true from decide_eq_true rfl]
  have L6 : Below w4.heap.size w4 w6 := k5.trans (k6.mono k5.size)
  have J6 : Below w.heap.size w w6 := J4.trans (L6.mono J4.size)
  clear k5 k6 R5
  go_wp2_with fail
  refine (rfrom_calls uv us w6 (by omega) HW.out (HU.out.below J6)).mono ?_
  rintro e w7 ⟨tv, rfl, ht7, k7⟩
  obtain ⟨ta, tc, rfl⟩ := owns_slice ht7
  have T7 : Hid (HasI .i32 w7 (.slice ta (fr us).length tc) (fr us)) := hasI_owns ht7
  have L7 : Below w4.heap.size w4 w7 := L6.trans (k7.mono L6.size)
  clear ht7 k7 L6
  go_wp2_with fail
  refine (same_calls _ _ (fr us) (fr us) w7 (by omega) (Y4.out.below L7) T7.out).mono ?_
  rintro e w8 ⟨rfl, k8⟩
  rw [show decide (fr us = fr us) = true from decide_eq_true rfl]
  have L8 : Below w4.heap.size w4 w8 := L7.trans (k8.mono L7.size)
  have J8 : Below w.heap.size w w8 := J4.trans (L8.mono J4.size)
  have K8 : Below w2.heap.size w2 w8 := K4.trans (L8.mono K4.size)
  clear k8 L7 T7
  go_wp2_with fail
  refine (same_calls _ _ zs zs w8 (by omega) (G2.out.below K8) (HL.out.below J8)).mono ?_
  rintro e w9 ⟨rfl, k9⟩
  rw [show decide (zs = zs) = true from decide_eq_true rfl]
  have K9 : Below w2.heap.size w2 w9 := K8.trans (k9.mono K8.size)
  have J9 : Below w.heap.size w w9 := J8.trans (k9.mono J8.size)
  have L9 : Below w4.heap.size w4 w9 := L8.trans (k9.mono L8.size)
  clear k9 K8 J8 L8
  go_wp2_with fail
  refine (units_calls _ _ us us w9 (by omega) (A2.out.below K9) (HU.out.below J9)).mono ?_
  rintro e w10 ⟨rfl, k10⟩
  rw [show decide (us = us) = true from decide_eq_true rfl]
  have J10 : Below w.heap.size w w10 := J9.trans (k10.mono J9.size)
  have L10 : Below w4.heap.size w4 w10 := L9.trans (k10.mono L9.size)
  clear k10 K9 J9 L9
  go_wp2_with fail
  refine (from_calls _ (sixs zs) w10 (by omega) (six_bounds zs) (X4.out.below L10)).mono ?_
  rintro e w11 ⟨bv, rfl, hb11, k11⟩
  rw [fr_back, List.length_map] at hb11
  obtain ⟨ba, bc, rfl⟩ := owns_slice hb11
  have B11 : Hid (HasI .i32 w11 (.slice ba zs.length bc) (zs.map mendR)) := hasI_owns (zs := zs.map mendR) (by rw [List.length_map]; exact hb11)
  have J11 : Below w.heap.size w w11 := J10.trans (k11.mono J10.size)
  have V11 : Hid (HasI .i32 w11 lv zs) := HL.out.below J11
  clear hb11 k11 L10 J10
  obtain ⟨la, lc, rfl⟩ := hasI_slice HL.out
  go_wp2
  go_loop [10, 11, 55] (fun _ _ i => ∃ k : Nat, k ≤ zs.length ∧ i = .int .i64 k) (fun _ _ i => zs.length - (intOf i).toNat)
  case atStart => exact ⟨0, by omega, rfl⟩
  case round =>
    obtain ⟨k, hk, rfl⟩ := hrel
    by_cases hlt : k < zs.length
    · obtain ⟨ub, uo, rfl, cu⟩ := hasI_at V11.out k hlt
      obtain ⟨ob, oo, rfl, co⟩ := hasI_at B11.out k (by rw [List.length_map]; exact hlt)
      have ez : zAt (zs.map mendR) k = mendR (zAt zs k) := by simp [zAt, hlt]
      rw [ez] at co
      clear ez
      generalize zAt zs k = z at *
      by_cases hv : Utf8.valid z = true
      · have em : mendR z = z := by unfold mendR; rw [if_pos hv]
        have CC : Hid (∀ w', Calls Tryd.prog 36 #[.int .i32 z] w' fun e W' => e = .returned (.bool true) ∧ W' = w') := fun w' => by have := char_calls z w'; rw [hv] at this; exact this
        rw [em] at co
        clear hv em
        go_wp2_with (go_at_call 36; refine (CC.out _).mono ?_; rintro e w' ⟨rfl, hw⟩; obtain rfl : w11 = w' := hw.symm)
        go_round
        case rel => exact ⟨k + 1, by omega, by go_num⟩
        case measure => simp [intOf]; omega
      · have em : mendR z = 65533 := by unfold mendR; rw [if_neg hv]
        have CC : Hid (∀ w', Calls Tryd.prog 36 #[.int .i32 z] w' fun e W' => e = .returned (.bool false) ∧ W' = w') := fun w' => by
          have := char_calls z w'
          rw [show Utf8.valid z = false by simpa using hv] at this
          exact this
        rw [em] at co
        clear hv em
        go_wp2_with (go_at_call 36; refine (CC.out _).mono ?_; rintro e w' ⟨rfl, hw⟩; obtain rfl : w11 = w' := hw.symm)
        go_round
        case rel => exact ⟨k + 1, by omega, by go_num⟩
        case measure => simp [intOf]; omega
    · go_wp2_with fail
      refine (lives_calls _ (tabs_below HT.out J11)).mono ?_
      rintro e w15 ⟨rfl, k15⟩
      go_wp2
      go_ret
      exact ⟨rfl, J11.trans (k15.mono J11.size)⟩

theorem contract (H : Type) (enc : TypeId × Value → H) (W : World) (base : Nat) (args : Array Value) (ds gs : List (DataW H)) (before : List MemPlace)
    (hval : ∀ (j : Nat) t v, Tryd.f6.params[j]? = some t → args[j]? = some v → Value.okWide Tryd.prog W .any base t v)
    (hW : DataW.Whole enc Tryd.prog Tryd.f6.params.toList Rows.utfSixteenSpec.vars false W args.toList ds gs before) (hL : laidMetH Tryd.prog Rows.utfSixteenUptoRow.laid W) (hk : Rows.uptoSmall H (ds ++ gs) = true) :
    Calls Tryd.prog 6 args W fun e W' => ∃ v, e = .returned v ∧ Rows.utfSixteenSpec.post enc Tryd.prog Tryd.f6 false true false false W args v W' := by
  have hW' := hW
  have hlt := hW.lt
  obtain ⟨p, q, hA0, hV, rfl, hfz, hnd⟩ := hW
  have hA : DataW.TrodAll enc Tryd.prog W 0 (fun _ => true) true Tryd.f6.params.toList args.toList ds p := hA0
  rw [Tryd.params6] at hA hval
  obtain ⟨v0, vs0, d0, ds0, p0, q0, hargs, rfl, rfl, h0, r0⟩ := trodAll_cons hA
  obtain ⟨v1, vs1, d1, ds1, p1, q1, rfl, rfl, rfl, h1, r1⟩ := trodAll_cons r0
  obtain ⟨rfl, rfl, rfl⟩ := trodAll_nil r1
  obtain rfl : args = #[v0, v1] := by cases args; simp_all
  obtain ⟨rfl, rfl⟩ := trodVars_none hV
  clear hA0
  simp only [List.append_nil] at hW' hlt hk
  have hbulk := of_decide_eq_true hk
  simp only [Rows.uptoBulkAll] at hbulk
  have e0 := okWide_slice Tryd.underlying27 (hval 0 27 v0 rfl rfl)
  obtain ⟨z0, hb0, l0, w0⟩ := ints_of_read Tryd.underlying27 Tryd.underlying21 (by kernel_rfl) e0 h0
  have e1 := okWide_slice Tryd.underlying56 (hval 1 56 v1 rfl rfl)
  obtain ⟨z1, hb1, l1, w1⟩ := ints_of_read Tryd.underlying56 Tryd.underlying81 (by kernel_rfl) e1 h1
  refine (walk W (tabs_of_laid hL) v0 z0 hb0 w0 (by omega) (nil_of_read Tryd.underlying27 Tryd.underlying21 (by kernel_rfl) e0 h0) v1 z1 hb1 w1 (by omega) (nil_of_read Tryd.underlying56 Tryd.underlying81 (by kernel_rfl) e1 h1)).mono fun e W' ⟨he, hb⟩ => ?_
  subst he
  exact ⟨_, rfl, post_below hW' (fun _ _ _ => trodAll_cons_mk (shut_bool Tryd.underlying4 _) trodAll_mk0) (trodAll_cons_mk (stays (by kernel_rfl) (of_decide_eq_true (by kernel_rfl)) h0 hb (fun x hx => hlt x (by simp [hx]))) (trodAll_cons_mk (stays (by kernel_rfl) (of_decide_eq_true (by kernel_rfl)) h1 hb (fun x hx => hlt x (by simp [hx]))) trodAll_mk0)) rfl hb⟩

theorem laid_met (os : Os) : laidMet Tryd.prog Rows.utfSixteenUptoRow.laid ((withTabs (World.holding Tryd.prog os ⟨#[], #[], []⟩)).forCall (fun _ _ => 0) ⟨#[], #[Value.slice none 0 0, Value.slice none 0 0], []⟩).memory :=
  laidMet_of_run' 8 (by kernel_rfl) (by kernel_rfl)
theorem reads (os : Os) {H : Type} (enc : TypeId × Value → H) : ∃ places, DataW.whole enc Tryd.prog ((withTabs (World.holding Tryd.prog os ⟨#[], #[], []⟩)).forCall (fun _ _ => 0) ⟨#[], #[Value.slice none 0 0, Value.slice none 0 0], []⟩).memory Tryd.f6.params.toList Rows.utfSixteenSpec.vars false #[Value.slice none 0 0, Value.slice none 0 0].toList 8 = some ([.nil, .nil], [], places) :=
  ⟨[], by kernel_rfl⟩

set_option maxRecDepth 100000 in
theorem lifted (os : Os) (started : os.Started) (H : Type) (enc : TypeId × Value → H) (F : Stop.Interp) :
    ReturnsInHanded {} Tryd.checked os 6 .any ((Rows.OpenSpec.upto Rows.utfSixteenSpec).preRow enc Tryd.prog Tryd.f6 Rows.utfSixteenUptoRow.domain false Rows.utfSixteenUptoRow.laid) (((Rows.OpenSpec.upto Rows.utfSixteenSpec).at F).post enc Tryd.prog Tryd.f6 false true false false) := by
  obtain ⟨places, hx⟩ := reads os enc
  refine returnsInHanded_of_row (C := Tryd.checked) (s := Rows.OpenSpec.upto Rows.utfSixteenSpec) own started (by kernel_rfl) Tryd.func6
    (witness_row_at (enc := enc) (C := Tryd.checked) false (withTabs (World.holding Tryd.prog os ⟨#[], #[], []⟩)) #[Value.slice none 0 0, Value.slice none 0 0] rfl (by kernel_rfl) (by kernel_rfl) (by kernel_rfl)
      (OpenSpec.preRow_of_cond 8 hx (by kernel_rfl) (fun k hk => by cases hk; kernel_rfl) (by kernel_rfl) (laid_met os))) ?_
  intro W base args ds gs before hval hW _ hcond _ hL _ _
  exact contract H enc W base args ds gs before hval hW hL (hcond _ rfl)

theorem said : Rows.UtfSixteenUptoSaid :=
  OpenClaim.holds_of_cond 6 Tryd.f6 rfl rfl rfl rfl rfl rfl rfl ⟨rfl, rfl, rfl, rfl, rfl⟩ rfl rfl rfl rfl rfl (by kernel_rfl) Tryd.func6 (by kernel_rfl)
    (of_decide_eq_true (by kernel_rfl)) (by unfold Func.isWrapper; first | (rw [if_pos (by decide +kernel)]; kernel_rfl) | (rw [if_neg (by decide +kernel)]; exact ⟨rfl, rfl⟩))
    (fun os started H enc _ F => by rw [OpenClaim.pre_eq_preRow]; exact lifted os started H enc F)

theorem plain (f : FuncId) (fn : Func) (hf : Tryd.pinned.checked.prog.funcNamed "sieve/sievelaw01.UtfSixteen" = some f) (hfn : Tryd.pinned.checked.prog.funcs[f]? = some fn) :
    false = Tryd.pinned.checked.prog.looks [] ∧ ∀ (j : Nat) t, fn.params[j]? = some t → Tryd.pinned.checked.prog.wantsStandIn t = false := by
  obtain rfl : f = 6 := Option.some.inj ((show Tryd.prog.funcNamed "sieve/sievelaw01.UtfSixteen" = some 6 by kernel_rfl).symm.trans hf) |>.symm
  obtain rfl : fn = Tryd.f6 := (Option.some.inj (Tryd.func6.symm.trans hfn)).symm
  refine ⟨by kernel_rfl, fun j t ht => ?_⟩
  rw [Tryd.params6] at ht
  have hm := Array.mem_of_getElem? ht
  simp only [List.mem_toArray, List.mem_cons, List.not_mem_nil, or_false] at hm
  rcases hm with rfl | rfl
  · exact (show Tryd.prog.wantsStandIn 27 = false by kernel_rfl)
  · exact (show Tryd.prog.wantsStandIn 56 = false by kernel_rfl)

theorem card : Rows.UtfSixteenUptoCardSaid :=
  Claim7.holds_tied_plain_at .later [] _ _ _ _ said (fun _ h => by cases h) (by kernel_rfl) (fun _ h => by cases h) utfSixteenUpto_row_tie rfl ⟨rfl, rfl⟩ (by kernel_rfl) rfl plain (by kernel_rfl)

end Go.Proofs.YtjleehhgcpdapaaDoor.Sixteen
