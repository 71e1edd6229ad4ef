/- What is proved here: the statement UtfWrites (Bytes and Width of any runes) holds for any runes, where the argument holds at most 1048576 values, with no other condition but what the card says of the two tables of unicode/utf8. -/
import Derived.Test.YtjlindgbeicocaaDoorCards
import Derived.Test.YtjlindgbeicocaaDoorTie
import Derived.Test.YtjlindgbeicocaaDoorOpen
import Derived.Test.YtjlindgbeicocaaDoorEnc
import Derived.Laws.AppendOwnNone
namespace Go.Proofs.YtjlindgbeicocaaDoor.Writes
open Go.ChangeShapes Go.WideShapes Go.ChangeAt Go.RowKit Go.Shelf U

/-- Only block g may have turned. -/
structure OnlyB (g : Nat) (w w' : World) : Prop where
  os : w'.os = w.os
  tape : w'.tape = w.tape
  output : w'.output = w.output
  size : w'.heap.size = w.heap.size
  block : ∀ k, k ≠ g → w'.heap[k]? = w.heap[k]?
theorem OnlyB.refl (g : Nat) (w : World) : OnlyB g w w := ⟨rfl, rfl, rfl, rfl, fun _ _ => rfl⟩
theorem OnlyB.set {g : Nat} {w w' : World} (h : OnlyB g w w') (i : Nat) (v : Value) : OnlyB g w (w'.setCell ⟨g, i, none⟩ v) :=
  ⟨h.os, h.tape, h.output, by have := h.size; simpa [World.setCell] using this, fun k hk => (Below.heap_setCell _ _ _ k hk).trans (h.block k hk)⟩
theorem OnlyB.below {g n : Nat} {w0 w w' : World} (h : OnlyB g w w') (hb : Below n w0 w) (hg : n ≤ g) : Below n w0 w' :=
  hb.trans ⟨h.os, h.tape, h.output, by rw [h.size]; exact Nat.le_refl _, fun k hk => h.block k (by omega)⟩
theorem OnlyB.hasB {g n₀ : Nat} {w w' : World} {v : Value} {bs : List UInt8} (h : OnlyB g w w') (hl : HasB n₀ w v bs) (hv : v.ownBlock ≠ some g) : HasB n₀ w' v bs := by
  rcases hl with hl | ⟨hp, b, off, cap, rfl, hc, hb, hx⟩
  · exact .inl hl
  · exact .inr ⟨hp, b, off, cap, rfl, hc, hb, fun j hj => (cell_of_block (p := ⟨b, off + j, none⟩) (h.block b (fun e => hv (by simp [Value.ownBlock, e])))).trans (hx j hj)⟩

theorem infoRune : (Tryd.prog.info? 21).map (fun i => (i.zero, i.size, i.bytes)) = some (some (.int .i32 0), 1, 4) := by kernel_rfl

set_option maxRecDepth 100000 in
set_option maxHeartbeats 4000000 in
theorem walk_some (w : World) (hT : Lib.Utf8Tabs (Tryd.lays32_ren.g 2) (Tryd.lays32_ren.g 3) w) (ad : Addr) (cap : Nat) (zs : List Int) (hv : HasI .i32 w (.slice (some ad) zs.length cap) zs) (hl : zs.length ≤ 1048576)
    (hnews : ∀ j u, (zs.map (Value.int .i32))[j]? = some u → w.cell? (ad.add j) = some u) :
    Calls Tryd.prog 6 #[.slice (some ad) zs.length cap] w fun e w' => e = .returned (.bool true) ∧ Below w.heap.size w w' := by
  obtain ⟨i0, hi, hz0, hz1, hz2⟩ := info_parts infoRune
  have HT : Hid (Lib.Utf8Tabs (Tryd.lays32_ren.g 2) (Tryd.lays32_ren.g 3) w) := hT
  have HV : Hid (HasI .i32 w (.slice (some ad) zs.length cap) zs) := hv
  have HN : Hid (∀ j u, (zs.map (Value.int .i32))[j]? = some u → w.cell? (ad.add j) = some u) := hnews
  clear hT hv hnews
  go_enter Tryd.func6, Tryd.ntmps6
  go_wp2_with (at_builtin; refine wpList_append_own _ rfl _ _ 28 rfl w.heap.size 21 i0 (.int .i32 0) 1 4 Tryd.underlying28 hi hz0 hz1 hz2 rfl (by decide) _ _ _ rfl (owns_empty w _) ad zs.length cap (zs.map (Value.int .i32)) rfl (by simp) (fun j u h => (((Below.refl _ w).alloc (Nat.le_refl _) _).cell (cell_lt (HN.out j u h))).trans (HN.out j u h)) (fun x hx => by simp at hx; obtain ⟨c, _, rfl⟩ := hx; rfl) (by unfold maxLen; omega) (by omega) (by simp) ?_; intro v' w1 hown' hgrow _)
  have hown1 : w1.ownsRow w.heap.size 21 1 v' zs.length (zs.map (Value.int .i32)) := by simpa using hown'
  have hb1 : Below w.heap.size w w1 := ((Below.refl _ w).alloc (Nat.le_refl _) _).grown hgrow (by simp) (fun k hk => ((owns_empty w 21).lt k hk).1)
  clear hown' hgrow
  obtain ⟨ga, gc, rfl⟩ := owns_slice hown1
  have hg1 : HasI .i32 w1 (.slice ga zs.length gc) zs := hasI_owns hown1
  have hv1 : HasI .i32 w1 (.slice (some ad) zs.length cap) zs := HV.out.below hb1
  have s1 := hb1.size
  clear hown1
  go_wp2_with fail
  refine (ubytes_calls _ zs w1 hg1).mono ?_
  rintro e w2 ⟨c2, rfl, hc2, hr2, hb2, hz2⟩
  go_wp2_with fail
  refine (ubytes_calls _ zs w2 (hg1.below hb2)).mono ?_
  rintro e w3 ⟨c3, rfl, hc3, hr3, hb3, hz3⟩
  have hb13 : Below w1.heap.size w1 w3 := hb2.trans (hb3.mono hb2.size)
  go_wp2_with fail
  refine (rbytes_calls _ zs w3 (by omega) (hv1.below hb13)).mono ?_
  rintro e w4 ⟨vb, rfl, ho4, hb4⟩
  obtain ⟨hB4, ba, bl, bc, rfl⟩ := hasB_owns ho4
  have hb14 : Below w1.heap.size w1 w4 := hb13.trans (hb4.mono hb13.size)
  have hv4 := hv1.below hb14
  have hg4 := hg1.below hb14
  have hr24 := hr2.below (hb3.trans (hb4.mono hb3.size)) hz2
  have hr34 := hr3.below hb4 hz3
  have ho4lt := ho4.lt
  have hb04 : Below w.heap.size w w4 := hb1.trans (hb14.mono s1)
  have z2 := hb2.size
  have z3 := hb3.size
  have z4 := hb4.size
  clear hr2 hr3 hg1 hv1 hb13 ho4
  go_wp2
  go_loop [21] (fun i => ∃ k : Nat, k ≤ zs.length ∧ i = .int .i64 k) (fun i => zs.length - (intOf i).toNat)
  case atStart => exact ⟨0, by omega, rfl⟩
  case round =>
    obtain ⟨k, hk, rfl⟩ := hrel
    by_cases hlt : k < zs.length
    · obtain ⟨b, off, hea, hcell⟩ : ∃ b off, (some ad : Option Addr) = some ⟨b, off, none⟩ ∧ w4.cell? ⟨b, off + k, none⟩ = some (.int .i32 (zAt zs k)) := by
        rcases hv4 with ⟨rfl, _⟩ | ⟨_, b, off, cp, he, _, hx⟩
        · simp at hlt
        · cases he; exact ⟨b, off, rfl, hx k hlt⟩
      obtain rfl : ad = ⟨b, off, none⟩ := by simpa using hea
      have hsz : ((Utf8.encode (zAt zs k)).size : Int) = ((enc (zAt zs k)).length : Int) := rfl
      have WC : Hid (∀ w, Calls Tryd.prog 27 #[.int .i32 (zAt zs k)] w fun e w' => e = .returned (.int .i64 (enc (zAt zs k)).length) ∧ w' = w) := fun w => width_calls _ w
      clear hsz
      go_wp2_with (first | (go_at_call 27; refine (WC.out _).mono ?_; rintro e w' ⟨rfl, hw⟩; obtain rfl : w4 = w' := hw.symm) | (go_at_call 28; refine (rwidth_calls _ _).mono ?_; rintro e w' ⟨rfl, hw⟩; obtain rfl : w4 = w' := hw.symm))
      go_round
      case rel => exact ⟨k + 1, by omega, by go_num⟩
      case measure => simp [intOf]; omega
    · go_wp2_with fail
      refine (samebytes_calls _ _ (encs zs) (encs zs) w4.heap.size w4.heap.size w4 (hr24.hasB0 rfl hc2 _ (by omega)) hB4).mono ?_
      rintro e w' ⟨rfl, hw⟩
      obtain rfl : w4 = w' := hw.symm
      rw [decide_eq_true (rfl : encs zs = encs zs)]
      go_wp2_with fail
      refine (same_calls _ _ zs zs w4 (by omega) hg4 hv4).mono ?_
      rintro e w5 ⟨rfl, hb5⟩
      rw [decide_eq_true (rfl : zs = zs)]
      have hr25 := hr24.below hb5 (by omega)
      have hr35 := (hr34.below hb5 (by omega)).hasB0 rfl hc3 w5.heap.size (by have := hb5.size; omega)
      have hw5 := hB4.below (hb5)
      have hb05 : Below w.heap.size w w5 := hb04.trans (hb5.mono hb04.size)
      have z5 := hb5.size
      go_wp2
      go_loopw [43] (fun i wr => ∃ (k : Nat) (f : Nat → Nat), k ≤ (encs zs).length ∧ i = .int .i64 k ∧ RowB w1.heap.size (encs zs).length f wr ∧ OnlyB w1.heap.size w5 wr) (fun i _ => (encs zs).length - (intOf i).toNat)
      case atStart => exact ⟨0, _, by omega, rfl, hr25, OnlyB.refl _ _⟩
      case round =>
        obtain ⟨m, f, hm, rfl, hrw, hon⟩ := hrel
        have hel := encs_length zs
        by_cases hlt2 : m < (encs zs).length
        · have c1 := hrw.1 m hlt2
          have f1 := hrw.2 m hlt2
          go_wp2
          go_roundw
          case rel => exact ⟨m + 1, _, by omega, by go_num, hrw.set m 7 hlt2, hon.set _ _⟩
          case measure => simp [intOf]; omega
        · have hb0r := hon.below hb05 (by omega)
          go_wp2_with fail
          refine (samebytes_calls _ _ (encs zs) (encs zs) _ _ _ (hon.hasB hr35 (by simp [Value.ownBlock]; omega)) (hon.hasB hw5 (fun e => by have := ho4lt _ e; omega))).mono ?_
          rintro e w' ⟨rfl, hw⟩
          rw [hw]
          rw [decide_eq_true (rfl : encs zs = encs zs)]
          go_wp2_with fail
          refine (lives_calls _ (tabs_below HT.out hb0r)).mono ?_
          rintro e w7 ⟨rfl, hb7⟩
          go_wp2
          go_ret
          exact ⟨rfl, hb0r.trans (hb7.mono hb0r.size)⟩

set_option maxRecDepth 100000 in
set_option maxHeartbeats 4000000 in
theorem walk_nil (w : World) (hT : Lib.Utf8Tabs (Tryd.lays32_ren.g 2) (Tryd.lays32_ren.g 3) w) :
    Calls Tryd.prog 6 #[.slice none 0 0] w fun e w' => e = .returned (.bool true) ∧ Below w.heap.size w w' := by
  obtain ⟨i0, hi, hz0, hz1, hz2⟩ := info_parts infoRune
  have HT : Hid (Lib.Utf8Tabs (Tryd.lays32_ren.g 2) (Tryd.lays32_ren.g 3) w) := hT
  clear hT
  go_enter Tryd.func6, Tryd.ntmps6
  go_wp2_with (at_builtin; refine wpList_append_own_none rfl _ _ 28 rfl w.heap.size 21 i0 1 Tryd.underlying28 hi _ _ _ rfl (owns_empty w _) rfl ?_)
  obtain ⟨w1, hw1⟩ : ∃ w1, w.alloc (.cells #[] 21) = w1 := ⟨_, rfl⟩
  have hb1 : Below w.heap.size w w1 := by rw [← hw1]; exact (Below.refl _ w).alloc (Nat.le_refl _) _
  have hown1 := owns_empty w 21
  rw [hw1] at hown1 ⊢
  clear hw1
  have hg1 : HasI .i32 w1 (.slice (some ⟨w.heap.size, 0, none⟩) 0 0) [] := .inl ⟨rfl, _, _, rfl⟩
  have hv1 : HasI .i32 w1 (.slice none 0 0) [] := .inl ⟨rfl, _, _, rfl⟩
  have s1 := hb1.size
  clear hown1
  go_wp2_with fail
  refine (ubytes_calls _ [] w1 hg1).mono ?_
  rintro e w2 ⟨c2, rfl, hc2, hr2, hb2, hz2⟩
  go_wp2_with fail
  refine (ubytes_calls _ [] w2 (hg1.below hb2)).mono ?_
  rintro e w3 ⟨c3, rfl, hc3, hr3, hb3, hz3⟩
  have hb13 : Below w1.heap.size w1 w3 := hb2.trans (hb3.mono hb2.size)
  go_wp2_with fail
  refine (rbytes_calls _ [] w3 (by simp) (hv1.below hb13)).mono ?_
  rintro e w4 ⟨vb, rfl, ho4, hb4⟩
  obtain ⟨hB4, ba, bl, bc, rfl⟩ := hasB_owns ho4
  have hb14 : Below w1.heap.size w1 w4 := hb13.trans (hb4.mono hb13.size)
  have hv4 := hv1.below hb14
  have hg4 := hg1.below hb14
  have hr24 := hr2.below (hb3.trans (hb4.mono hb3.size)) hz2
  have hr34 := hr3.below hb4 hz3
  have ho4lt := ho4.lt
  have hb04 : Below w.heap.size w w4 := hb1.trans (hb14.mono s1)
  have z2 := hb2.size
  have z3 := hb3.size
  have z4 := hb4.size
  clear hr2 hr3 hg1 hv1 hb13 ho4
  go_wp2
  go_loop [21] (fun i => ∃ k : Nat, k ≤ 0 ∧ i = .int .i64 k) (fun i => 0 - (intOf i).toNat)
  case atStart => exact ⟨0, by omega, rfl⟩
  case round =>
    obtain ⟨k, hk, rfl⟩ := hrel
    by_cases hlt : k < 0
    · omega
    · go_wp2_with fail
      refine (samebytes_calls _ _ (encs []) (encs []) w4.heap.size w4.heap.size w4 (hr24.hasB0 rfl hc2 _ (by omega)) hB4).mono ?_
      rintro e w' ⟨rfl, hw⟩
      obtain rfl : w4 = w' := hw.symm
      rw [decide_eq_true (rfl : encs [] = encs [])]
      go_wp2_with fail
      refine (same_calls _ _ [] [] w4 (by simp) hg4 hv4).mono ?_
      rintro e w5 ⟨rfl, hb5⟩
      rw [decide_eq_true (rfl : [] = [])]
      have hr25 := hr24.below hb5 (by omega)
      have hr35 := (hr34.below hb5 (by omega)).hasB0 rfl hc3 w5.heap.size (by have := hb5.size; omega)
      have hw5 := hB4.below (hb5)
      have hb05 : Below w.heap.size w w5 := hb04.trans (hb5.mono hb04.size)
      have z5 := hb5.size
      go_wp2
      go_loopw [43] (fun i wr => ∃ (k : Nat) (f : Nat → Nat), k ≤ (encs []).length ∧ i = .int .i64 k ∧ RowB w1.heap.size (encs []).length f wr ∧ OnlyB w1.heap.size w5 wr) (fun i _ => (encs []).length - (intOf i).toNat)
      case atStart => exact ⟨0, _, by omega, rfl, hr25, OnlyB.refl _ _⟩
      case round =>
        obtain ⟨m, f, hm, rfl, hrw, hon⟩ := hrel
        have hel := encs_length []
        by_cases hlt2 : m < (encs []).length
        · have h00 : (encs ([] : List Int)).length = 0 := rfl
          omega
        · have hb0r := hon.below hb05 (by omega)
          go_wp2_with fail
          refine (samebytes_calls _ _ (encs []) (encs []) _ _ _ (hon.hasB hr35 (by simp [Value.ownBlock]; omega)) (hon.hasB hw5 (fun e => by have := ho4lt _ e; omega))).mono ?_
          rintro e w' ⟨rfl, hw⟩
          rw [hw]
          rw [decide_eq_true (rfl : encs [] = encs [])]
          go_wp2_with fail
          refine (lives_calls _ (tabs_below HT.out hb0r)).mono ?_
          rintro e w7 ⟨rfl, hb7⟩
          go_wp2
          go_ret
          exact ⟨rfl, hb0r.trans (hb7.mono hb0r.size)⟩

theorem walk (w : World) (hT : Lib.Utf8Tabs (Tryd.lays32_ren.g 2) (Tryd.lays32_ren.g 3) w) (v : Value) (zs : List Int) (h : HasI .i32 w v zs) (_ : ∀ z ∈ zs, (Lit.int .i32 z).wf = true) (hl : zs.length ≤ 1048576) (hn : v = .slice none 0 0 ∨ ∃ ad len cap, v = .slice (some ad) len cap) :
    Calls Tryd.prog 6 #[v] w fun e w' => e = .returned (.bool true) ∧ Below w.heap.size w w' := by
  rcases hn with rfl | ⟨ad, len, cap, rfl⟩
  · exact walk_nil w hT
  · rcases h with ⟨rfl, a, c, he⟩ | ⟨hp, b, off, c, he, hc, hx⟩
    · cases he
      exact walk_some w hT ad cap [] (.inl ⟨rfl, _, _, rfl⟩) (by simp) (fun j u h => by simp at h)
    · cases he
      refine walk_some w hT ⟨b, off, none⟩ cap zs (.inr ⟨hp, b, off, cap, rfl, hc, hx⟩) hl (fun j u h => ?_)
      have hj : j < zs.length := by have := (List.getElem?_eq_some_iff.1 h).1; simpa using this
      rw [add_none, hx j hj]
      simp [hj] at h
      rw [← h]; simp [zAt, hj]

theorem contract (H : Type) (enc : TypeId × Value → H) (W : World) (base : Nat) (args : Array Value) (ds gs : List (DataW H)) (before : List MemPlace)
    (hval : ∀ (j : Nat) t v, Tryd.f6.params[j]? = some t → args[j]? = some v → Value.okWide Tryd.prog W .any base t v)
    (hW : DataW.Whole enc Tryd.prog Tryd.f6.params.toList Rows.utfWritesSpec.vars false W args.toList ds gs before) (hL : laidMetH Tryd.prog Rows.utfWritesUptoRow.laid W) (hk : Rows.uptoSmall H (ds ++ gs) = true) :
    Calls Tryd.prog 6 args W fun e W' => ∃ v, e = .returned v ∧ Rows.utfWritesSpec.post enc Tryd.prog Tryd.f6 false true false false W args v W' := by
  have hW' := hW
  have hlt := hW.lt
  obtain ⟨p, q, hA0, hV, rfl, hfz, hnd⟩ := hW
  have hA : DataW.TrodAll enc Tryd.prog W 0 (fun _ => true) true Tryd.f6.params.toList args.toList ds p := hA0
  rw [Tryd.params6] at hA hval
  obtain ⟨v0, vs0, d0, ds0, p0, q0, hargs, rfl, rfl, h0, r0⟩ := trodAll_cons hA
  obtain ⟨rfl, rfl, rfl⟩ := trodAll_nil r0
  obtain rfl : args = #[v0] := by cases args; simp_all
  obtain ⟨rfl, rfl⟩ := trodVars_none hV
  clear hA0
  simp only [List.append_nil] at hW' hlt hk
  have hbulk := of_decide_eq_true hk
  simp only [Rows.uptoBulkAll] at hbulk
  have e0 := okWide_slice Tryd.underlying28 (hval 0 28 v0 rfl rfl)
  obtain ⟨z0, hb0, l0, w0⟩ := ints_of_read Tryd.underlying28 Tryd.underlying21 (by kernel_rfl) e0 h0
  refine (walk W (tabs_of_laid hL) v0 z0 hb0 w0 (by omega) (nil_of_read Tryd.underlying28 Tryd.underlying21 (by kernel_rfl) e0 h0)).mono fun e W' ⟨he, hb⟩ => ?_
  subst he
  exact ⟨_, rfl, post_below hW' (fun _ _ _ => trodAll_cons_mk (shut_bool Tryd.underlying4 _) trodAll_mk0) (trodAll_cons_mk (stays (by kernel_rfl) (of_decide_eq_true (by kernel_rfl)) h0 hb (fun x hx => hlt x (by simp [hx]))) trodAll_mk0) rfl hb⟩

theorem laid_met (os : Os) : laidMet Tryd.prog Rows.utfWritesUptoRow.laid ((withTabs (World.holding Tryd.prog os ⟨#[], #[], []⟩)).forCall (fun _ _ => 0) ⟨#[], #[Value.slice none 0 0], []⟩).memory :=
  laidMet_of_run' 8 (by kernel_rfl) (by kernel_rfl)
theorem reads (os : Os) {H : Type} (enc : TypeId × Value → H) : ∃ places, DataW.whole enc Tryd.prog ((withTabs (World.holding Tryd.prog os ⟨#[], #[], []⟩)).forCall (fun _ _ => 0) ⟨#[], #[Value.slice none 0 0], []⟩).memory Tryd.f6.params.toList Rows.utfWritesSpec.vars false #[Value.slice none 0 0].toList 8 = some ([.nil], [], places) :=
  ⟨[], by kernel_rfl⟩

set_option maxRecDepth 100000 in
theorem lifted (os : Os) (started : os.Started) (H : Type) (enc : TypeId × Value → H) (F : Stop.Interp) :
    ReturnsInHanded {} Tryd.checked os 6 .any ((Rows.OpenSpec.upto Rows.utfWritesSpec).preRow enc Tryd.prog Tryd.f6 Rows.utfWritesUptoRow.domain false Rows.utfWritesUptoRow.laid) (((Rows.OpenSpec.upto Rows.utfWritesSpec).at F).post enc Tryd.prog Tryd.f6 false true false false) := by
  obtain ⟨places, hx⟩ := reads os enc
  refine returnsInHanded_of_row (C := Tryd.checked) (s := Rows.OpenSpec.upto Rows.utfWritesSpec) own started (by kernel_rfl) Tryd.func6
    (witness_row_at (enc := enc) (C := Tryd.checked) false (withTabs (World.holding Tryd.prog os ⟨#[], #[], []⟩)) #[Value.slice none 0 0] rfl (by kernel_rfl) (by kernel_rfl) (by kernel_rfl)
      (OpenSpec.preRow_of_cond 8 hx (by kernel_rfl) (fun k hk => by cases hk; kernel_rfl) (by kernel_rfl) (laid_met os))) ?_
  intro W base args ds gs before hval hW _ hcond _ hL _ _
  exact contract H enc W base args ds gs before hval hW hL (hcond _ rfl)

theorem said : Rows.UtfWritesUptoSaid :=
  OpenClaim.holds_of_cond 6 Tryd.f6 rfl rfl rfl rfl rfl rfl rfl ⟨rfl, rfl, rfl, rfl, rfl⟩ rfl rfl rfl rfl rfl (by kernel_rfl) Tryd.func6 (by kernel_rfl)
    (of_decide_eq_true (by kernel_rfl)) (by unfold Func.isWrapper; first | (rw [if_pos (by decide +kernel)]; kernel_rfl) | (rw [if_neg (by decide +kernel)]; exact ⟨rfl, rfl⟩))
    (fun os started H enc _ F => by rw [OpenClaim.pre_eq_preRow]; exact lifted os started H enc F)

theorem plain (f : FuncId) (fn : Func) (hf : Tryd.pinned.checked.prog.funcNamed "sieve/sievelaw01.UtfWrites" = some f) (hfn : Tryd.pinned.checked.prog.funcs[f]? = some fn) :
    false = Tryd.pinned.checked.prog.looks [] ∧ ∀ (j : Nat) t, fn.params[j]? = some t → Tryd.pinned.checked.prog.wantsStandIn t = false := by
  obtain rfl : f = 6 := Option.some.inj ((show Tryd.prog.funcNamed "sieve/sievelaw01.UtfWrites" = some 6 by kernel_rfl).symm.trans hf) |>.symm
  obtain rfl : fn = Tryd.f6 := (Option.some.inj (Tryd.func6.symm.trans hfn)).symm
  refine ⟨by kernel_rfl, fun j t ht => ?_⟩
  rw [Tryd.params6] at ht
  have hm := Array.mem_of_getElem? ht
  simp only [List.mem_toArray, List.mem_cons, List.not_mem_nil, or_false] at hm
  subst hm
  · exact (show Tryd.prog.wantsStandIn 28 = false by kernel_rfl)

theorem card : Rows.UtfWritesUptoCardSaid :=
  Claim7.holds_tied_plain_at .later [] _ _ _ _ said (fun _ h => by cases h) (by kernel_rfl) (fun _ h => by cases h) utfWritesUpto_row_tie rfl ⟨rfl, rfl⟩ (by kernel_rfl) rfl plain (by kernel_rfl)

end Go.Proofs.YtjlindgbeicocaaDoor.Writes
