/- What is proved here: the statement InputReads (Read, Text and Clean of any bytes are the document's, in memory of their own) holds for any bytes, where the arguments hold at most 1048576 values, with no other condition but what the card says of the two tables of unicode/utf8. -/
import Derived.Test.YtpljklemkapnmaaDoorCards
import Derived.Test.YtpljklemkapnmaaDoorTie
import Derived.Test.YtpljklemkapnmaaDoorOpen
import Derived.Test.YtpljklemkapnmaaDoorILives
import Derived.Test.YtpljklemkapnmaaDoorIClean
import Derived.Lib.QuietBelow
import Derived.BigQuiet
import Derived.ProofKit
import Derived.OpenShut
namespace Go.Proofs.YtpljklemkapnmaaDoor.InReads
open Go.ChangeShapes Go.WideShapes Go.ChangeAt Go.RowKit Go.Shelf U

theorem hasB_slice {n₀ : Nat} {w : World} {v : Value} {bs : List UInt8} (hl : HasB n₀ w v bs) : ∃ a cap, v = .slice a bs.length cap := by
  rcases hl with ⟨rfl, a, cap, rfl⟩ | ⟨hp, b, off, cap, rfl, _⟩
  · exact ⟨a, cap, rfl⟩
  · exact ⟨_, cap, rfl⟩
theorem text_one (bs : List UInt8) : encs ((cellsOf bs).map fun x => (x.r : Int)) = textOf (cellsOf bs) := by
  rw [encs_shelf]
  · simp [textOf, List.flatMap_map]
  · intro z hz
    obtain ⟨x, hx, rfl⟩ := List.mem_map.1 hz
    rw [cells_ref] at hx
    refine refN_ok _ _ (Nat.le_refl _) (fun t ht => ?_) 1 1 x hx
    rw [toks_pcs] at ht
    obtain ⟨p, hp, rfl⟩ := List.mem_map.1 ht
    exact (pcsF_lt _ _ _ p hp).1
theorem clean_one (bs : List UInt8) : encs ((runesI bs).map plainZ) = cleanB (runesI bs) := by
  rw [encs_shelf]
  · simp [cleanB, List.flatMap_map]
  · intro z hz
    obtain ⟨x, hx, rfl⟩ := List.mem_map.1 hz
    obtain ⟨p, hp, rfl⟩ := List.mem_map.1 hx
    have := (pcsF_lt _ _ _ p hp).1
    exact plainZ_ok _ (by omega) (by omega)

set_option maxRecDepth 100000 in
set_option maxHeartbeats 4000000 in
theorem walk (w : World) (hT : Lib.Utf8Tabs (Tryd.lays32_ren.g 2) (Tryd.lays32_ren.g 3) w) (v : Value) (bs : List UInt8) (hb : HasB w.heap.size w v bs) (hl : bs.length ≤ 1048576) :
    Calls Tryd.prog 4 #[v] w fun e w' => e = .returned (.bool true) ∧ Below w.heap.size w w' := by
  have HT : Hid (Lib.Utf8Tabs (Tryd.lays32_ren.g 2) (Tryd.lays32_ren.g 3) w) := hT
  have HB : Hid (HasB w.heap.size w v bs) := hb
  obtain ⟨xa, xc, rfl⟩ := hasB_slice hb
  clear hT hb
  go_enter Tryd.func4, Tryd.ntmps4
  go_wp2_with fail
  refine (lend_calls _ bs w.heap.size w (by omega) HB.out).mono ?_
  rintro e w1 ⟨rfl, hr1, hb1⟩
  have s1 := hb1.size
  have hg1 : w.heap.size < w1.heap.size := cell_lt (hr1.1 0 (by omega))
  have hP1 : HasB w1.heap.size w1 (.slice (some ⟨w.heap.size, 2, none⟩) bs.length (bs.length + 2)) bs := hr1.hasB w1.heap.size hg1
  go_wp2_with fail
  refine (Read_calls _ bs w1 (by omega) hP1 (tabs_below HT.out hb1)).mono ?_
  rintro e w2 ⟨u1, rfl, hown1, hb2⟩
  obtain ⟨a1, c1, rfl⟩ := owns_slice hown1
  have s2 := hb2.size
  have hw2 : Below w.heap.size w w2 := hb1.trans (hb2.mono s1)
  go_wp2_with fail
  refine (Read_calls _ bs w2 (by omega) ((hP1.below hb2).mono0 s2) (tabs_below HT.out hw2)).mono ?_
  rintro e w3 ⟨u2, rfl, hown2, hb3⟩
  obtain ⟨a2, c2, rfl⟩ := owns_slice hown2
  have s3 := hb3.size
  have hw3 : Below w.heap.size w w3 := hw2.trans (hb3.mono (by omega))
  go_wp2_with fail
  refine (rread_calls _ bs w.heap.size w3 (by omega) (HB.out.below hw3)).mono ?_
  rintro e w4 ⟨u3, rfl, hown3, hb4⟩
  obtain ⟨a3, c3, rfl⟩ := owns_slice hown3
  have s4 := hb4.size
  have hw4 : Below w.heap.size w w4 := hw3.trans (hb4.mono (by omega))
  have h14 : Below w1.heap.size w1 w4 := hb2.trans ((hb3.trans (hb4.mono s3)).mono s2)
  have G4 : Hid (w4.ownsRow w1.heap.size 36 4 (.slice a1 (cellsOf bs).length c1) (cellsOf bs).length ((cellsOf bs).flatMap cvs)) := owns_below hown1 (hb3.trans (hb4.mono s3))
  have A4 : Hid (w4.ownsRow w2.heap.size 36 4 (.slice a2 (cellsOf bs).length c2) (cellsOf bs).length ((cellsOf bs).flatMap cvs)) := owns_below hown2 hb4
  have W4 : Hid (w4.ownsRow w3.heap.size 36 4 (.slice a3 (cellsOf bs).length c3) (cellsOf bs).length ((cellsOf bs).flatMap cvs)) := hown3
  have GL : Hid (∀ k, (Value.slice a1 (cellsOf bs).length c1).ownBlock = some k → w1.heap.size ≤ k ∧ k < w2.heap.size) := hown1.lt
  have P4 : Hid (HasB w1.heap.size w4 (.slice (some ⟨w.heap.size, 2, none⟩) bs.length (bs.length + 2)) bs) := hP1.below h14
  have B4 : Hid (HasB w.heap.size w4 (.slice xa bs.length xc) bs) := HB.out.below hw4
  have R4 : Hid (RowB w.heap.size (bs.length + 4) (byteAt (lent bs)) w4) := hr1.below h14 hg1
  have T4 : Hid (Lib.Utf8Tabs (Tryd.lays32_ren.g 2) (Tryd.lays32_ren.g 3) w4) := tabs_below HT.out hw4
  have H4 : Hid (Below w.heap.size w w4) := hw4
  have hcl := cellsOf_len bs
  clear hr1 hP1 hown1 hown2 hown3 hb1 hb2 hb3 hb4 hw2 hw3 hw4 h14 HB
  go_wp2_with fail
  -- the test: five calls, in any order
  have mixed : Tryd.prog.follows .mixedOrders = true := by kernel_rfl
  have D : ∀ d os, Below w4.heap.size w4 (Go.Sort.grow (redrawn w4 d) os) := fun d os => below_regrown w4 d os
  have q1 : ∀ d os, Calls Tryd.prog 15 #[.slice a1 (cellsOf bs).length c1, .slice a3 (cellsOf bs).length c3] (Go.Sort.grow (redrawn w4 d) os) fun e w'' => e = .returned (.bool true) ∧ ∃ p : Regrown, w'' = Go.Sort.grow (redrawn w4 p.d) p.os := fun d os => Calls.regrown_of (csame_calls _ _ _ _ (cellsOf bs) _ (by omega) (owns_below G4.out (D d os)) (owns_below W4.out (D d os)))
  have q2 : ∀ d os, Calls Tryd.prog 16 #[.slice (some ⟨w.heap.size, 2, none⟩) bs.length (bs.length + 2)] (Go.Sort.grow (redrawn w4 d) os) fun e w'' => e = .returned (.string ⟨(textOf (cellsOf bs)).toArray⟩) ∧ ∃ p : Regrown, w'' = Go.Sort.grow (redrawn w4 p.d) p.os := fun d os => Calls.regrown_of (itext_calls _ bs _ (by omega) ((P4.out.below ((D d os).mono (by omega))).mono0 (by have := (D d os).size; omega)) (tabs_below T4.out (D d os)))
  have q3 : ∀ d os, Calls Tryd.prog 17 #[.slice xa bs.length xc] (Go.Sort.grow (redrawn w4 d) os) fun e w'' => e = .returned (.string ⟨(textOf (cellsOf bs)).toArray⟩) ∧ ∃ p : Regrown, w'' = Go.Sort.grow (redrawn w4 p.d) p.os := fun d os => Calls.regrown_of (by rw [← text_one]; exact rtext_calls _ bs w.heap.size _ (by omega) hcl (B4.out.below ((D d os).mono (by omega))))
  have q4 : ∀ d os, Calls Tryd.prog 18 #[.string ⟨bs.toArray⟩] (Go.Sort.grow (redrawn w4 d) os) fun e w'' => e = .returned (.string ⟨(cleanB (runesI bs)).toArray⟩) ∧ ∃ p : Regrown, w'' = Go.Sort.grow (redrawn w4 p.d) p.os := fun d os => Calls.regrown_of (clean_calls bs _ (by omega) (tabs_below T4.out (D d os)))
  have q5 : ∀ d os, Calls Tryd.prog 19 #[.string ⟨bs.toArray⟩] (Go.Sort.grow (redrawn w4 d) os) fun e w'' => e = .returned (.string ⟨(cleanB (runesI bs)).toArray⟩) ∧ ∃ p : Regrown, w'' = Go.Sort.grow (redrawn w4 p.d) p.os := fun d os => Calls.regrown_of (by rw [← clean_one]; exact rclean_calls bs _ (by omega))
  have cv : ∀ d os, (convert 25 9 (.slice xa bs.length xc)).run Tryd.prog (Go.Sort.grow (redrawn w4 d) os) = .ok (.string ⟨bs.toArray⟩) (Go.Sort.grow (redrawn w4 d) os) := fun d os => conv_bytes (B4.out.below ((D d os).mono (by omega)))
  obtain ⟨T, hTx⟩ : ∃ T, textOf (cellsOf bs) = T := ⟨_, rfl⟩
  obtain ⟨C, hCx⟩ : ∃ C, cleanB (runesI bs) = C := ⟨_, rfl⟩
  rw [hTx] at q2 q3
  rw [hCx] at q4 q5
  clear hTx hCx
  refine wp_region_quiet_below mixed (by kernel_rfl) ?_
  repeat (go_big_quiet_step (first | with_reducible exact q1 _ _ | with_reducible exact q2 _ _ | with_reducible exact q3 _ _ | with_reducible exact q4 _ _ | with_reducible exact q5 _ _))
  refine wpQuiet_nil ?_
  intro _ hw'
  obtain ⟨⟨dq, osq⟩, hw''⟩ := hw'
  have hb5 : Below w4.heap.size w4 (Go.Sort.grow (redrawn w4 dq) osq) := D dq osq
  rw [← hw''] at hb5
  clear hw'' q1 q2 q3 q4 q5 cv D mixed
  rename_i w5
  go_wp2_with fail
  have s5 := hb5.size
  obtain ⟨G, hG⟩ : ∃ G, (Value.slice a1 (cellsOf bs).length c1).ownBlock = G := ⟨_, rfl⟩
  have HG : Hid ((Value.slice a1 (cellsOf bs).length c1).ownBlock = G) := hG
  have hGl : ∀ k, G = some k → w1.heap.size ≤ k ∧ k < w2.heap.size := fun k hk => GL.out k (hG.trans hk)
  have HGL : Hid (∀ k, G = some k → w1.heap.size ≤ k ∧ k < w2.heap.size) := hGl
  have hG5 := owns_below G4.out hb5
  have st5 : Hid (∀ g, G = some g → ∀ j, j < (cellsOf bs).length * 4 → (∃ u, w5.cell? ⟨g, j, none⟩ = some u) ∧ w5.frozen? ⟨g, j, none⟩ = false) := fun g hg j hj => by
    have hob := hG.trans hg
    rcases hG5.2 with ⟨e, h0⟩ | ⟨g', cap', cur, hv, _, hgk, hcap, hcm, hcs, htk⟩
    · omega
    · cases hv
      cases hob
      have hjl : j < ((cellsOf bs).flatMap cvs).length := by rw [hG5.1]; exact hj
      refine ⟨⟨((cellsOf bs).flatMap cvs)[j], ?_⟩, ?_⟩
      · rw [hG5.cellAt j (by omega)]
        exact List.getElem?_eq_getElem hjl
      · simp [World.frozen?, hgk]
  have H5 : Hid (Below w.heap.size w w5) := H4.out.trans (hb5.mono H4.out.size)
  have A5 := owns_below A4.out hb5
  have W5 := owns_below W4.out hb5
  have R5 := R4.out.below hb5 (by omega)
  have B5 := B4.out.below (hb5.mono (by omega))
  have HA5 : Hid (w5.ownsRow w2.heap.size 36 4 (.slice a2 (cellsOf bs).length c2) (cellsOf bs).length ((cellsOf bs).flatMap cvs)) := A5
  have HW5 : Hid (w5.ownsRow w3.heap.size 36 4 (.slice a3 (cellsOf bs).length c3) (cellsOf bs).length ((cellsOf bs).flatMap cvs)) := W5
  have HR5 : Hid (RowB w.heap.size (bs.length + 4) (byteAt (lent bs)) w5) := R5
  have HB5 : Hid (HasB w.heap.size w5 (.slice xa bs.length xc) bs) := B5
  clear hG hGl hG5 A5 W5 R5 B5 hb5
  go_loopw [42] (fun i wr => ∃ k : Nat, k ≤ (cellsOf bs).length ∧ i = .int .i64 k ∧ Hid (w5.grownBy wr G ∧ ∀ g, G = some g → ∀ j, j < (cellsOf bs).length * 4 → (∃ u, wr.cell? ⟨g, j, none⟩ = some u) ∧ wr.frozen? ⟨g, j, none⟩ = false)) (fun i _ => (cellsOf bs).length - (intOf i).toNat)
  case atStart => exact ⟨0, by omega, rfl, ⟨rfl, rfl, rfl, Nat.le_refl _, fun _ _ _ => rfl⟩, st5.out⟩
  case round =>
    obtain ⟨k, hk, rfl, hs⟩ := hrel
    by_cases hlt : k < (cellsOf bs).length
    · obtain ⟨g, rfl, _, hg, _⟩ := owns_cell G4.out k hlt
      have hGg : G = some g := HG.out.symm.trans rfl
      obtain ⟨⟨u, cu⟩, fu⟩ := hs.out.2 g hGg (k * 4) (by omega)
      have hfin : Hid (w5.grownBy (wr.setCell ⟨g, k * 4, none⟩ (.int .i32 120)) G ∧ ∀ g', G = some g' → ∀ j, j < (cellsOf bs).length * 4 → (∃ u, (wr.setCell ⟨g, k * 4, none⟩ (.int .i32 120)).cell? ⟨g', j, none⟩ = some u) ∧ (wr.setCell ⟨g, k * 4, none⟩ (.int .i32 120)).frozen? ⟨g', j, none⟩ = false) := by
        obtain ⟨hgr, hst⟩ := hs.out
        refine ⟨⟨hgr.os, hgr.tape, hgr.output, by simpa [World.setCell] using hgr.size, fun j hj hne => ?_⟩, fun g' hg' j hj => ?_⟩
        · rw [Below.heap_setCell _ _ _ _ (fun e => hne (by rw [hGg, e]))]; exact hgr.block j hj hne
        · rw [hGg] at hg'; cases hg'
          refine ⟨?_, by rw [World.frozen?_setCell]; exact (hst g hGg j hj).2⟩
          by_cases ej : j = k * 4
          · subst ej; exact ⟨_, cs_same cu⟩
          · obtain ⟨x, hx⟩ := (hst g hGg j hj).1
            exact ⟨x, (cs_other (by intro e; cases e; exact ej rfl)).trans hx⟩
      clear hs hGg
      go_wp2
      go_roundw
      case rel => exact ⟨k + 1, by omega, by go_num, hfin⟩
      case measure => simp [intOf]; omega
    · obtain rfl : k = (cellsOf bs).length := by omega
      obtain ⟨hgr, _⟩ := hs.out
      have hBr : Below w.heap.size w wr := H5.out.grown hgr H5.out.size (fun j hj => by have := HGL.out j hj; omega)
      have hB5r : Below w1.heap.size w5 wr := (Below.refl w1.heap.size w5).grown hgr (by omega) (fun j hj => (HGL.out j hj).1)
      have Ar : wr.ownsRow w2.heap.size 36 4 (.slice a2 (cellsOf bs).length c2) (cellsOf bs).length ((cellsOf bs).flatMap cvs) := HA5.out.kept hgr (by
        cases e : (Value.slice a2 (cellsOf bs).length c2).ownBlock with
        | none => exact .inl rfl
        | some j => exact .inr (fun e' => by have h1 := (HA5.out.lt j e).1; have h2 := (HGL.out j e'.symm).2; omega))
      have Wr : wr.ownsRow w3.heap.size 36 4 (.slice a3 (cellsOf bs).length c3) (cellsOf bs).length ((cellsOf bs).flatMap cvs) := HW5.out.kept hgr (by
        cases e : (Value.slice a3 (cellsOf bs).length c3).ownBlock with
        | none => exact .inl rfl
        | some j => exact .inr (fun e' => by have h1 := (HW5.out.lt j e).1; have h2 := (HGL.out j e'.symm).2; omega))
      have Rr : RowB w.heap.size (bs.length + 4) (byteAt (lent bs)) wr := ⟨fun j hj => (hB5r.cell (p := ⟨w.heap.size, j, none⟩) hg1).trans (HR5.out.1 j hj), fun j hj => (hB5r.frozen (p := ⟨w.heap.size, j, none⟩) hg1).trans (HR5.out.2 j hj)⟩
      have Br := HB5.out.below (hB5r.mono (by omega))
      have HAr : Hid (wr.ownsRow w2.heap.size 36 4 (.slice a2 (cellsOf bs).length c2) (cellsOf bs).length ((cellsOf bs).flatMap cvs)) := Ar
      have HWr : Hid (wr.ownsRow w3.heap.size 36 4 (.slice a3 (cellsOf bs).length c3) (cellsOf bs).length ((cellsOf bs).flatMap cvs)) := Wr
      have HRr : Hid (RowB w.heap.size (bs.length + 4) (byteAt (lent bs)) wr) := Rr
      have HBr : Hid (HasB w.heap.size wr (.slice xa bs.length xc) bs) := Br
      have hzr := hBr.size
      have hgz := hgr.size
      clear Ar Wr Rr Br hgr hB5r hs
      go_wp2_with fail
      refine (csame_calls _ _ _ _ (cellsOf bs) wr (by omega) HAr.out HWr.out).mono ?_
      rintro e w6 ⟨rfl, k6⟩
      go_wp2_with fail
      refine (kept_calls _ bs w.heap.size _ w6 (by omega) (HBr.out.below (k6.mono hzr)) (HRr.out.below k6 (by omega))).mono ?_
      rintro e w7 ⟨rfl, k7⟩
      have K7 : Below wr.heap.size wr w7 := k6.trans (k7.mono k6.size)
      have hB7 : Below w.heap.size w w7 := hBr.trans (K7.mono hzr)
      clear k6 k7
      go_wp2_with fail
      refine (ilives_calls w7 (tabs_below HT.out hB7)).mono ?_
      rintro e w8 ⟨rfl, k8⟩
      go_wp2
      go_ret
      exact ⟨rfl, hB7.trans (k8.mono hB7.size)⟩

set_option maxRecDepth 100000 in
theorem contract (H : Type) (enc : TypeId × Value → H) (W : World) (base : Nat) (args : Array Value) (ds gs : List (DataW H)) (before : List MemPlace)
    (hval : ∀ (j : Nat) t v, Tryd.f4.params[j]? = some t → args[j]? = some v → Value.okWide Tryd.prog W .any base t v)
    (hW : DataW.Whole enc Tryd.prog Tryd.f4.params.toList Rows.inputReadsSpec.vars false W args.toList ds gs before) (hL : laidMetH Tryd.prog Rows.inputReadsUptoRow.laid W) (hk : Rows.uptoSmall H (ds ++ gs) = true) :
    Calls Tryd.prog 4 args W fun e W' => ∃ v, e = .returned v ∧ Rows.inputReadsSpec.post enc Tryd.prog Tryd.f4 false true false false W args v W' := by
  have hW' := hW
  have hlt := hW.lt
  obtain ⟨p, q, hA0, hV, rfl, hfz, hnd⟩ := hW
  have hA : DataW.TrodAll enc Tryd.prog W 0 (fun _ => true) true Tryd.f4.params.toList args.toList ds p := hA0
  rw [Tryd.params4] at hA hval
  obtain ⟨v0, vs0, d0, ds0, p0, q0, hargs, rfl, rfl, h0, r0⟩ := trodAll_cons hA
  obtain ⟨rfl, rfl, rfl⟩ := trodAll_nil r0
  obtain rfl : args = #[v0] := by cases args; simp_all
  obtain ⟨rfl, rfl⟩ := trodVars_none hV
  clear hA0
  simp only [List.append_nil] at hW' hlt hk
  have hbulk := of_decide_eq_true hk
  simp only [Rows.uptoBulkAll] at hbulk
  have e0 := okWide_slice Tryd.underlying25 (hval 0 25 v0 rfl rfl)
  obtain ⟨b0, hb0, l0⟩ := bytes_of_read (by kernel_rfl) e0 h0
  refine (walk W (tabs_of_laid hL) v0 b0 hb0 (by omega)).mono fun e W' ⟨he, hb⟩ => ?_
  subst he
  exact ⟨_, rfl, post_below hW' (fun _ _ _ => trodAll_cons_mk (shut_bool Tryd.underlying4 _) trodAll_mk0) (trodAll_cons_mk (stays (by kernel_rfl) (of_decide_eq_true (by kernel_rfl)) h0 hb (fun x hx => hlt x (by simp [hx]))) trodAll_mk0) rfl hb⟩

set_option maxRecDepth 100000 in
theorem laid_met (os : Os) : laidMet Tryd.prog Rows.inputReadsUptoRow.laid ((withTabs (World.holding Tryd.prog os ⟨#[], #[], []⟩)).forCall (fun _ _ => 0) ⟨#[], #[Value.slice none 0 0], []⟩).memory :=
  laidMet_of_run' 8 (by kernel_rfl) (by kernel_rfl)
set_option maxRecDepth 100000 in
theorem reads (os : Os) {H : Type} (enc : TypeId × Value → H) : ∃ places, DataW.whole enc Tryd.prog ((withTabs (World.holding Tryd.prog os ⟨#[], #[], []⟩)).forCall (fun _ _ => 0) ⟨#[], #[Value.slice none 0 0], []⟩).memory Tryd.f4.params.toList Rows.inputReadsSpec.vars false #[Value.slice none 0 0].toList 8 = some ([.nil], [], places) :=
  ⟨[], by kernel_rfl⟩

set_option maxRecDepth 100000 in
theorem lifted (os : Os) (started : os.Started) (H : Type) (enc : TypeId × Value → H) (F : Stop.Interp) :
    ReturnsInHanded {} Tryd.checked os 4 .any ((Rows.OpenSpec.upto Rows.inputReadsSpec).preRow enc Tryd.prog Tryd.f4 Rows.inputReadsUptoRow.domain false Rows.inputReadsUptoRow.laid) (((Rows.OpenSpec.upto Rows.inputReadsSpec).at F).post enc Tryd.prog Tryd.f4 false true false false) := by
  obtain ⟨places, hx⟩ := reads os enc
  refine returnsInHanded_of_row (C := Tryd.checked) (s := Rows.OpenSpec.upto Rows.inputReadsSpec) own started (by kernel_rfl) Tryd.func4
    (witness_row_at (enc := enc) (C := Tryd.checked) false (withTabs (World.holding Tryd.prog os ⟨#[], #[], []⟩)) #[Value.slice none 0 0] rfl (by kernel_rfl) (by kernel_rfl) (by kernel_rfl)
      (OpenSpec.preRow_of_cond 8 hx (by kernel_rfl) (fun k hk => by cases hk; kernel_rfl) (by kernel_rfl) (laid_met os))) ?_
  intro W base args ds gs before hval hW _ hcond _ hL _ _
  exact contract H enc W base args ds gs before hval hW hL (hcond _ rfl)

set_option maxRecDepth 100000 in
theorem said : Rows.InputReadsUptoSaid :=
  OpenClaim.holds_of_cond 4 Tryd.f4 rfl rfl rfl rfl rfl rfl rfl ⟨rfl, rfl, rfl, rfl, rfl⟩ rfl rfl rfl rfl rfl (by kernel_rfl) Tryd.func4 (by kernel_rfl)
    (of_decide_eq_true (by kernel_rfl)) (by unfold Func.isWrapper; first | (rw [if_pos (by decide +kernel)]; kernel_rfl) | (rw [if_neg (by decide +kernel)]; exact ⟨rfl, rfl⟩))
    (fun os started H enc _ F => by rw [OpenClaim.pre_eq_preRow]; exact lifted os started H enc F)

theorem plain (f : FuncId) (fn : Func) (hf : Tryd.pinned.checked.prog.funcNamed "sieve/sievelaw03.InputReads" = some f) (hfn : Tryd.pinned.checked.prog.funcs[f]? = some fn) :
    false = Tryd.pinned.checked.prog.looks [] ∧ ∀ (j : Nat) t, fn.params[j]? = some t → Tryd.pinned.checked.prog.wantsStandIn t = false := by
  obtain rfl : f = 4 := Option.some.inj ((show Tryd.prog.funcNamed "sieve/sievelaw03.InputReads" = some 4 by kernel_rfl).symm.trans hf) |>.symm
  obtain rfl : fn = Tryd.f4 := (Option.some.inj (Tryd.func4.symm.trans hfn)).symm
  refine ⟨by kernel_rfl, fun j t ht => ?_⟩
  rw [Tryd.params4] at ht
  have hm := Array.mem_of_getElem? ht
  simp only [List.mem_toArray, List.mem_cons, List.not_mem_nil, or_false] at hm
  subst hm
  · exact (show Tryd.prog.wantsStandIn 25 = false by kernel_rfl)

theorem card : Rows.InputReadsUptoCardSaid :=
  Claim7.holds_tied_plain_at .later [] _ _ _ _ said (fun _ h => by cases h) (by kernel_rfl) (fun _ h => by cases h) inputReadsUpto_row_tie rfl ⟨rfl, rfl⟩ (by kernel_rfl) rfl plain (by kernel_rfl)

end Go.Proofs.YtpljklemkapnmaaDoor.InReads
