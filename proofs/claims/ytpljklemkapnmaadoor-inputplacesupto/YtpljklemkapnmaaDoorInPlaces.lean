/- What is proved here: the statement InputPlaces (cells are plain, places rise, lines and columns go on as they must; Text again is itself, and clean) holds for any bytes, where the arguments hold at most 1048576 values, with no other condition but what the card says of the two tables of unicode/utf8. -/
import Derived.Test.YtpljklemkapnmaaDoorCards
import Derived.Test.YtpljklemkapnmaaDoorTie
import Derived.Test.YtpljklemkapnmaaDoorOpen
import Derived.Test.YtpljklemkapnmaaDoorILives
import Derived.Test.YtpljklemkapnmaaDoorMathP
import Derived.Lib.QuietBelow
import Derived.BigQuiet
import Derived.ProofKit
import Derived.OpenShut
namespace Go.Proofs.YtpljklemkapnmaaDoor.InPlaces
open Go.ChangeShapes Go.WideShapes Go.ChangeAt Go.RowKit Go.Shelf U

theorem hasB_slice {n₀ : Nat} {w : World} {v : Value} {bs : List UInt8} (hl : HasB n₀ w v bs) : ∃ a cap, v = .slice a bs.length cap := by
  rcases hl with ⟨rfl, a, cap, rfl⟩ | ⟨hp, b, off, cap, rfl, _⟩
  · exact ⟨a, cap, rfl⟩
  · exact ⟨_, cap, rfl⟩
/-- The place that was last, in memory. -/
structure LastAt (W : World) (A : Nat) (y l c : Int) : Prop where
  c0 : W.cell? ⟨A, 0, none⟩ = some (.int .i64 y)
  c1 : W.cell? ⟨A, 1, none⟩ = some (.int .i64 l)
  c2 : W.cell? ⟨A, 2, none⟩ = some (.int .i64 c)
  fz : ∀ k, W.frozen? ⟨A, k, none⟩ = false
theorem LastAt.below {A B : World} {n : Nat} {y l c : Int} (h : LastAt A n y l c) (hB : Below A.heap.size A B) : LastAt B n y l c :=
  have hn : n < A.heap.size := cell_lt h.c0
  ⟨(hB.cell (p := ⟨n, 0, none⟩) hn).trans h.c0, (hB.cell (p := ⟨n, 1, none⟩) hn).trans h.c1, (hB.cell (p := ⟨n, 2, none⟩) hn).trans h.c2, fun k => (hB.frozen (p := ⟨n, k, none⟩) hn).trans (h.fz k)⟩
theorem LastAt.store {W : World} {n : Nat} {y l c : Int} (h : LastAt W n y l c) (y' l' c' : Int) : LastAt (((W.setCell ⟨n, 0, none⟩ (.int .i64 y')).setCell ⟨n, 1, none⟩ (.int .i64 l')).setCell ⟨n, 2, none⟩ (.int .i64 c')) n y' l' c' := by
  refine ⟨?_, ?_, ?_, fun k => by rw [World.frozen?_setCell, World.frozen?_setCell, World.frozen?_setCell]; exact h.fz k⟩
  · rw [cs_other (by simp), cs_other (by simp)]; exact cs_same h.c0
  · rw [cs_other (by simp)]; exact cs_same (u := .int .i64 l) (by rw [cs_other (by simp)]; exact h.c1)
  · exact cs_same (u := .int .i64 c) (by rw [cs_other (by simp), cs_other (by simp)]; exact h.c2)

theorem LastAt.drew {W : World} {n : Nat} {y l c : Int} (h : LastAt W n y l c) : LastAt W.drew n y l c := ⟨h.c0, h.c1, h.c2, h.fz⟩
theorem _root_.Go.World.grownBy.put {w w' : World} {g : Nat} (h : w.grownBy w' (some g)) (i : Nat) (v : Value) : w.grownBy (w'.setCell ⟨g, i, none⟩ v) (some g) :=
  ⟨h.os, h.tape, h.output, by simpa [World.setCell] using h.size, fun j hj hne => by rw [Below.heap_setCell _ _ _ _ (fun e => hne (by rw [e]))]; exact h.block j hj hne⟩
theorem _root_.Go.World.grownBy.drew {w w' : World} {g : Option Nat} (h : w.grownBy w' g) : w.grownBy w'.drew g := ⟨h.1, h.2, h.3, h.size, h.block⟩

set_option maxRecDepth 100000 in
set_option maxHeartbeats 8000000 in
theorem walk (w : World) (hT : Lib.Utf8Tabs (Tryd.lays32_ren.g 2) (Tryd.lays32_ren.g 3) w) (v : Value) (bs : List UInt8) (hb : HasB w.heap.size w v bs) (hl : bs.length ≤ 1048576) :
    Calls Tryd.prog 8 #[v] w fun e w' => e = .returned (.bool true) ∧ Below w.heap.size w w' := by
  have HT : Hid (Lib.Utf8Tabs (Tryd.lays32_ren.g 2) (Tryd.lays32_ren.g 3) w) := hT
  have HB : Hid (HasB w.heap.size w v bs) := hb
  obtain ⟨xa, xc, rfl⟩ := hasB_slice hb
  have mixed : Tryd.prog.follows .mixedOrders = true := by kernel_rfl
  clear hT hb
  go_enter Tryd.func8, Tryd.ntmps8
  go_wp2_with fail
  obtain ⟨w1, hw1⟩ : ∃ w1, w.alloc (.cells #[.int .i64 (-1), .int .i64 1, .int .i64 0] 34) = w1 := ⟨_, rfl⟩
  have hb1 : Below w.heap.size w w1 := by rw [← hw1]; exact (Below.refl _ w).alloc (Nat.le_refl _) _
  have z1 : w1.heap.size = w.heap.size + 1 := by rw [← hw1]; simp
  have la1 : LastAt w1 w.heap.size (-1) ((1 : Nat) : Int) ((0 : Nat) : Int) := by
    have hn := World.alloc_heap_new w (.cells #[.int .i64 (-1), .int .i64 1, .int .i64 0] 34)
    rw [hw1] at hn
    exact ⟨by simp [World.cell?, hn], by simp [World.cell?, hn], by simp [World.cell?, hn], fun k => by simp [World.frozen?, hn]⟩
  rw [hw1]
  clear hw1
  refine (Read_calls _ bs w1 (by omega) ((HB.out.below hb1).mono0 hb1.size) (tabs_below HT.out hb1)).mono ?_
  rintro e w2 ⟨u1, rfl, hown, hb2⟩
  obtain ⟨a1, c1, rfl⟩ := owns_slice hown
  have s2 := hb2.size
  have la2 := la1.below hb2
  have hris := cells_rise bs
  obtain ⟨xs, hxs⟩ : ∃ xs, cellsOf bs = xs := ⟨_, rfl⟩
  have HXS : Hid (cellsOf bs = xs) := hxs
  have hcl := cellsOf_len bs
  rw [hxs] at hown hris hcl
  have HO : Hid (w2.ownsRow w1.heap.size 36 4 (.slice a1 xs.length c1) xs.length (xs.flatMap cvs)) := hown
  have hw2 : Hid (Below w.heap.size w w2) := hb1.trans (hb2.mono (by omega))
  rw [hxs]
  clear hxs hown hb1 hb2 la1
  go_wp2_with fail
  go_loopw [4, 12] (fun nl i wr => ∃ (k pl pc : Nat) (py : Int) (b : Bool), k ≤ xs.length ∧ i = .int .i64 k ∧ nl = .bool b ∧ pl ≤ k + 1 ∧ pc ≤ k + 1 ∧ Hid (LastAt wr w.heap.size py pl pc) ∧ Hid (Rises bs.length py (if b = true then pl + 1 else pl) (if b = true then 1 else pc + 1) (xs.drop k)) ∧ Hid (w2.grownBy wr (some w.heap.size))) (fun _ i _ => xs.length - (intOf i).toNat)
  case atStart => exact ⟨0, 1, 0, -1, false, by omega, rfl, rfl, by omega, by omega, la2, (by simpa using hris : Rises bs.length (-1) (if false = true then 1 + 1 else 1) (if false = true then 1 else 0 + 1) (xs.drop 0)), ⟨rfl, rfl, rfl, Nat.le_refl _, fun _ _ _ => rfl⟩⟩
  case round =>
    obtain ⟨k, pl, pc, py, b, hk, rfl, rfl, hpl, hpc, hla, hri, hgr⟩ := hrel
    by_cases hlt : k < xs.length
    · obtain ⟨g, rfl, hgb, hgl, r0, r1, r2, r3⟩ := owns_cell HO.out k hlt
      have hri' := hri.out
      rw [List.drop_eq_getElem_cons hlt] at hri'
      obtain ⟨x, hx⟩ : ∃ x, xs[k] = x := ⟨_, rfl⟩
      have hm : x ∈ cellsOf bs := by rw [HXS.out, ← hx]; exact List.getElem_mem hlt
      rw [hx] at r0 r1 r2 r3 hri'
      clear hx
      obtain ⟨hp, hy0, hy1, hlx, hcx, hrest⟩ := hri'
      have hblk : wr.heap[g]? = w2.heap[g]? := hgr.out.block g hgl (fun e => by cases e; omega)
      have q0 : wr.cell? ⟨g, k * 4, none⟩ = some (.int .i32 (x.r : Int)) := (cell_of_block hblk).trans r0
      have q1 : wr.cell? ⟨g, k * 4 + 1, none⟩ = some (.int .i64 (x.y : Int)) := (cell_of_block hblk).trans r1
      have q2 : wr.cell? ⟨g, k * 4 + 2, none⟩ = some (.int .i64 (x.l : Int)) := (cell_of_block hblk).trans r2
      have q3 : wr.cell? ⟨g, k * 4 + 3, none⟩ = some (.int .i64 (x.c : Int)) := (cell_of_block hblk).trans r3
      have HREST : Hid (Rises bs.length x.y (if x.r = 10 then (if b = true then pl + 1 else pl) + 1 else (if b = true then pl + 1 else pl)) (if x.r = 10 then 1 else (if b = true then 1 else pc + 1) + 1) (xs.drop (k + 1))) := hrest
      have HP : Hid (plainN x.r = x.r) := hp
      have HLX : Hid (x.l = if b = true then pl + 1 else pl) := hlx
      have HCX : Hid (x.c = if b = true then 1 else pc + 1) := hcx
      have hxr : x.r < 1114112 := by
        have := (cell_ok bs x hm).2.1
        omega
      have PC : Hid (∀ W, Calls Tryd.prog 9 #[.int .i32 (x.r : Int)] W fun e w' => e = .returned (.int .i32 (x.r : Int)) ∧ Below W.heap.size W w') := fun W => by
        have h := plain_calls (x.r : Int) (by omega) (by omega) W
        rw [← plainN_eq, HP.out] at h
        exact h.mono fun _ _ ⟨he, hw⟩ => ⟨he, by rw [hw]; exact Below.refl _ _⟩
      clear r0 r1 r2 r3 hrest hp hlx hcx hri hblk hm
      go_wp2_with fail
      obtain ⟨W5, hW5⟩ : ∃ W5, wr.alloc (.cells #[.int .i32 (x.r : Int), .int .i64 (x.y : Int), .int .i64 (x.l : Int), .int .i64 (x.c : Int)] 36) = W5 := ⟨_, rfl⟩
      have hb5 : Below wr.heap.size wr W5 := by rw [← hW5]; exact (Below.refl _ wr).alloc (Nat.le_refl _) _
      have hn5 : W5.heap[wr.heap.size]? = some (.cells #[.int .i32 (x.r : Int), .int .i64 (x.y : Int), .int .i64 (x.l : Int), .int .i64 (x.c : Int)] 36 (0, 0)) := by rw [← hW5]; exact World.alloc_heap_new _ _
      have f0 : W5.cell? ⟨wr.heap.size, 0, none⟩ = some (.int .i32 (x.r : Int)) := by simp [World.cell?, hn5]
      have f1 : W5.cell? ⟨wr.heap.size, 1, none⟩ = some (.int .i64 (x.y : Int)) := by simp [World.cell?, hn5]
      have f2 : W5.cell? ⟨wr.heap.size, 2, none⟩ = some (.int .i64 (x.l : Int)) := by simp [World.cell?, hn5]
      have f3 : W5.cell? ⟨wr.heap.size, 3, none⟩ = some (.int .i64 (x.c : Int)) := by simp [World.cell?, hn5]
      have la5 := hla.out.below hb5
      have m0 := fun d os => cell_regrown f0 d os
      have m1 := fun d os => cell_regrown f1 d os
      have m2 := fun d os => cell_regrown la5.c0 d os
      have cq : ∀ d os, Calls Tryd.prog 9 #[.int .i32 (x.r : Int)] (Go.Sort.grow (redrawn W5 d) os) fun e w'' => e = .returned (.int .i32 (x.r : Int)) ∧ ∃ p : Regrown, w'' = Go.Sort.grow (redrawn W5 p.d) p.os := fun d os => Calls.regrown_of (PC.out _)
      have ty : decide ((x.y : Int) ≤ py) = false := by simp; omega
      have tN : decide ((bs.length : Int) ≤ (x.y : Int)) = false := by simp; omega
      have tM : decide (bs.length ≤ x.y) = false := by simp; omega
      have HF : Hid (W5.cell? ⟨wr.heap.size, 0, none⟩ = some (.int .i32 (x.r : Int)) ∧ W5.cell? ⟨wr.heap.size, 1, none⟩ = some (.int .i64 (x.y : Int)) ∧ W5.cell? ⟨wr.heap.size, 2, none⟩ = some (.int .i64 (x.l : Int)) ∧ W5.cell? ⟨wr.heap.size, 3, none⟩ = some (.int .i64 (x.c : Int))) := ⟨f0, f1, f2, f3⟩
      have HLA5 : Hid (LastAt W5 w.heap.size py pl pc) := la5
      have HB5 : Hid (Below wr.heap.size wr W5) := hb5
      try rw [hW5]
      clear hW5 hn5 f0 f1 f2 f3 q0 q1 q2 q3 hb5 la5
      refine wp_region_quiet_below mixed (by kernel_rfl) ?_
      repeat (go_big_quiet_step (with_reducible exact cq _ _))
      refine wpQuiet_nil ?_
      intro W6 hw'
      obtain ⟨⟨dq, osq⟩, hw''⟩ := hw'
      have hb6 : Below W5.heap.size W5 W6 := by rw [hw'']; exact below_regrown W5 dq osq
      have z5 : wr.heap.size < W5.heap.size := cell_lt HF.out.1
      have e0 := (hb6.cell (p := ⟨wr.heap.size, 0, none⟩) z5).trans HF.out.1
      have e1 := (hb6.cell (p := ⟨wr.heap.size, 1, none⟩) z5).trans HF.out.2.1
      have e2 := (hb6.cell (p := ⟨wr.heap.size, 2, none⟩) z5).trans HF.out.2.2.1
      have e3 := (hb6.cell (p := ⟨wr.heap.size, 3, none⟩) z5).trans HF.out.2.2.2
      have la6 := HLA5.out.below hb6
      have HLA6 : Hid (LastAt W6 w.heap.size py pl pc) := la6
      have g0 := la6.c0
      have g1 := la6.c1
      have g2 := la6.c2
      have k0 := la6.fz 0
      have k1 := la6.fz 1
      have k2 := la6.fz 2
      have hgr6 : Hid (w2.grownBy W6 (some w.heap.size)) := by
        have h5 := HB5.out
        have hz := hgr.out.size
        have h5s := h5.size
        exact ⟨hb6.os.trans (h5.os.trans hgr.out.os), hb6.tape.trans (h5.tape.trans hgr.out.tape), hb6.output.trans (h5.output.trans hgr.out.output), by have := hb6.size; omega, fun j hj hne => ((hb6.block j (by omega)).trans (h5.block j (by omega))).trans (hgr.out.block j hj hne)⟩
      have hne0 : w.heap.size < wr.heap.size := cell_lt hla.out.c0
      have hne1 : ¬ w.heap.size = wr.heap.size := by omega
      have hne2 : ¬ wr.heap.size = w.heap.size := by omega
      clear hw'' m0 m1 m2 cq ty tN tM la6 hla hgr
      cases b with
      | true =>
        have hl' : (x.l : Int) = (pl : Int) + 1 := by have := HLX.out; simp at this; omega
        have hc' : (x.c : Int) = 1 := by have := HCX.out; simp at this; omega
        rw [hl'] at e2
        rw [hc'] at e3
        go_wp2_with fail
        go_region
        go_wp2
        go_roundw
        case rel =>
          refine ⟨k + 1, pl + 1, 1, x.y, ((x.r : Int) == 10), by omega, by go_num, rfl, by omega, by omega, (HLA6.out.store x.y ((pl + 1 : Nat) : Int) ((1 : Nat) : Int)).drew, ?_, (((hgr6.out.put 0 _).put 1 _).put 2 _).drew⟩
          have h := HREST.out
          show Rises _ _ _ _ _
          by_cases h10 : x.r = 10
          · simpa [h10] using h
          · have h10' : ¬ ((x.r : Int) = 10) := by omega
            simpa [h10, h10'] using h
        case measure => simp [intOf]; omega
      | false =>
        have hl' : (x.l : Int) = (pl : Int) := by have := HLX.out; simp at this; omega
        have hc' : (x.c : Int) = (pc : Int) + 1 := by have := HCX.out; simp at this; omega
        rw [hl'] at e2
        rw [hc'] at e3
        go_wp2_with fail
        go_region
        go_wp2
        go_roundw
        case rel =>
          refine ⟨k + 1, pl, pc + 1, x.y, ((x.r : Int) == 10), by omega, by go_num, rfl, by omega, by omega, (HLA6.out.store x.y (pl : Int) ((pc + 1 : Nat) : Int)).drew, ?_, (((hgr6.out.put 0 _).put 1 _).put 2 _).drew⟩
          have h := HREST.out
          show Rises _ _ _ _ _
          by_cases h10 : x.r = 10
          · simpa [h10] using h
          · have h10' : ¬ ((x.r : Int) = 10) := by omega
            simpa [h10, h10'] using h
        case measure => simp [intOf]; omega
    · obtain rfl : k = xs.length := by omega
      have hz := hgr.out.size
      have s0 := hw2.out.size
      have hBr : Below w.heap.size w wr := hw2.out.grown hgr.out s0 (fun j hj => by cases hj; omega)
      have hzr := hBr.size
      have HBr : Hid (HasB w.heap.size wr (.slice xa bs.length xc) bs) := HB.out.below hBr
      clear hla hri hgr
      go_wp2_with fail
      refine (itext_calls _ bs wr (by omega) (HBr.out.mono0 hzr) (tabs_below HT.out hBr)).mono ?_
      rintro e w3 ⟨rfl, hb3⟩
      have hB3 : Below w.heap.size w w3 := hBr.trans (hb3.mono hzr)
      have hta := text_again bs
      have hct := clean_text bs
      have htl := textOf_le (cellsOf bs)
      rw [HXS.out] at htl
      rw [HXS.out] at hta hct
      try rw [HXS.out]
      obtain ⟨T, hT⟩ : ∃ T, textOf xs = T := ⟨_, rfl⟩
      rw [hT] at hta hct htl
      rw [hT]
      clear hT
      have hcv := Lib.run_convert_string_bytes (P := Tryd.prog) w3 9 25 5 ⟨T.toArray⟩ Tryd.underlying9 Tryd.underlying25 Tryd.underlying5
      rw [show (⟨T.toArray⟩ : ByteArray).size = T.length by simp [ByteArray.size]] at hcv
      have hrow := bytesWorld_row w3 5 T
      have hbel := bytesWorld_below w3 5 ⟨T.toArray⟩
      have hsz := Lib.bytesWorld_size w3 5 ⟨T.toArray⟩
      obtain ⟨w4, hw4⟩ : ∃ w4, Lib.bytesWorld w3 5 ⟨T.toArray⟩ = w4 := ⟨_, rfl⟩
      have hge := grownCap_ge w3 T.length 0 5
      obtain ⟨cp, hcp⟩ : ∃ cp, grownCap w3 T.length 0 5 = cp := ⟨_, rfl⟩
      rw [hw4] at hrow hbel hsz hcv
      rw [hcp] at hge hcv
      have HRow : Hid (RowB w3.heap.size T.length (byteAt T) w4) := hrow
      have HA : Hid (textOf (cellsOf T) = T) := hta
      have HC : Hid (cleanB (runesI T) = T) := hct
      have hB4 : Below w.heap.size w w4 := hB3.trans (hbel.mono hB3.size)
      clear hrow hbel hw4 hcp hta hct
      go_wp2_with fail
      trace_state
      refine (itext_calls _ T w4 (by omega) (RowB.hasB0 rfl HRow.out hge _ (by omega)) (tabs_below HT.out hB4)).mono ?_
      rintro e w5 ⟨rfl, hb5⟩
      rw [HA.out]
      have hB5 : Below w.heap.size w w5 := hB4.trans (hb5.mono hB4.size)
      go_wp2_with fail
      refine (clean_calls T w5 (by omega) (tabs_below HT.out hB5)).mono ?_
      rintro e w6 ⟨rfl, hb6⟩
      rw [HC.out]
      have hB6 : Below w.heap.size w w6 := hB5.trans (hb6.mono hB5.size)
      go_wp2_with fail
      refine (ilives_calls w6 (tabs_below HT.out hB6)).mono ?_
      rintro e w7 ⟨rfl, k7⟩
      go_wp2
      go_ret
      exact ⟨rfl, hB6.trans (k7.mono hB6.size)⟩

set_option maxRecDepth 100000 in
theorem contract (H : Type) (enc : TypeId × Value → H) (W : World) (base : Nat) (args : Array Value) (ds gs : List (DataW H)) (before : List MemPlace)
    (hval : ∀ (j : Nat) t v, Tryd.f8.params[j]? = some t → args[j]? = some v → Value.okWide Tryd.prog W .any base t v)
    (hW : DataW.Whole enc Tryd.prog Tryd.f8.params.toList Rows.inputPlacesSpec.vars false W args.toList ds gs before) (hL : laidMetH Tryd.prog Rows.inputPlacesUptoRow.laid W) (hk : Rows.uptoSmall H (ds ++ gs) = true) :
    Calls Tryd.prog 8 args W fun e W' => ∃ v, e = .returned v ∧ Rows.inputPlacesSpec.post enc Tryd.prog Tryd.f8 false true false false W args v W' := by
  have hW' := hW
  have hlt := hW.lt
  obtain ⟨p, q, hA0, hV, rfl, hfz, hnd⟩ := hW
  have hA : DataW.TrodAll enc Tryd.prog W 0 (fun _ => true) true Tryd.f8.params.toList args.toList ds p := hA0
  rw [Tryd.params8] at hA hval
  obtain ⟨v0, vs0, d0, ds0, p0, q0, hargs, rfl, rfl, h0, r0⟩ := trodAll_cons hA
  obtain ⟨rfl, rfl, rfl⟩ := trodAll_nil r0
  obtain rfl : args = #[v0] := by cases args; simp_all
  obtain ⟨rfl, rfl⟩ := trodVars_none hV
  clear hA0
  simp only [List.append_nil] at hW' hlt hk
  have hbulk := of_decide_eq_true hk
  simp only [Rows.uptoBulkAll] at hbulk
  have e0 := okWide_slice Tryd.underlying25 (hval 0 25 v0 rfl rfl)
  obtain ⟨b0, hb0, l0⟩ := bytes_of_read (by kernel_rfl) e0 h0
  refine (walk W (tabs_of_laid hL) v0 b0 hb0 (by omega)).mono fun e W' ⟨he, hb⟩ => ?_
  subst he
  exact ⟨_, rfl, post_below hW' (fun _ _ _ => trodAll_cons_mk (shut_bool Tryd.underlying4 _) trodAll_mk0) (trodAll_cons_mk (stays (by kernel_rfl) (of_decide_eq_true (by kernel_rfl)) h0 hb (fun x hx => hlt x (by simp [hx]))) trodAll_mk0) rfl hb⟩

set_option maxRecDepth 100000 in
theorem laid_met (os : Os) : laidMet Tryd.prog Rows.inputPlacesUptoRow.laid ((withTabs (World.holding Tryd.prog os ⟨#[], #[], []⟩)).forCall (fun _ _ => 0) ⟨#[], #[Value.slice none 0 0], []⟩).memory :=
  laidMet_of_run' 8 (by kernel_rfl) (by kernel_rfl)
set_option maxRecDepth 100000 in
theorem reads (os : Os) {H : Type} (enc : TypeId × Value → H) : ∃ places, DataW.whole enc Tryd.prog ((withTabs (World.holding Tryd.prog os ⟨#[], #[], []⟩)).forCall (fun _ _ => 0) ⟨#[], #[Value.slice none 0 0], []⟩).memory Tryd.f8.params.toList Rows.inputPlacesSpec.vars false #[Value.slice none 0 0].toList 8 = some ([.nil], [], places) :=
  ⟨[], by kernel_rfl⟩

set_option maxRecDepth 100000 in
theorem lifted (os : Os) (started : os.Started) (H : Type) (enc : TypeId × Value → H) (F : Stop.Interp) :
    ReturnsInHanded {} Tryd.checked os 8 .any ((Rows.OpenSpec.upto Rows.inputPlacesSpec).preRow enc Tryd.prog Tryd.f8 Rows.inputPlacesUptoRow.domain false Rows.inputPlacesUptoRow.laid) (((Rows.OpenSpec.upto Rows.inputPlacesSpec).at F).post enc Tryd.prog Tryd.f8 false true false false) := by
  obtain ⟨places, hx⟩ := reads os enc
  refine returnsInHanded_of_row (C := Tryd.checked) (s := Rows.OpenSpec.upto Rows.inputPlacesSpec) own started (by kernel_rfl) Tryd.func8
    (witness_row_at (enc := enc) (C := Tryd.checked) false (withTabs (World.holding Tryd.prog os ⟨#[], #[], []⟩)) #[Value.slice none 0 0] rfl (by kernel_rfl) (by kernel_rfl) (by kernel_rfl)
      (OpenSpec.preRow_of_cond 8 hx (by kernel_rfl) (fun k hk => by cases hk; kernel_rfl) (by kernel_rfl) (laid_met os))) ?_
  intro W base args ds gs before hval hW _ hcond _ hL _ _
  exact contract H enc W base args ds gs before hval hW hL (hcond _ rfl)

set_option maxRecDepth 100000 in
theorem said : Rows.InputPlacesUptoSaid :=
  OpenClaim.holds_of_cond 8 Tryd.f8 rfl rfl rfl rfl rfl rfl rfl ⟨rfl, rfl, rfl, rfl, rfl⟩ rfl rfl rfl rfl rfl (by kernel_rfl) Tryd.func8 (by kernel_rfl)
    (of_decide_eq_true (by kernel_rfl)) (by unfold Func.isWrapper; first | (rw [if_pos (by decide +kernel)]; kernel_rfl) | (rw [if_neg (by decide +kernel)]; exact ⟨rfl, rfl⟩))
    (fun os started H enc _ F => by rw [OpenClaim.pre_eq_preRow]; exact lifted os started H enc F)

theorem plain (f : FuncId) (fn : Func) (hf : Tryd.pinned.checked.prog.funcNamed "sieve/sievelaw03.InputPlaces" = some f) (hfn : Tryd.pinned.checked.prog.funcs[f]? = some fn) :
    false = Tryd.pinned.checked.prog.looks [] ∧ ∀ (j : Nat) t, fn.params[j]? = some t → Tryd.pinned.checked.prog.wantsStandIn t = false := by
  obtain rfl : f = 8 := Option.some.inj ((show Tryd.prog.funcNamed "sieve/sievelaw03.InputPlaces" = some 8 by kernel_rfl).symm.trans hf) |>.symm
  obtain rfl : fn = Tryd.f8 := (Option.some.inj (Tryd.func8.symm.trans hfn)).symm
  refine ⟨by kernel_rfl, fun j t ht => ?_⟩
  rw [Tryd.params8] at ht
  have hm := Array.mem_of_getElem? ht
  simp only [List.mem_toArray, List.mem_cons, List.not_mem_nil, or_false] at hm
  subst hm
  · exact (show Tryd.prog.wantsStandIn 25 = false by kernel_rfl)

theorem card : Rows.InputPlacesUptoCardSaid :=
  Claim7.holds_tied_plain_at .later [] _ _ _ _ said (fun _ h => by cases h) (by kernel_rfl) (fun _ h => by cases h) inputPlacesUpto_row_tie rfl ⟨rfl, rfl⟩ (by kernel_rfl) rfl plain (by kernel_rfl)

end Go.Proofs.YtpljklemkapnmaaDoor.InPlaces
