/- What is proved here: the statement InputLines (Lines and Where of any bytes are the document's) holds for any bytes and any place, where the arguments hold at most 1048576 values, with no other condition but what the card says of the two tables of unicode/utf8. -/
import Derived.Test.YtpljklemkapnmaaDoorCards
import Derived.Test.YtpljklemkapnmaaDoorTie
import Derived.Test.YtpljklemkapnmaaDoorOpen
import Derived.Test.YtpljklemkapnmaaDoorILives
import Derived.Test.YtpljklemkapnmaaDoorILines
import Derived.Test.YtpljklemkapnmaaDoorIWhereO
import Derived.Lib.QuietBelow
import Derived.BigQuiet
import Derived.ProofKit
import Derived.OpenShut
namespace Go.Proofs.YtpljklemkapnmaaDoor.InLines
open Go.ChangeShapes Go.WideShapes Go.ChangeAt Go.RowKit Go.Shelf U

theorem hasB_slice {n₀ : Nat} {w : World} {v : Value} {bs : List UInt8} (hl : HasB n₀ w v bs) : ∃ a cap, v = .slice a bs.length cap := by
  rcases hl with ⟨rfl, a, cap, rfl⟩ | ⟨hp, b, off, cap, rfl, _⟩
  · exact ⟨a, cap, rfl⟩
  · exact ⟨_, cap, rfl⟩
/-- A line in memory. -/
theorem owns_line {W : World} {n₀ : Nat} {a : Option Addr} {c : Nat} {ls : List (List UInt8)} (h : W.ownsRow n₀ 9 1 (.slice a ls.length c) ls.length (ls.map lvs)) (k : Nat) (hk : k < ls.length) :
    ∃ g, a = some ⟨g, 0, none⟩ ∧ W.cell? ⟨g, k, none⟩ = some (.string ⟨(ls[k]).toArray⟩) ∧ g < W.heap.size := by
  rcases h.2 with ⟨_, h0⟩ | ⟨g, cap', cur, hv, _, hg, _⟩
  · omega
  · cases hv
    refine ⟨g, rfl, ?_, lt_of_block hg⟩
    rw [h.cellAt k (by omega)]
    simp [hk, lvs]

set_option maxRecDepth 100000 in
set_option maxHeartbeats 4000000 in
theorem walk (w : World) (hT : Lib.Utf8Tabs (Tryd.lays32_ren.g 2) (Tryd.lays32_ren.g 3) w) (v : Value) (bs : List UInt8) (hb : HasB w.heap.size w v bs) (hl : bs.length ≤ 1048576) (at0 : Int) (_wn : (Lit.int .i64 at0).wf = true) :
    Calls Tryd.prog 6 #[v, .int .i64 at0] w fun e w' => e = .returned (.bool true) ∧ Below w.heap.size w w' := by
  have HT : Hid (Lib.Utf8Tabs (Tryd.lays32_ren.g 2) (Tryd.lays32_ren.g 3) w) := hT
  have HB : Hid (HasB w.heap.size w v bs) := hb
  obtain ⟨xa, xc, rfl⟩ := hasB_slice hb
  have hll := lines_length (textOf (cellsOf bs))
  have htl := textOf_le (cellsOf bs)
  have hcl := cellsOf_len bs
  obtain ⟨ls, hls⟩ : ∃ ls, linesOf (textOf (cellsOf bs)) = ls := ⟨_, rfl⟩
  have HLS : Hid (linesOf (textOf (cellsOf bs)) = ls) := hls
  rw [hls] at hll
  clear hT hb hls
  go_enter Tryd.func6, Tryd.ntmps6
  go_wp2_with fail
  refine (lend_calls _ bs w.heap.size w (by omega) HB.out).mono ?_
  rintro e w1 ⟨rfl, hr1, hb1⟩
  have s1 := hb1.size
  have hg1 : w.heap.size < w1.heap.size := cell_lt (hr1.1 0 (by omega))
  have hP1 : HasB w1.heap.size w1 (.slice (some ⟨w.heap.size, 2, none⟩) bs.length (bs.length + 2)) bs := hr1.hasB w1.heap.size hg1
  go_wp2_with fail
  refine (ilines_calls _ bs w1 (by omega) hP1 (tabs_below HT.out hb1)).mono ?_
  rintro e w2 ⟨u1, rfl, hown1, hb2⟩
  rw [HLS.out] at hown1
  obtain ⟨a1, c1, rfl⟩ := owns_slice hown1
  have s2 := hb2.size
  have hw2 : Below w.heap.size w w2 := hb1.trans (hb2.mono s1)
  go_wp2_with fail
  refine (rlines_calls _ bs w.heap.size w2 (by omega) (HB.out.below hw2)).mono ?_
  rintro e w3 ⟨u2, rfl, hown2, hb3⟩
  rw [HLS.out] at hown2
  obtain ⟨a2, c2, rfl⟩ := owns_slice hown2
  have s3 := hb3.size
  have hw3 : Below w.heap.size w w3 := hw2.trans (hb3.mono (by omega))
  have h13 : Below w1.heap.size w1 w3 := hb2.trans (hb3.mono s2)
  have G3 : Hid (w3.ownsRow w1.heap.size 9 1 (.slice a1 ls.length c1) ls.length (ls.map lvs)) := owns_below hown1 hb3
  have W3 : Hid (w3.ownsRow w2.heap.size 9 1 (.slice a2 ls.length c2) ls.length (ls.map lvs)) := hown2
  have P3 : Hid (HasB w1.heap.size w3 (.slice (some ⟨w.heap.size, 2, none⟩) bs.length (bs.length + 2)) bs) := hP1.below h13
  have B3 : Hid (HasB w.heap.size w3 (.slice xa bs.length xc) bs) := HB.out.below hw3
  have R3 : Hid (RowB w.heap.size (bs.length + 4) (byteAt (lent bs)) w3) := hr1.below h13 hg1
  have H3 : Hid (Below w.heap.size w w3) := hw3
  clear hr1 hP1 hown1 hown2 hb1 hb2 hb3 hw2 hw3 h13 HB
  go_wp2_with fail
  go_loopw [30] (fun i wr => ∃ k : Nat, k ≤ ls.length ∧ i = .int .i64 k ∧ Below w3.heap.size w3 wr) (fun i _ => ls.length - (intOf i).toNat)
  case atStart => exact ⟨0, by omega, rfl, Below.refl _ _⟩
  case round =>
    obtain ⟨k, hk, rfl, hBr⟩ := hrel
    by_cases hlt : k < ls.length
    · obtain ⟨g, rfl, q1, hg⟩ := owns_line G3.out k hlt
      obtain ⟨g', rfl, q2, hg'⟩ := owns_line W3.out k hlt
      have q1 := (hBr.cell (p := ⟨g, k, none⟩) hg).trans q1
      have q2 := (hBr.cell (p := ⟨g', k, none⟩) hg').trans q2
      generalize (⟨(ls[k]).toArray⟩ : ByteArray) = L at q1 q2
      go_wp2_with fail
      go_region
      go_wp2
      go_roundw
      case rel => exact ⟨k + 1, by omega, by go_num, hBr.drew⟩
      case measure => simp [intOf]; omega
    · obtain rfl : k = ls.length := by omega
      have sr := hBr.size
      have hP : HasB wr.heap.size wr (.slice (some ⟨w.heap.size, 2, none⟩) bs.length (bs.length + 2)) bs := (P3.out.below (hBr.mono (by omega))).mono0 (by omega)
      have hwr : Below w.heap.size w wr := H3.out.trans (hBr.mono H3.out.size)
      have HBR : Hid (Below w3.heap.size w3 wr) := hBr
      by_cases hin : 0 ≤ at0 ∧ at0 ≤ (bs.length : Int)
      · obtain ⟨m, rfl⟩ : ∃ m : Nat, at0 = (m : Int) := ⟨at0.toNat, by omega⟩
        have hm : m ≤ bs.length := by omega
        go_wp2_with fail
        refine (iwhere_calls _ bs m wr (by omega) hm hP (tabs_below HT.out hwr)).mono ?_
        rintro e w4 ⟨rfl, hb4⟩
        have s4 := hb4.size
        obtain ⟨⟨py, pl, pc⟩, hp⟩ : ∃ p, whereOf bs m = p := ⟨_, rfl⟩
        have HPl : Hid (whereOf bs m = (py, pl, pc)) := hp
        rw [hp]
        unfold placeV
        simp only
        clear hp
        have HB4 : Hid (Below wr.heap.size wr w4) := hb4
        clear hb4
        go_wp2_with fail
        have hbX : Below w4.heap.size w4 (w4.alloc (.cells #[.int .i64 (py : Int), .int .i64 (pl : Int), .int .i64 (pc : Int)] 34)) := (Below.refl _ w4).alloc (Nat.le_refl _) _
        have hnX := World.alloc_heap_new w4 (.cells #[.int .i64 (py : Int), .int .i64 (pl : Int), .int .i64 (pc : Int)] 34)
        have zX : (w4.alloc (.cells #[.int .i64 (py : Int), .int .i64 (pl : Int), .int .i64 (pc : Int)] 34)).heap.size = w4.heap.size + 1 := by simp
        obtain ⟨w5, hw5⟩ : ∃ w5, w4.alloc (.cells #[.int .i64 (py : Int), .int .i64 (pl : Int), .int .i64 (pc : Int)] 34) = w5 := ⟨_, rfl⟩
        rw [hw5] at hbX hnX zX
        have K5 : Below w3.heap.size w3 w5 := (HBR.out.trans (HB4.out.mono sr)).trans (hbX.mono (by omega))
        rw [hw5]
        clear hw5
        refine (rwhere_calls _ bs m w.heap.size w5 (by omega) hm (B3.out.below (K5.mono H3.out.size)) (by omega)).mono ?_
        rintro e w6 ⟨rfl, hb6⟩
        have s6 := hb6.size
        rw [HPl.out]
        unfold placeV
        simp only
        have K6 : Below w3.heap.size w3 w6 := K5.trans (hb6.mono K5.size)
        have b6 := (hb6.block w4.heap.size (by omega)).trans hnX
        have i0 : w6.cell? ⟨w4.heap.size, 0, none⟩ = some (.int .i64 (py : Int)) := by simp [World.cell?, b6]
        have i1 : w6.cell? ⟨w4.heap.size, 1, none⟩ = some (.int .i64 (pl : Int)) := by simp [World.cell?, b6]
        have i2 : w6.cell? ⟨w4.heap.size, 2, none⟩ = some (.int .i64 (pc : Int)) := by simp [World.cell?, b6]
        have kk : ∀ (o : Obj) (u : Nat), (w6.alloc o).cell? ⟨w4.heap.size, u, none⟩ = w6.cell? ⟨w4.heap.size, u, none⟩ := fun o u => ((Below.refl _ w6).alloc (Nat.le_refl _) o).cell (p := ⟨w4.heap.size, u, none⟩) (by show w4.heap.size < w6.heap.size; omega)
        have j0 := fun o => (kk o 0).trans i0
        have j1 := fun o => (kk o 1).trans i1
        have j2 := fun o => (kk o 2).trans i2
        have dd : ¬ w4.heap.size = w6.heap.size := by omega
        have dd' : ¬ w6.heap.size = w4.heap.size := by omega
        have KZ : Hid (Below w3.heap.size w3 (w6.alloc (.cells #[.int .i64 (py : Int), .int .i64 (pl : Int), .int .i64 (pc : Int)] 34))) := K6.alloc K6.size _
        clear kk hb6 b6 hnX hbX K5 K6
        go_wp2_with fail
        have hZ : Below w.heap.size w (w6.alloc (.cells #[.int .i64 (py : Int), .int .i64 (pl : Int), .int .i64 (pc : Int)] 34)) := H3.out.trans (KZ.out.mono H3.out.size)
        refine (kept_calls _ bs w.heap.size _ _ (by omega) (B3.out.below (KZ.out.mono H3.out.size)) (R3.out.below KZ.out (by omega))).mono ?_
        rintro e w7 ⟨rfl, k7⟩
        have hB7 : Below w.heap.size w w7 := hZ.trans (k7.mono hZ.size)
        go_wp2_with fail
        refine (ilives_calls w7 (tabs_below HT.out hB7)).mono ?_
        rintro e w8 ⟨rfl, k8⟩
        go_wp2
        go_ret
        exact ⟨rfl, hB7.trans (k8.mono hB7.size)⟩
      · have hout : at0 < 0 ∨ (bs.length : Int) < at0 := by omega
        clear hin
        go_wp2_with fail
        refine (iwhere_out _ _ _ at0 wr hout).mono ?_
        rintro e w4 ⟨rfl, hb4⟩
        have s4 := hb4.size
        have HB4 : Hid (Below wr.heap.size wr w4) := hb4
        clear hb4
        go_wp2_with fail
        have hbX : Below w4.heap.size w4 (w4.alloc (.cells #[.int .i64 0, .int .i64 0, .int .i64 0] 34)) := (Below.refl _ w4).alloc (Nat.le_refl _) _
        have hnX := World.alloc_heap_new w4 (.cells #[.int .i64 0, .int .i64 0, .int .i64 0] 34)
        have zX : (w4.alloc (.cells #[.int .i64 0, .int .i64 0, .int .i64 0] 34)).heap.size = w4.heap.size + 1 := by simp
        obtain ⟨w5, hw5⟩ : ∃ w5, w4.alloc (.cells #[.int .i64 0, .int .i64 0, .int .i64 0] 34) = w5 := ⟨_, rfl⟩
        rw [hw5] at hbX hnX zX
        have K5 : Below w3.heap.size w3 w5 := (HBR.out.trans (HB4.out.mono sr)).trans (hbX.mono (by omega))
        rw [hw5]
        clear hw5
        refine (rwhere_out _ _ _ at0 w5 hout).mono ?_
        rintro e w6 ⟨rfl, hb6⟩
        have s6 := hb6.size
        have K6 : Below w3.heap.size w3 w6 := K5.trans (hb6.mono K5.size)
        have b6 := (hb6.block w4.heap.size (by omega)).trans hnX
        have i0 : w6.cell? ⟨w4.heap.size, 0, none⟩ = some (.int .i64 0) := by simp [World.cell?, b6]
        have i1 : w6.cell? ⟨w4.heap.size, 1, none⟩ = some (.int .i64 0) := by simp [World.cell?, b6]
        have i2 : w6.cell? ⟨w4.heap.size, 2, none⟩ = some (.int .i64 0) := by simp [World.cell?, b6]
        have kk : ∀ (o : Obj) (u : Nat), (w6.alloc o).cell? ⟨w4.heap.size, u, none⟩ = w6.cell? ⟨w4.heap.size, u, none⟩ := fun o u => ((Below.refl _ w6).alloc (Nat.le_refl _) o).cell (p := ⟨w4.heap.size, u, none⟩) (by show w4.heap.size < w6.heap.size; omega)
        have j0 := fun o => (kk o 0).trans i0
        have j1 := fun o => (kk o 1).trans i1
        have j2 := fun o => (kk o 2).trans i2
        have dd : ¬ w4.heap.size = w6.heap.size := by omega
        have dd' : ¬ w6.heap.size = w4.heap.size := by omega
        have KZ : Hid (Below w3.heap.size w3 (w6.alloc (.cells #[.int .i64 0, .int .i64 0, .int .i64 0] 34))) := K6.alloc K6.size _
        clear kk hb6 b6 hnX hbX K5 K6
        go_wp2_with fail
        have hZ : Below w.heap.size w (w6.alloc (.cells #[.int .i64 0, .int .i64 0, .int .i64 0] 34)) := H3.out.trans (KZ.out.mono H3.out.size)
        refine (kept_calls _ bs w.heap.size _ _ (by omega) (B3.out.below (KZ.out.mono H3.out.size)) (R3.out.below KZ.out (by omega))).mono ?_
        rintro e w7 ⟨rfl, k7⟩
        have hB7 : Below w.heap.size w w7 := hZ.trans (k7.mono hZ.size)
        go_wp2_with fail
        refine (ilives_calls w7 (tabs_below HT.out hB7)).mono ?_
        rintro e w8 ⟨rfl, k8⟩
        go_wp2
        go_ret
        exact ⟨rfl, hB7.trans (k8.mono hB7.size)⟩

set_option maxRecDepth 100000 in
theorem contract (H : Type) (enc : TypeId × Value → H) (W : World) (base : Nat) (args : Array Value) (ds gs : List (DataW H)) (before : List MemPlace)
    (hval : ∀ (j : Nat) t v, Tryd.f6.params[j]? = some t → args[j]? = some v → Value.okWide Tryd.prog W .any base t v)
    (hW : DataW.Whole enc Tryd.prog Tryd.f6.params.toList Rows.inputLinesSpec.vars false W args.toList ds gs before) (hL : laidMetH Tryd.prog Rows.inputLinesUptoRow.laid W) (hk : Rows.uptoSmall H (ds ++ gs) = true) :
    Calls Tryd.prog 6 args W fun e W' => ∃ v, e = .returned v ∧ Rows.inputLinesSpec.post enc Tryd.prog Tryd.f6 false true false false W args v W' := by
  have hW' := hW
  have hlt := hW.lt
  obtain ⟨p, q, hA0, hV, rfl, hfz, hnd⟩ := hW
  have hA : DataW.TrodAll enc Tryd.prog W 0 (fun _ => true) true Tryd.f6.params.toList args.toList ds p := hA0
  rw [Tryd.params6] at hA hval
  obtain ⟨v0, vs0, d0, ds0, p0, q0, hargs, rfl, rfl, h0, r0⟩ := trodAll_cons hA
  obtain ⟨v1, vs1, d1, ds1, p1, q1, rfl, rfl, rfl, h1, r1⟩ := trodAll_cons r0
  obtain ⟨rfl, rfl, rfl⟩ := trodAll_nil r1
  obtain rfl : args = #[v0, v1] := by cases args; simp_all
  obtain ⟨rfl, rfl⟩ := trodVars_none hV
  clear hA0
  simp only [List.append_nil] at hW' hlt hk
  have hbulk := of_decide_eq_true hk
  simp only [Rows.uptoBulkAll] at hbulk
  have e0 := okWide_slice Tryd.underlying25 (hval 0 25 v0 rfl rfl)
  obtain ⟨b0, hb0, l0⟩ := bytes_of_read (by kernel_rfl) e0 h0
  have h1' := h1
  obtain ⟨x1, rfl, e1, -, w1⟩ := open_int Tryd.underlying3 (hval 1 3 v1 rfl rfl) h1
  refine (walk W (tabs_of_laid hL) v0 b0 hb0 (by omega) x1 w1).mono fun e W' ⟨he, hb⟩ => ?_
  subst he
  exact ⟨_, rfl, post_below hW' (fun _ _ _ => trodAll_cons_mk (shut_bool Tryd.underlying4 _) trodAll_mk0) (trodAll_cons_mk (stays (by kernel_rfl) (of_decide_eq_true (by kernel_rfl)) h0 hb (fun x hx => hlt x (by simp [hx]))) (trodAll_cons_mk (stays (by kernel_rfl) (of_decide_eq_true (by kernel_rfl)) h1' hb (fun x hx => hlt x (by simp [hx]))) trodAll_mk0)) rfl hb⟩

set_option maxRecDepth 100000 in
theorem laid_met (os : Os) : laidMet Tryd.prog Rows.inputLinesUptoRow.laid ((withTabs (World.holding Tryd.prog os ⟨#[], #[], []⟩)).forCall (fun _ _ => 0) ⟨#[], #[Value.slice none 0 0, Value.int .i64 0], []⟩).memory :=
  laidMet_of_run' 8 (by kernel_rfl) (by kernel_rfl)
set_option maxRecDepth 100000 in
theorem reads (os : Os) {H : Type} (enc : TypeId × Value → H) : ∃ places, DataW.whole enc Tryd.prog ((withTabs (World.holding Tryd.prog os ⟨#[], #[], []⟩)).forCall (fun _ _ => 0) ⟨#[], #[Value.slice none 0 0, Value.int .i64 0], []⟩).memory Tryd.f6.params.toList Rows.inputLinesSpec.vars false #[Value.slice none 0 0, Value.int .i64 0].toList 8 = some ([.nil, .lit (.int .i64 0)], [], places) :=
  ⟨[], by kernel_rfl⟩

set_option maxRecDepth 100000 in
theorem lifted (os : Os) (started : os.Started) (H : Type) (enc : TypeId × Value → H) (F : Stop.Interp) :
    ReturnsInHanded {} Tryd.checked os 6 .any ((Rows.OpenSpec.upto Rows.inputLinesSpec).preRow enc Tryd.prog Tryd.f6 Rows.inputLinesUptoRow.domain false Rows.inputLinesUptoRow.laid) (((Rows.OpenSpec.upto Rows.inputLinesSpec).at F).post enc Tryd.prog Tryd.f6 false true false false) := by
  obtain ⟨places, hx⟩ := reads os enc
  refine returnsInHanded_of_row (C := Tryd.checked) (s := Rows.OpenSpec.upto Rows.inputLinesSpec) own started (by kernel_rfl) Tryd.func6
    (witness_row_at (enc := enc) (C := Tryd.checked) false (withTabs (World.holding Tryd.prog os ⟨#[], #[], []⟩)) #[Value.slice none 0 0, Value.int .i64 0] rfl (by kernel_rfl) (by kernel_rfl) (by kernel_rfl)
      (OpenSpec.preRow_of_cond 8 hx (by kernel_rfl) (fun k hk => by cases hk; kernel_rfl) (by kernel_rfl) (laid_met os))) ?_
  intro W base args ds gs before hval hW _ hcond _ hL _ _
  exact contract H enc W base args ds gs before hval hW hL (hcond _ rfl)

set_option maxRecDepth 100000 in
theorem said : Rows.InputLinesUptoSaid :=
  OpenClaim.holds_of_cond 6 Tryd.f6 rfl rfl rfl rfl rfl rfl rfl ⟨rfl, rfl, rfl, rfl, rfl⟩ rfl rfl rfl rfl rfl (by kernel_rfl) Tryd.func6 (by kernel_rfl)
    (of_decide_eq_true (by kernel_rfl)) (by unfold Func.isWrapper; first | (rw [if_pos (by decide +kernel)]; kernel_rfl) | (rw [if_neg (by decide +kernel)]; exact ⟨rfl, rfl⟩))
    (fun os started H enc _ F => by rw [OpenClaim.pre_eq_preRow]; exact lifted os started H enc F)

theorem plain (f : FuncId) (fn : Func) (hf : Tryd.pinned.checked.prog.funcNamed "sieve/sievelaw03.InputLines" = some f) (hfn : Tryd.pinned.checked.prog.funcs[f]? = some fn) :
    false = Tryd.pinned.checked.prog.looks [] ∧ ∀ (j : Nat) t, fn.params[j]? = some t → Tryd.pinned.checked.prog.wantsStandIn t = false := by
  obtain rfl : f = 6 := Option.some.inj ((show Tryd.prog.funcNamed "sieve/sievelaw03.InputLines" = some 6 by kernel_rfl).symm.trans hf) |>.symm
  obtain rfl : fn = Tryd.f6 := (Option.some.inj (Tryd.func6.symm.trans hfn)).symm
  refine ⟨by kernel_rfl, fun j t ht => ?_⟩
  rw [Tryd.params6] at ht
  have hm := Array.mem_of_getElem? ht
  simp only [List.mem_toArray, List.mem_cons, List.not_mem_nil, or_false] at hm
  rcases hm with rfl | rfl
  · exact (show Tryd.prog.wantsStandIn 25 = false by kernel_rfl)
  · exact (show Tryd.prog.wantsStandIn 3 = false by kernel_rfl)

theorem card : Rows.InputLinesUptoCardSaid :=
  Claim7.holds_tied_plain_at .later [] _ _ _ _ said (fun _ h => by cases h) (by kernel_rfl) (fun _ h => by cases h) inputLinesUpto_row_tie rfl ⟨rfl, rfl⟩ (by kernel_rfl) rfl plain (by kernel_rfl)

end Go.Proofs.YtpljklemkapnmaaDoor.InLines
