/- What is proved here: the statement UtfReads (Runes, Count, Valid, Tail, Place and Mend of any bytes) holds for any bytes, where the arguments hold at most 1048576 values, with no other condition but what the card says of the two tables of unicode/utf8. -/
import Derived.Test.YtjleehhgcpdapaaDoorCards
import Derived.Test.YtjleehhgcpdapaaDoorTie
import Derived.Test.YtjleehhgcpdapaaDoorOpen
import Derived.Test.YtjleehhgcpdapaaDoorCount
import Derived.Test.YtjleehhgcpdapaaDoorRTail
import Derived.Test.YtjleehhgcpdapaaDoorMend
namespace Go.Proofs.YtjleehhgcpdapaaDoor.Reads
open Go.ChangeShapes Go.WideShapes Go.ChangeAt Go.RowKit Go.Shelf U

theorem hasB_mono {n₀ n₁ : Nat} {w : World} {v : Value} {bs : List UInt8} (hl : HasB n₀ w v bs) (h : n₀ ≤ n₁) : HasB n₁ w v bs := by
  rcases hl with hl | ⟨hp, b, off, cap, hv, hc, hb, hx⟩
  · exact .inl hl
  · exact .inr ⟨hp, b, off, cap, hv, hc, by omega, hx⟩

theorem hasB_slice {n₀ : Nat} {w : World} {v : Value} {bs : List UInt8} (hl : HasB n₀ w v bs) : ∃ a cap, v = .slice a bs.length cap := by
  rcases hl with ⟨rfl, a, cap, rfl⟩ | ⟨hp, b, off, cap, rfl, _⟩
  · exact ⟨a, cap, rfl⟩
  · exact ⟨_, cap, rfl⟩
theorem cells_two (W : World) (a b : Value) (t : TypeId) (n : Nat) (hn : n = W.heap.size) : ∀ j u, [a, b][j]? = some u → (W.alloc (.cells #[a, b] t)).cell? ((⟨n, 0, none⟩ : Addr).add j) = some u := by
  intro j u h
  subst hn
  rw [add_none, Nat.zero_add]
  have hb := World.alloc_heap_new W (.cells #[a, b] t)
  simp only [World.cell?, hb]
  simpa using h
theorem kept_far {w w' : World} {base : Nat} {e : TypeId} {size : Nat} {v : Value} {n : Nat} {xs : List Value} {row : Option Nat} (h : w.ownsRow base e size v n xs) (hg : w.grownBy w' row) (hr : ∀ k, row = some k → k < base) : w'.ownsRow base e size v n xs :=
  h.kept hg (by
    cases e : v.ownBlock with
    | none => exact .inl rfl
    | some k => exact .inr (fun e' => by have := (h.lt k e).1; have := hr k e'.symm; omega))
theorem grown_trans {A B C : World} {row : Option Nat} (h : A.grownBy B row) (k : B.grownBy C row) : A.grownBy C row :=
  ⟨k.os.trans h.os, k.tape.trans h.tape, k.output.trans h.output, Nat.le_trans h.size k.size, fun j hj hne => (k.block j (Nat.lt_of_lt_of_le hj h.size) hne).trans (h.block j hj hne)⟩

set_option maxRecDepth 100000 in
set_option maxHeartbeats 1000000 in
theorem walk (w : World) (hT : Lib.Utf8Tabs (Tryd.lays32_ren.g 2) (Tryd.lays32_ren.g 3) w) (v : Value) (bs : List UInt8) (hb : HasB w.heap.size w v bs) (hl : bs.length ≤ 1048576) (n : Int) (wn : (Lit.int .i64 n).wf = true) :
    Calls Tryd.prog 3 #[v, .int .i64 n] w fun e w' => e = .returned (.bool true) ∧ Below w.heap.size w w' := by
  have HT : Hid (Lib.Utf8Tabs (Tryd.lays32_ren.g 2) (Tryd.lays32_ren.g 3) w) := hT
  obtain ⟨xa, xc, rfl⟩ := hasB_slice hb
  have HB : Hid (HasB w.heap.size w (.slice xa bs.length xc) bs) := hb
  clear hT hb
  go_enter Tryd.func3, Tryd.ntmps3
  go_wp2_with fail
  refine (lend_calls _ bs w.heap.size w (by omega) HB.out).mono ?_
  rintro e w1 ⟨rfl, hr1, hb1⟩
  go_wp2_with fail
  refine (pieces_calls _ bs w.heap.size w1 (by omega) (HB.out.below hb1)).mono ?_
  rintro e w2 ⟨vl, rfl, hown2, hb2⟩
  obtain ⟨al, cl, rfl⟩ := owns_slice hown2
  have hg1 : w.heap.size < w1.heap.size := cell_lt (hr1.1 0 (by omega))
  have hP1 : HasB w1.heap.size w1 (.slice (some ⟨w.heap.size, 2, none⟩) bs.length (bs.length + 2)) bs := hr1.hasB w1.heap.size hg1
  have s1 := hb1.size
  have s2 := hb2.size
  have hw2 : Below w.heap.size w w2 := hb1.trans (hb2.mono s1)
  go_wp2_with fail
  refine (runes_calls _ _ _ bs w2 (by omega) (hasB_mono (hP1.below hb2) s2) (tabs_below HT.out hw2)).mono ?_
  rintro e w3 ⟨vg, rfl, hown3, hb3⟩
  rw [runes_len, runesI_map] at hown3
  obtain ⟨ga, gc, rfl⟩ := owns_slice hown3
  have s3 := hb3.size
  have hb13 : Below w1.heap.size w1 w3 := hb2.trans (hb3.mono s2)
  have hw3 : Below w.heap.size w w3 := hb1.trans (hb13.mono s1)
  go_wp2_with fail
  refine (runes_calls _ _ _ bs w3 (by omega) (hasB_mono (hP1.below hb13) (by omega)) (tabs_below HT.out hw3)).mono ?_
  rintro e w4 ⟨va, rfl, hown4, hb4⟩
  rw [runes_len, runesI_map] at hown4
  obtain ⟨ha, hc, rfl⟩ := owns_slice hown4
  have s4 := hb4.size
  have hb14 : Below w1.heap.size w1 w4 := hb13.trans (hb4.mono (by omega))
  have hw4 : Below w.heap.size w w4 := hb1.trans (hb14.mono s1)
  go_wp2_with fail
  refine (rrunes_calls _ bs w.heap.size w4 (by omega) (HB.out.below hw4)).mono ?_
  rintro e w5 ⟨wa, wc, rfl, hown5, hb5⟩
  have s5 := hb5.size
  have hb15 : Below w1.heap.size w1 w5 := hb14.trans (hb5.mono (by omega))
  have hw5 : Below w.heap.size w w5 := hb1.trans (hb15.mono s1)
  have G5 : Hid (w5.ownsRow w2.heap.size 21 1 (.slice ga (runesI bs).length gc) (runesI bs).length ((runesI bs).map (Value.int .i32))) := owns_below (owns_below hown3 hb4) hb5
  have A5 : Hid (w5.ownsRow w3.heap.size 21 1 (.slice ha (runesI bs).length hc) (runesI bs).length ((runesI bs).map (Value.int .i32))) := owns_below hown4 hb5
  have W5 : Hid (w5.ownsRow w4.heap.size 21 1 (.slice wa (runesI bs).length wc) (runesI bs).length ((runesI bs).map (Value.int .i32))) := hown5
  have L5 : Hid (w5.ownsRow w1.heap.size 38 4 (.slice al (pcs bs).length cl) (pcs bs).length ((pcs bs).flatMap pcCells)) := owns_below hown2 (hb3.trans ((hb4.trans (hb5.mono s4)).mono s3))
  have P5 : Hid (HasB w1.heap.size w5 (.slice (some ⟨w.heap.size, 2, none⟩) bs.length (bs.length + 2)) bs) := hP1.below hb15
  have B5 : Hid (HasB w.heap.size w5 (.slice xa bs.length xc) bs) := HB.out.below hw5
  have R5 : Hid (RowB w.heap.size (bs.length + 4) (byteAt (lent bs)) w5) := hr1.below hb15 hg1
  have T5 : Hid (Lib.Utf8Tabs (Tryd.lays32_ren.g 2) (Tryd.lays32_ren.g 3) w5) := tabs_below HT.out hw5
  have H5 : Hid (Below w.heap.size w w5) := hw5
  have hrl : Hid ((runesI bs).length = (pcs bs).length) := runesI_length bs
  have hpl := pcs_length bs
  have GL : Hid (∀ k, (Value.slice ga (runesI bs).length gc).ownBlock = some k → w2.heap.size ≤ k ∧ k < w3.heap.size) := hown3.lt
  clear hr1 hP1 hown2 hown3 hown4 hown5 hb1 hb2 hb3 hb4 hb5 hb13 hb14 hb15 hw2 hw3 hw4 hw5 HB
  go_wp2_with fail
  refine (same_calls _ _ (runesI bs) (runesI bs) w5 (by have := hrl.out; omega) (hasI_owns G5.out) (hasI_owns W5.out)).mono ?_
  rintro e w6 ⟨rfl, k6⟩
  rw [show decide (runesI bs = runesI bs) = true from decide_eq_true rfl]
  go_wp2_with fail
  refine (count_calls _ _ _ bs w6 (by omega) (hasB_mono (P5.out.below (k6.mono (by omega))) (by have := k6.size; omega)) (tabs_below T5.out k6)).mono ?_
  rintro e w7 ⟨rfl, k7⟩
  have K7 : Below w5.heap.size w5 w7 := k6.trans (k7.mono k6.size)
  have ht7 : (((toks bs).length : Int) != ((runesI bs).length : Int)) = false := by rw [hrl.out, toks_pcs]; simp
  clear k6 k7
  go_wp2_with fail
  refine (valid_calls _ bs w5.heap.size w7 (by omega) (hasB_mono (P5.out.below (K7.mono (by omega))) (by omega))).mono ?_
  rintro e w8 ⟨rfl, k8⟩
  have K8 : Below w5.heap.size w5 w8 := K7.trans (k8.mono K7.size)
  clear K7 k8
  go_wp2_with fail
  refine (rvalid_calls _ bs w5.heap.size w8 (by omega) (hasB_mono (B5.out.below (K8.mono (by omega))) (by omega))).mono ?_
  rintro e w9 ⟨rfl, k9⟩
  have K9 : Below w5.heap.size w5 w9 := K8.trans (k9.mono K8.size)
  clear K8 k9
  generalize hok : (pcs bs).all Pc.ok = ok
  have HOK : Hid ((pcs bs).all Pc.ok = ok) := hok
  clear hok
  go_wp2_with fail
  refine (tail_calls _ bs w5.heap.size w9 (by omega) (hasB_mono (P5.out.below (K9.mono (by omega))) (by omega)) (tabs_below T5.out K9)).mono ?_
  rintro e w10 ⟨rfl, k10⟩
  have K10 : Below w5.heap.size w5 w10 := K9.trans (k10.mono K9.size)
  clear K9 k10
  go_wp2_with fail
  refine (rtail_calls _ bs w5.heap.size w10 (by omega) (hasB_mono (B5.out.below (K10.mono (by omega))) (by omega))).mono ?_
  rintro e w11 ⟨rfl, k11⟩
  have K11 : Below w5.heap.size w5 w11 := K10.trans (k11.mono K10.size)
  clear K10 k11
  have hcv := conv_bytes (hasB_mono (B5.out.below (K11.mono (by omega))) (Nat.le_refl _))
  go_wp2_with fail
  refine (mend_calls bs w11 (by omega) (tabs_below T5.out K11)).mono ?_
  rintro e w12 ⟨rfl, k12⟩
  have K12 : Below w5.heap.size w5 w12 := K11.trans (k12.mono K11.size)
  clear K11 k12 hcv
  go_wp2_with fail
  refine (text_calls _ (runesI bs) w12 (by have := hrl.out; omega) ((hasI_owns W5.out).below K12)).mono ?_
  rintro e w13 ⟨rfl, k13⟩
  have K13 : Below w5.heap.size w5 w13 := K12.trans (k13.mono K12.size)
  clear K12 k13
  go_wp2_with fail
  refine (place_calls _ _ bs n w13 (by omega) (hasB_mono (P5.out.below (K13.mono (by omega))) (by have := K13.size; omega)) (tabs_below T5.out K13)).mono ?_
  rintro e w14 ⟨rfl, k14⟩
  have K14 : Below w5.heap.size w5 w14 := K13.trans (k14.mono K13.size)
  clear K13 k14 ht7
  have HP : Hid ((toks bs).length = (pcs bs).length) := by show (toks bs).length = _; rw [toks_pcs]; simp
  have hpp := HP.out
  have hrb : (runesI bs).length ≤ 1048576 := by have := hrl.out; omega
  rcases Int.lt_or_le n 0 with h1 | h1
  · rw [plc_no (bs := bs) (n := n) (by omega) (by omega)]
    clear hpp
    go_wp2
    go_loopw [13, 107] (fun _ i wr => ∃ k : Nat, k ≤ (runesI bs).length ∧ i = .int .i64 k ∧ w14.grownBy wr (Value.slice ga (runesI bs).length gc).ownBlock ∧ ∃ xs, wr.ownsRow w2.heap.size 21 1 (.slice ga (runesI bs).length gc) (runesI bs).length xs) (fun _ i _ => (runesI bs).length - (intOf i).toNat)
    case atStart => exact ⟨0, by omega, rfl, World.grownBy.refl _ _, _, owns_below G5.out K14⟩
    case round =>
      obtain ⟨k, hk, rfl, hgr, xs, hxs⟩ := hrel
      by_cases hlt : k < (runesI bs).length
      · obtain ⟨g, rfl⟩ : ∃ g, ga = some ⟨g, 0, none⟩ := by
          rcases hxs.2 with ⟨e, _⟩ | ⟨g, _, _, e, _⟩
          · simp at e; omega
          · simp at e; exact ⟨g, e.1⟩
        have hxl : xs.length = (runesI bs).length := by have := hxs.1; omega
        obtain ⟨u, hcell⟩ : ∃ u, wr.cell? ⟨g, k, none⟩ = some u := ⟨xs[k]'(by omega), by rw [hxs.cellAt k (by omega), List.getElem?_eq_getElem (by omega)]⟩
        clear hxl
        have hfr := hxs.frozenAt k
        obtain ⟨st1, st2⟩ := hxs.stored k (.int .i32 120)
        go_wp2
        go_roundw
        case rel => exact ⟨k + 1, by omega, by go_num, grown_trans hgr st2, _, st1⟩
        case measure => simp [intOf]; omega
      · obtain rfl : k = (runesI bs).length := by omega
        have z14 := K14.size
        have zr := hgr.size
        obtain ⟨i0, hi, hz0, hz1, hz2⟩ := info_parts info21
        go_wp2_with (at_builtin; refine wpList_append_own _ rfl _ _ 27 rfl w2.heap.size 21 i0 (.int .i32 0) 1 4 Tryd.underlying27 hi hz0 hz1 hz2 rfl (by decide) _ _ _ rfl (hxs.alloc _) ⟨wr.heap.size, 0, none⟩ 2 2 [.int .i32 121, .int .i32 122] rfl rfl (cells_two _ _ _ _ _ rfl) (by simp [Value.oneCell']) (by unfold maxLen; omega) (by omega) (by simp; omega) ?_; intro v' w16 hown' hgrow _; obtain ⟨na, nc, rfl⟩ := owns_slice hown')
        have hG : w14.grownBy w16 (Value.slice ga (runesI bs).length gc).ownBlock := grown_trans hgr (grown_trans (World.grownBy_alloc _ _ _) hgrow)
        have hG5 : w5.grownBy w16 (Value.slice ga (runesI bs).length gc).ownBlock := grown_trans ⟨K14.os, K14.tape, K14.output, K14.size, fun j hj _ => K14.block j hj⟩ hG
        have hb16 : Below w2.heap.size w5 w16 := ⟨hG5.os, hG5.tape, hG5.output, hG5.size, fun j hj => hG5.block j (by omega) (fun e => by have := GL.out j e.symm; omega)⟩
        have hw16 : Below w.heap.size w w16 := H5.out.trans (hb16.mono (by omega))
        have A16 := kept_far A5.out hG5 (fun k e => (GL.out k e).2)
        have W16 := kept_far W5.out hG5 (fun k e => by have := (GL.out k e).2; omega)
        clear hgrow hown' hxs hG hG5 hgr
        refine (same_calls _ _ (runesI bs) (runesI bs) w16 (by omega) (hasI_owns A16) (hasI_owns W16)).mono ?_
        rintro e w17 ⟨rfl, k17⟩
        rw [show decide (runesI bs = runesI bs) = true from decide_eq_true rfl]
        go_wp2_with fail
        refine (kept_calls _ bs w.heap.size _ w17 (by omega) ((B5.out.below (hb16.mono (by omega))).below (k17.mono hw16.size)) ((R5.out.below hb16 (by omega)).below k17 (by have := hb16.size; omega))).mono ?_
        rintro e w18 ⟨rfl, k18⟩
        have hw18 : Below w.heap.size w w18 := hw16.trans ((k17.trans (k18.mono k17.size)).mono hw16.size)
        go_wp2_with fail
        refine (lives_calls _ (tabs_below HT.out hw18)).mono ?_
        rintro e w19 ⟨rfl, k19⟩
        go_wp2
        go_ret
        exact ⟨rfl, hw18.trans (k19.mono hw18.size)⟩
  · rcases Int.lt_or_le ((pcs bs).length : Int) n with h2 | h2
    · rw [plc_no (bs := bs) (n := n) (by omega) (by omega)]
      clear hpp
      go_wp2
      go_loopw [13, 107] (fun _ i wr => ∃ k : Nat, k ≤ (runesI bs).length ∧ i = .int .i64 k ∧ w14.grownBy wr (Value.slice ga (runesI bs).length gc).ownBlock ∧ ∃ xs, wr.ownsRow w2.heap.size 21 1 (.slice ga (runesI bs).length gc) (runesI bs).length xs) (fun _ i _ => (runesI bs).length - (intOf i).toNat)
      case atStart => exact ⟨0, by omega, rfl, World.grownBy.refl _ _, _, owns_below G5.out K14⟩
      case round =>
        obtain ⟨k, hk, rfl, hgr, xs, hxs⟩ := hrel
        by_cases hlt : k < (runesI bs).length
        · obtain ⟨g, rfl⟩ : ∃ g, ga = some ⟨g, 0, none⟩ := by
            rcases hxs.2 with ⟨e, _⟩ | ⟨g, _, _, e, _⟩
            · simp at e; omega
            · simp at e; exact ⟨g, e.1⟩
          have hxl : xs.length = (runesI bs).length := by have := hxs.1; omega
          obtain ⟨u, hcell⟩ : ∃ u, wr.cell? ⟨g, k, none⟩ = some u := ⟨xs[k]'(by omega), by rw [hxs.cellAt k (by omega), List.getElem?_eq_getElem (by omega)]⟩
          clear hxl
          have hfr := hxs.frozenAt k
          obtain ⟨st1, st2⟩ := hxs.stored k (.int .i32 120)
          go_wp2
          go_roundw
          case rel => exact ⟨k + 1, by omega, by go_num, grown_trans hgr st2, _, st1⟩
          case measure => simp [intOf]; omega
        · obtain rfl : k = (runesI bs).length := by omega
          have z14 := K14.size
          have zr := hgr.size
          obtain ⟨i0, hi, hz0, hz1, hz2⟩ := info_parts info21
          go_wp2_with (at_builtin; refine wpList_append_own _ rfl _ _ 27 rfl w2.heap.size 21 i0 (.int .i32 0) 1 4 Tryd.underlying27 hi hz0 hz1 hz2 rfl (by decide) _ _ _ rfl (hxs.alloc _) ⟨wr.heap.size, 0, none⟩ 2 2 [.int .i32 121, .int .i32 122] rfl rfl (cells_two _ _ _ _ _ rfl) (by simp [Value.oneCell']) (by unfold maxLen; omega) (by omega) (by simp; omega) ?_; intro v' w16 hown' hgrow _; obtain ⟨na, nc, rfl⟩ := owns_slice hown')
          have hG : w14.grownBy w16 (Value.slice ga (runesI bs).length gc).ownBlock := grown_trans hgr (grown_trans (World.grownBy_alloc _ _ _) hgrow)
          have hG5 : w5.grownBy w16 (Value.slice ga (runesI bs).length gc).ownBlock := grown_trans ⟨K14.os, K14.tape, K14.output, K14.size, fun j hj _ => K14.block j hj⟩ hG
          have hb16 : Below w2.heap.size w5 w16 := ⟨hG5.os, hG5.tape, hG5.output, hG5.size, fun j hj => hG5.block j (by omega) (fun e => by have := GL.out j e.symm; omega)⟩
          have hw16 : Below w.heap.size w w16 := H5.out.trans (hb16.mono (by omega))
          have A16 := kept_far A5.out hG5 (fun k e => (GL.out k e).2)
          have W16 := kept_far W5.out hG5 (fun k e => by have := (GL.out k e).2; omega)
          clear hgrow hown' hxs hG hG5 hgr
          refine (same_calls _ _ (runesI bs) (runesI bs) w16 (by omega) (hasI_owns A16) (hasI_owns W16)).mono ?_
          rintro e w17 ⟨rfl, k17⟩
          rw [show decide (runesI bs = runesI bs) = true from decide_eq_true rfl]
          go_wp2_with fail
          refine (kept_calls _ bs w.heap.size _ w17 (by omega) ((B5.out.below (hb16.mono (by omega))).below (k17.mono hw16.size)) ((R5.out.below hb16 (by omega)).below k17 (by have := hb16.size; omega))).mono ?_
          rintro e w18 ⟨rfl, k18⟩
          have hw18 : Below w.heap.size w w18 := hw16.trans ((k17.trans (k18.mono k17.size)).mono hw16.size)
          go_wp2_with fail
          refine (lives_calls _ (tabs_below HT.out hw18)).mono ?_
          rintro e w19 ⟨rfl, k19⟩
          go_wp2
          go_ret
          exact ⟨rfl, hw18.trans (k19.mono hw18.size)⟩
    · by_cases h3 : n = ((pcs bs).length : Int)
      · subst h3
        rw [plc_end (bs := bs) (n := ((pcs bs).length : Int)) (by omega)]
        clear hpp
        go_wp2
        go_loopw [13, 107] (fun _ i wr => ∃ k : Nat, k ≤ (runesI bs).length ∧ i = .int .i64 k ∧ w14.grownBy wr (Value.slice ga (runesI bs).length gc).ownBlock ∧ ∃ xs, wr.ownsRow w2.heap.size 21 1 (.slice ga (runesI bs).length gc) (runesI bs).length xs) (fun _ i _ => (runesI bs).length - (intOf i).toNat)
        case atStart => exact ⟨0, by omega, rfl, World.grownBy.refl _ _, _, owns_below G5.out K14⟩
        case round =>
          obtain ⟨k, hk, rfl, hgr, xs, hxs⟩ := hrel
          by_cases hlt : k < (runesI bs).length
          · obtain ⟨g, rfl⟩ : ∃ g, ga = some ⟨g, 0, none⟩ := by
              rcases hxs.2 with ⟨e, _⟩ | ⟨g, _, _, e, _⟩
              · simp at e; omega
              · simp at e; exact ⟨g, e.1⟩
            have hxl : xs.length = (runesI bs).length := by have := hxs.1; omega
            obtain ⟨u, hcell⟩ : ∃ u, wr.cell? ⟨g, k, none⟩ = some u := ⟨xs[k]'(by omega), by rw [hxs.cellAt k (by omega), List.getElem?_eq_getElem (by omega)]⟩
            clear hxl
            have hfr := hxs.frozenAt k
            obtain ⟨st1, st2⟩ := hxs.stored k (.int .i32 120)
            go_wp2
            go_roundw
            case rel => exact ⟨k + 1, by omega, by go_num, grown_trans hgr st2, _, st1⟩
            case measure => simp [intOf]; omega
          · obtain rfl : k = (runesI bs).length := by omega
            have z14 := K14.size
            have zr := hgr.size
            obtain ⟨i0, hi, hz0, hz1, hz2⟩ := info_parts info21
            go_wp2_with (at_builtin; refine wpList_append_own _ rfl _ _ 27 rfl w2.heap.size 21 i0 (.int .i32 0) 1 4 Tryd.underlying27 hi hz0 hz1 hz2 rfl (by decide) _ _ _ rfl (hxs.alloc _) ⟨wr.heap.size, 0, none⟩ 2 2 [.int .i32 121, .int .i32 122] rfl rfl (cells_two _ _ _ _ _ rfl) (by simp [Value.oneCell']) (by unfold maxLen; omega) (by omega) (by simp; omega) ?_; intro v' w16 hown' hgrow _; obtain ⟨na, nc, rfl⟩ := owns_slice hown')
            have hG : w14.grownBy w16 (Value.slice ga (runesI bs).length gc).ownBlock := grown_trans hgr (grown_trans (World.grownBy_alloc _ _ _) hgrow)
            have hG5 : w5.grownBy w16 (Value.slice ga (runesI bs).length gc).ownBlock := grown_trans ⟨K14.os, K14.tape, K14.output, K14.size, fun j hj _ => K14.block j hj⟩ hG
            have hb16 : Below w2.heap.size w5 w16 := ⟨hG5.os, hG5.tape, hG5.output, hG5.size, fun j hj => hG5.block j (by omega) (fun e => by have := GL.out j e.symm; omega)⟩
            have hw16 : Below w.heap.size w w16 := H5.out.trans (hb16.mono (by omega))
            have A16 := kept_far A5.out hG5 (fun k e => (GL.out k e).2)
            have W16 := kept_far W5.out hG5 (fun k e => by have := (GL.out k e).2; omega)
            clear hgrow hown' hxs hG hG5 hgr
            refine (same_calls _ _ (runesI bs) (runesI bs) w16 (by omega) (hasI_owns A16) (hasI_owns W16)).mono ?_
            rintro e w17 ⟨rfl, k17⟩
            rw [show decide (runesI bs = runesI bs) = true from decide_eq_true rfl]
            go_wp2_with fail
            refine (kept_calls _ bs w.heap.size _ w17 (by omega) ((B5.out.below (hb16.mono (by omega))).below (k17.mono hw16.size)) ((R5.out.below hb16 (by omega)).below k17 (by have := hb16.size; omega))).mono ?_
            rintro e w18 ⟨rfl, k18⟩
            have hw18 : Below w.heap.size w w18 := hw16.trans ((k17.trans (k18.mono k17.size)).mono hw16.size)
            go_wp2_with fail
            refine (lives_calls _ (tabs_below HT.out hw18)).mono ?_
            rintro e w19 ⟨rfl, k19⟩
            go_wp2
            go_ret
            exact ⟨rfl, hw18.trans (k19.mono hw18.size)⟩
      · obtain ⟨m, rfl⟩ : ∃ m : Nat, n = (m : Int) := ⟨n.toNat, by omega⟩
        have hm : m < (pcs bs).length := by omega
        have hpl : plc bs (m : Int) = (((pcs bs)[m].pos : Int), 0) := by
          unfold plc
          rw [if_pos (by omega), toks_pcs]
          simp [hm]
        rw [hpl]
        obtain ⟨gl, rfl, hgb, hgl0, r0, p0, q0, o0⟩ := owns_piece (owns_below L5.out K14) m hm
        clear hpp hpl r0 q0 o0
        go_wp2
        go_loopw [13, 107] (fun _ i wr => ∃ k : Nat, k ≤ (runesI bs).length ∧ i = .int .i64 k ∧ w14.grownBy wr (Value.slice ga (runesI bs).length gc).ownBlock ∧ ∃ xs, wr.ownsRow w2.heap.size 21 1 (.slice ga (runesI bs).length gc) (runesI bs).length xs) (fun _ i _ => (runesI bs).length - (intOf i).toNat)
        case atStart => exact ⟨0, by omega, rfl, World.grownBy.refl _ _, _, owns_below G5.out K14⟩
        case round =>
          obtain ⟨k, hk, rfl, hgr, xs, hxs⟩ := hrel
          by_cases hlt : k < (runesI bs).length
          · obtain ⟨g, rfl⟩ : ∃ g, ga = some ⟨g, 0, none⟩ := by
              rcases hxs.2 with ⟨e, _⟩ | ⟨g, _, _, e, _⟩
              · simp at e; omega
              · simp at e; exact ⟨g, e.1⟩
            have hxl : xs.length = (runesI bs).length := by have := hxs.1; omega
            obtain ⟨u, hcell⟩ : ∃ u, wr.cell? ⟨g, k, none⟩ = some u := ⟨xs[k]'(by omega), by rw [hxs.cellAt k (by omega), List.getElem?_eq_getElem (by omega)]⟩
            clear hxl
            have hfr := hxs.frozenAt k
            obtain ⟨st1, st2⟩ := hxs.stored k (.int .i32 120)
            go_wp2
            go_roundw
            case rel => exact ⟨k + 1, by omega, by go_num, grown_trans hgr st2, _, st1⟩
            case measure => simp [intOf]; omega
          · obtain rfl : k = (runesI bs).length := by omega
            have z14 := K14.size
            have zr := hgr.size
            obtain ⟨i0, hi, hz0, hz1, hz2⟩ := info_parts info21
            go_wp2_with (at_builtin; refine wpList_append_own _ rfl _ _ 27 rfl w2.heap.size 21 i0 (.int .i32 0) 1 4 Tryd.underlying27 hi hz0 hz1 hz2 rfl (by decide) _ _ _ rfl (hxs.alloc _) ⟨wr.heap.size, 0, none⟩ 2 2 [.int .i32 121, .int .i32 122] rfl rfl (cells_two _ _ _ _ _ rfl) (by simp [Value.oneCell']) (by unfold maxLen; omega) (by omega) (by simp; omega) ?_; intro v' w16 hown' hgrow _; obtain ⟨na, nc, rfl⟩ := owns_slice hown')
            have hG : w14.grownBy w16 (Value.slice ga (runesI bs).length gc).ownBlock := grown_trans hgr (grown_trans (World.grownBy_alloc _ _ _) hgrow)
            have hG5 : w5.grownBy w16 (Value.slice ga (runesI bs).length gc).ownBlock := grown_trans ⟨K14.os, K14.tape, K14.output, K14.size, fun j hj _ => K14.block j hj⟩ hG
            have hb16 : Below w2.heap.size w5 w16 := ⟨hG5.os, hG5.tape, hG5.output, hG5.size, fun j hj => hG5.block j (by omega) (fun e => by have := GL.out j e.symm; omega)⟩
            have hw16 : Below w.heap.size w w16 := H5.out.trans (hb16.mono (by omega))
            have A16 := kept_far A5.out hG5 (fun k e => (GL.out k e).2)
            have W16 := kept_far W5.out hG5 (fun k e => by have := (GL.out k e).2; omega)
            clear hgrow hown' hxs hG hG5 hgr
            refine (same_calls _ _ (runesI bs) (runesI bs) w16 (by omega) (hasI_owns A16) (hasI_owns W16)).mono ?_
            rintro e w17 ⟨rfl, k17⟩
            rw [show decide (runesI bs = runesI bs) = true from decide_eq_true rfl]
            go_wp2_with fail
            refine (kept_calls _ bs w.heap.size _ w17 (by omega) ((B5.out.below (hb16.mono (by omega))).below (k17.mono hw16.size)) ((R5.out.below hb16 (by omega)).below k17 (by have := hb16.size; omega))).mono ?_
            rintro e w18 ⟨rfl, k18⟩
            have hw18 : Below w.heap.size w w18 := hw16.trans ((k17.trans (k18.mono k17.size)).mono hw16.size)
            go_wp2_with fail
            refine (lives_calls _ (tabs_below HT.out hw18)).mono ?_
            rintro e w19 ⟨rfl, k19⟩
            go_wp2
            go_ret
            exact ⟨rfl, hw18.trans (k19.mono hw18.size)⟩

theorem contract (H : Type) (enc : TypeId × Value → H) (W : World) (base : Nat) (args : Array Value) (ds gs : List (DataW H)) (before : List MemPlace)
    (hval : ∀ (j : Nat) t v, Tryd.f3.params[j]? = some t → args[j]? = some v → Value.okWide Tryd.prog W .any base t v)
    (hW : DataW.Whole enc Tryd.prog Tryd.f3.params.toList Rows.utfReadsSpec.vars false W args.toList ds gs before) (hL : laidMetH Tryd.prog Rows.utfReadsUptoRow.laid W) (hk : Rows.uptoSmall H (ds ++ gs) = true) :
    Calls Tryd.prog 3 args W fun e W' => ∃ v, e = .returned v ∧ Rows.utfReadsSpec.post enc Tryd.prog Tryd.f3 false true false false W args v W' := by
  have hW' := hW
  have hlt := hW.lt
  obtain ⟨p, q, hA0, hV, rfl, hfz, hnd⟩ := hW
  have hA : DataW.TrodAll enc Tryd.prog W 0 (fun _ => true) true Tryd.f3.params.toList args.toList ds p := hA0
  rw [Tryd.params3] at hA hval
  obtain ⟨v0, vs0, d0, ds0, p0, q0, hargs, rfl, rfl, h0, r0⟩ := trodAll_cons hA
  obtain ⟨v1, vs1, d1, ds1, p1, q1, rfl, rfl, rfl, h1, r1⟩ := trodAll_cons r0
  obtain ⟨rfl, rfl, rfl⟩ := trodAll_nil r1
  obtain rfl : args = #[v0, v1] := by cases args; simp_all
  obtain ⟨rfl, rfl⟩ := trodVars_none hV
  clear hA0
  simp only [List.append_nil] at hW' hlt hk
  have hbulk := of_decide_eq_true hk
  simp only [Rows.uptoBulkAll] at hbulk
  have e0 := okWide_slice Tryd.underlying22 (hval 0 22 v0 rfl rfl)
  obtain ⟨b0, hb0, l0⟩ := bytes_of_read (by kernel_rfl) e0 h0
  have h1' := h1
  obtain ⟨x1, rfl, e1, -, w1⟩ := open_int Tryd.underlying3 (hval 1 3 v1 rfl rfl) h1
  refine (walk W (tabs_of_laid hL) v0 b0 hb0 (by omega) x1 w1).mono fun e W' ⟨he, hb⟩ => ?_
  subst he
  exact ⟨_, rfl, post_below hW' (fun _ _ _ => trodAll_cons_mk (shut_bool Tryd.underlying4 _) trodAll_mk0) (trodAll_cons_mk (stays (by kernel_rfl) (of_decide_eq_true (by kernel_rfl)) h0 hb (fun x hx => hlt x (by simp [hx]))) (trodAll_cons_mk (stays (by kernel_rfl) (of_decide_eq_true (by kernel_rfl)) h1' hb (fun x hx => hlt x (by simp [hx]))) trodAll_mk0)) rfl hb⟩

theorem laid_met (os : Os) : laidMet Tryd.prog Rows.utfReadsUptoRow.laid ((withTabs (World.holding Tryd.prog os ⟨#[], #[], []⟩)).forCall (fun _ _ => 0) ⟨#[], #[Value.slice none 0 0, Value.int .i64 0], []⟩).memory :=
  laidMet_of_run' 8 (by kernel_rfl) (by kernel_rfl)
theorem reads (os : Os) {H : Type} (enc : TypeId × Value → H) : ∃ places, DataW.whole enc Tryd.prog ((withTabs (World.holding Tryd.prog os ⟨#[], #[], []⟩)).forCall (fun _ _ => 0) ⟨#[], #[Value.slice none 0 0, Value.int .i64 0], []⟩).memory Tryd.f3.params.toList Rows.utfReadsSpec.vars false #[Value.slice none 0 0, Value.int .i64 0].toList 8 = some ([.nil, .lit (.int .i64 0)], [], places) :=
  ⟨[], by kernel_rfl⟩

set_option maxRecDepth 100000 in
theorem lifted (os : Os) (started : os.Started) (H : Type) (enc : TypeId × Value → H) (F : Stop.Interp) :
    ReturnsInHanded {} Tryd.checked os 3 .any ((Rows.OpenSpec.upto Rows.utfReadsSpec).preRow enc Tryd.prog Tryd.f3 Rows.utfReadsUptoRow.domain false Rows.utfReadsUptoRow.laid) (((Rows.OpenSpec.upto Rows.utfReadsSpec).at F).post enc Tryd.prog Tryd.f3 false true false false) := by
  obtain ⟨places, hx⟩ := reads os enc
  refine returnsInHanded_of_row (C := Tryd.checked) (s := Rows.OpenSpec.upto Rows.utfReadsSpec) own started (by kernel_rfl) Tryd.func3
    (witness_row_at (enc := enc) (C := Tryd.checked) false (withTabs (World.holding Tryd.prog os ⟨#[], #[], []⟩)) #[Value.slice none 0 0, Value.int .i64 0] rfl (by kernel_rfl) (by kernel_rfl) (by kernel_rfl)
      (OpenSpec.preRow_of_cond 8 hx (by kernel_rfl) (fun k hk => by cases hk; kernel_rfl) (by kernel_rfl) (laid_met os))) ?_
  intro W base args ds gs before hval hW _ hcond _ hL _ _
  exact contract H enc W base args ds gs before hval hW hL (hcond _ rfl)

theorem said : Rows.UtfReadsUptoSaid :=
  OpenClaim.holds_of_cond 3 Tryd.f3 rfl rfl rfl rfl rfl rfl rfl ⟨rfl, rfl, rfl, rfl, rfl⟩ rfl rfl rfl rfl rfl (by kernel_rfl) Tryd.func3 (by kernel_rfl)
    (of_decide_eq_true (by kernel_rfl)) (by unfold Func.isWrapper; first | (rw [if_pos (by decide +kernel)]; kernel_rfl) | (rw [if_neg (by decide +kernel)]; exact ⟨rfl, rfl⟩))
    (fun os started H enc _ F => by rw [OpenClaim.pre_eq_preRow]; exact lifted os started H enc F)

theorem plain (f : FuncId) (fn : Func) (hf : Tryd.pinned.checked.prog.funcNamed "sieve/sievelaw01.UtfReads" = some f) (hfn : Tryd.pinned.checked.prog.funcs[f]? = some fn) :
    false = Tryd.pinned.checked.prog.looks [] ∧ ∀ (j : Nat) t, fn.params[j]? = some t → Tryd.pinned.checked.prog.wantsStandIn t = false := by
  obtain rfl : f = 3 := Option.some.inj ((show Tryd.prog.funcNamed "sieve/sievelaw01.UtfReads" = some 3 by kernel_rfl).symm.trans hf) |>.symm
  obtain rfl : fn = Tryd.f3 := (Option.some.inj (Tryd.func3.symm.trans hfn)).symm
  refine ⟨by kernel_rfl, fun j t ht => ?_⟩
  rw [Tryd.params3] at ht
  have hm := Array.mem_of_getElem? ht
  simp only [List.mem_toArray, List.mem_cons, List.not_mem_nil, or_false] at hm
  rcases hm with rfl | rfl
  · exact (show Tryd.prog.wantsStandIn 22 = false by kernel_rfl)
  · exact (show Tryd.prog.wantsStandIn 3 = false by kernel_rfl)

theorem card : Rows.UtfReadsUptoCardSaid :=
  Claim7.holds_tied_plain_at .later [] _ _ _ _ said (fun _ h => by cases h) (by kernel_rfl) (fun _ h => by cases h) utfReadsUpto_row_tie rfl ⟨rfl, rfl⟩ (by kernel_rfl) rfl plain (by kernel_rfl)

end Go.Proofs.YtjleehhgcpdapaaDoor.Reads
