/- What is proved here: the statement ChunkSplits (the split does not matter: two scripts of the same bytes, asked the same through buffers of any sizes that allow it, answer the same) holds for any bytes, places, sizes and calls, where the arguments hold at most 1048576 values together, with no other condition. -/
import Derived.Test.YtliahgoelmiopaaCOpen
import Derived.Test.YtliahgoelmiopaaCPair
import Derived.Test.YtliahgoelmiopaaCSplitM
namespace Go.Proofs.Ytliahgoelmiopaa.CSplits
open Go.ChangeShapes Go.WideShapes Go.ChangeAt Go.RowKit C CInv

theorem cut_length (bs : List UInt8) (cs : List Int) (f : Bool) : (cut bs cs f).length = cs.length + 1 := by simp [cut, cutL_length]
theorem head_cutL (bs : List UInt8) (cs : List Int) : ∀ k, (cutL bs cs k).flatMap Prod.fst = bs.take (cutAt bs.length cs k)
  | 0 => by simp [cutL, cutAt]
  | k + 1 => by
    rw [cutL_succ, List.flatMap_append, head_cutL bs cs k]
    have h1 := cutAt_mono bs.length cs k
    simp only [List.flatMap_cons, List.flatMap_nil, List.append_nil, cutS]
    rw [← List.take_add]
    congr 1; omega
theorem bytes_one (d : List UInt8) (f : Bool) : bytesOf [(d, f)] = (d, f) := by cases f <;> simp [bytesOf]
theorem bytes_cut (bs : List UInt8) (cs : List Int) (f : Bool) : bytesOf (cut bs cs f) = (bs, f) := by
  have ht : (cut bs cs f).take cs.length = cutL bs cs cs.length := by unfold cut; rw [List.take_left' (cutL_length _ _ _)]
  have hd : (cut bs cs f).drop cs.length = [(bs.drop (cutAt bs.length cs cs.length), f)] := by unfold cut; rw [List.drop_left' (cutL_length _ _ _)]
  rw [bytesOf_split _ cs.length (fun x hx => by rw [ht] at hx; obtain ⟨i, _, rfl⟩ := List.mem_map.1 hx; rfl), hd, bytes_one]
  unfold headB
  rw [ht, head_cutL]
  simp
theorem sum_cut (bs : List UInt8) (cs : List Int) (f : Bool) : ((cut bs cs f).map fun x => x.1.length).sum = bs.length := by
  have h : ∀ l : List (List UInt8 × Bool), (l.map fun x => x.1.length).sum = (l.flatMap Prod.fst).length := fun l => by
    induction l with
    | nil => rfl
    | cons x r ih => simp only [List.map_cons, List.sum_cons, List.flatMap_cons, List.length_append, ih]
  rw [h]
  unfold cut
  rw [List.flatMap_append, head_cutL]
  simp
theorem not_large (l : Scr) (h : (l.map fun x => x.1.length).sum ≤ 1048576) (h2 : l.length ≤ 100) : large l = false := by
  unfold large
  rw [Bool.or_eq_false_iff, decide_eq_false_iff_not, decide_eq_false_iff_not]
  refine ⟨by omega, ?_⟩
  simp only [sizeS, List.take_length]
  omega
theorem cells_le (bs : List UInt8) (cs : List Int) (f : Bool) : ∀ x ∈ cut bs cs f, x.1.length ≤ bs.length := fun x hx => by
  have h := le_sum _ x hx
  rw [sum_cut] at h
  exact h

set_option maxRecDepth 100000 in
set_option maxHeartbeats 8000000 in
theorem walk (w : World) (dv av : Value) (f : Bool) (bs : List UInt8) (cs : List Int) (hb : HasB w.heap.size w dv bs) (hc : HasI .i64 w av cs) (hl : bs.length + cs.length ≤ 1048576) (iv : Value) (ds : List Int) (hi : HasI .i64 w iv ds) (_wi : ∀ z ∈ ds, (Lit.int .i64 z).wf = true) (hdl : ds.length ≤ 1048576) (sz ot : Int) (wsz : (Lit.int .i64 sz).wf = true) (wot : (Lit.int .i64 ot).wf = true) (pv : Value) (xs : List (Int × Int)) (hp : HasAct w pv xs) (hal : xs.length ≤ 1048576) (hwf : ∀ x ∈ xs, (Lit.int .i64 x.1).wf = true ∧ (Lit.int .i64 x.2).wf = true) :
    Calls Try.prog 6 #[.agg #[dv, av, .bool f], iv, .agg #[.int .i64 sz, .int .i64 ot, pv]] w fun e w' => e = .returned (.bool true) ∧ Below w.heap.size w w' := by
  obtain ⟨da, dc, rfl⟩ := hb.slice
  obtain ⟨aa, ac, rfl⟩ : ∃ a c, av = .slice a cs.length c := by
    rcases hc with ⟨rfl, a, cap, rfl⟩ | ⟨hp, b, off, cap, rfl, _⟩
    · exact ⟨a, cap, rfl⟩
    · exact ⟨_, cap, rfl⟩
  obtain ⟨ia, ic, rfl⟩ : ∃ a c, iv = .slice a ds.length c := by
    rcases hi with ⟨rfl, a, cap, rfl⟩ | ⟨hp, b, off, cap, rfl, _⟩
    · exact ⟨a, cap, rfl⟩
    · exact ⟨_, cap, rfl⟩
  obtain ⟨pa, pc, rfl⟩ := hp.slice
  have HB : Hid (HasB w.heap.size w (.slice da bs.length dc) bs) := hb
  have HC : Hid (HasI .i64 w (.slice aa cs.length ac) cs) := hc
  have HD : Hid (HasI .i64 w (.slice ia ds.length ic) ds) := hi
  have HP : Hid (HasAct w (.slice pa xs.length pc) xs) := hp
  have HWF : Hid (∀ x ∈ xs, (Lit.int .i64 x.1).wf = true ∧ (Lit.int .i64 x.2).wf = true) := hwf
  have hs1 := wf_bounds wsz
  have ho1 := wf_bounds wot
  simp [IntKind.min, IntKind.max, IntKind.signed, IntKind.bits] at hs1 ho1
  clear hb hc hi hp hwf wsz wot
  go_enter Try.func6, Try.ntmps6
  by_cases hbad : 99 ≤ cs.length ∨ 99 ≤ ds.length ∨ sz < 1 ∨ ot < 1 ∨ 1048576 < sz ∨ 1048576 < ot
  · have w1 : IntKind.i64.wrap ((cs.length : Int) + 1) = (cs.length : Int) + 1 := by rw [IntKind.wrap_i64]; omega
    have w2 : IntKind.i64.wrap ((ds.length : Int) + 1) = (ds.length : Int) + 1 := by rw [IntKind.wrap_i64]; omega
    by_cases h1 : 99 ≤ cs.length
    · have t1 : decide ((100 : Int) ≤ (cs.length : Int) + 1) = true := by simp; omega
      go_wp2_with (go_at_call 12; refine (awake_calls _).mono ?_; rintro e w8 ⟨rfl, hb8⟩)
      go_ret
      exact ⟨rfl, (((Below.refl _ w).alloc (Nat.le_refl _) _).alloc (by simp) _).trans (hb8.mono (by simp; omega))⟩
    have t1 : decide ((100 : Int) ≤ (cs.length : Int) + 1) = false := by simp; omega
    by_cases h2 : 99 ≤ ds.length
    · have t2 : decide ((100 : Int) ≤ (ds.length : Int) + 1) = true := by simp; omega
      go_wp2_with (go_at_call 12; refine (awake_calls _).mono ?_; rintro e w8 ⟨rfl, hb8⟩)
      go_ret
      exact ⟨rfl, (((Below.refl _ w).alloc (Nat.le_refl _) _).alloc (by simp) _).trans (hb8.mono (by simp; omega))⟩
    have t2 : decide ((100 : Int) ≤ (ds.length : Int) + 1) = false := by simp; omega
    by_cases h3 : sz < 1
    · have t3 : decide (sz < 1) = true := by simpa using h3
      go_wp2_with (go_at_call 12; refine (awake_calls _).mono ?_; rintro e w8 ⟨rfl, hb8⟩)
      go_ret
      exact ⟨rfl, (((Below.refl _ w).alloc (Nat.le_refl _) _).alloc (by simp) _).trans (hb8.mono (by simp; omega))⟩
    have t3 : decide (sz < 1) = false := by simpa using h3
    by_cases h4 : ot < 1
    · have t4 : decide (ot < 1) = true := by simpa using h4
      go_wp2_with (go_at_call 12; refine (awake_calls _).mono ?_; rintro e w8 ⟨rfl, hb8⟩)
      go_ret
      exact ⟨rfl, (((Below.refl _ w).alloc (Nat.le_refl _) _).alloc (by simp) _).trans (hb8.mono (by simp; omega))⟩
    have t4 : decide (ot < 1) = false := by simpa using h4
    by_cases h5 : 1048576 < sz
    · have t5 : decide (1048576 < sz) = true := by simpa using h5
      go_wp2_with (go_at_call 12; refine (awake_calls _).mono ?_; rintro e w8 ⟨rfl, hb8⟩)
      go_ret
      exact ⟨rfl, (((Below.refl _ w).alloc (Nat.le_refl _) _).alloc (by simp) _).trans (hb8.mono (by simp; omega))⟩
    have t5 : decide (1048576 < sz) = false := by simpa using h5
    have t6 : decide (1048576 < ot) = true := by rw [decide_eq_true_eq]; omega
    go_wp2_with (go_at_call 12; refine (awake_calls _).mono ?_; rintro e w8 ⟨rfl, hb8⟩)
    go_ret
    exact ⟨rfl, (((Below.refl _ w).alloc (Nat.le_refl _) _).alloc (by simp) _).trans (hb8.mono (by simp; omega))⟩
  · obtain ⟨S1, rfl⟩ : ∃ S1 : Nat, sz = (S1 : Int) := ⟨sz.toNat, by omega⟩
    obtain ⟨S2, rfl⟩ : ∃ S2 : Nat, ot = (S2 : Int) := ⟨ot.toNat, by omega⟩
    have t1 : decide ((100 : Int) ≤ (cs.length : Int) + 1) = false := by simp; omega
    have t2 : decide ((100 : Int) ≤ (ds.length : Int) + 1) = false := by simp; omega
    have t3 : decide ((S1 : Int) < 1) = false := by simp; omega
    have t4 : decide ((S2 : Int) < 1) = false := by simp; omega
    have t5 : decide ((1048576 : Int) < (S1 : Int)) = false := by simp; omega
    have t6 : decide ((1048576 : Int) < (S2 : Int)) = false := by simp; omega
    have w1 : IntKind.i64.wrap ((cs.length : Int) + 1) = (cs.length : Int) + 1 := by rw [IntKind.wrap_i64]; omega
    have w2 : IntKind.i64.wrap ((ds.length : Int) + 1) = (ds.length : Int) + 1 := by rw [IntKind.wrap_i64]; omega
    have q1 : cs.length ≤ 98 := by omega
    have q2 : ds.length ≤ 98 := by omega
    have q3 : 1 ≤ S1 := by omega
    have q4 : S1 ≤ 1048576 := by omega
    have q5 : 1 ≤ S2 := by omega
    have q6 : S2 ≤ 1048576 := by omega
    clear hbad
    obtain ⟨w0, hw0⟩ : ∃ w0, (w.alloc (.cells #[.slice da bs.length dc, .slice aa cs.length ac, .bool f] 62)).alloc (.cells #[.int .i64 S1, .int .i64 S2, .slice pa xs.length pc] 64) = w0 := ⟨_, rfl⟩
    have z0 : w0.heap.size = w.heap.size + 2 := by rw [← hw0]; simp
    have b0 : Below w.heap.size w w0 := by rw [← hw0]; exact ((Below.refl _ w).alloc (Nat.le_refl _) _).alloc (by simp) _
    have y0 : w0.heap[w.heap.size]? = some (.cells #[.slice da bs.length dc, .slice aa cs.length ac, .bool f] 62 (0, 0)) := by
      rw [← hw0]
      exact (((Below.refl _ (w.alloc (.cells #[.slice da bs.length dc, .slice aa cs.length ac, .bool f] 62))).alloc (Nat.le_refl _) _).block w.heap.size (by simp)).trans (World.alloc_heap_new w _)
    have y1 : w0.heap[w.heap.size + 1]? = some (.cells #[.int .i64 S1, .int .i64 S2, .slice pa xs.length pc] 64 (0, 0)) := by
      have h := World.alloc_heap_new (w.alloc (.cells #[.slice da bs.length dc, .slice aa cs.length ac, .bool f] 62)) (.cells #[.int .i64 S1, .int .i64 S2, .slice pa xs.length pc] 64)
      rw [hw0] at h
      rw [show (w.alloc (.cells #[.slice da bs.length dc, .slice aa cs.length ac, .bool f] 62)).heap.size = w.heap.size + 1 by simp] at h
      exact h
    have cellc : ∀ {W : World} {k i : Nat} {q : Array Value} {ty : TypeId}, W.heap[k]? = some (.cells q ty (0, 0)) → W.cell? ⟨k, i, none⟩ = q[i]? := fun h => by simp [World.cell?, h]
    have HY0 : Hid (w0.heap[w.heap.size]? = some (.cells #[.slice da bs.length dc, .slice aa cs.length ac, .bool f] 62 (0, 0))) := y0
    have HY1 : Hid (w0.heap[w.heap.size + 1]? = some (.cells #[.int .i64 S1, .int .i64 S2, .slice pa xs.length pc] 64 (0, 0))) := y1
    have HCC : Hid (∀ {W : World} {k i : Nat} {q : Array Value} {ty : TypeId}, W.heap[k]? = some (.cells q ty (0, 0)) → W.cell? ⟨k, i, none⟩ = q[i]?) := cellc
    have HW0 : Hid ((w.alloc (.cells #[.slice da bs.length dc, .slice aa cs.length ac, .bool f] 62)).alloc (.cells #[.int .i64 S1, .int .i64 S2, .slice pa xs.length pc] 64) = w0) := hw0
    have HB0 : Hid (Below w.heap.size w w0) := b0
    clear y0 y1 hw0 b0 cellc
    obtain ⟨l1, hl1⟩ : ∃ l1, cut bs cs f = l1 := ⟨_, rfl⟩
    obtain ⟨l2, hl2⟩ : ∃ l2, cut bs ds f = l2 := ⟨_, rfl⟩
    have HL1 : Hid (cut bs cs f = l1) := hl1
    have HL2 : Hid (cut bs ds f = l2) := hl2
    have HF1 : Hid (bytesOf l1 = (bs, f) ∧ (l1.map fun x => x.1.length).sum = bs.length ∧ (∀ x ∈ l1, x.1.length ≤ 100000000000000) ∧ large l1 = false) := by
      rw [← hl1]
      exact ⟨bytes_cut _ _ _, sum_cut _ _ _, fun x hx => by have := cells_le _ _ _ x hx; omega, not_large _ (by rw [sum_cut]; omega) (by rw [cut_length]; omega)⟩
    have HF2 : Hid (bytesOf l2 = (bs, f) ∧ (l2.map fun x => x.1.length).sum = bs.length ∧ (∀ x ∈ l2, x.1.length ≤ 100000000000000) ∧ large l2 = false) := by
      rw [← hl2]
      exact ⟨bytes_cut _ _ _, sum_cut _ _ _, fun x hx => by have := cells_le _ _ _ x hx; omega, not_large _ (by rw [sum_cut]; omega) (by rw [cut_length]; omega)⟩
    have n1 : l1.length ≤ 99 := by rw [← hl1, cut_length]; omega
    have n2 : l2.length ≤ 99 := by rw [← hl2, cut_length]; omega
    clear hl1 hl2
    go_wp2_with fail
    rw [HW0.out]
    refine (cut_calls _ _ bs cs w0.heap.size f w0 (by omega) (by omega) ((HB.out.below HB0.out).mono (by omega)) (HC.out.below HB0.out)).mono ?_
    rintro e w1 ⟨xv, rfl, hS1, hb1⟩
    rw [HL1.out] at hS1
    have HX1 : Hid (OwnS w0.heap.size 76 w1 xv l1) := hS1
    have HB1 : Hid (Below w0.heap.size w0 w1) := hb1
    obtain ⟨xa, xc, rfl⟩ := hS1.slice
    clear hS1 hb1
    have c2 : w1.cell? ⟨w.heap.size, 2, none⟩ = some (.bool f) := HCC.out ((HB1.out.block _ (by omega)).trans HY0.out)
    have HBw1 : Hid (Below w.heap.size w w1) := HB0.out.trans (HB1.out.mono (by omega))
    go_wp2_with fail
    refine (cut_calls _ _ bs ds w1.heap.size f w1 (by omega) (by omega) ((HB.out.below HBw1.out).mono (by have := HBw1.out.size; omega)) (HD.out.below HBw1.out)).mono ?_
    rintro e w2 ⟨yv, rfl, hS2, hb2⟩
    rw [HL2.out] at hS2
    have HX2 : Hid (OwnS w1.heap.size 76 w2 yv l2) := hS2
    have HB2 : Hid (Below w1.heap.size w1 w2) := hb2
    obtain ⟨ya, yc, rfl⟩ := hS2.slice
    clear hS2 hb2 c2
    have hz1 := HB1.out.size
    have hz2 := HB2.out.size
    have HX12 : Hid (OwnS w0.heap.size 76 w2 (.slice xa l1.length xc) l1) := HX1.out.below HB2.out
    go_wp2_with fail
    refine (new_small l1 _ w2 (hasS_owns HX12.out) (by omega) HF1.out.2.2.1 HF1.out.2.2.2).mono ?_
    rintro e w3 ⟨g1, hg1, rfl, hR3, hb3⟩
    have HB3 : Hid (Below w2.heap.size w2 w3) := hb3
    have HR3 : Hid (Src w2.heap.size w3 g1 (reach l1) 0 0 0) := hR3
    have hg1lt : g1 < w3.heap.size := by obtain ⟨_, hB, _⟩ := hR3; exact hB.lt
    have hz3 := hb3.size
    clear hR3 hb3
    go_wp2_with fail
    refine (new_small l2 _ w3 (hasS_owns (HX2.out.below HB3.out)) (by omega) HF2.out.2.2.1 HF2.out.2.2.2).mono ?_
    rintro e w4 ⟨g2, hg2, rfl, hR4, hb4⟩
    have HB4 : Hid (Below w3.heap.size w3 w4) := hb4
    have HR4 : Hid (Src w3.heap.size w4 g2 (reach l2) 0 0 0) := hR4
    have hg2lt : g2 < w4.heap.size := by obtain ⟨_, hB, _⟩ := hR4; exact hB.lt
    have hz4 := hb4.size
    clear hR4 hb4
    have HB04 : Hid (Below w0.heap.size w0 w4) := HB1.out.trans ((HB2.out.trans ((HB3.out.trans (HB4.out.mono HB3.out.size)).mono HB2.out.size)).mono HB1.out.size)
    have cp0 : w4.cell? ⟨w.heap.size + 1, 0, none⟩ = some (.int .i64 S1) := HCC.out ((HB04.out.block _ (by omega)).trans HY1.out)
    go_wp2_with (first
      | (go_at_call 11; refine (num_calls _ _).mono ?_; rintro e w' ⟨rfl, hx'⟩; obtain rfl : w4 = w' := hx'.symm; clear hx'))
    refine (newBuffer_calls w4 g1 (reach l1) 0 0 0 S1 (HR3.out.below HB4.out) (by omega) (by omega)).mono ?_
    rintro e w5 ⟨b1, rfl, hU5, hb15, hb5⟩
    have HB5 : Hid (Below w4.heap.size w4 w5) := hb5
    have HU5 : Hid (BufAt w5 b1 g1 S1 0 (.slice none 0 0)) := hU5
    have hb1lt : b1 < w5.heap.size := Blk.lt hU5
    have hz5 := hb5.size
    clear hU5 hb5 cp0
    have cp1 : w5.cell? ⟨w.heap.size + 1, 1, none⟩ = some (.int .i64 S2) := HCC.out ((HB5.out.block _ (by omega)).trans ((HB04.out.block _ (by omega)).trans HY1.out))
    go_wp2_with fail
    refine (newBuffer_calls w5 g2 (reach l2) 0 0 0 S2 (HR4.out.below HB5.out) (by omega) (by omega)).mono ?_
    rintro e w6 ⟨b2, rfl, hU6, hb26, hb6⟩
    have HB6 : Hid (Below w5.heap.size w5 w6) := hb6
    have HU6 : Hid (BufAt w6 b2 g2 S2 0 (.slice none 0 0)) := hU6
    have hb2lt : b2 < w6.heap.size := Blk.lt hU6
    have hz6 := hb6.size
    clear hU6 hb6 cp1
    have HB46 : Hid (Below w4.heap.size w4 w6) := HB5.out.trans (HB6.out.mono HB5.out.size)
    have HB36 : Hid (Below w3.heap.size w3 w6) := HB4.out.trans (HB46.out.mono HB4.out.size)
    have HB26 : Hid (Below w2.heap.size w2 w6) := HB3.out.trans (HB36.out.mono HB3.out.size)
    have HB06 : Hid (Below w0.heap.size w0 w6) := HB04.out.trans (HB46.out.mono HB04.out.size)
    have SC : Hid (Calls Try.prog 26 #[.slice xa l1.length xc, .slice ya l2.length yc] w6 fun e W' => e = .returned (.bool true) ∧ Below w6.heap.size w6 W') := by
      have h := same_calls l1 l2 _ _ w0.heap.size w1.heap.size w6 (HX12.out.below HB26.out) (HX2.out.below HB26.out) (by omega) (by omega) (by rw [HF1.out.2.1]; omega) (by rw [HF2.out.2.1]; omega)
      rw [HF1.out.1, HF2.out.1, decide_eq_true rfl] at h
      exact h
    go_wp2_with (first
      | (go_at_call 11; refine (num_calls _ _).mono ?_; rintro e w' ⟨rfl, hx'⟩; obtain rfl : w6 = w' := hx'.symm; clear hx')
      | (go_at_call 26; refine SC.out.mono ?_; rintro e w7 ⟨rfl, hb7⟩; have HB7 : Hid (Below w6.heap.size w6 w7) := hb7; have cp2 : w7.cell? ⟨w.heap.size + 1, 2, none⟩ = some (.slice pa xs.length pc) := HCC.out ((HB7.out.block _ (by omega)).trans ((HB06.out.block _ (by omega)).trans HY1.out)); clear hb7))
    have hz7 := HB7.out.size
    have HBw7 : Hid (Below w.heap.size w w7) := HB0.out.trans ((HB06.out.trans (HB7.out.mono HB06.out.size)).mono (by omega))
    have HA0 : Hid (Bst (fun j => j ≠ g2 ∧ j ≠ b2) w2.heap.size b1 g1 S1 l1 0 w7) := (Bst.start (HR3.out.below HB36.out) (HU5.out.below HB6.out)).below HB7.out
    have HC0 : Hid (Bst (fun j => j ≠ g1 ∧ j ≠ b1) w3.heap.size b2 g2 S2 l2 0 w7) := (Bst.start (HR4.out.below HB46.out) HU6.out).below HB7.out
    obtain ⟨PA, hPA⟩ : ∃ PA, pa = PA := ⟨_, rfl⟩
    have HPB7 : Hid (w7.heap[w.heap.size + 1]? = some (.cells #[.int .i64 S1, .int .i64 S2, .slice PA xs.length pc] 64 (0, 0))) := by rw [← hPA]; exact (HB7.out.block _ (by omega)).trans ((HB06.out.block _ (by omega)).trans HY1.out)
    clear hPA
    clear cp2 HR3 HR4 HU5 HU6 SC HX1 HX2 HX12
    have hbsl : bs.length ≤ 16777216 := by omega
    have D1 : Hid ((bytesOf l1).1 = bs ∧ (bytesOf l1).2 = f ∧ errF l1 = (if f = true then 20 else 21)) := by
      have h := HF1.out.1
      refine ⟨by rw [h], by rw [h], ?_⟩
      unfold errF; rw [h]
    have D2 : Hid ((bytesOf l2).1 = bs ∧ (bytesOf l2).2 = f ∧ errF l2 = (if f = true then 20 else 21)) := by
      have h := HF2.out.1
      refine ⟨by rw [h], by rw [h], ?_⟩
      unfold errF; rw [h]
    obtain ⟨EF, hEF⟩ : ∃ EF : Int, (if f = true then 20 else 21) = EF := ⟨_, rfl⟩
    obtain ⟨ER, hER⟩ : ∃ ER : Int, (if f = true then 20 else 0) = ER := ⟨_, rfl⟩
    have HEF : Hid (EF ≠ 23) := by show _ ≠ _; rw [← hEF]; split <;> decide
    rw [hEF] at D1 D2
    have OPS : ∀ (Q : Nat → Prop) (base b g S : Nat) (l : Scr), Hid ((bytesOf l).1 = bs ∧ (bytesOf l).2 = f ∧ errF l = EF) → l.length ≤ 99 → (∀ x ∈ l, x.1.length ≤ 100000000000000) → g < b → 1 ≤ S → S ≤ 1048576 → Hid ((∀ W tk, Bst Q base b g S l tk W → Calls Try.prog 29 #[.pointer (some ⟨b, 0, none⟩)] W fun e W' => ∃ d, e = .returned (.tuple #[d, .int .i64 ER]) ∧ W'.ownsRow W.heap.size 5 1 d (bs.drop tk).length (bvs (bs.drop tk)) ∧ Bst Q base b g S l (tk + (bs.drop tk).length) W' ∧ KeepP (fun j => j = g ∨ j = b ∨ W.heap.size ≤ j) W W') ∧
        (∀ W tk (n : Nat), (∀ j, W.heap.size ≤ j → Q j) → n ≤ S → Bst Q base b g S l tk W → Calls Try.prog 27 #[.pointer (some ⟨b, 0, none⟩), .int .i64 n] W fun e W' => ∃ d, e = .returned (.tuple #[d, .int .i64 (if tk + n ≤ bs.length then 0 else EF)]) ∧ W'.ownsRow W.heap.size 5 1 d ((bs.drop tk).take n).length (bvs ((bs.drop tk).take n)) ∧ Bst Q base b g S l tk W' ∧ KeepP (fun j => j = g ∨ j = b ∨ W.heap.size ≤ j) W W') ∧
        (∀ W tk (n : Nat), (∀ j, W.heap.size ≤ j → Q j) → n ≤ S → Bst Q base b g S l tk W → Calls Try.prog 24 #[.pointer (some ⟨b, 0, none⟩), .int .i64 n] W fun e W' => ∃ d, e = .returned (.tuple #[d, .int .i64 (if tk + n ≤ bs.length then 0 else EF)]) ∧ W'.ownsRow W.heap.size 5 1 d ((bs.drop tk).take n).length (bvs ((bs.drop tk).take n)) ∧ Bst Q base b g S l (tk + ((bs.drop tk).take n).length) W' ∧ KeepP (fun j => j = g ∨ j = b ∨ W.heap.size ≤ j) W W') ∧
        (∀ W tk (c : UInt8), (∀ j, W.heap.size ≤ j → Q j) → Bst Q base b g S l tk W → Calls Try.prog 28 #[.pointer (some ⟨b, 0, none⟩), .int .u8 c.toNat] W fun e W' => ∃ (d : Value) (E : Int) (k : Nat), e = .returned (.tuple #[d, .int .i64 E]) ∧ W'.ownsRow W.heap.size 5 1 d ((bs.drop tk).take k).length (bvs ((bs.drop tk).take k)) ∧ Bst Q base b g S l (tk + k) W' ∧ KeepP (fun j => j = g ∨ j = b ∨ W.heap.size ≤ j) W W' ∧ ((E = 23 ∧ k = 0) ∨ (E = 0 ∧ Lib.indexByte (bs.drop tk) c = (k : Int) - 1 ∧ 1 ≤ k) ∨ (E = EF ∧ Lib.indexByte (bs.drop tk) c = -1 ∧ tk + k = bs.length)))) := fun Q base b g S l hD hl99 hdx hgb h1 h2 => by
      refine ⟨fun W tk h => ?_, fun W tk n hq hn h => ?_, fun W tk n hq hn h => ?_, fun W tk c hq h => ?_⟩
      · have := brest Q W b g l S tk h hgb h1 (by omega) (by rw [hD.out.1]; omega) hl99 hdx
        rw [hD.out.1, hD.out.2.1, hER] at this
        exact this
      · have := bpeek Q W hq b g l S tk n h hgb (by omega) hn (by rw [hD.out.1]; omega) hl99 hdx
        rw [hD.out.1, hD.out.2.2] at this
        exact this
      · have := btake Q W hq b g l S tk n h hgb (by omega) hn (by rw [hD.out.1]; omega) hl99 hdx
        rw [hD.out.1, hD.out.2.2] at this
        exact this
      · have := buntil Q W hq b g c l S tk h hgb (by omega) (by rw [hD.out.1]; omega) hl99 hdx
        rw [hD.out.1, hD.out.2.2] at this
        exact this
    have RS1 := OPS (fun j => j ≠ g2 ∧ j ≠ b2) w2.heap.size b1 g1 S1 l1 D1 n1 HF1.out.2.2.1 (by omega) q3 q4
    have RS2 := OPS (fun j => j ≠ g1 ∧ j ≠ b1) w3.heap.size b2 g2 S2 l2 D2 n2 HF2.out.2.2.1 (by omega) q5 q6
    clear OPS hEF hER D1 D2
    go_loopw [136] (fun vi wr => ∃ (k taken : Nat), vi = .int .i64 k ∧ k ≤ xs.length ∧ Hid (Bst (fun j => j ≠ g2 ∧ j ≠ b2) w2.heap.size b1 g1 S1 l1 taken wr) ∧ Hid (Bst (fun j => j ≠ g1 ∧ j ≠ b1) w3.heap.size b2 g2 S2 l2 taken wr) ∧ Hid (Below w.heap.size w wr) ∧ Hid (w7.heap.size ≤ wr.heap.size) ∧ Hid (wr.heap[w.heap.size + 1]? = some (.cells #[.int .i64 S1, .int .i64 S2, .slice PA xs.length pc] 64 (0, 0)))) (fun vi _ => xs.length - (intOf vi).toNat)
    case atStart => exact ⟨0, 0, rfl, by omega, HA0, HC0, HBw7, Nat.le_refl _, HPB7⟩
    case round =>
      obtain ⟨k, taken, rfl, hk, hA, hC, hB, hz, hPB⟩ := hrel
      have hzr := hz.out
      by_cases hlt : k < xs.length
      · obtain ⟨pb, po, rfl, _, hpc, hx0, hx1⟩ := HP.out.at k hlt
        have d0 := (hB.out.cell (p := ⟨pb, po + k * 2, none⟩) (cell_lt hx0)).trans hx0
        have d1 := (hB.out.cell (p := ⟨pb, po + k * 2 + 1, none⟩) (cell_lt hx1)).trans hx1
        have hwk := HWF.out xs[k] (List.getElem_mem _)
        rcases hxk : xs[k] with ⟨K, N⟩
        rw [hxk] at d0 d1 hwk
        simp only at d0 d1 hwk
        have hN := wf_bounds hwk.2
        simp [IntKind.min, IntKind.max, IntKind.signed, IntKind.bits] at hN
        obtain ⟨W1, hW1⟩ : ∃ W1, wr.alloc (.cells #[.int .i64 K, .int .i64 N] 43) = W1 := ⟨_, rfl⟩
        have zW1 : W1.heap.size = wr.heap.size + 1 := by rw [← hW1]; simp
        have bW1 : Below wr.heap.size wr W1 := by rw [← hW1]; exact (Below.refl _ wr).alloc (Nat.le_refl _) _
        have HK1 : Hid (W1.heap[wr.heap.size]? = some (.cells #[.int .i64 K, .int .i64 N] 43 (0, 0))) := by rw [← hW1]; exact World.alloc_heap_new _ _
        have HA1 : Hid (Bst (fun j => j ≠ g2 ∧ j ≠ b2) w2.heap.size b1 g1 S1 l1 taken W1) := hA.out.below bW1
        have HC1 : Hid (Bst (fun j => j ≠ g1 ∧ j ≠ b1) w3.heap.size b2 g2 S2 l2 taken W1) := hC.out.below bW1
        have HBW1 : Hid (Below w.heap.size w W1) := hB.out.trans (bW1.mono hB.out.size)
        have HP1 : Hid (W1.heap[w.heap.size + 1]? = some (.cells #[.int .i64 S1, .int .i64 S2, .slice PA xs.length pc] 64 (0, 0))) := (bW1.block _ (by have := (Array.getElem?_eq_some_iff.1 hPB.out).1; omega)).trans hPB.out
        clear hx0 hx1 hwk hxk bW1
        by_cases hK : K ≠ 0 ∧ K ≠ 1 ∧ K ≠ 2 ∧ K ≠ 3
        · as_aux_lemma =>
            have e0 : (K == 0) = false := by simpa using hK.1
            have e1 : (K == 1) = false := by simpa using hK.2.1
            have e2 : (K == 2) = false := by simpa using hK.2.2.1
            have e3 : (K == 3) = false := by simpa using hK.2.2.2
            have k0 : W1.cell? ⟨wr.heap.size, 0, none⟩ = some (.int .i64 K) := HCC.out HK1.out
            have hnil : HasB W1.heap.size W1 (.slice none 0 0) [] := .inl ⟨rfl, none, 0, rfl⟩
            clear hK
            have cu : (convert 39 9 (.slice none 0 0)).run Try.prog W1 = .ok (.string ⟨([]).toArray⟩) W1 := conv_bytes hnil
            have cv : (convert 39 9 (.slice none 0 0)).run Try.prog W1 = .ok (.string ⟨([]).toArray⟩) W1 := conv_bytes hnil
            have T1 : Hid (Calls Try.prog 16 #[.pointer (some ⟨b1, 0, none⟩)] W1 fun e W' => e = .returned (.int .i64 (taken : Nat)) ∧ W1 = W') := HA1.out.taken
            have T2 : Hid (Calls Try.prog 16 #[.pointer (some ⟨b2, 0, none⟩)] W1 fun e W' => e = .returned (.int .i64 (taken : Nat)) ∧ W1 = W') := HC1.out.taken
            obtain ⟨tk, htk⟩ : ∃ tk : Nat, taken = tk := ⟨_, rfl⟩
            rw [htk] at T1 T2
            have HTK : Hid (taken = tk) := htk
            clear htk
            go_wp2_with fail
            refine T1.out.mono ?_
            rintro e w' ⟨rfl, hx'⟩
            obtain rfl : W1 = w' := hx'
            go_wp2_with fail
            refine T2.out.mono ?_
            rintro e w' ⟨rfl, hx'⟩
            obtain rfl : W1 = w' := hx'
            go_wp2
            all_goals first
              | exact ⟨⟨k + 1, taken, by go_num, by omega, HA1, HC1, HBW1, (by show _ ≤ _; omega), HP1⟩, by simp [intOf]; omega⟩
              | (go_roundw
                 case rel => exact ⟨k + 1, taken, by go_num, by omega, HA1, HC1, HBW1, (by show _ ≤ _; omega), HP1⟩
                 case measure => simp [intOf]; omega)
              | trace_state
        by_cases hK3 : K = 3
        · as_aux_lemma =>
            subst hK3
            obtain ⟨X, hX⟩ : ∃ X, bs.drop taken = X := ⟨_, rfl⟩
            have HX : Hid (bs.drop taken = X) := hX
            clear hX
            have kc01 : W1.cell? ⟨wr.heap.size, 0, none⟩ = some (.int .i64 3) := HCC.out HK1.out
            go_wp2_with fail
            refine (RS1.out.1 W1 taken HA1.out).mono ?_
            rintro e W2 ⟨dd, rfl, ho2, hb2, hk2⟩
            rw [HX.out] at ho2 hb2
            obtain ⟨da2, dc2, rfl⟩ := owns_slice ho2
            have HO2 : Hid (W2.ownsRow W1.heap.size 5 1 (.slice da2 (X).length dc2) (X).length (bvs (X))) := ho2
            have HA2 : Hid (Bst (fun j => j ≠ g2 ∧ j ≠ b2) w2.heap.size b1 g1 S1 l1 (taken + X.length) W2) := hb2
            have HC2 : Hid (Bst (fun j => j ≠ g1 ∧ j ≠ b1) w3.heap.size b2 g2 S2 l2 (taken) W2) := HC1.out.keep hk2 (by omega) (by omega) (by omega) ⟨by omega, by omega⟩ (fun j hj => ⟨hj.1, hj.2⟩)
            have HBW2 : Hid (Below w.heap.size w W2) := keep_low HBW1.out hk2 (by omega) (by omega) (by omega)
            have HK2 : Hid (W2.heap[wr.heap.size]? = some (.cells #[.int .i64 3, .int .i64 N] 43 (0, 0))) := keep_blk hk2 HK1.out (by omega) (by omega)
            have HP2 : Hid (W2.heap[w.heap.size + 1]? = some (.cells #[.int .i64 S1, .int .i64 S2, .slice PA xs.length pc] 64 (0, 0))) := keep_blk hk2 HP1.out (by omega) (by omega)
            have zW2 := hk2.size
            clear ho2 hb2 hk2
            go_wp2_with fail
            refine (RS2.out.1 W2 taken HC2.out).mono ?_
            rintro e W3 ⟨dd, rfl, ho3, hb3, hk3⟩
            rw [HX.out] at ho3 hb3
            obtain ⟨da3, dc3, rfl⟩ := owns_slice ho3
            have HO3 : Hid (W3.ownsRow W2.heap.size 5 1 (.slice da3 (X).length dc3) (X).length (bvs (X))) := ho3
            have HC3 : Hid (Bst (fun j => j ≠ g1 ∧ j ≠ b1) w3.heap.size b2 g2 S2 l2 (taken + X.length) W3) := hb3
            have HA3 : Hid (Bst (fun j => j ≠ g2 ∧ j ≠ b2) w2.heap.size b1 g1 S1 l1 (taken + X.length) W3) := HA2.out.keep hk3 (by omega) (by omega) (by omega) ⟨by omega, by omega⟩ (fun j hj => ⟨hj.1, hj.2⟩)
            have HBW3 : Hid (Below w.heap.size w W3) := keep_low HBW2.out hk3 (by omega) (by omega) (by omega)
            have HK3 : Hid (W3.heap[wr.heap.size]? = some (.cells #[.int .i64 3, .int .i64 N] 43 (0, 0))) := keep_blk hk3 HK2.out (by omega) (by omega)
            have HP3 : Hid (W3.heap[w.heap.size + 1]? = some (.cells #[.int .i64 S1, .int .i64 S2, .slice PA xs.length pc] 64 (0, 0))) := keep_blk hk3 HP2.out (by omega) (by omega)
            have zW3 := hk3.size
            have HO2_3 : Hid (W3.ownsRow W1.heap.size 5 1 (.slice da2 (X).length dc2) (X).length (bvs (X))) := keep_own hk3 HO2.out (by omega) (by omega)
            clear ho3 hb3 hk3
            have cu : (convert 39 9 (.slice da2 X.length dc2)).run Try.prog W3 = .ok (.string ⟨(X).toArray⟩) W3 := conv_bytes (hasB_owns HO2_3.out)
            have cv : (convert 39 9 (.slice da3 X.length dc3)).run Try.prog W3 = .ok (.string ⟨(X).toArray⟩) W3 := conv_bytes (hasB_owns HO3.out)
            have T1 : Hid (Calls Try.prog 16 #[.pointer (some ⟨b1, 0, none⟩)] W3 fun e W' => e = .returned (.int .i64 (taken + X.length : Nat)) ∧ W3 = W') := HA3.out.taken
            have T2 : Hid (Calls Try.prog 16 #[.pointer (some ⟨b2, 0, none⟩)] W3 fun e W' => e = .returned (.int .i64 (taken + X.length : Nat)) ∧ W3 = W') := HC3.out.taken
            obtain ⟨tk, htk⟩ : ∃ tk : Nat, taken + X.length = tk := ⟨_, rfl⟩
            rw [htk] at T1 T2
            have HTK : Hid (taken + X.length = tk) := htk
            clear htk
            go_wp2_with (go_at_call 11; refine (num_calls _ _).mono ?_; rintro e w' ⟨rfl, hx'⟩; obtain rfl : W3 = w' := hx'.symm)
            refine T1.out.mono ?_
            rintro e w' ⟨rfl, hx'⟩
            obtain rfl : W3 = w' := hx'
            go_wp2_with fail
            refine T2.out.mono ?_
            rintro e w' ⟨rfl, hx'⟩
            obtain rfl : W3 = w' := hx'
            go_wp2
            all_goals first
              | exact ⟨⟨k + 1, taken + X.length, by go_num, by omega, HA3, HC3, HBW3, (by show _ ≤ _; omega), HP3⟩, by simp [intOf]; omega⟩
              | (go_roundw
                 case rel => exact ⟨k + 1, taken + X.length, by go_num, by omega, HA3, HC3, HBW3, (by show _ ≤ _; omega), HP3⟩
                 case measure => simp [intOf]; omega)
              | trace_state
        by_cases hK0 : K = 0
        · as_aux_lemma =>
            subst hK0
            have kc01 : W1.cell? ⟨wr.heap.size, 0, none⟩ = some (.int .i64 0) := HCC.out HK1.out
            have kc11 : W1.cell? ⟨wr.heap.size, 1, none⟩ = some (.int .i64 N) := HCC.out HK1.out
            have pc01 : W1.cell? ⟨w.heap.size + 1, 0, none⟩ = some (.int .i64 S1) := HCC.out HP1.out
            have pc11 : W1.cell? ⟨w.heap.size + 1, 1, none⟩ = some (.int .i64 S2) := HCC.out HP1.out
            by_cases hb0 : N < 0
            · have t0 : decide (N < 0) = true := by simpa using hb0
              go_wp2
              all_goals first
                | exact ⟨⟨k + 1, taken, by go_num, by omega, HA1, HC1, HBW1, (by show _ ≤ _; omega), HP1⟩, by simp [intOf]; omega⟩
                | (go_roundw
                   case rel => exact ⟨k + 1, taken, by go_num, by omega, HA1, HC1, HBW1, (by show _ ≤ _; omega), HP1⟩
                   case measure => simp [intOf]; omega)
                | trace_state
            by_cases hb1 : (S1 : Int) < N
            · have t0 : decide (N < 0) = false := by simpa using hb0
              have t1 : decide ((S1 : Int) < N) = true := by simpa using hb1
              go_wp2
              all_goals first
                | exact ⟨⟨k + 1, taken, by go_num, by omega, HA1, HC1, HBW1, (by show _ ≤ _; omega), HP1⟩, by simp [intOf]; omega⟩
                | (go_roundw
                   case rel => exact ⟨k + 1, taken, by go_num, by omega, HA1, HC1, HBW1, (by show _ ≤ _; omega), HP1⟩
                   case measure => simp [intOf]; omega)
                | trace_state
            by_cases hb2 : (S2 : Int) < N
            · have t0 : decide (N < 0) = false := by simpa using hb0
              have t1 : decide ((S1 : Int) < N) = false := by simpa using hb1
              have t2 : decide ((S2 : Int) < N) = true := by simpa using hb2
              go_wp2
              all_goals first
                | exact ⟨⟨k + 1, taken, by go_num, by omega, HA1, HC1, HBW1, (by show _ ≤ _; omega), HP1⟩, by simp [intOf]; omega⟩
                | (go_roundw
                   case rel => exact ⟨k + 1, taken, by go_num, by omega, HA1, HC1, HBW1, (by show _ ≤ _; omega), HP1⟩
                   case measure => simp [intOf]; omega)
                | trace_state
            obtain ⟨n, rfl⟩ : ∃ n : Nat, N = (n : Int) := ⟨N.toNat, by omega⟩
            have t0 : decide ((n : Int) < 0) = false := by simp
            have t1 : decide ((S1 : Int) < (n : Int)) = false := by simpa using hb1
            have t2 : decide ((S2 : Int) < (n : Int)) = false := by simpa using hb2
            have t3 : decide (S1 < n) = false := by simp; omega
            have t4 : decide (S2 < n) = false := by simp; omega
            have hn1 : n ≤ S1 := by omega
            have hn2 : n ≤ S2 := by omega
            obtain ⟨X, hX⟩ : ∃ X, (bs.drop taken).take n = X := ⟨_, rfl⟩
            have HX : Hid ((bs.drop taken).take n = X) := hX
            obtain ⟨EP, hEP⟩ : ∃ EP : Int, (if taken + n ≤ bs.length then 0 else EF) = EP := ⟨_, rfl⟩
            have HEP : Hid ((if taken + n ≤ bs.length then 0 else EF) = EP) := hEP
            clear hX hEP hb0 hb1 hb2
            go_wp2_with fail
            refine (RS1.out.2.1 W1 taken n (fun j hj => ⟨by omega, by omega⟩) (by omega) HA1.out).mono ?_
            rintro e W2 ⟨dd, he2, ho2, hb2, hk2⟩
            rw [HX.out] at ho2
            rw [HEP.out] at he2
            subst he2
            obtain ⟨da2, dc2, rfl⟩ := owns_slice ho2
            have HO2 : Hid (W2.ownsRow W1.heap.size 5 1 (.slice da2 (X).length dc2) (X).length (bvs (X))) := ho2
            have HA2 : Hid (Bst (fun j => j ≠ g2 ∧ j ≠ b2) w2.heap.size b1 g1 S1 l1 (taken) W2) := hb2
            have HC2 : Hid (Bst (fun j => j ≠ g1 ∧ j ≠ b1) w3.heap.size b2 g2 S2 l2 (taken) W2) := HC1.out.keep hk2 (by omega) (by omega) (by omega) ⟨by omega, by omega⟩ (fun j hj => ⟨hj.1, hj.2⟩)
            have HBW2 : Hid (Below w.heap.size w W2) := keep_low HBW1.out hk2 (by omega) (by omega) (by omega)
            have HK2 : Hid (W2.heap[wr.heap.size]? = some (.cells #[.int .i64 0, .int .i64 (n : Int)] 43 (0, 0))) := keep_blk hk2 HK1.out (by omega) (by omega)
            have HP2 : Hid (W2.heap[w.heap.size + 1]? = some (.cells #[.int .i64 S1, .int .i64 S2, .slice PA xs.length pc] 64 (0, 0))) := keep_blk hk2 HP1.out (by omega) (by omega)
            have zW2 := hk2.size
            clear ho2 hb2 hk2
            have kc12 : W2.cell? ⟨wr.heap.size, 1, none⟩ = some (.int .i64 (n : Int)) := HCC.out HK2.out
            go_wp2_with fail
            refine (RS2.out.2.1 W2 taken n (fun j hj => ⟨by omega, by omega⟩) (by omega) HC2.out).mono ?_
            rintro e W3 ⟨dd, he3, ho3, hb3, hk3⟩
            rw [HX.out] at ho3
            rw [HEP.out] at he3
            subst he3
            obtain ⟨da3, dc3, rfl⟩ := owns_slice ho3
            have HO3 : Hid (W3.ownsRow W2.heap.size 5 1 (.slice da3 (X).length dc3) (X).length (bvs (X))) := ho3
            have HC3 : Hid (Bst (fun j => j ≠ g1 ∧ j ≠ b1) w3.heap.size b2 g2 S2 l2 (taken) W3) := hb3
            have HA3 : Hid (Bst (fun j => j ≠ g2 ∧ j ≠ b2) w2.heap.size b1 g1 S1 l1 (taken) W3) := HA2.out.keep hk3 (by omega) (by omega) (by omega) ⟨by omega, by omega⟩ (fun j hj => ⟨hj.1, hj.2⟩)
            have HBW3 : Hid (Below w.heap.size w W3) := keep_low HBW2.out hk3 (by omega) (by omega) (by omega)
            have HK3 : Hid (W3.heap[wr.heap.size]? = some (.cells #[.int .i64 0, .int .i64 (n : Int)] 43 (0, 0))) := keep_blk hk3 HK2.out (by omega) (by omega)
            have HP3 : Hid (W3.heap[w.heap.size + 1]? = some (.cells #[.int .i64 S1, .int .i64 S2, .slice PA xs.length pc] 64 (0, 0))) := keep_blk hk3 HP2.out (by omega) (by omega)
            have zW3 := hk3.size
            have HO2_3 : Hid (W3.ownsRow W1.heap.size 5 1 (.slice da2 (X).length dc2) (X).length (bvs (X))) := keep_own hk3 HO2.out (by omega) (by omega)
            clear ho3 hb3 hk3
            have kc03 : W3.cell? ⟨wr.heap.size, 0, none⟩ = some (.int .i64 0) := HCC.out HK3.out
            have cu : (convert 39 9 (.slice da2 X.length dc2)).run Try.prog W3 = .ok (.string ⟨(X).toArray⟩) W3 := conv_bytes (hasB_owns HO2_3.out)
            have cv : (convert 39 9 (.slice da3 X.length dc3)).run Try.prog W3 = .ok (.string ⟨(X).toArray⟩) W3 := conv_bytes (hasB_owns HO3.out)
            have T1 : Hid (Calls Try.prog 16 #[.pointer (some ⟨b1, 0, none⟩)] W3 fun e W' => e = .returned (.int .i64 (taken : Nat)) ∧ W3 = W') := HA3.out.taken
            have T2 : Hid (Calls Try.prog 16 #[.pointer (some ⟨b2, 0, none⟩)] W3 fun e W' => e = .returned (.int .i64 (taken : Nat)) ∧ W3 = W') := HC3.out.taken
            obtain ⟨tk, htk⟩ : ∃ tk : Nat, taken = tk := ⟨_, rfl⟩
            rw [htk] at T1 T2
            have HTK : Hid (taken = tk) := htk
            clear htk
            go_wp2_with (go_at_call 11; refine (num_calls _ _).mono ?_; rintro e w' ⟨rfl, hx'⟩; obtain rfl : W3 = w' := hx'.symm)
            refine T1.out.mono ?_
            rintro e w' ⟨rfl, hx'⟩
            obtain rfl : W3 = w' := hx'
            go_wp2_with fail
            refine T2.out.mono ?_
            rintro e w' ⟨rfl, hx'⟩
            obtain rfl : W3 = w' := hx'
            go_wp2
            all_goals first
              | exact ⟨⟨k + 1, taken, by go_num, by omega, HA3, HC3, HBW3, (by show _ ≤ _; omega), HP3⟩, by simp [intOf]; omega⟩
              | (go_roundw
                 case rel => exact ⟨k + 1, taken, by go_num, by omega, HA3, HC3, HBW3, (by show _ ≤ _; omega), HP3⟩
                 case measure => simp [intOf]; omega)
              | trace_state
        by_cases hK1 : K = 1
        · as_aux_lemma =>
            subst hK1
            have kc01 : W1.cell? ⟨wr.heap.size, 0, none⟩ = some (.int .i64 1) := HCC.out HK1.out
            have kc11 : W1.cell? ⟨wr.heap.size, 1, none⟩ = some (.int .i64 N) := HCC.out HK1.out
            have pc01 : W1.cell? ⟨w.heap.size + 1, 0, none⟩ = some (.int .i64 S1) := HCC.out HP1.out
            have pc11 : W1.cell? ⟨w.heap.size + 1, 1, none⟩ = some (.int .i64 S2) := HCC.out HP1.out
            by_cases hb0 : N < 0
            · have t0 : decide (N < 0) = true := by simpa using hb0
              go_wp2
              all_goals first
                | exact ⟨⟨k + 1, taken, by go_num, by omega, HA1, HC1, HBW1, (by show _ ≤ _; omega), HP1⟩, by simp [intOf]; omega⟩
                | (go_roundw
                   case rel => exact ⟨k + 1, taken, by go_num, by omega, HA1, HC1, HBW1, (by show _ ≤ _; omega), HP1⟩
                   case measure => simp [intOf]; omega)
                | trace_state
            by_cases hb1 : (S1 : Int) < N
            · have t0 : decide (N < 0) = false := by simpa using hb0
              have t1 : decide ((S1 : Int) < N) = true := by simpa using hb1
              go_wp2
              all_goals first
                | exact ⟨⟨k + 1, taken, by go_num, by omega, HA1, HC1, HBW1, (by show _ ≤ _; omega), HP1⟩, by simp [intOf]; omega⟩
                | (go_roundw
                   case rel => exact ⟨k + 1, taken, by go_num, by omega, HA1, HC1, HBW1, (by show _ ≤ _; omega), HP1⟩
                   case measure => simp [intOf]; omega)
                | trace_state
            by_cases hb2 : (S2 : Int) < N
            · have t0 : decide (N < 0) = false := by simpa using hb0
              have t1 : decide ((S1 : Int) < N) = false := by simpa using hb1
              have t2 : decide ((S2 : Int) < N) = true := by simpa using hb2
              go_wp2
              all_goals first
                | exact ⟨⟨k + 1, taken, by go_num, by omega, HA1, HC1, HBW1, (by show _ ≤ _; omega), HP1⟩, by simp [intOf]; omega⟩
                | (go_roundw
                   case rel => exact ⟨k + 1, taken, by go_num, by omega, HA1, HC1, HBW1, (by show _ ≤ _; omega), HP1⟩
                   case measure => simp [intOf]; omega)
                | trace_state
            obtain ⟨n, rfl⟩ : ∃ n : Nat, N = (n : Int) := ⟨N.toNat, by omega⟩
            have t0 : decide ((n : Int) < 0) = false := by simp
            have t1 : decide ((S1 : Int) < (n : Int)) = false := by simpa using hb1
            have t2 : decide ((S2 : Int) < (n : Int)) = false := by simpa using hb2
            have t3 : decide (S1 < n) = false := by simp; omega
            have t4 : decide (S2 < n) = false := by simp; omega
            have hn1 : n ≤ S1 := by omega
            have hn2 : n ≤ S2 := by omega
            obtain ⟨X, hX⟩ : ∃ X, (bs.drop taken).take n = X := ⟨_, rfl⟩
            have HX : Hid ((bs.drop taken).take n = X) := hX
            obtain ⟨EP, hEP⟩ : ∃ EP : Int, (if taken + n ≤ bs.length then 0 else EF) = EP := ⟨_, rfl⟩
            have HEP : Hid ((if taken + n ≤ bs.length then 0 else EF) = EP) := hEP
            clear hX hEP hb0 hb1 hb2
            go_wp2_with fail
            refine (RS1.out.2.1 W1 taken n (fun j hj => ⟨by omega, by omega⟩) (by omega) HA1.out).mono ?_
            rintro e W2 ⟨dd, he2, ho2, hb2, hk2⟩
            rw [HX.out] at ho2
            rw [HEP.out] at he2
            subst he2
            obtain ⟨da2, dc2, rfl⟩ := owns_slice ho2
            have HO2 : Hid (W2.ownsRow W1.heap.size 5 1 (.slice da2 (X).length dc2) (X).length (bvs (X))) := ho2
            have HA2 : Hid (Bst (fun j => j ≠ g2 ∧ j ≠ b2) w2.heap.size b1 g1 S1 l1 (taken) W2) := hb2
            have HC2 : Hid (Bst (fun j => j ≠ g1 ∧ j ≠ b1) w3.heap.size b2 g2 S2 l2 (taken) W2) := HC1.out.keep hk2 (by omega) (by omega) (by omega) ⟨by omega, by omega⟩ (fun j hj => ⟨hj.1, hj.2⟩)
            have HBW2 : Hid (Below w.heap.size w W2) := keep_low HBW1.out hk2 (by omega) (by omega) (by omega)
            have HK2 : Hid (W2.heap[wr.heap.size]? = some (.cells #[.int .i64 1, .int .i64 (n : Int)] 43 (0, 0))) := keep_blk hk2 HK1.out (by omega) (by omega)
            have HP2 : Hid (W2.heap[w.heap.size + 1]? = some (.cells #[.int .i64 S1, .int .i64 S2, .slice PA xs.length pc] 64 (0, 0))) := keep_blk hk2 HP1.out (by omega) (by omega)
            have zW2 := hk2.size
            clear ho2 hb2 hk2
            have kc12 : W2.cell? ⟨wr.heap.size, 1, none⟩ = some (.int .i64 (n : Int)) := HCC.out HK2.out
            go_wp2_with fail
            refine (RS2.out.2.1 W2 taken n (fun j hj => ⟨by omega, by omega⟩) (by omega) HC2.out).mono ?_
            rintro e W3 ⟨dd, he3, ho3, hb3, hk3⟩
            rw [HX.out] at ho3
            rw [HEP.out] at he3
            subst he3
            obtain ⟨da3, dc3, rfl⟩ := owns_slice ho3
            have HO3 : Hid (W3.ownsRow W2.heap.size 5 1 (.slice da3 (X).length dc3) (X).length (bvs (X))) := ho3
            have HC3 : Hid (Bst (fun j => j ≠ g1 ∧ j ≠ b1) w3.heap.size b2 g2 S2 l2 (taken) W3) := hb3
            have HA3 : Hid (Bst (fun j => j ≠ g2 ∧ j ≠ b2) w2.heap.size b1 g1 S1 l1 (taken) W3) := HA2.out.keep hk3 (by omega) (by omega) (by omega) ⟨by omega, by omega⟩ (fun j hj => ⟨hj.1, hj.2⟩)
            have HBW3 : Hid (Below w.heap.size w W3) := keep_low HBW2.out hk3 (by omega) (by omega) (by omega)
            have HK3 : Hid (W3.heap[wr.heap.size]? = some (.cells #[.int .i64 1, .int .i64 (n : Int)] 43 (0, 0))) := keep_blk hk3 HK2.out (by omega) (by omega)
            have HP3 : Hid (W3.heap[w.heap.size + 1]? = some (.cells #[.int .i64 S1, .int .i64 S2, .slice PA xs.length pc] 64 (0, 0))) := keep_blk hk3 HP2.out (by omega) (by omega)
            have zW3 := hk3.size
            have HO2_3 : Hid (W3.ownsRow W1.heap.size 5 1 (.slice da2 (X).length dc2) (X).length (bvs (X))) := keep_own hk3 HO2.out (by omega) (by omega)
            clear ho3 hb3 hk3
            have kc03 : W3.cell? ⟨wr.heap.size, 0, none⟩ = some (.int .i64 1) := HCC.out HK3.out
            have kc13 : W3.cell? ⟨wr.heap.size, 1, none⟩ = some (.int .i64 (n : Int)) := HCC.out HK3.out
            go_wp2_with fail
            refine (RS1.out.2.2.1 W3 taken n (fun j hj => ⟨by omega, by omega⟩) (by omega) HA3.out).mono ?_
            rintro e W4 ⟨dd, he4, ho4, hb4, hk4⟩
            rw [HX.out] at ho4 hb4
            rw [HEP.out] at he4
            subst he4
            obtain ⟨da4, dc4, rfl⟩ := owns_slice ho4
            have HO4 : Hid (W4.ownsRow W3.heap.size 5 1 (.slice da4 (X).length dc4) (X).length (bvs (X))) := ho4
            have HA4 : Hid (Bst (fun j => j ≠ g2 ∧ j ≠ b2) w2.heap.size b1 g1 S1 l1 (taken + X.length) W4) := hb4
            have HC4 : Hid (Bst (fun j => j ≠ g1 ∧ j ≠ b1) w3.heap.size b2 g2 S2 l2 (taken) W4) := HC3.out.keep hk4 (by omega) (by omega) (by omega) ⟨by omega, by omega⟩ (fun j hj => ⟨hj.1, hj.2⟩)
            have HBW4 : Hid (Below w.heap.size w W4) := keep_low HBW3.out hk4 (by omega) (by omega) (by omega)
            have HK4 : Hid (W4.heap[wr.heap.size]? = some (.cells #[.int .i64 1, .int .i64 (n : Int)] 43 (0, 0))) := keep_blk hk4 HK3.out (by omega) (by omega)
            have HP4 : Hid (W4.heap[w.heap.size + 1]? = some (.cells #[.int .i64 S1, .int .i64 S2, .slice PA xs.length pc] 64 (0, 0))) := keep_blk hk4 HP3.out (by omega) (by omega)
            have zW4 := hk4.size
            clear ho4 hb4 hk4
            have kc14 : W4.cell? ⟨wr.heap.size, 1, none⟩ = some (.int .i64 (n : Int)) := HCC.out HK4.out
            go_wp2_with fail
            refine (RS2.out.2.2.1 W4 taken n (fun j hj => ⟨by omega, by omega⟩) (by omega) HC4.out).mono ?_
            rintro e W5 ⟨dd, he5, ho5, hb5, hk5⟩
            rw [HX.out] at ho5 hb5
            rw [HEP.out] at he5
            subst he5
            obtain ⟨da5, dc5, rfl⟩ := owns_slice ho5
            have HO5 : Hid (W5.ownsRow W4.heap.size 5 1 (.slice da5 (X).length dc5) (X).length (bvs (X))) := ho5
            have HC5 : Hid (Bst (fun j => j ≠ g1 ∧ j ≠ b1) w3.heap.size b2 g2 S2 l2 (taken + X.length) W5) := hb5
            have HA5 : Hid (Bst (fun j => j ≠ g2 ∧ j ≠ b2) w2.heap.size b1 g1 S1 l1 (taken + X.length) W5) := HA4.out.keep hk5 (by omega) (by omega) (by omega) ⟨by omega, by omega⟩ (fun j hj => ⟨hj.1, hj.2⟩)
            have HBW5 : Hid (Below w.heap.size w W5) := keep_low HBW4.out hk5 (by omega) (by omega) (by omega)
            have HK5 : Hid (W5.heap[wr.heap.size]? = some (.cells #[.int .i64 1, .int .i64 (n : Int)] 43 (0, 0))) := keep_blk hk5 HK4.out (by omega) (by omega)
            have HP5 : Hid (W5.heap[w.heap.size + 1]? = some (.cells #[.int .i64 S1, .int .i64 S2, .slice PA xs.length pc] 64 (0, 0))) := keep_blk hk5 HP4.out (by omega) (by omega)
            have zW5 := hk5.size
            have HO4_5 : Hid (W5.ownsRow W3.heap.size 5 1 (.slice da4 (X).length dc4) (X).length (bvs (X))) := keep_own hk5 HO4.out (by omega) (by omega)
            clear ho5 hb5 hk5
            have cu : (convert 39 9 (.slice da4 X.length dc4)).run Try.prog W5 = .ok (.string ⟨(X).toArray⟩) W5 := conv_bytes (hasB_owns HO4_5.out)
            have cv : (convert 39 9 (.slice da5 X.length dc5)).run Try.prog W5 = .ok (.string ⟨(X).toArray⟩) W5 := conv_bytes (hasB_owns HO5.out)
            have T1 : Hid (Calls Try.prog 16 #[.pointer (some ⟨b1, 0, none⟩)] W5 fun e W' => e = .returned (.int .i64 (taken + X.length : Nat)) ∧ W5 = W') := HA5.out.taken
            have T2 : Hid (Calls Try.prog 16 #[.pointer (some ⟨b2, 0, none⟩)] W5 fun e W' => e = .returned (.int .i64 (taken + X.length : Nat)) ∧ W5 = W') := HC5.out.taken
            obtain ⟨tk, htk⟩ : ∃ tk : Nat, taken + X.length = tk := ⟨_, rfl⟩
            rw [htk] at T1 T2
            have HTK : Hid (taken + X.length = tk) := htk
            clear htk
            go_wp2_with (go_at_call 11; refine (num_calls _ _).mono ?_; rintro e w' ⟨rfl, hx'⟩; obtain rfl : W5 = w' := hx'.symm)
            refine T1.out.mono ?_
            rintro e w' ⟨rfl, hx'⟩
            obtain rfl : W5 = w' := hx'
            go_wp2_with fail
            refine T2.out.mono ?_
            rintro e w' ⟨rfl, hx'⟩
            obtain rfl : W5 = w' := hx'
            go_wp2
            all_goals first
              | exact ⟨⟨k + 1, taken + X.length, by go_num, by omega, HA5, HC5, HBW5, (by show _ ≤ _; omega), HP5⟩, by simp [intOf]; omega⟩
              | (go_roundw
                 case rel => exact ⟨k + 1, taken + X.length, by go_num, by omega, HA5, HC5, HBW5, (by show _ ≤ _; omega), HP5⟩
                 case measure => simp [intOf]; omega)
              | trace_state
        have hK2 : K = 2 := by omega
        as_aux_lemma =>
          subst hK2
          have kc01 : W1.cell? ⟨wr.heap.size, 0, none⟩ = some (.int .i64 2) := HCC.out HK1.out
          have kc11 : W1.cell? ⟨wr.heap.size, 1, none⟩ = some (.int .i64 N) := HCC.out HK1.out
          obtain ⟨c, hc⟩ : ∃ c : UInt8, IntKind.u8.wrap N = (c.toNat : Int) := by
            refine ⟨UInt8.ofNat (N % 256).toNat, ?_⟩
            have h0 : 0 ≤ N % 256 := Int.emod_nonneg _ (by decide)
            have h1 : N % 256 < 256 := Int.emod_lt_of_pos _ (by decide)
            rw [show IntKind.u8.wrap N = N % 256 by simp [IntKind.wrap, IntKind.signed, IntKind.bits]]
            simp
            omega
          clear hK hK3 hK0 hK1
          go_wp2_with fail
          refine (RS1.out.2.2.2 W1 taken c (fun j hj => ⟨by omega, by omega⟩) HA1.out).mono ?_
          rintro e W2 ⟨dd, E1, k1, rfl, ho2, hb2, hk2, hE2⟩
          obtain ⟨X2, hX2⟩ : ∃ X2, (bs.drop taken).take k1 = X2 := ⟨_, rfl⟩
          have HX2 : Hid ((bs.drop taken).take k1 = X2) := hX2
          rw [hX2] at ho2
          have HE2 : Hid ((E1 = 23 ∧ k1 = 0) ∨ (E1 = 0 ∧ Lib.indexByte (bs.drop taken) c = (k1 : Int) - 1 ∧ 1 ≤ k1) ∨ (E1 = EF ∧ Lib.indexByte (bs.drop taken) c = -1 ∧ taken + k1 = bs.length)) := hE2
          clear hX2 hE2
          obtain ⟨da2, dc2, rfl⟩ := owns_slice ho2
          have HO2 : Hid (W2.ownsRow W1.heap.size 5 1 (.slice da2 (X2).length dc2) (X2).length (bvs (X2))) := ho2
          have HA2 : Hid (Bst (fun j => j ≠ g2 ∧ j ≠ b2) w2.heap.size b1 g1 S1 l1 (taken + k1) W2) := hb2
          have HC2 : Hid (Bst (fun j => j ≠ g1 ∧ j ≠ b1) w3.heap.size b2 g2 S2 l2 (taken) W2) := HC1.out.keep hk2 (by omega) (by omega) (by omega) ⟨by omega, by omega⟩ (fun j hj => ⟨hj.1, hj.2⟩)
          have HBW2 : Hid (Below w.heap.size w W2) := keep_low HBW1.out hk2 (by omega) (by omega) (by omega)
          have HK2 : Hid (W2.heap[wr.heap.size]? = some (.cells #[.int .i64 2, .int .i64 N] 43 (0, 0))) := keep_blk hk2 HK1.out (by omega) (by omega)
          have HP2 : Hid (W2.heap[w.heap.size + 1]? = some (.cells #[.int .i64 S1, .int .i64 S2, .slice PA xs.length pc] 64 (0, 0))) := keep_blk hk2 HP1.out (by omega) (by omega)
          have zW2 := hk2.size
          clear ho2 hb2 hk2
          have kc12 : W2.cell? ⟨wr.heap.size, 1, none⟩ = some (.int .i64 N) := HCC.out HK2.out
          go_wp2_with fail
          refine (RS2.out.2.2.2 W2 taken c (fun j hj => ⟨by omega, by omega⟩) HC2.out).mono ?_
          rintro e W3 ⟨dd, E2, k2, rfl, ho3, hb3, hk3, hE3⟩
          obtain ⟨X3, hX3⟩ : ∃ X3, (bs.drop taken).take k2 = X3 := ⟨_, rfl⟩
          have HX3 : Hid ((bs.drop taken).take k2 = X3) := hX3
          rw [hX3] at ho3
          have HE3 : Hid ((E2 = 23 ∧ k2 = 0) ∨ (E2 = 0 ∧ Lib.indexByte (bs.drop taken) c = (k2 : Int) - 1 ∧ 1 ≤ k2) ∨ (E2 = EF ∧ Lib.indexByte (bs.drop taken) c = -1 ∧ taken + k2 = bs.length)) := hE3
          clear hX3 hE3
          obtain ⟨da3, dc3, rfl⟩ := owns_slice ho3
          have HO3 : Hid (W3.ownsRow W2.heap.size 5 1 (.slice da3 (X3).length dc3) (X3).length (bvs (X3))) := ho3
          have HC3 : Hid (Bst (fun j => j ≠ g1 ∧ j ≠ b1) w3.heap.size b2 g2 S2 l2 (taken + k2) W3) := hb3
          have HA3 : Hid (Bst (fun j => j ≠ g2 ∧ j ≠ b2) w2.heap.size b1 g1 S1 l1 (taken + k1) W3) := HA2.out.keep hk3 (by omega) (by omega) (by omega) ⟨by omega, by omega⟩ (fun j hj => ⟨hj.1, hj.2⟩)
          have HBW3 : Hid (Below w.heap.size w W3) := keep_low HBW2.out hk3 (by omega) (by omega) (by omega)
          have HK3 : Hid (W3.heap[wr.heap.size]? = some (.cells #[.int .i64 2, .int .i64 N] 43 (0, 0))) := keep_blk hk3 HK2.out (by omega) (by omega)
          have HP3 : Hid (W3.heap[w.heap.size + 1]? = some (.cells #[.int .i64 S1, .int .i64 S2, .slice PA xs.length pc] 64 (0, 0))) := keep_blk hk3 HP2.out (by omega) (by omega)
          have zW3 := hk3.size
          have HO2_3 : Hid (W3.ownsRow W1.heap.size 5 1 (.slice da2 (X2).length dc2) (X2).length (bvs (X2))) := keep_own hk3 HO2.out (by omega) (by omega)
          clear ho3 hb3 hk3
          by_cases h23 : E1 = 23
          · subst h23
            go_wp2_with (first
              | (go_at_call 11; refine (num_calls _ _).mono ?_; rintro e w' ⟨rfl, hx'⟩; obtain rfl : W3 = w' := hx'.symm)
              | (go_at_call 12; refine (awake_calls _).mono ?_; rintro e w8 ⟨rfl, hb8⟩))
            go_ret
            exact ⟨rfl, HBW3.out.trans (hb8.mono HBW3.out.size)⟩
          by_cases h24 : E2 = 23
          · subst h24
            have t1 : (E1 == 23) = false := by simpa using h23
            go_wp2_with (first
              | (go_at_call 11; refine (num_calls _ _).mono ?_; rintro e w' ⟨rfl, hx'⟩; obtain rfl : W3 = w' := hx'.symm)
              | (go_at_call 12; refine (awake_calls _).mono ?_; rintro e w8 ⟨rfl, hb8⟩))
            go_ret
            exact ⟨rfl, HBW3.out.trans (hb8.mono HBW3.out.size)⟩
          have t1 : (E1 == 23) = false := by simpa using h23
          have t2 : (E2 == 23) = false := by simpa using h24
          obtain ⟨rfl, rfl⟩ : E2 = E1 ∧ k2 = k1 := by
            have a1 := HE2.out
            have a2 := HE3.out
            rcases a1 with h | h | h
            · exact absurd h.1 h23
            · rcases a2 with g | g | g
              · exact absurd g.1 h24
              · exact ⟨by omega, by omega⟩
              · omega
            · rcases a2 with g | g | g
              · exact absurd g.1 h24
              · omega
              · exact ⟨by omega, by omega⟩
          obtain rfl : X3 = X2 := HX3.out.symm.trans HX2.out
          clear h23 h24
          have cu : (convert 39 9 (.slice da2 X3.length dc2)).run Try.prog W3 = .ok (.string ⟨(X3).toArray⟩) W3 := conv_bytes (hasB_owns HO2_3.out)
          have cv : (convert 39 9 (.slice da3 X3.length dc3)).run Try.prog W3 = .ok (.string ⟨(X3).toArray⟩) W3 := conv_bytes (hasB_owns HO3.out)
          have T1 : Hid (Calls Try.prog 16 #[.pointer (some ⟨b1, 0, none⟩)] W3 fun e W' => e = .returned (.int .i64 (taken + k2 : Nat)) ∧ W3 = W') := HA3.out.taken
          have T2 : Hid (Calls Try.prog 16 #[.pointer (some ⟨b2, 0, none⟩)] W3 fun e W' => e = .returned (.int .i64 (taken + k2 : Nat)) ∧ W3 = W') := HC3.out.taken
          obtain ⟨tk, htk⟩ : ∃ tk : Nat, taken + k2 = tk := ⟨_, rfl⟩
          rw [htk] at T1 T2
          have HTK : Hid (taken + k2 = tk) := htk
          clear htk
          go_wp2_with (go_at_call 11; refine (num_calls _ _).mono ?_; rintro e w' ⟨rfl, hx'⟩; obtain rfl : W3 = w' := hx'.symm)
          refine T1.out.mono ?_
          rintro e w' ⟨rfl, hx'⟩
          obtain rfl : W3 = w' := hx'
          go_wp2_with fail
          refine T2.out.mono ?_
          rintro e w' ⟨rfl, hx'⟩
          obtain rfl : W3 = w' := hx'
          go_wp2
          all_goals first
            | exact ⟨⟨k + 1, taken + k2, by go_num, by omega, HA3, HC3, HBW3, (by show _ ≤ _; omega), HP3⟩, by simp [intOf]; omega⟩
            | (go_roundw
               case rel => exact ⟨k + 1, taken + k2, by go_num, by omega, HA3, HC3, HBW3, (by show _ ≤ _; omega), HP3⟩
               case measure => simp [intOf]; omega)
            | trace_state
      · go_wp2_with (go_at_call 12; refine (awake_calls _).mono ?_; rintro e w8 ⟨rfl, hb8⟩)
        go_ret
        exact ⟨rfl, hB.out.trans (hb8.mono hB.out.size)⟩

set_option maxRecDepth 100000 in
theorem contract (H : Type) (enc : TypeId × Value → H) (W : World) (base : Nat) (args : Array Value) (ds gs : List (DataW H)) (before : List MemPlace)
    (hval : ∀ (j : Nat) t v, Try.f6.params[j]? = some t → args[j]? = some v → Value.okWide Try.prog W .any base t v)
    (hW : DataW.Whole enc Try.prog Try.f6.params.toList Rows.chunkSplitsSpec.vars false W args.toList ds gs before)  (hk : Rows.uptoSmall H (ds ++ gs) = true) :
    Calls Try.prog 6 args W fun e W' => ∃ v, e = .returned v ∧ Rows.chunkSplitsSpec.post enc Try.prog Try.f6 false true false false W args v W' := by
  have hW' := hW
  have hlt := hW.lt
  obtain ⟨p, q, hA0, hV, rfl, hfz, hnd⟩ := hW
  have hA : DataW.TrodAll enc Try.prog W 0 (fun _ => true) true Try.f6.params.toList args.toList ds p := hA0
  rw [Try.params6] at hA hval
  obtain ⟨v0, vs0, d0, ds0, p0, q0, hargs, rfl, rfl, h0, r0⟩ := trodAll_cons hA
  obtain ⟨v1, vs1, d1, ds1, p1, q1, rfl, rfl, rfl, h1, r1⟩ := trodAll_cons r0
  obtain ⟨v2, vs2, d2, ds2, p2, q2, rfl, rfl, rfl, h2, r2⟩ := trodAll_cons r1
  obtain ⟨rfl, rfl, rfl⟩ := trodAll_nil r2
  obtain rfl : args = #[v0, v1, v2] := by cases args; simp_all
  obtain ⟨rfl, rfl⟩ := trodVars_none hV
  clear hA0
  simp only [List.append_nil] at hW' hlt hk
  have hbulk := of_decide_eq_true hk
  simp only [Rows.uptoBulkAll] at hbulk
  obtain ⟨dv0, av0, f0, b0, c0, rfl, hb0, hc0, l0⟩ := cuts_of_read (hval 0 62 v0 rfl rfl) h0
  have e1 := okWide_slice Try.underlying60 (hval 1 60 v1 rfl rfl)
  obtain ⟨z1, hb1, l1, w1⟩ := ints_of_read Try.underlying60 Try.underlying3 (by kernel_rfl) e1 h1
  obtain ⟨sz2, ot2, pv2, xs2, rfl, wz2, wo2, hp2, hw2, l2⟩ := CSplits.pair_of_read (hval 2 64 v2 rfl rfl) h2
  refine (walk W dv0 av0 f0 b0 c0 hb0 hc0 (by omega) v1 z1 hb1 w1 (by omega) sz2 ot2 wz2 wo2 pv2 xs2 hp2 (by omega) hw2).mono fun e W' ⟨he, hb⟩ => ?_
  subst he
  exact ⟨_, rfl, post_below hW' (fun _ _ _ => trodAll_cons_mk (shut_bool Try.underlying4 _) trodAll_mk0) (trodAll_cons_mk (stays (by kernel_rfl) (of_decide_eq_true (by kernel_rfl)) h0 hb (fun x hx => hlt x (by simp [hx]))) (trodAll_cons_mk (stays (by kernel_rfl) (of_decide_eq_true (by kernel_rfl)) h1 hb (fun x hx => hlt x (by simp [hx]))) (trodAll_cons_mk (stays (by kernel_rfl) (of_decide_eq_true (by kernel_rfl)) h2 hb (fun x hx => hlt x (by simp [hx]))) trodAll_mk0))) rfl hb⟩

set_option maxRecDepth 100000 in
theorem laid_met (os : Os) : laidMet Try.prog Rows.chunkSplitsUptoRow.laid ((World.holding Try.prog os ⟨#[], #[], []⟩).forCall (fun _ _ => 0) ⟨#[], #[Value.agg #[.slice none 0 0, .slice none 0 0, .bool false], Value.slice none 0 0, Value.agg #[.int .i64 0, .int .i64 0, .slice none 0 0]], []⟩).memory :=
  laidMet_of_run' 8 (by kernel_rfl) (by kernel_rfl)
set_option maxRecDepth 100000 in
theorem reads (os : Os) {H : Type} (enc : TypeId × Value → H) : ∃ places, DataW.whole enc Try.prog ((World.holding Try.prog os ⟨#[], #[], []⟩).forCall (fun _ _ => 0) ⟨#[], #[Value.agg #[.slice none 0 0, .slice none 0 0, .bool false], Value.slice none 0 0, Value.agg #[.int .i64 0, .int .i64 0, .slice none 0 0]], []⟩).memory Try.f6.params.toList Rows.chunkSplitsSpec.vars false #[Value.agg #[.slice none 0 0, .slice none 0 0, .bool false], Value.slice none 0 0, Value.agg #[.int .i64 0, .int .i64 0, .slice none 0 0]].toList 8 = some ([.agg [.nil, .nil, .lit (.bool false)], .nil, .agg [.lit (.int .i64 0), .lit (.int .i64 0), .nil]], [], places) :=
  ⟨[], by kernel_rfl⟩

set_option maxRecDepth 100000 in
theorem lifted (os : Os) (started : os.Started) (H : Type) (enc : TypeId × Value → H) (F : Stop.Interp) :
    ReturnsInHanded {} Try.checked os 6 .any ((Rows.OpenSpec.upto Rows.chunkSplitsSpec).preRow enc Try.prog Try.f6 Rows.chunkSplitsUptoRow.domain false Rows.chunkSplitsUptoRow.laid) (((Rows.OpenSpec.upto Rows.chunkSplitsSpec).at F).post enc Try.prog Try.f6 false true false false) := by
  obtain ⟨places, hx⟩ := reads os enc
  refine returnsInHanded_of_row (C := Try.checked) (s := Rows.OpenSpec.upto Rows.chunkSplitsSpec) own started (by kernel_rfl) Try.func6
    (witness_row_at (enc := enc) (C := Try.checked) false (World.holding Try.prog os ⟨#[], #[], []⟩) #[Value.agg #[.slice none 0 0, .slice none 0 0, .bool false], Value.slice none 0 0, Value.agg #[.int .i64 0, .int .i64 0, .slice none 0 0]] rfl (by kernel_rfl) (by kernel_rfl) (by kernel_rfl)
      (OpenSpec.preRow_of_cond 8 hx (by kernel_rfl) (fun k hk => by cases hk; kernel_rfl) (by kernel_rfl) (laid_met os))) ?_
  intro W base args ds gs before hval hW _ hcond _ hL _ _
  exact contract H enc W base args ds gs before hval hW (hcond _ rfl)

set_option maxRecDepth 100000 in
theorem said : Rows.ChunkSplitsUptoSaid :=
  OpenClaim.holds_of_cond 6 Try.f6 rfl rfl rfl rfl rfl rfl rfl ⟨rfl, rfl, rfl, rfl, rfl⟩ rfl rfl rfl rfl rfl (by kernel_rfl) Try.func6 (by kernel_rfl)
    (of_decide_eq_true (by kernel_rfl)) (by unfold Func.isWrapper; first | (rw [if_pos (by decide +kernel)]; kernel_rfl) | (rw [if_neg (by decide +kernel)]; exact ⟨rfl, rfl⟩))
    (fun os started H enc _ F => by rw [OpenClaim.pre_eq_preRow]; exact lifted os started H enc F)


end Go.Proofs.Ytliahgoelmiopaa.CSplits
