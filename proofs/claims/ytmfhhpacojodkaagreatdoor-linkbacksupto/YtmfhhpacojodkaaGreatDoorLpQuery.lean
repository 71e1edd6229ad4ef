/- What is proved here: the contracts of link.writeForm and link.Query: the query of pairs. -/
import Derived.Test.YtmfhhpacojodkaaGreatDoorBun16
import Derived.Test.YtmfhhpacojodkaaGreatDoorBun13
namespace Go.Proofs.YtmfhhpacojodkaaGreatDoor.L
open Go.RowKit Go.Shelf Go.Proofs.YtmfhhpacojodkaaGreatDoor.N Go.Proofs.YtmfhhpacojodkaaGreatDoor.U

theorem bld_below {B b : Nat} {l : List UInt8} {w w' : World} (h : T.Bld B b l w) (hb : Below w.heap.size w w') : T.Bld B b l w' := by
  have key : ∀ (k : Nat) (o : Obj), w.heap[k]? = some o → w'.heap[k]? = some o := fun k _ hk => (hb.block k (Array.getElem?_eq_some_iff.1 hk).1).trans hk
  have part : ∀ (T e : TypeId) (p : Value) (bs : List Value), Lib.BuilderAtF T e B b p bs w → Lib.BuilderAtF T e B b p bs w' := by
    rintro T e p bs ⟨hB, v, hbk, hown, hne⟩
    refine ⟨hB, v, key _ _ hbk, ⟨hown.1, ?_⟩, hne⟩
    rcases hown.2 with hn | ⟨g, cap, cur, fz, hv, hbg, hg, rest⟩
    · exact .inl hn
    · exact .inr ⟨g, cap, cur, fz, hv, hbg, key _ _ hg, rest⟩
  exact h.elim (fun x => .inl (part _ _ _ _ x)) (fun x => .inr (part _ _ _ _ x))
theorem kept_below {b : Nat} {w w' : World} (hb : Below w.heap.size w w') : T.Kept b w w' := fun k _ hk _ _ => (hb.block k (Array.getElem?_eq_some_iff.1 hk).1).trans hk
set_option maxRecDepth 100000 in
set_option maxHeartbeats 1000000 in
theorem writeEscapeK_calls (B b : Nat) (l : List UInt8) (c : UInt8) (w : World) (h : T.Bld B b l w) (hlen : l.length + 3 ≤ 140737488355328) (hBw : B ≤ w.heap.size) : Calls Tryz.prog 63 #[.pointer (some ⟨b, 0, none⟩), .int .u8 c.toNat] w fun e w' => e = .returned (.tuple #[]) ∧ T.Bld B b (l ++ escC c) w' ∧ Below B w w' ∧ T.Kept b w w' := by
  have HW := hid_of (T.writeByte_calls B b l 37 37 rfl w h (by omega) hBw)
  have hcl := c.toNat_lt
  have h1 := hex_at (c.toNat / 16) (by omega) ((c.toNat : Int) / 16) (by omega)
  have h2 := hex_at (c.toNat % 16) (by omega) ((c.toNat : Int) % 16) (by omega)
  have HE : Hid (l ++ escC c = l ++ [37] ++ [hexD (c.toNat / 16)] ++ [hexD (c.toNat % 16)]) := by show _ = _; simp [escC]
  go_enter Tryz.func63, Tryz.ntmps63
  go_wp2_with fail
  (go_at_call 30; refine HW.out.mono ?_; rintro e w1 ⟨rfl, g1, hb1, hk1⟩)
  have s1 := hb1.size
  go_wp2_with fail
  (go_at_call 30; refine (T.writeByte_calls B b (l ++ [37]) (hexD (c.toNat / 16)) _ rfl w1 g1 (by simp; omega) (by omega)).mono ?_; rintro e w2 ⟨rfl, g2, hb2, hk2⟩)
  have s2 := hb2.size
  go_wp2_with fail
  (go_at_call 30; refine (T.writeByte_calls B b (l ++ [37] ++ [hexD (c.toNat / 16)]) (hexD (c.toNat % 16)) _ rfl w2 g2 (by simp; omega) (by omega)).mono ?_; rintro e w3 ⟨rfl, g3, hb3, hk3⟩)
  go_wp2_with fail
  go_end0
  exact ⟨rfl, by rw [HE.out]; exact g3, (hb1.trans hb2).trans hb3, (hk1.trans hk2).trans hk3⟩
def pts : List UInt8 := [42, 45, 46, 95]
theorem pts_index : ∀ n : Fin 256, decide ((0 : Int) ≤ Lib.indexByte pts (UInt8.ofNat n.val)) = pts.contains (UInt8.ofNat n.val) := by decide +kernel
theorem pts_found (c : UInt8) : decide ((0 : Int) ≤ Lib.indexByte pts c) = pts.contains c := by
  have := pts_index ⟨c.toNat, c.toNat_lt⟩
  simp only [UInt8.ofNat_toNat] at this
  exact this
theorem pts_calls (c : UInt8) (w : World) : Calls Tryz.prog 62 #[.string ⟨#[42, 45, 46, 95]⟩, .int .u8 c.toNat] w fun e w' => e = .returned (.int .i64 (Lib.indexByte pts c)) ∧ w' = w := by
  have h := Any.strings_IndexByte Tryz.lays137 ⟨#[42, 45, 46, 95]⟩ (c.toNat : Int) w
  rw [show ((c.toNat : Int).toNat.toUInt8) = c by simp] at h
  exact h
set_option maxRecDepth 100000 in
set_option maxHeartbeats 4000000 in
/-- **writeForm.** -/
theorem writeForm_calls (B b : Nat) (l bs : List UInt8) (w : World) (hT : Tb w) (h : T.Bld B b l w) (hlen : l.length + 12 * bs.length ≤ 100000000000000) (hbs : bs.length ≤ 1000000000) (hBw : B ≤ w.heap.size) : Calls Tryz.prog 31 #[.pointer (some ⟨b, 0, none⟩), .string ⟨bs.toArray⟩] w fun e w' => e = .returned (.tuple #[]) ∧ T.Bld B b (l ++ formL bs) w' ∧ Below B w w' ∧ T.Kept b w w' := by
  have HM : Hid (Calls Tryz.prog 18 #[.string ⟨bs.toArray⟩] w fun e W' => e = .returned (.string ⟨(mendL bs).toArray⟩) ∧ Below w.heap.size w W') := mend_calls bs w (by omega) hT
  have hml := mend_le bs
  have HF : Hid (formL bs = (mendL bs).flatMap formC) := rfl
  obtain ⟨s, hS⟩ : ∃ s, mendL bs = s := ⟨_, rfl⟩
  rw [hS] at HM hml HF
  have hss : s.length ≤ 4000000000 := by omega
  have hl3 : l.length + 3 * s.length ≤ 100000000000000 := by omega
  clear hS hml hT
  have ss := arr_size s
  have HBl := hid_of h
  clear h
  go_enter Tryz.func31, Tryz.ntmps31
  go_wp2_with fail
  (go_at_call 18; refine HM.out.mono ?_; rintro e w1 ⟨rfl, hb1⟩)
  have z1 := hb1.size
  go_wp2_with fail
  go_loopw [10] (fun vi wr => ∃ k : Nat, k ≤ s.length ∧ vi = .int .i64 k ∧ Hid (T.Bld B b (l ++ (s.take k).flatMap formC) wr) ∧ Hid (Below B w wr) ∧ Hid (T.Kept b w wr)) (fun vi _ => s.length - (intOf vi).toNat)
  case atStart => exact ⟨0, by omega, rfl, by show T.Bld B b (l ++ (s.take 0).flatMap formC) w1; rw [List.take_zero, List.flatMap_nil, List.append_nil]; exact bld_below HBl.out hb1, hb1.mono hBw, kept_below hb1⟩
  case round =>
    obtain ⟨k, hk, rfl, hBl, hB, hKe⟩ := hrel
    have zr := hB.out.size
    have hpl := flat_le (s.take k)
    have htl : (s.take k).length = k := by rw [List.length_take]; omega
    by_cases hlt : k < s.length
    · obtain ⟨c, hc⟩ : ∃ c, s.getD k 0 = c := ⟨_, rfl⟩
      have hix := byte_at s k c hlt hc (k : Int) rfl
      have hcl := c.toNat_lt
      have w32 : wrap32 (c.toNat : Int) = c.toNat := by unfold wrap32; omega
      have HSN : Hid ((s.take (k + 1)).flatMap formC = (s.take k).flatMap formC ++ formC c) := by show _ = _; rw [form_snoc s k hlt, hc]
      have HFC : Hid (formC c = if plainF c then [c] else if c == 32 then [43] else escC c) := rfl
      have HPF : Hid (plainF c = (letterZ (c.toNat : Int) || digitZ (c.toNat : Int) || pts.contains c)) := rfl
      obtain ⟨pre, hpre⟩ : ∃ pre, (s.take k).flatMap formC = pre := ⟨_, rfl⟩
      rw [hpre] at HSN hpl hBl
      have hplen : (l ++ pre).length = l.length + pre.length := List.length_append
      have HWE := hid_of (writeEscapeK_calls B b (l ++ pre) c wr hBl.out (by omega) (by omega))
      have HWB := hid_of (T.writeByte_calls B b (l ++ pre) c (c.toNat : Int) rfl wr hBl.out (by omega) (by omega))
      have HWP := hid_of (T.writeByte_calls B b (l ++ pre) 43 43 rfl wr hBl.out (by omega) (by omega))
      have HLE := hid_of (letter_calls (c.toNat : Int) wr)
      have HDI := hid_of (digit_calls (c.toNat : Int) wr)
      have HIX := hid_of (pts_calls c wr)
      have HIF := hid_of (pts_found c)
      have e32 : ((c.toNat : Int) == 32) = (c == 32) := eq_byte c 32
      clear hc hpre
      obtain ⟨I, hI⟩ : ∃ I, Lib.indexByte pts c = I := ⟨_, rfl⟩
      rw [hI] at HIX HIF
      clear hI hpl htl hplen hlen hl3 hcl hbs
      have hcs : (plainF c = true ∧ (letterZ (c.toNat : Int) = true ∨ (letterZ (c.toNat : Int) = false ∧ digitZ (c.toNat : Int) = true) ∨ (letterZ (c.toNat : Int) = false ∧ digitZ (c.toNat : Int) = false ∧ pts.contains c = true))) ∨ (plainF c = false ∧ letterZ (c.toNat : Int) = false ∧ digitZ (c.toNat : Int) = false ∧ pts.contains c = false) := by
        rw [HPF.out]
        cases letterZ (c.toNat : Int) <;> cases digitZ (c.toNat : Int) <;> cases pts.contains c <;> simp
      clear HPF
      rcases hcs with ⟨hpf, hcs⟩ | ⟨hpf, x1, x2, x3⟩
      · rw [hpf] at HFC
        have HS2 : Hid (l ++ (s.take (k + 1)).flatMap formC = l ++ pre ++ [c]) := by show _ = _; rw [HSN.out, HFC.out]; simp
        clear HWE HWP HSN HFC hpf
        rcases hcs with x1 | ⟨x1, x2⟩ | ⟨x1, x2, x3⟩
        all_goals
          rw [x1] at HLE
          clear x1
          try (rw [x2] at HDI; clear x2)
          try (rw [x3] at HIF; clear x3)
          have d3 := HIF.out
          go_wp2_with (first
            | (go_at_call 60; refine HLE.out.mono ?_; rintro e w' ⟨rfl, hx⟩; obtain rfl : wr = w' := hx.symm)
            | (go_at_call 61; refine HDI.out.mono ?_; rintro e w' ⟨rfl, hx⟩; obtain rfl : wr = w' := hx.symm)
            | (go_at_call 62; refine HIX.out.mono ?_; rintro e w' ⟨rfl, hx⟩; obtain rfl : wr = w' := hx.symm)
            | (go_at_call 30; refine HWB.out.mono ?_; rintro e w' ⟨rfl, hg, hb', hkk⟩))
          exact ⟨⟨k + 1, by omega, by go_num, by rw [HS2.out]; exact hg, hB.out.trans hb', hKe.out.trans hkk⟩, by simp [intOf]; omega⟩
      · rw [hpf] at HFC
        rw [x1] at HLE
        rw [x2] at HDI
        rw [x3] at HIF
        have d3 := HIF.out
        clear hpf x1 x2 x3 HWB
        cases hsp : (c == 32) with
        | true =>
          rw [hsp] at e32 HFC
          have HS2 : Hid (l ++ (s.take (k + 1)).flatMap formC = l ++ pre ++ [43]) := by show _ = _; rw [HSN.out, HFC.out]; simp
          clear HWE HSN HFC hsp
          go_wp2_with (first
            | (go_at_call 60; refine HLE.out.mono ?_; rintro e w' ⟨rfl, hx⟩; obtain rfl : wr = w' := hx.symm)
            | (go_at_call 61; refine HDI.out.mono ?_; rintro e w' ⟨rfl, hx⟩; obtain rfl : wr = w' := hx.symm)
            | (go_at_call 62; refine HIX.out.mono ?_; rintro e w' ⟨rfl, hx⟩; obtain rfl : wr = w' := hx.symm)
            | (go_at_call 30; refine HWP.out.mono ?_; rintro e w' ⟨rfl, hg, hb', hkk⟩))
          exact ⟨⟨k + 1, by omega, by go_num, by rw [HS2.out]; exact hg, hB.out.trans hb', hKe.out.trans hkk⟩, by simp [intOf]; omega⟩
        | false =>
          rw [hsp] at e32 HFC
          have HS2 : Hid (l ++ (s.take (k + 1)).flatMap formC = l ++ pre ++ escC c) := by show _ = _; rw [HSN.out, HFC.out]; simp
          clear HWP HSN HFC hsp
          go_wp2_with (first
            | (go_at_call 60; refine HLE.out.mono ?_; rintro e w' ⟨rfl, hx⟩; obtain rfl : wr = w' := hx.symm)
            | (go_at_call 61; refine HDI.out.mono ?_; rintro e w' ⟨rfl, hx⟩; obtain rfl : wr = w' := hx.symm)
            | (go_at_call 62; refine HIX.out.mono ?_; rintro e w' ⟨rfl, hx⟩; obtain rfl : wr = w' := hx.symm)
            | (go_at_call 63; refine HWE.out.mono ?_; rintro e w' ⟨rfl, hg, hb', hkk⟩))
          exact ⟨⟨k + 1, by omega, by go_num, by rw [HS2.out]; exact hg, hB.out.trans hb', hKe.out.trans hkk⟩, by simp [intOf]; omega⟩
    · obtain rfl : k = s.length := by omega
      have HE : Hid (l ++ (s.take s.length).flatMap formC = l ++ formL bs) := by show _ = _; rw [HF.out, List.take_length]
      rw [HE.out] at hBl
      go_wp2_with fail
      go_end0
      exact ⟨rfl, hBl.out, hB.out, hKe.out⟩
theorem kept_cell {b : Nat} {w w' : World} (h : T.Kept b w w') {k : Nat} {x y : Value} {t : TypeId} (hk : w.heap[k]? = some (.cells #[x, y] t (0, 0))) (hkb : k ≠ b) (ht : t ≠ 5) : w'.heap[k]? = some (.cells #[x, y] t (0, 0)) :=
  h k _ hk (fun e => hkb (Option.some.inj e)) (fun c fz e => ht (by injection e))
set_option maxRecDepth 100000 in
set_option maxHeartbeats 4000000 in
/-- **Query.** -/
theorem query_calls (l : List Two) (a : Option Addr) (cap : Nat) (w : World) (hT : Tb w) (hA : TwosAt w a l) (hl : l.length ≤ 1048576) (hN : ∀ x ∈ l, x.1.length + x.2.length ≤ 1048576) : Calls Tryz.prog 12 #[.slice a l.length cap] w fun e W' => e = .returned (.string ⟨(queryK l).toArray⟩) ∧ Below w.heap.size w W' := by
  have HA := hid_of hA
  have HT := hid_of hT
  have HNN := hid_of hN
  have HQ : Hid (queryK l = qPre l l.length) := rfl
  have HPL := hid_of (qPre_le l 1048576 hN)
  clear hA hT hN
  go_enter Tryz.func12, Tryz.ntmps12
  go_wp2_with fail
  go_loopw [8] (fun vi wr => ∃ k : Nat, k ≤ l.length ∧ vi = .int .i64 k ∧ Hid (T.Bld w.heap.size w.heap.size (qPre l k) wr) ∧ Hid (Below w.heap.size w wr)) (fun vi _ => l.length - (intOf vi).toNat)
  case atStart => exact ⟨0, by omega, rfl, bld_made w _ (Nat.le_refl _), (Below.refl _ w).alloc (Nat.le_refl _) _⟩
  case round =>
    obtain ⟨k, hk, rfl, hBl, hB⟩ := hrel
    have zr := hB.out.size
    by_cases hlt : k < l.length
    · obtain ⟨b0, o0, rfl, d0, d1⟩ := HA.out.below hB.out k hlt
      have hpl := HPL.out k
      have hpl2 : (qPre l k).length ≤ 13194143629312 := Nat.le_trans hpl (Nat.le_trans (Nat.mul_le_mul_right _ (show k ≤ 1048576 by omega)) (by decide))
      have hxx : (l.getD k ([], [])).1.length + (l.getD k ([], [])).2.length ≤ 1048576 := by
        rw [List.getD_eq_getElem?_getD, List.getElem?_eq_getElem hlt]
        exact HNN.out _ (List.getElem_mem hlt)
      have HSU : Hid (qPre l (k + 1) = qPre l k ++ qC l k) := qPre_succ l k
      have HQC : Hid (qC l k = (if k = 0 then [] else [38]) ++ formL (l.getD k ([], [])).1 ++ [61] ++ formL (l.getD k ([], [])).2) := rfl
      obtain ⟨pre, hpre⟩ : ∃ pre, qPre l k = pre := ⟨_, rfl⟩
      rw [hpre] at HSU hBl hpl2
      clear hpl hpre
      obtain ⟨⟨x, y⟩, hxy⟩ : ∃ t, l.getD k ([], []) = t := ⟨_, rfl⟩
      rw [hxy] at d0 d1 HQC hxx
      simp only at d0 d1 HQC hxx
      clear hxy
      have hfx := formL_le x
      obtain ⟨W0, hW0⟩ : ∃ W0, wr.alloc (.cells #[.string ⟨x.toArray⟩, .string ⟨y.toArray⟩] 36) = W0 := ⟨_, rfl⟩
      have b0' : Below wr.heap.size wr W0 := by rw [← hW0]; exact (Below.refl _ wr).alloc (Nat.le_refl _) _
      have HK0 : Hid (W0.heap[wr.heap.size]? = some (.cells #[.string ⟨x.toArray⟩, .string ⟨y.toArray⟩] 36 (0, 0))) := by rw [← hW0]; exact World.alloc_heap_new wr _
      have HBl0 := hid_of (bld_below hBl.out b0')
      have HB0 := hid_of (hB.out.trans (b0'.mono zr))
      have z0 := HB0.out.size
      have HW0 := hid_of hW0
      have hne : wr.heap.size ≠ w.heap.size := by
        have := (Array.getElem?_eq_some_iff.1 (show ∃ o, wr.heap[w.heap.size]? = some o from by rcases hBl.out with ⟨_, v, h, _⟩ | ⟨_, v, h, _⟩ <;> exact ⟨_, h⟩).choose_spec).1
        omega
      have HNE := hid_of hne
      clear hW0 b0' hB hBl hne
      have HWB : Hid (∀ (c : UInt8) (z : Int), z = (c.toNat : Int) → ∀ (p : List UInt8) (W : World), T.Bld w.heap.size w.heap.size p W → Below w.heap.size w W → p.length ≤ 14000000000000 → Calls Tryz.prog 30 #[.pointer (some ⟨w.heap.size, 0, none⟩), .int .u8 z] W fun e w' => e = .returned .nilIface ∧ T.Bld w.heap.size w.heap.size (p ++ [c]) w' ∧ Below w.heap.size W w' ∧ T.Kept w.heap.size W w') := fun c z hz p W h1 h2 h3 => T.writeByte_calls w.heap.size w.heap.size p c z hz W h1 (by omega) h2.size
      have HWF : Hid (∀ (x : List UInt8), x.length ≤ 1048576 → ∀ (p : List UInt8) (W : World), T.Bld w.heap.size w.heap.size p W → Below w.heap.size w W → p.length ≤ 14000000000000 → Calls Tryz.prog 31 #[.pointer (some ⟨w.heap.size, 0, none⟩), .string ⟨x.toArray⟩] W fun e w' => e = .returned (.tuple #[]) ∧ T.Bld w.heap.size w.heap.size (p ++ formL x) w' ∧ Below w.heap.size W w' ∧ T.Kept w.heap.size W w') := fun x hx p W h1 h2 h3 => writeForm_calls w.heap.size w.heap.size p x W (HT.out.below h2) h1 (by omega) (by omega) h2.size
      have hxl : x.length ≤ 1048576 := by omega
      have hyl : y.length ≤ 1048576 := by omega
      have hfl : (formL x).length ≤ 12582912 := by omega
      clear hxx hfx
      have HXL := hid_of hxl
      have HYL := hid_of hyl
      have HFL := hid_of hfl
      have HPR := hid_of hpl2
      clear hxl hyl hfl hpl2
      have HKC : Hid (∀ W : World, W.heap[wr.heap.size]? = some (.cells #[.string ⟨x.toArray⟩, .string ⟨y.toArray⟩] 36 (0, 0)) → W.cell? ⟨wr.heap.size, 0, none⟩ = some (.string ⟨x.toArray⟩) ∧ W.cell? ⟨wr.heap.size, 1, none⟩ = some (.string ⟨y.toArray⟩)) := fun W h => ⟨by rw [cell_of_row _ _ _ _ _ _ h]; rfl, by rw [cell_of_row _ _ _ _ _ _ h]; rfl⟩
      by_cases hk0 : k = 0
      case' pos =>
        have dk : decide ((k : Int) > 0) = false := by rw [decide_eq_false_iff_not]; omega
        have dk' : decide (0 < k) = false := by rw [decide_eq_false_iff_not]; omega
        rw [if_pos hk0] at HQC
        clear hk0
        go_wp2_with fail
        rw [HW0.out]
        obtain ⟨p1, hp1⟩ : ∃ p, pre = p := ⟨_, rfl⟩
        have HE1 : Hid (pre ++ [] = p1) := by show _ = _; rw [← hp1]; simp
        have HLn : Hid (p1.length ≤ 13194143629313) := by have := HPR.out; show _ ≤ _; rw [← hp1]; omega
        rw [hp1] at HBl0
        clear hp1
        have HBl1 := HBl0
        have HB1 := HB0
        have HK1 := HK0
        clear HBl0 HB0 HK0 z0
        obtain ⟨W1, hW1⟩ : ∃ W, W0 = W := ⟨_, rfl⟩
        rw [hW1] at HBl1 HB1 HK1 ⊢
        clear HW0 hW1
      case' neg =>
        have dk : decide ((k : Int) > 0) = true := by rw [decide_eq_true_eq]; omega
        have dk' : decide (0 < k) = true := by rw [decide_eq_true_eq]; omega
        rw [if_neg hk0] at HQC
        clear hk0
        go_wp2_with fail
        rw [HW0.out]
        (go_at_call 30; refine (HWB.out 38 38 rfl pre W0 HBl0.out HB0.out (by have := HPR.out; omega)).mono ?_; rintro e W1 ⟨rfl, g1, hb1, hk1⟩)
        obtain ⟨p1, hp1⟩ : ∃ p, pre ++ [38] = p := ⟨_, rfl⟩
        have HE1 : Hid (pre ++ [38] = p1) := hp1
        have HLn : Hid (p1.length ≤ 13194143629313) := by have := HPR.out; show _ ≤ _; rw [← hp1, List.length_append, List.length_singleton]; omega
        rw [hp1] at g1
        have HBl1 := hid_of g1
        have HB1 := hid_of (HB0.out.trans hb1)
        have HK1 := hid_of (kept_cell hk1 HK0.out HNE.out (by decide))
        clear hp1 g1 hb1 hk1 HBl0 HB0 HK0 HW0 z0
      all_goals
        have t0 := (HKC.out _ HK1.out).1
        go_wp2_with fail
        (go_at_call 31; refine (HWF.out x HXL.out p1 W1 HBl1.out HB1.out (by have := HLn.out; omega)).mono ?_; rintro e W2 ⟨rfl, g2, hb2, hk2⟩)
        have HBl2 := hid_of g2
        have HB2 := hid_of (HB1.out.trans hb2)
        have HK2 := hid_of (kept_cell hk2 HK1.out HNE.out (by decide))
        clear g2 hb2 hk2 t0 HBl1 HB1 HK1
        go_wp2_with fail
        (go_at_call 30; refine (HWB.out 61 61 rfl (p1 ++ formL x) W2 HBl2.out HB2.out (by have := HLn.out; have := HFL.out; rw [List.length_append]; omega)).mono ?_; rintro e W3 ⟨rfl, g3, hb3, hk3⟩)
        have HBl3 := hid_of g3
        have HB3 := hid_of (HB2.out.trans hb3)
        have HK3 := hid_of (kept_cell hk3 HK2.out HNE.out (by decide))
        clear g3 hb3 hk3 HBl2 HB2 HK2
        have t1 := (HKC.out _ HK3.out).2
        go_wp2_with fail
        (go_at_call 31; refine (HWF.out y HYL.out (p1 ++ formL x ++ [61]) W3 HBl3.out HB3.out (by have := HLn.out; have := HFL.out; rw [List.length_append, List.length_append, List.length_singleton]; omega)).mono ?_; rintro e W4 ⟨rfl, g4, hb4, hk4⟩)
        have HBl4 := hid_of g4
        have HB4 := hid_of (HB3.out.trans hb4)
        have HEQ : Hid (qPre l (k + 1) = p1 ++ formL x ++ [61] ++ formL y) := by show _ = _; rw [HSU.out, HQC.out, ← HE1.out]; simp
        clear g4 hb4 hk4 t1 HBl3 HB3 HK3
        go_wp2_with fail
        exact ⟨⟨k + 1, by omega, by go_num, by rw [HEQ.out]; exact HBl4, HB4⟩, by simp [intOf]; omega⟩
    · obtain rfl : k = l.length := by omega
      have HST := hid_of (T.string_calls w.heap.size w.heap.size (qPre l l.length) wr hBl.out zr)
      go_wp2_with (go_at_call 24; refine HST.out.mono ?_; rintro e W' ⟨rfl, hg, hb', hk'⟩)
      go_ret
      exact ⟨by rw [HQ.out]; rfl, hB.out.trans hb'⟩
end Go.Proofs.YtmfhhpacojodkaaGreatDoor.L
