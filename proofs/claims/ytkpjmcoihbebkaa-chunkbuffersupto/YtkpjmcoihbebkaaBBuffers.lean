/- What is proved here: the statement ChunkBuffers (any calls on a buffer of any size over any script: every answer, what the buffer has, what was taken and what the source told are the document's) holds for any script, size and calls, where the arguments hold at most 1048576 values together, with no other condition. -/
import Derived.Test.YtkpjmcoihbebkaaBActedK
import Derived.Test.YtkpjmcoihbebkaaBun1
import Derived.Test.YtkpjmcoihbebkaaCRNew
import Derived.Test.YtkpjmcoihbebkaaBun4
import Derived.Test.YtkpjmcoihbebkaaBun8
namespace Go.Proofs.Ytkpjmcoihbebkaa.CBuffers
open Go.ChangeShapes Go.WideShapes Go.ChangeAt Go.RowKit C CInv

/-- Acts in memory. -/
def HasA (w : World) (v : Value) (zs : List (Int × Int)) : Prop :=
  (zs = [] ∧ ∃ a cap, v = .slice a 0 cap) ∨ (0 < zs.length ∧ ∃ b off cap, v = .slice (some ⟨b, off, none⟩) zs.length cap ∧ zs.length ≤ cap ∧ ∀ i (_ : i < zs.length), w.cell? ⟨b, off + i * 2, none⟩ = some (.int .i64 zs[i].1) ∧ w.cell? ⟨b, off + i * 2 + 1, none⟩ = some (.int .i64 zs[i].2))
set_option maxRecDepth 100000 in
set_option maxHeartbeats 1000000 in
theorem smade_nil (w : World) : Calls Try.prog 17 #[.pointer none] w fun e w' => e = .returned (.bool false) ∧ w' = w := by
  go_enter Try.func17, Try.ntmps17
  go_wp2
  go_ret
  exact ⟨rfl, rfl⟩
set_option maxRecDepth 100000 in
set_option maxHeartbeats 1000000 in
theorem newBuffer_nil (w : World) (size : Int) : Calls Try.prog 6 #[.pointer none, .int .i64 size] w fun e w' => e = .returned (.tuple #[.pointer none, .int .i64 2]) ∧ w' = w := by
  go_enter Try.func6, Try.ntmps6
  go_wp2_with (go_at_call 17; refine (smade_nil _).mono ?_; rintro e w' ⟨rfl, hw⟩; obtain rfl : w = w' := hw.symm)
  go_ret2
  exact ⟨rfl, rfl⟩
set_option maxRecDepth 100000 in
set_option maxHeartbeats 1000000 in
theorem newBuffer_arg {base : Nat} (w : World) (g : Nat) (l : Scr) (i p t : Nat) (size : Int) (h : Src base w g l i p t) (hs : size < 1 ∨ 16777216 < size) :
    Calls Try.prog 6 #[.pointer (some ⟨g, 0, none⟩), .int .i64 size] w fun e w' => e = .returned (.tuple #[.pointer none, .int .i64 1]) ∧ w' = w := by
  have HS : Hid (Src base w g l i p t) := h
  clear h
  go_enter Try.func6, Try.ntmps6
  by_cases h1 : size < 1
  · have d1 : decide (size < 1) = true := by simpa using h1
    clear hs h1
    go_wp2_with (go_at_call 17; refine (isMade_calls w g l i p t HS.out).mono ?_; rintro e w' ⟨rfl, hx⟩; obtain rfl : w = w' := hx.symm)
    go_ret2
    exact ⟨rfl, rfl⟩
  · have d1 : decide (size < 1) = false := by simpa using h1
    have d2 : decide (16777216 < size) = true := by simp; omega
    have d3 : decide (size > 16777216) = true := by simp; omega
    clear hs h1
    go_wp2_with (go_at_call 17; refine (isMade_calls w g l i p t HS.out).mono ?_; rintro e w' ⟨rfl, hx⟩; obtain rfl : w = w' := hx.symm)
    go_ret2
    exact ⟨rfl, rfl⟩
theorem below_acted {w wr W : World} {g : Nat} {o : Obj} (hB : Below w.heap.size w wr) (hk : KeepP (fun j => g ≤ j) (wr.alloc o).drew W) (hg : w.heap.size ≤ g) : Below w.heap.size w W := by
  have h1 : Below w.heap.size w (wr.alloc o).drew := (hB.alloc hB.size o).drew
  refine ⟨hk.os.trans h1.os, hk.tape.trans h1.tape, hk.output.trans h1.output, Nat.le_trans h1.size hk.size, fun k hlt => ?_⟩
  exact (hk.block k (Nat.lt_of_lt_of_le hlt h1.size) (by show ¬ (g ≤ k); omega)).trans (h1.block k hlt)
set_option maxRecDepth 100000 in
set_option maxHeartbeats 4000000 in
theorem walk (w : World) (lv : Value) (l : Scr) (hS : HasS w lv l) (hl : l.length + (l.map fun x => x.1.length).sum ≤ 1048576) (size : Int) (_ws : (Lit.int .i64 size).wf = true) (nv : Value) (ns : List (Int × Int)) (hN : HasA w nv ns) (hm : ns.length ≤ 1048576) :
    Calls Try.prog 3 #[lv, .int .i64 size, nv] w fun e w' => e = .returned (.bool true) ∧ Below w.heap.size w w' := by
  obtain ⟨la, lc, rfl⟩ := hS.slice
  obtain ⟨na, nb, noff, nc, rfl, hna, hnx⟩ : ∃ a b off c, nv = .slice a ns.length c ∧ (0 < ns.length → a = some ⟨b, off, none⟩) ∧ ∀ j (_ : j < ns.length), w.cell? ⟨b, off + j * 2, none⟩ = some (.int .i64 ns[j].1) ∧ w.cell? ⟨b, off + j * 2 + 1, none⟩ = some (.int .i64 ns[j].2) := by
    rcases hN with ⟨rfl, a, cap, rfl⟩ | ⟨hp, b, off, cap, rfl, hcap, hx⟩
    · exact ⟨a, 0, 0, cap, rfl, fun h => by simp at h, fun j hj => by simp at hj⟩
    · exact ⟨_, b, off, cap, rfl, fun _ => rfl, hx⟩
  have HNA : Hid (0 < ns.length → na = some ⟨nb, noff, none⟩) := hna
  have HNX : Hid (∀ j (_ : j < ns.length), w.cell? ⟨nb, noff + j * 2, none⟩ = some (.int .i64 ns[j].1) ∧ w.cell? ⟨nb, noff + j * 2 + 1, none⟩ = some (.int .i64 ns[j].2)) := hnx
  have HS : Hid (HasS w (.slice la l.length lc) l) := hS
  have HD : Hid (∀ x ∈ l, x.1.length ≤ 100000000000000) := fun x hx => by have := le_sum l x hx; omega
  have HSZ : Hid (sizeS l l.length ≤ 1048576) := by show _ ≤ _; simp only [sizeS, List.take_length]; omega
  have hll : (l.length : Int) ≤ 1048576 := by omega
  clear hS hN hna hnx
  go_enter Try.func3, Try.ntmps3
  go_wp2_with fail
  refine (steps_calls l _ w HS.out (by omega) HD.out).mono ?_
  rintro e w1 ⟨gv, rfl, hO1, hb1⟩
  have s1 := hb1.size
  obtain ⟨ga, gc, rfl⟩ := hO1.slice
  go_wp2_with fail
  cases hlg : large l with
  | true =>
    refine (new_large l _ w1 (hasS_owns hO1) (by omega) HD.out hlg).mono ?_
    rintro e w2 ⟨rfl, hb2⟩
    have HB2 : Hid (Below w.heap.size w w2) := hb1.trans (hb2.mono s1)
    clear hO1 hb1 hb2
    go_wp2_with fail
    (go_at_call 6; refine (newBuffer_nil w2 size).mono ?_; rintro e w' ⟨rfl, hx⟩; obtain rfl : w2 = w' := hx.symm; clear hx)
    go_wp2_with fail
    refine (rlarge_calls l _ w2 (HS.out.below HB2.out) (by omega) HD.out).mono ?_
    rintro e w3 ⟨rfl, hb3⟩
    rw [hlg]
    have HB3 : Hid (Below w.heap.size w w3) := HB2.out.trans (hb3.mono HB2.out.size)
    go_wp2_with (first
      | (go_at_call 8; refine (num_calls _ _).mono ?_; rintro e w' ⟨rfl, hx'⟩; obtain rfl : w3 = w' := hx'.symm; clear hx')
      | (go_at_call 9; refine (awake_calls _).mono ?_; rintro e w4 ⟨rfl, hb4⟩))
    go_ret
    exact ⟨rfl, HB3.out.trans (hb4.mono HB3.out.size)⟩
  | false =>
    refine (new_small l _ w1 (hasS_owns hO1) (by omega) HD.out hlg).mono ?_
    rintro e w2 ⟨g, hg1, rfl, hR2, hb2⟩
    have s2 := hb2.size
    have HB2 : Hid (Below w.heap.size w w2) := hb1.trans (hb2.mono s1)
    have HR2 : Hid (Src w1.heap.size w2 g (reach l) 0 0 0) := hR2
    have hglt : g < w2.heap.size := by obtain ⟨_, hB, _⟩ := hR2; exact hB.lt
    clear hR2 hO1 hb1 hb2
    by_cases hbad : size < 1 ∨ 16777216 < size
    · go_wp2_with fail
      (go_at_call 6; refine (newBuffer_arg w2 g (reach l) 0 0 0 size HR2.out hbad).mono ?_; rintro e w' ⟨rfl, hx⟩; obtain rfl : w2 = w' := hx.symm; clear hx)
      go_wp2_with fail
      refine (rlarge_calls l _ w2 (HS.out.below HB2.out) (by omega) HD.out).mono ?_
      rintro e w3 ⟨rfl, hb3⟩
      rw [hlg]
      have HB3 : Hid (Below w.heap.size w w3) := HB2.out.trans (hb3.mono HB2.out.size)
      by_cases h1 : size < 1
      · have d1 : decide (size < 1) = true := by simpa using h1
        clear hbad h1
        go_wp2_with (first
          | (go_at_call 8; refine (num_calls _ _).mono ?_; rintro e w' ⟨rfl, hx'⟩; obtain rfl : w3 = w' := hx'.symm; clear hx')
          | (go_at_call 9; refine (awake_calls _).mono ?_; rintro e w4 ⟨rfl, hb4⟩))
        go_ret
        exact ⟨rfl, HB3.out.trans (hb4.mono HB3.out.size)⟩
      · have d1 : decide (size < 1) = false := by simpa using h1
        have d2 : decide (16777216 < size) = true := by simp; omega
        clear hbad h1
        go_wp2_with (first
          | (go_at_call 8; refine (num_calls _ _).mono ?_; rintro e w' ⟨rfl, hx'⟩; obtain rfl : w3 = w' := hx'.symm; clear hx')
          | (go_at_call 9; refine (awake_calls _).mono ?_; rintro e w4 ⟨rfl, hb4⟩))
        go_ret
        exact ⟨rfl, HB3.out.trans (hb4.mono HB3.out.size)⟩
    · obtain ⟨sz, rfl⟩ : ∃ sz : Nat, size = (sz : Int) := ⟨size.toNat, by omega⟩
      have d1 : decide ((sz : Int) < 1) = false := by simp; omega
      have d2 : decide (16777216 < (sz : Int)) = false := by simp; omega
      have b1 : 1 ≤ sz := by omega
      have b2 : sz ≤ 16777216 := by omega
      clear hbad
      go_wp2_with fail
      (go_at_call 6; refine (newBuffer_calls w2 g (reach l) 0 0 0 sz HR2.out (by omega) (by omega)).mono ?_; rintro e w3 ⟨b, rfl, hB3, hlb, hb3⟩)
      have s3 := hb3.size
      have HB3 : Hid (Below w.heap.size w w3) := HB2.out.trans (hb3.mono HB2.out.size)
      have HR3 : Hid (Src w1.heap.size w3 g (reach l) 0 0 0) := HR2.out.below hb3
      have HBF3 : Hid (BufAt w3 b g sz 0 (.slice none 0 0)) := hB3
      have hblt := Blk.lt hB3
      clear hB3 hb3
      go_wp2_with fail
      refine (rlarge_calls l _ w3 (HS.out.below HB3.out) (by omega) HD.out).mono ?_
      rintro e w4 ⟨rfl, hb4⟩
      rw [hlg]
      have s4 := hb4.size
      have HB4 : Hid (Below w.heap.size w w4) := HB3.out.trans (hb4.mono HB3.out.size)
      have HR4 : Hid (Src w1.heap.size w4 g (reach l) 0 0 0) := HR3.out.below hb4
      have HBF4 : Hid (BufAt w4 b g sz 0 (.slice none 0 0)) := HBF3.out.below hb4
      clear hb4
      go_wp2_with (go_at_call 8; refine (num_calls _ _).mono ?_; rintro e w' ⟨rfl, hx'⟩; obtain rfl : w4 = w' := hx'.symm; clear hx')
      (go_at_call 10; refine (rnew_calls l _ w4 (HS.out.below HB4.out) (by omega) HD.out).mono ?_; rintro e w5 ⟨rv, rfl, hBl5, hO5, hb5⟩)
      have s5 := hb5.size
      have hgr := hBl5.lt
      have HB5 : Hid (Below w.heap.size w w5) := HB4.out.trans (hb5.mono HB4.out.size)
      have HR5 : Hid (Src w1.heap.size w5 g (reach l) 0 0 0) := HR4.out.below hb5
      have HBF5 : Hid (BufAt w5 b g sz 0 (.slice none 0 0)) := HBF4.out.below hb5
      have HV5 : Hid (RSu rv (w4.heap.size + 1) w5.heap.size w5 w4.heap.size l 0 0 0) := ⟨⟨hBl5, by omega, hO5⟩, OwnU.of hO5⟩
      clear hBl5 hO5 hb5 HR2 HR3 HR4 HB2 HB3 HBF3 HBF4 HB4
      go_wp2_with fail
      have hFBle : (bytesOf l).1.length ≤ 16777216 := by
        have h1 := reach_size l (reach l).length (Nat.le_refl _)
        have hrl : (reach l).length ≤ l.length := by
          by_cases h0 : (reach l).length = 0
          · omega
          · obtain ⟨h', _⟩ := reach_get l ((reach l).length - 1) (by omega)
            omega
        have h2 := sizeS_mono l (reach l).length (l.length - (reach l).length)
        rw [show (reach l).length + (l.length - (reach l).length) = l.length by omega] at h2
        have := HSZ.out
        have := total l
        omega
      have HB5s : Hid (w.heap.size ≤ w1.heap.size ∧ w1.heap.size ≤ g) := ⟨s1, hg1⟩
      have HL : Hid (Lie g b (w4.heap.size + 1) w5.heap.size w4.heap.size w5.heap.size sz l) := ⟨by omega, by omega, by omega, by omega, Nat.le_refl _, b1, b2, hFBle, by omega, HD.out⟩
      have hb6 := (Below.refl _ w5).alloc (Nat.le_refl _) (.cells #[.pointer (some ⟨w4.heap.size, 0, none⟩), .int .i64 sz, .slice none 0 0, .int .i64 0] 41)
      have HJ0 : Hid (J w1.heap.size g b rv (w4.heap.size + 1) w5.heap.size w4.heap.size w5.heap.size sz l [] 0 0 0 0 none 0 (.slice none 0 0) (w5.alloc (.cells #[.pointer (some ⟨w4.heap.size, 0, none⟩), .int .i64 sz, .slice none 0 0, .int .i64 0] 41))) :=
        ⟨Inv.start l, HR5.out.below hb6, HBF5.out.below hb6, ⟨none, 0, rfl, Nat.le_refl _, fun _ => rfl, fun ad e => by cases e⟩, ⟨RSu.kept HV5.out (grown_below (row := none) hb6) (fun _ e => by cases e), Blk.new _ _ _, World.ownsRow_nil _ _ _ _⟩, Nat.zero_le _, rfl⟩
      have HB6 : Hid (Below w.heap.size w (w5.alloc (.cells #[.pointer (some ⟨w4.heap.size, 0, none⟩), .int .i64 sz, .slice none 0 0, .int .i64 0] 41))) := HB5.out.trans (hb6.mono HB5.out.size)
      clear hb6 HR5 HBF5 HV5 HB5
      go_loopw [13, 78] (fun _ vi wr => ∃ k : Nat, k ≤ ns.length ∧ vi = .int .i64 k ∧ Hid (∃ (H : List UInt8) (i p t taken : Nat) (a : Option Addr) (cap : Nat) (hv : Value), J w1.heap.size g b rv (w4.heap.size + 1) w5.heap.size w4.heap.size w5.heap.size sz l H i p t taken a cap hv wr) ∧ Hid (Below w.heap.size w wr)) (fun _ vi _ => ns.length - (intOf vi).toNat)
      case atStart => exact ⟨0, by omega, rfl, ⟨_, _, _, _, _, _, _, _, HJ0.out⟩, HB6⟩
      case round =>
        clear HJ0 HB6
        obtain ⟨k, hk, rfl, hJe, hB⟩ := hrel
        by_cases hlt : k < ns.length
        · have e' := HNA.out (by omega)
          subst e'
          have hx0 := (HNX.out k hlt).1
          have hx1 := (HNX.out k hlt).2
          have hc0 : wr.cell? ⟨nb, noff + k * 2, none⟩ = some (.int .i64 ns[k].1) := (hB.out.cell (p := ⟨nb, noff + k * 2, none⟩) (cell_lt hx0)).trans hx0
          have hc1 : wr.cell? ⟨nb, noff + k * 2 + 1, none⟩ = some (.int .i64 ns[k].2) := (hB.out.cell (p := ⟨nb, noff + k * 2 + 1, none⟩) (cell_lt hx1)).trans hx1
          generalize ns[k].1 = kd at *
          generalize ns[k].2 = nn at *
          clear hx0 hx1
          obtain ⟨H1, i1, p1, t1, tk1, a1, cap1, hv1, hJ1⟩ := hJe.out
          have AC : Hid (∀ W', Below wr.heap.size wr W' → Calls Try.prog 11 #[.pointer (some ⟨b, 0, none⟩), .pointer (some ⟨w5.heap.size, 0, none⟩), .agg #[.int .i64 kd, .int .i64 nn]] W' (AEnd w1.heap.size g b rv (w4.heap.size + 1) w5.heap.size w4.heap.size w5.heap.size sz l W')) := fun W' hb => acted_calls _ _ _ _ _ _ _ _ _ _ _ _ _ _ _ _ _ _ _ (hJ1.below hb) HL.out kd nn
          have hglt' : w.heap.size ≤ g := by have := HB5s.out; omega
          have hbA : Below wr.heap.size wr (wr.alloc (.cells #[.int .i64 kd, .int .i64 nn] 43)).drew := ((Below.refl _ wr).alloc (Nat.le_refl _) _).drew
          clear hJ1
          go_wp2_with fail
          refine wp_region_any (by kernel_rfl) ?_
          change wpAny _ _ _ _ _ _ _ (World.drew _)
          refine wpAny_take (i := 0) (v := .pointer (some ⟨b, 0, none⟩)) rfl (by kernel_rfl) (by kernel_rfl) (by kernel_rfl) (fun _ _ _ h => h) (Or.inl ⟨by rfl, fun w => by go_simp⟩) ?_
          simp only [Act.put, List.setIfInBounds_toArray]
          refine wpAny_take (i := 1) (v := .pointer (some ⟨w5.heap.size, 0, none⟩)) rfl (by kernel_rfl) (by kernel_rfl) (by kernel_rfl) (fun _ _ _ h => h) (Or.inl ⟨by rfl, fun w => by go_simp⟩) ?_
          simp only [Act.put]
          refine any_only 2 (by kernel_rfl) rfl rfl (fun K hK => ?_)
          go_simp
          refine hK _ _ ?_
          clear hK K
          refine any_only 3 (by kernel_rfl) rfl rfl (fun K hK => ?_)
          go_simp
          (go_at_call 11; refine (AC.out _ hbA).mono ?_; rintro e W ⟨rfl, hJW, hkW⟩)
          go_simp
          refine hK _ _ ?_
          clear hK K
          obtain ⟨H2, i2, p2, t2, tk2, a2, cap2, hv2, hJ2⟩ := hJW
          have HBW : Hid (Below w.heap.size w W) := below_acted hB.out hkW hglt'
          have HJ2 := hid_of hJ2
          obtain ⟨ha2, hc2, rfl⟩ := C.owns_slice hJ2.doc.row
          have y0 : W.cell? ⟨w5.heap.size, 0, none⟩ = some (.pointer (some ⟨w4.heap.size, 0, none⟩)) := Blk.cell hJ2.doc.buf 0
          have y2 : W.cell? ⟨w5.heap.size, 2, none⟩ = some (.slice ha2 H2.length hc2) := Blk.cell hJ2.doc.buf 2
          have y3 : W.cell? ⟨w5.heap.size, 3, none⟩ = some (.int .i64 tk2) := Blk.cell hJ2.doc.buf 3
          have y4 : W.cell? ⟨w4.heap.size, 3, none⟩ = some (.int .i64 t2) := Blk.cell hJ2.doc.src.1.1 3
          have z0 := fun d os => cell_regrown y0 d os
          have z2 := fun d os => cell_regrown y2 d os
          have z3 := fun d os => cell_regrown y3 d os
          have z4 := fun d os => cell_regrown y4 d os
          have q1 : ∀ d os, Calls Try.prog 12 #[.pointer (some ⟨b, 0, none⟩)] (Go.Sort.grow (redrawn W d) os) fun e w'' => e = .returned (.int .i64 H2.length) ∧ ∃ p : Regrown, w'' = Go.Sort.grow (redrawn W p.d) p.os := fun d os => Calls.regrown_of ((has_calls _ b g sz tk2 a2 _ cap2 (BufAt.below HJ2.out.buf (below_regrown W d os))).mono (fun _ _ h => ⟨h.1, by rw [h.2]; exact Below.refl _ _⟩))
          have q2 : ∀ d os, Calls Try.prog 13 #[.pointer (some ⟨b, 0, none⟩)] (Go.Sort.grow (redrawn W d) os) fun e w'' => e = .returned (.int .i64 tk2) ∧ ∃ p : Regrown, w'' = Go.Sort.grow (redrawn W p.d) p.os := fun d os => Calls.regrown_of ((taken_calls _ b g sz tk2 _ (BufAt.below HJ2.out.buf (below_regrown W d os))).mono (fun _ _ h => ⟨h.1, by rw [h.2]; exact Below.refl _ _⟩))
          have q3 : ∀ d os, Calls Try.prog 14 #[.pointer (some ⟨g, 0, none⟩)] (Go.Sort.grow (redrawn W d) os) fun e w'' => e = .returned (.int .i64 t2) ∧ ∃ p : Regrown, w'' = Go.Sort.grow (redrawn W p.d) p.os := fun d os => Calls.regrown_of ((told_calls _ g (reach l) i2 p2 t2 (C.Src.below HJ2.out.src (below_regrown W d os))).mono (fun _ _ h => ⟨h.1, by rw [h.2]; exact Below.refl _ _⟩))
          have n1 : ((H2.length : Int) != (H2.length : Int)) = false := by simp
          have n2 : ((tk2 : Int) != (tk2 : Int)) = false := by simp
          have n3 : ((t2 : Int) != (t2 : Int)) = false := by simp
          clear hJ2 y0 y2 y3 y4 hkW hJe hc0 hc1 hbA AC
          refine any_quiet_from (l := _) 4 (by rfl) (by kernel_rfl) (by kernel_rfl) ?_
          simp only [List.drop_succ_cons, List.drop_zero]
          repeat (go_big_quiet_step (first | with_reducible exact q1 _ _ | with_reducible exact q2 _ _ | with_reducible exact q3 _ _))
          refine wpQuiet_nil ?_
          intro _ hw'
          obtain ⟨⟨dq, osq⟩, hw''⟩ := hw'
          have hb9 : Below W.heap.size W (Go.Sort.grow (redrawn W dq) osq) := below_regrown W dq osq
          rw [← hw''] at hb9
          clear hw'' q1 q2 q3 n1 n2 n3 z0 z2 z3 z4
          rename_i w9
          have HJ9 := hid_of (HJ2.out.below hb9)
          have HB9 : Hid (Below w.heap.size w w9) := HBW.out.trans (hb9.mono HBW.out.size)
          clear hb9
          go_wp2_with fail
          exact ⟨⟨k + 1, by omega, by go_num, ⟨_, _, _, _, _, _, _, _, HJ9.out⟩, HB9⟩, by simp [intOf]; omega⟩
        · obtain rfl : k = ns.length := by omega
          obtain ⟨H1, i1, p1, t1, tk1, a1, cap1, hv1, hJ1⟩ := hJe.out
          obtain ⟨ha1, hc1, rfl⟩ := C.owns_slice hJ1.doc.row
          have y2 : wr.cell? ⟨w5.heap.size, 2, none⟩ = some (.slice ha1 H1.length hc1) := Blk.cell hJ1.doc.buf 2
          have y3 : wr.cell? ⟨w5.heap.size, 3, none⟩ = some (.int .i64 tk1) := Blk.cell hJ1.doc.buf 3
          have hrl := hJ1.doc.lt
          have n1 : ((H1.length : Int) == (H1.length : Int)) = true := by simp
          have n2 : ((tk1 : Int) == (tk1 : Int)) = true := by simp
          have HBU : Hid (∀ W', Below wr.heap.size wr W' → BufAt W' b g sz tk1 (.slice a1 H1.length cap1)) := fun W' hb => BufAt.below hJ1.buf hb
          have hD : Below wr.heap.size wr wr.drew := (Below.refl _ wr).drew
          clear hJ1
          go_wp2_with fail
          go_region_held3 (fun w' => w'.cell? ⟨w5.heap.size, 2, none⟩ = some (.slice ha1 H1.length hc1) ∧ w'.cell? ⟨w5.heap.size, 3, none⟩ = some (.int .i64 tk1)) (first | exact ⟨y2, y3⟩ | exact ⟨z2, z3⟩ | go_keep) (first
            | (go_at_call 12; refine (has_calls _ b g sz tk1 a1 _ cap1 (HBU.out _ hD)).mono ?_; rintro e w' ⟨rfl, hx'⟩; obtain rfl : wr.drew = w' := hx'.symm; clear hx')
            | (go_at_call 13; refine (taken_calls _ b g sz tk1 _ (HBU.out _ hD)).mono ?_; rintro e w' ⟨rfl, hx'⟩; obtain rfl : wr.drew = w' := hx'.symm; clear hx')
            | (go_at_call 9; refine (awake_calls _).mono ?_; rintro e w9 ⟨rfl, hb9⟩; have z2 : w9.cell? ⟨w5.heap.size, 2, none⟩ = some (.slice ha1 H1.length hc1) := (hb9.cell (p := ⟨w5.heap.size, 2, none⟩) hrl).trans y2; have z3 : w9.cell? ⟨w5.heap.size, 3, none⟩ = some (.int .i64 tk1) := (hb9.cell (p := ⟨w5.heap.size, 3, none⟩) hrl).trans y3))
          go_wp2_with fail
          go_ret
          exact ⟨rfl, hB.out.trans ((hD.trans hb9).mono hB.out.size)⟩

set_option maxRecDepth 100000 in
theorem contract (H : Type) (enc : TypeId × Value → H) (W : World) (base : Nat) (args : Array Value) (ds gs : List (DataW H)) (before : List MemPlace)
    (hval : ∀ (j : Nat) t v, Try.f3.params[j]? = some t → args[j]? = some v → Value.okWide Try.prog W .any base t v)
    (hW : DataW.Whole enc Try.prog Try.f3.params.toList Rows.chunkBuffersSpec.vars false W args.toList ds gs before)  (hk : Rows.uptoSmall H (ds ++ gs) = true) :
    Calls Try.prog 3 args W fun e W' => ∃ v, e = .returned v ∧ Rows.chunkBuffersSpec.post enc Try.prog Try.f3 false true false false W args v W' := by
  have hW' := hW
  have hlt := hW.lt
  obtain ⟨p, q, hA0, hV, rfl, hfz, hnd⟩ := hW
  have hA : DataW.TrodAll enc Try.prog W 0 (fun _ => true) true Try.f3.params.toList args.toList ds p := hA0
  rw [Try.params3] at hA hval
  obtain ⟨v0, vs0, d0, ds0, p0, q0, hargs, rfl, rfl, h0, r0⟩ := trodAll_cons hA
  obtain ⟨v1, vs1, d1, ds1, p1, q1, rfl, rfl, rfl, h1, r1⟩ := trodAll_cons r0
  obtain ⟨v2, vs2, d2, ds2, p2, q2, rfl, rfl, rfl, h2, r2⟩ := trodAll_cons r1
  obtain ⟨rfl, rfl, rfl⟩ := trodAll_nil r2
  obtain rfl : args = #[v0, v1, v2] := by cases args; simp_all
  obtain ⟨rfl, rfl⟩ := trodVars_none hV
  clear hA0
  simp only [List.append_nil] at hW' hlt hk
  have hbulk := of_decide_eq_true hk
  simp only [Rows.uptoBulkAll] at hbulk
  have e0 := okWide_slice Try.underlying22 (hval 0 22 v0 rfl rfl)
  obtain ⟨s0, hs0, l0⟩ := script_of_read e0 h0
  have h1' := h1
  obtain ⟨x1, rfl, e1, -, w1⟩ := open_int Try.underlying3 (hval 1 3 v1 rfl rfl) h1
  have e2 := okWide_slice Try.underlying23 (hval 2 23 v2 rfl rfl)
  obtain ⟨xs2, hp2, l2, hw2⟩ := CSplits.acts_of_read e2 h2
  refine (walk W v0 s0 hs0 (by omega) x1 w1 v2 xs2 hp2 (by omega)).mono fun e W' ⟨he, hb⟩ => ?_
  subst he
  exact ⟨_, rfl, post_below hW' (fun _ _ _ => trodAll_cons_mk (shut_bool Try.underlying4 _) trodAll_mk0) (trodAll_cons_mk (stays (by kernel_rfl) (of_decide_eq_true (by kernel_rfl)) h0 hb (fun x hx => hlt x (by simp [hx]))) (trodAll_cons_mk (stays (by kernel_rfl) (of_decide_eq_true (by kernel_rfl)) h1' hb (fun x hx => hlt x (by simp [hx]))) (trodAll_cons_mk (stays (by kernel_rfl) (of_decide_eq_true (by kernel_rfl)) h2 hb (fun x hx => hlt x (by simp [hx]))) trodAll_mk0))) rfl hb⟩

set_option maxRecDepth 100000 in
theorem laid_met (os : Os) : laidMet Try.prog Rows.chunkBuffersUptoRow.laid ((World.holding Try.prog os ⟨#[], #[], []⟩).forCall (fun _ _ => 0) ⟨#[], #[Value.slice none 0 0, Value.int .i64 0, Value.slice none 0 0], []⟩).memory :=
  laidMet_of_run' 8 (by kernel_rfl) (by kernel_rfl)
set_option maxRecDepth 100000 in
theorem reads (os : Os) {H : Type} (enc : TypeId × Value → H) : ∃ places, DataW.whole enc Try.prog ((World.holding Try.prog os ⟨#[], #[], []⟩).forCall (fun _ _ => 0) ⟨#[], #[Value.slice none 0 0, Value.int .i64 0, Value.slice none 0 0], []⟩).memory Try.f3.params.toList Rows.chunkBuffersSpec.vars false #[Value.slice none 0 0, Value.int .i64 0, Value.slice none 0 0].toList 8 = some ([.nil, .lit (.int .i64 0), .nil], [], places) :=
  ⟨[], by kernel_rfl⟩

set_option maxRecDepth 100000 in
theorem lifted (os : Os) (started : os.Started) (H : Type) (enc : TypeId × Value → H) (F : Stop.Interp) :
    ReturnsInHanded {} Try.checked os 3 .any ((Rows.OpenSpec.upto Rows.chunkBuffersSpec).preRow enc Try.prog Try.f3 Rows.chunkBuffersUptoRow.domain false Rows.chunkBuffersUptoRow.laid) (((Rows.OpenSpec.upto Rows.chunkBuffersSpec).at F).post enc Try.prog Try.f3 false true false false) := by
  obtain ⟨places, hx⟩ := reads os enc
  refine returnsInHanded_of_row (C := Try.checked) (s := Rows.OpenSpec.upto Rows.chunkBuffersSpec) own started (by kernel_rfl) Try.func3
    (witness_row_at (enc := enc) (C := Try.checked) false (World.holding Try.prog os ⟨#[], #[], []⟩) #[Value.slice none 0 0, Value.int .i64 0, Value.slice none 0 0] rfl (by kernel_rfl) (by kernel_rfl) (by kernel_rfl)
      (OpenSpec.preRow_of_cond 8 hx (by kernel_rfl) (fun k hk => by cases hk; kernel_rfl) (by kernel_rfl) (laid_met os))) ?_
  intro W base args ds gs before hval hW _ hcond _ hL _ _
  exact contract H enc W base args ds gs before hval hW (hcond _ rfl)

set_option maxRecDepth 100000 in
theorem said : Rows.ChunkBuffersUptoSaid :=
  OpenClaim.holds_of_cond 3 Try.f3 rfl rfl rfl rfl rfl rfl rfl ⟨rfl, rfl, rfl, rfl, rfl⟩ rfl rfl rfl rfl rfl (by kernel_rfl) Try.func3 (by kernel_rfl)
    (of_decide_eq_true (by kernel_rfl)) (by unfold Func.isWrapper; first | (rw [if_pos (by decide +kernel)]; kernel_rfl) | (rw [if_neg (by decide +kernel)]; exact ⟨rfl, rfl⟩))
    (fun os started H enc _ F => by rw [OpenClaim.pre_eq_preRow]; exact lifted os started H enc F)


end Go.Proofs.Ytkpjmcoihbebkaa.CBuffers
