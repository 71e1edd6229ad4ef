/- What is proved here: contracts of 'before', of utf.Back and of its iterator, for any bytes: the runes with their places, from the last one. -/
import Derived.Test.YtlihfamkngahaaaDoorMathE
import Derived.Test.YtlihfamkngahaaaDoorCloneAll
namespace Go.Proofs.YtlihfamkngahaaaDoor.U
open Go.RowKit Go.Shelf
attribute [local go_sem] Oper.semAt_some

theorem byteAt_mid (bs : List UInt8) (k e j : Nat) (hj : j < e - k) : byteAt (mid bs k e) j = byteAt bs (k + j) := by
  unfold mid byteAt
  rw [List.getElem?_take_of_lt hj, List.getElem?_drop]
theorem next_mid (bs : List UInt8) (b off cap k e : Nat) (w : World) (hk : k < e) (he : e ≤ bs.length) (hl : bs.length ≤ 140737488355328) (hcap : bs.length ≤ cap) (hT : Lib.Utf8Tabs (Tryd.lays32_ren.g 2) (Tryd.lays32_ren.g 3) w)
    (hc : ∀ j, j < bs.length → w.cell? ⟨b, off + j, none⟩ = some (.int .u8 (byteAt bs j))) :
    Calls Tryd.prog 17 #[.slice (some ⟨b, off + k, none⟩) (e - k) (cap - k)] w fun r w' => r = .returned (.agg #[.int .i32 (nextR (mid bs k e)), .int .i64 (nextN (mid bs k e)), .bool (nextOpen (mid bs k e))]) ∧ Below w.heap.size w w' := by
  have hm := mid_length bs k e he
  have h := next_calls (mid bs k e) b (off + k) (cap - k) w (by omega) (by omega) (by omega) hT (fun j hj => by rw [byteAt_mid bs k e j (by omega), Nat.add_assoc]; exact hc (k + j) (by omega))
  rw [hm] at h
  exact h

set_option maxRecDepth 100000 in
set_option maxHeartbeats 1000000 in
/-- **'before'**: the piece that ends at a piece's end. -/
theorem before_calls (bs : List UInt8) (b off cap i : Nat) (w : World) (hi : i < (pcs bs).length) (hl : bs.length ≤ 140737488355328) (hcap : bs.length ≤ cap) (hT : Lib.Utf8Tabs (Tryd.lays32_ren.g 2) (Tryd.lays32_ren.g 3) w)
    (hc : ∀ j, j < bs.length → w.cell? ⟨b, off + j, none⟩ = some (.int .u8 (byteAt bs j))) :
    Calls Tryd.prog 16 #[.slice (some ⟨b, off, none⟩) bs.length cap, .int .i64 (pla bs (i + 1))] w fun r w' => r = .returned (.tuple #[.int .i64 (pla bs i), .int .i32 ((pcs bs)[i].r)]) ∧ Below w.heap.size w w' := by
  obtain ⟨h1, h2, h3⟩ := pla_facts bs i hi
  obtain ⟨m1, m2⟩ := mid_yes bs i hi
  have hle := pla_le bs (i + 1)
  have h4 := nextN_lead (bs.drop (pla bs i))
  have hp := nextN_pos (bs.drop (pla bs i))
  have MN : Hid (∀ k, k < pla bs i → k + nextN (mid bs k (pla bs (i + 1))) ≠ pla bs (i + 1)) := fun k hk => mid_not bs i k hi hk
  have M1 : Hid (pla bs i + nextN (mid bs (pla bs i) (pla bs (i + 1))) = pla bs (i + 1)) := by show _ = _; rw [m1]; exact h2.symm
  have HC : Hid (∀ j, j < bs.length → w.cell? ⟨b, off + j, none⟩ = some (.int .u8 (byteAt bs j))) := hc
  have HT : Hid (Lib.Utf8Tabs (Tryd.lays32_ren.g 2) (Tryd.lays32_ren.g 3) w) := hT
  have q1 : pla bs i < pla bs (i + 1) := by omega
  have q2 : pla bs (i + 1) ≤ pla bs i + 4 := by omega
  rw [← m2]
  clear h1 h2 h3 h4 hp m1 m2 hc hT
  generalize pla bs (i + 1) = e at *
  generalize pla bs i = q at *
  go_enter Tryd.func16, Tryd.ntmps16
  go_wp2
  go_loopw [6] (fun x wr => ∃ k : Nat, x = .int .i64 k ∧ k ≤ q ∧ Below w.heap.size w wr) (fun x _ => e - (intOf x).toNat)
  case atStart => exact ⟨e - 4, by congr 1; omega, by omega, Below.refl _ _⟩
  case round =>
    obtain ⟨k, rfl, hk, hB⟩ := hrel
    have hT' : Hid (Lib.Utf8Tabs (Tryd.lays32_ren.g 2) (Tryd.lays32_ren.g 3) wr) := tabs_below HT.out hB
    have hc' : Hid (∀ j, j < bs.length → wr.cell? ⟨b, off + j, none⟩ = some (.int .u8 (byteAt bs j))) := fun j h => (hB.cell (p := ⟨b, off + j, none⟩) (cell_lt (HC.out j h))).trans (HC.out j h)
    have hke : k < e := by omega
    by_cases hkq : k = q
    · subst hkq
      have t : ((k : Int) + (nextN (mid bs k e) : Int) == (e : Int)) = true := by have := M1.out; simp; omega
      have hN : nextN (mid bs k e) ≤ e := by have := M1.out; omega
      go_wp2_with (go_at_call 17; refine (next_mid bs b off cap k e _ hke hle hl hcap hT'.out hc'.out).mono ?_; rintro r w1 ⟨rfl, hb1⟩)
      go_quiet (fail)
      go_wp2
      go_ret2
      exact ⟨rfl, below_drewN ((hB.trans (hb1.mono hB.size)).alloc (by have := hB.size; have := hb1.size; omega) _) _⟩
    · have t : ((k : Int) + (nextN (mid bs k e) : Int) == (e : Int)) = false := by have := MN.out k (by omega); simp; omega
      have hN : nextN (mid bs k e) ≤ 4 := nextN_lead _
      go_wp2_with (go_at_call 17; refine (next_mid bs b off cap k e _ hke hle hl hcap hT'.out hc'.out).mono ?_; rintro r w1 ⟨rfl, hb1⟩)
      go_roundw
      case rel => exact ⟨k + 1, by go_num, by omega, (hB.trans (hb1.mono hB.size)).alloc (by have := hB.size; have := hb1.size; omega) _⟩
      case measure => simp [intOf]; omega

theorem toks_rev (bs : List UInt8) (i : Nat) (h : i < (pcs bs).length) : ((toks bs).drop i).reverse = ((toks bs).drop (i + 1)).reverse ++ [(pla bs i, (pcs bs)[i].r)] := by
  have hl : i < (toks bs).length := by rw [toks_pcs]; simpa using h
  rw [List.drop_eq_getElem_cons hl, List.reverse_cons, pla_at bs i h]
  congr 2
  simp [toks_pcs]

set_option maxRecDepth 100000 in
set_option maxHeartbeats 2000000 in
theorem back1_in (n : Nat) (hn : 1 ≤ n) (l Bs n₀ b off cap : Nat) (bs : List UInt8) (bxs : List Nat) (hl : bs.length ≤ 140737488355328) (hcap : bs.length ≤ cap) (J Jx : List (Nat × Nat) → World → Prop) (W : World)
    (hJ : AbidesFrom W.heap.size J)
    (hY : ∀ pre x W1, J pre W1 → pre.length < bs.length → YieldAt Fence.wide (n - 1) Tryd.prog l #[.int .i64 (x.1 : Int), .int .i32 (x.2 : Int)] W1 fun e W' =>
      (e = .returned (.bool true) ∧ J (pre ++ [x]) W' ∧ Kpr n₀ bxs W1 W') ∨ (e = .returned (.bool false) ∧ Jx (pre ++ [x]) W'))
    (hb : b < n₀) (hn₀ : n₀ ≤ Bs) (hBs : W.cell? ⟨Bs, 0, none⟩ = some (.slice (some ⟨b, off, none⟩) bs.length cap)) (hBx : ∀ B ∈ bxs, n₀ ≤ B ∧ B ≠ Bs ∧ B < W.heap.size) (hrow : ∀ k, rowIn bxs W k → k < W.heap.size ∧ k ≠ Bs ∧ n₀ ≤ k)
    (hT : Lib.Utf8Tabs (Tryd.lays32_ren.g 2) (Tryd.lays32_ren.g 3) W) (hg : Tryd.lays32_ren.g 2 < n₀ ∧ Tryd.lays32_ren.g 3 < n₀)
    (hc : ∀ j, j < bs.length → W.cell? ⟨b, off + j, none⟩ = some (.int .u8 (byteAt bs j))) (h0 : J [] W) :
    CallsIn Fence.wide n Tryd.prog 15 #[.func (.yield l) #[] #[], .pointer (some ⟨Bs, 0, none⟩)] W fun e W' => (∃ v, e = .returned v) ∧
      ((∃ ys, ys = (toks bs).reverse ∧ J ys W') ∨ (∃ pre, pre <+: (toks bs).reverse ∧ Jx pre W')) := by
  have hpl := pcs_length bs
  have htl : (toks bs).length = (pcs bs).length := by rw [toks_pcs]; simp
  have HTL : Hid ((toks bs).length = (pcs bs).length) := htl
  clear htl
  have hend : Hid (pla bs (pcs bs).length = bs.length) := pla_end bs _ (Nat.le_refl _)
  refine callsIn_of_wp Tryd.func15 rfl trivial ?_ rfl
  simp only [Tryd.ntmps15, List.size_toArray, List.length_cons, List.length_nil, Nat.reduceAdd, Nat.reduceSub, Array.replicate_succ, Array.replicate_zero, List.push_toArray, List.append_toArray, List.nil_append, List.cons_append]
  gi_wp2
  gi_loopw [3] (fun x wr => ∃ i : Nat, x = .int .i64 (pla bs i) ∧ i ≤ (pcs bs).length ∧ J ((toks bs).drop i).reverse wr ∧ Below n₀ W wr ∧ wr.cell? ⟨Bs, 0, none⟩ = some (.slice (some ⟨b, off, none⟩) bs.length cap) ∧ (∀ j, rowIn bxs wr j → j < wr.heap.size ∧ j ≠ Bs ∧ n₀ ≤ j))
    (fun x _ => (intOf x).toNat)
  case atStart => exact ⟨(pcs bs).length, by rw [hend.out], Nat.le_refl _, by rw [List.drop_eq_nil_of_le (by have := HTL.out; omega)]; exact h0, Below.refl _ _, hBs, hrow⟩
  case round =>
    obtain ⟨i', rfl, hi', hJs, hnx, hBs', hrow'⟩ := hrel
    by_cases hz : i' = 0
    · subst hz
      have e0 := pla_zero bs
      rw [e0]
      gi_wp2
      go_end0
      exact ⟨⟨_, rfl⟩, .inl ⟨_, by rw [List.drop_zero], hJs⟩⟩
    · obtain ⟨i, rfl⟩ : ∃ i, i' = i + 1 := ⟨i' - 1, by omega⟩
      have hi : i < (pcs bs).length := by omega
      obtain ⟨p1, p2, p3⟩ := pla_facts bs i hi
      have hp1 := nextN_pos (bs.drop (pla bs i))
      have hp2 := pla_le bs (i + 1)
      have hq : pla bs i < pla bs (i + 1) := by omega
      have HR : Hid (((toks bs).drop i).reverse = ((toks bs).drop (i + 1)).reverse ++ [(pla bs i, (pcs bs)[i].r)]) := toks_rev bs i hi
      clear p1 p2 p3 hp1
      have hs0 := hnx.size
      have hBx' : ∀ B ∈ bxs, n₀ ≤ B ∧ B ≠ Bs ∧ B < wr.heap.size := fun B hB => by have := hBx B hB; exact ⟨this.1, this.2.1, by omega⟩
      have HBX : Hid (∀ B ∈ bxs, n₀ ≤ B ∧ B ≠ Bs ∧ B < wr.heap.size) := hBx'
      have HROW : Hid (∀ j, rowIn bxs wr j → j < wr.heap.size ∧ j ≠ Bs ∧ n₀ ≤ j) := hrow'
      have hT' : Hid (Lib.Utf8Tabs (Tryd.lays32_ren.g 2) (Tryd.lays32_ren.g 3) wr) := ⟨fun c h => (hnx.cell (p := ⟨_, c, none⟩) hg.1).trans (hT.1 c h), fun i h => ⟨(hnx.cell (p := ⟨_, 2 * i, none⟩) hg.2).trans (hT.2 i h).1, (hnx.cell (p := ⟨_, 2 * i + 1, none⟩) hg.2).trans (hT.2 i h).2⟩⟩
      have hc' : Hid (∀ j, j < bs.length → wr.cell? ⟨b, off + j, none⟩ = some (.int .u8 (byteAt bs j))) := fun j h => (hnx.cell (p := ⟨b, off + j, none⟩) hb).trans (hc j h)
      have BC : Hid (Calls Tryd.prog 16 #[.slice (some ⟨b, off, none⟩) bs.length cap, .int .i64 (pla bs (i + 1))] wr fun r w' => r = .returned (.tuple #[.int .i64 (pla bs i), .int .i32 ((pcs bs)[i].r)]) ∧ Below wr.heap.size wr w') := before_calls bs b off cap i wr hi hl hcap hT'.out hc'.out
      have hlen : ((toks bs).drop (i + 1)).reverse.length < bs.length := by have := HTL.out; simp; omega
      clear hBx' hrow'
      gi_wp2_with (refine ⟨trivial, ?_⟩; gi_at_call 16; refine (callsIn_wide.2 BC.out).mono ?_; rintro e w1 ⟨rfl, hb1⟩; obtain ⟨fn, tmps, assign, body, hy, hR⟩ := hY _ (pla bs i, (pcs bs)[i].r) w1 (hJ _ _ _ none hJs (grownBy_of_below hb1) (fun _ h => by cases h)) hlen; dsimp only at hy)
      refine hR.mono ?_
      rintro e W3 (⟨rfl, hJ3, hk3⟩ | ⟨rfl, hJx3⟩)
      · obtain ⟨q1, q2, q3⟩ := round_keeps hb1 hk3 hBs' hn₀ HBX.out HROW.out
        have HQ2 : Hid (∀ j, rowIn bxs W3 j → j < W3.heap.size ∧ j ≠ Bs ∧ n₀ ≤ j) := q2
        clear q2 q3
        gi_wp2
        go_roundw
        case rel => exact ⟨i, by go_num, by omega, by rw [HR.out]; exact hJ3, (hnx.trans (hb1.mono (by have := cell_lt hBs; simp only at this; omega))).trans hk3.1, q1, HQ2.out⟩
        case measure => simp [intOf]; omega
      · gi_wp2
        refine bodyPost_ret (results_none rfl _ _ _) rfl ?_
        exact ⟨⟨_, rfl⟩, .inr ⟨_, ⟨((toks bs).take i).reverse, by rw [← HR.out, ← List.reverse_append, List.take_append_drop]⟩, hJx3⟩⟩

set_option maxRecDepth 100000 in
set_option maxHeartbeats 1000000 in
theorem back1_nil (n l Bs : Nat) (a : Option Addr) (cap : Nat) (J : List (Nat × Nat) → World → Prop) (W : World) (hBs : W.cell? ⟨Bs, 0, none⟩ = some (.slice a 0 cap)) (h0 : J [] W) :
    CallsIn Fence.wide n Tryd.prog 15 #[.func (.yield l) #[] #[], .pointer (some ⟨Bs, 0, none⟩)] W fun e W' => (∃ v, e = .returned v) ∧ J [] W' := by
  refine callsIn_of_wp Tryd.func15 rfl trivial ?_ rfl
  simp only [Tryd.ntmps15, List.size_toArray, List.length_cons, List.length_nil, Nat.reduceAdd, Nat.reduceSub, Array.replicate_succ, Array.replicate_zero, List.push_toArray, List.append_toArray, List.nil_append, List.cons_append]
  gi_wp2
  gi_loopw [3] (fun i wr => i = .int .i64 0 ∧ wr = W) (fun _ _ => 0)
  case atStart => exact ⟨rfl, rfl⟩
  case round =>
    obtain ⟨rfl, rfl⟩ := hrel
    gi_wp2
    go_end0
    exact ⟨⟨_, rfl⟩, h0⟩

/-- **The iterator of Back(b): all of b's runes with their places, from the last one; or, where a round has said 'no more', a beginning of them.** -/
theorem back_stops (n : Nat) (hn : 1 ≤ n) (Bs n₀ : Nat) (v : Value) (bs : List UInt8) (bxs : List Nat) (w : World) (hl : bs.length ≤ 140737488355328) (hH : HasB n₀ w v bs) (hn₀ : n₀ ≤ Bs) (hBs : w.cell? ⟨Bs, 0, none⟩ = some v)
    (hBx : ∀ B ∈ bxs, n₀ ≤ B ∧ B ≠ Bs ∧ B < w.heap.size) (hrow : ∀ k, rowIn bxs w k → k < w.heap.size ∧ k ≠ Bs ∧ n₀ ≤ k)
    (hT : Lib.Utf8Tabs (Tryd.lays32_ren.g 2) (Tryd.lays32_ren.g 3) w) (hg : Tryd.lays32_ren.g 2 < n₀ ∧ Tryd.lays32_ren.g 3 < n₀) :
    SeqStopsK Fence.wide n Tryd.prog 15 #[.pointer (some ⟨Bs, 0, none⟩)] (fun x : Nat × Nat => #[Value.int .i64 (x.1 : Int), Value.int .i32 (x.2 : Int)]) (Kpr n₀ bxs) (fun ys => ys = (toks bs).reverse) (fun pre => pre <+: (toks bs).reverse) bs.length w := fun l J Jx W hW hJ _ hY h0 => by
  have hlt := cell_lt hBs
  simp only at hlt
  have hc := (hW.cell (p := ⟨Bs, 0, none⟩) hlt).trans hBs
  have hs := hW.size
  rcases hH.below (hW.mono (by omega)) with ⟨rfl, a, cap, rfl⟩ | ⟨_, b, off, cap, rfl, hcap, hb, hx⟩
  · exact (back1_nil n l Bs a cap J W hc h0).mono fun e W' ⟨he, hj⟩ => ⟨he, .inl ⟨_, rfl, hj⟩⟩
  · exact back1_in n hn l Bs n₀ b off cap bs bxs hl hcap J Jx W hJ hY hb hn₀ hc (fun B hB => ⟨(hBx B hB).1, (hBx B hB).2.1, by have := (hBx B hB).2.2; omega⟩)
      (fun k hk => by have := hrow k ((rowIn_below hW (fun b hB => (hBx b hB).2.2)).1 hk); exact ⟨by omega, this.2⟩) (tabs_below hT hW) hg hx h0

set_option maxRecDepth 100000 in
/-- **utf.Back(b)**: the iterator captures a box that holds a copy of the bytes. -/
theorem back_calls (v : Value) (bs : List UInt8) (n₀ : Nat) (w : World) (hl : bs.length ≤ 140737488355328) (hH : HasB n₀ w v bs) :
    Calls Tryd.prog 6 #[v] w fun e W' => ∃ (B : Nat) (u : Value), e = .returned (.func (.func 15) #[] #[.pointer (some ⟨B, 0, none⟩)]) ∧ W'.cell? ⟨B, 0, none⟩ = some u ∧ w.heap.size ≤ B ∧ HasB B W' u bs ∧ Below w.heap.size w W' := by
  have CC := clone_calls v bs n₀ w hl hH
  have HCC : Hid (Calls Tryd.prog 14 #[v] w fun e W' => ∃ a len cap, e = .returned (.slice a len cap) ∧ HasB W'.heap.size W' (.slice a len cap) bs ∧ Below w.heap.size w W') := CC
  clear CC hH
  go_enter Tryd.func6, Tryd.ntmps6
  go_wp2_with (go_at_call 14; refine HCC.out.mono ?_; rintro e w1 ⟨a, len, cap, rfl, hB, hb⟩)
  go_ret
  have hb2 := (Below.refl w1.heap.size w1).alloc (Nat.le_refl _) (.cells #[.slice a len cap] 22)
  exact ⟨w1.heap.size, .slice a len cap, rfl, by simp, hb.size, hB.below hb2, hb.trans (hb2.mono hb.size)⟩

end Go.Proofs.YtlihfamkngahaaaDoor.U
