/- What is proved here: the contracts of input.Lines and of the document's own Lines (sieveref03): for any bytes, both return the lines of the bytes' text in new memory. -/
import Derived.Test.YtpljklemkapnmaaDoorMathQ
namespace Go.Proofs.YtpljklemkapnmaaDoor.U
open Go.RowKit Go.Shelf

theorem infoStr : (Tryd.prog.info? 9).map (fun i => (i.zero, i.size, i.bytes)) = some (some (.string ⟨#[]⟩), 1, 16) := by kernel_rfl
/-- A line's value. -/
def lvs (l : List UInt8) : Value := .string ⟨l.toArray⟩
theorem lvs_snoc (xs : List (List UInt8)) (l : List UInt8) : (xs ++ [l]).map lvs = xs.map lvs ++ [.string ⟨l.toArray⟩] := by simp [lvs]

theorem byteArr_at (T : List UInt8) (k : Nat) (h : k < (⟨T.toArray⟩ : ByteArray).size) : ((⟨T.toArray⟩ : ByteArray)[k]'h).toNat = byteAt T k := by
  have hk : k < T.length := by rw [byteArr_size] at h; exact h
  show (T.toArray[k]).toNat = _
  simp [byteAt, hk]

set_option maxRecDepth 100000 in
set_option maxHeartbeats 4000000 in
/-- **sieveref03.Lines of any bytes.** -/
theorem rlines_calls (v : Value) (bs : List UInt8) (n₀ : Nat) (w : World) (hl : bs.length ≤ 17179869184) (hH : HasB n₀ w v bs) :
    Calls Tryd.prog 30 #[v] w fun e W' => ∃ u, e = .returned u ∧ W'.ownsRow w.heap.size 9 1 u (linesOf (textOf (cellsOf bs))).length ((linesOf (textOf (cellsOf bs))).map lvs) ∧ Below w.heap.size w W' := by
  obtain ⟨i0, hi, hz0, hz1, hz2⟩ := info_parts infoStr
  have hcl := cellsOf_len bs
  have htl := textOf_le (cellsOf bs)
  have HP : Hid (Calls Tryd.prog 17 #[v] w fun e W' => e = .returned (.string ⟨(textOf (cellsOf bs)).toArray⟩) ∧ Below w.heap.size w W') := by
    have h := rtext_calls v bs n₀ w (by omega) hcl hH
    rw [text_enc]
    exact h
  obtain ⟨T, hT⟩ : ∃ T, textOf (cellsOf bs) = T := ⟨_, rfl⟩
  rw [hT] at HP htl ⊢
  have hsz := byteArr_size T
  clear hH hT
  go_enter Tryd.func30, Tryd.ntmps30
  go_wp2_with (go_at_call 17; refine HP.out.mono ?_; rintro e w2 ⟨rfl, hb2⟩)
  have s2 := hb2.size
  go_loopw [3, 5, 6] (fun v fr i wr => ∃ k : Nat, k ≤ T.length ∧ i = .int .i64 k ∧ fr = .int .i64 ((cuts T k).2 : Int) ∧ wr.ownsRow w2.heap.size 9 1 v (cuts T k).1.length ((cuts T k).1.map lvs) ∧ Below w2.heap.size w2 wr) (fun _ _ i _ => T.length - (intOf i).toNat)
  case atStart => exact ⟨0, by omega, rfl, rfl, World.ownsRow_nil _ _ _ _, Below.refl _ _⟩
  case round =>
    obtain ⟨k, hk, rfl, rfl, hrow, hB⟩ := hrel
    have hc1 := cuts_le T k
    have hc2 := cuts_length T k
    have s1 := hB.size
    by_cases hlt : k < T.length
    · have hks : k < (⟨T.toArray⟩ : ByteArray).size := by rw [hsz]; exact hlt
      have hgk := byteArr_at T k hks
      have hx := extract_seg T (cuts T k).2 k
      by_cases h10 : byteAt T k = 10
      · have HC : Hid (cuts T (k + 1) = ((cuts T k).1 ++ [seg T (cuts T k).2 k], k + 1)) := cuts_at T k h10
        obtain ⟨co, hco⟩ : ∃ co, (cuts T k).1 = co := ⟨_, rfl⟩
        obtain ⟨cf, hcf⟩ : ∃ cf, (cuts T k).2 = cf := ⟨_, rfl⟩
        rw [hco] at hrow hc2 HC
        rw [hcf] at hc1 hx HC
        rw [hcf]
        clear hco hcf
        rw [h10] at hgk
        have t10 : ((((⟨T.toArray⟩ : ByteArray)[k]'hks).toNat : Int) == 10) = true := by rw [hgk]; rfl
        go_wp2_with (at_builtin; refine wpList_append_own _ rfl _ _ 52 rfl w2.heap.size 9 i0 (.string ⟨#[]⟩) 1 16 Tryd.underlying52 hi hz0 hz1 hz2 rfl (by decide) _ _ _ rfl (hrow.alloc _) ⟨wr.heap.size, 0, none⟩ 1 1 [.string ⟨(seg T cf k).toArray⟩] rfl rfl (cell_one_at _ _ _ _ rfl) (by simp [Value.oneCell']) (by unfold maxLen; omega) (by omega) (by simp; omega) ?_; intro v' w4 hown' hgrow _)
        go_roundw
        case rel => exact ⟨k + 1, by omega, by go_num, by rw [HC.out]; go_num, by rw [HC.out]; simp only [lvs_snoc, List.length_append]; exact hown', (hB.alloc (by omega) _).grown hgrow (by simp; omega) (fun j hj => (hrow.lt j hj).1)⟩
        case measure => simp [intOf]; omega
      · have HC : Hid (cuts T (k + 1) = cuts T k) := cuts_on T k h10
        have t10 : ((((⟨T.toArray⟩ : ByteArray)[k]'hks).toNat : Int) == 10) = false := by rw [hgk]; simp; omega
        clear hx
        go_wp2
        go_roundw
        case rel => exact ⟨k + 1, by omega, by go_num, by rw [HC.out], by rw [HC.out]; exact hrow, hB⟩
        case measure => simp [intOf]; omega
    · obtain rfl : k = T.length := by omega
      have hx := extract_seg T (cuts T T.length).2 T.length
      by_cases hfr : (cuts T T.length).2 < T.length
      · have HL : Hid (linesOf T = (cuts T T.length).1 ++ [seg T (cuts T T.length).2 T.length]) := by show _ = _; unfold linesOf; rw [if_pos hfr]
        obtain ⟨co, hco⟩ : ∃ co, (cuts T T.length).1 = co := ⟨_, rfl⟩
        obtain ⟨cf, hcf⟩ : ∃ cf, (cuts T T.length).2 = cf := ⟨_, rfl⟩
        rw [hco] at hrow hc2 HL
        rw [hcf] at hc1 hx HL hfr
        rw [hcf]
        clear hco hcf
        go_wp2_with (at_builtin; refine wpList_append_own _ rfl _ _ 52 rfl w2.heap.size 9 i0 (.string ⟨#[]⟩) 1 16 Tryd.underlying52 hi hz0 hz1 hz2 rfl (by decide) _ _ _ rfl (hrow.alloc _) ⟨wr.heap.size, 0, none⟩ 1 1 [.string ⟨(seg T cf T.length).toArray⟩] rfl rfl (cell_one_at _ _ _ _ rfl) (by simp [Value.oneCell']) (by unfold maxLen; omega) (by omega) (by simp; omega) ?_; intro v' w4 hown' hgrow _)
        obtain ⟨ga, gc, hg⟩ := owns_slice hown'
        subst hg
        go_wp2
        go_ret
        refine ⟨_, rfl, ?_, hb2.trans (((hB.alloc (by omega) _).grown hgrow (by simp; omega) (fun j hj => (hrow.lt j hj).1)).mono s2)⟩
        rw [HL.out, lvs_snoc, List.length_append]
        exact ⟨hown'.1, hown'.2.imp id (fun ⟨g, cap, cur, e1, e2, e3⟩ => ⟨g, cap, cur, e1, by omega, e3⟩)⟩
      · have HL : Hid (linesOf T = (cuts T T.length).1) := by show _ = _; unfold linesOf; rw [if_neg hfr]
        obtain ⟨ga, gc, hg⟩ := owns_slice hrow
        subst hg
        clear hx
        go_wp2
        go_ret
        refine ⟨_, rfl, ?_, hb2.trans (hB.mono s2)⟩
        rw [HL.out]
        exact ⟨hrow.1, hrow.2.imp id (fun ⟨g, cap, cur, e1, e2, e3⟩ => ⟨g, cap, cur, e1, by omega, e3⟩)⟩

set_option maxRecDepth 100000 in
set_option maxHeartbeats 4000000 in
/-- **input.Lines of any bytes.** -/
theorem ilines_calls (v : Value) (bs : List UInt8) (w : World) (hl : bs.length ≤ 17179869184) (hH : HasB w.heap.size w v bs) (hTb : Lib.Utf8Tabs (Tryd.lays32_ren.g 2) (Tryd.lays32_ren.g 3) w) :
    Calls Tryd.prog 29 #[v] w fun e W' => ∃ u, e = .returned u ∧ W'.ownsRow w.heap.size 9 1 u (linesOf (textOf (cellsOf bs))).length ((linesOf (textOf (cellsOf bs))).map lvs) ∧ Below w.heap.size w W' := by
  obtain ⟨i0, hi, hz0, hz1, hz2⟩ := info_parts infoStr
  have hcl := cellsOf_len bs
  have htl := textOf_le (cellsOf bs)
  have HP : Hid (Calls Tryd.prog 16 #[v] w fun e W' => e = .returned (.string ⟨(textOf (cellsOf bs)).toArray⟩) ∧ Below w.heap.size w W') := itext_calls v bs w (by omega) hH hTb
  have HR : Hid ((pcs (textOf (cellsOf bs))).all Pc.ok = true) := by
    show _ = _
    rw [text_enc]; exact (runesI_encs (zsOf bs)).2
  obtain ⟨T, hT⟩ : ∃ T, textOf (cellsOf bs) = T := ⟨_, rfl⟩
  rw [hT] at HP htl HR ⊢
  have hsz := byteArr_size T
  clear hH hT hTb
  go_enter Tryd.func29, Tryd.ntmps29
  go_wp2_with (go_at_call 16; refine HP.out.mono ?_; rintro e w1 ⟨rfl, hb1⟩)
  have s1 := hb1.size
  go_loopw [4, 5, 6, 7] (fun v fr _ _ wr => ∃ k : Nat, k ≤ T.length ∧ fr = .int .i64 ((cuts T k).2 : Int) ∧ wr.heap[w1.heap.size]? = some (.stringIter ⟨T.toArray⟩ k) ∧ Hid ((pcsF T.length k (T.drop k)).all Pc.ok = true) ∧ wr.ownsRow (w1.heap.size + 1) 9 1 v (cuts T k).1.length ((cuts T k).1.map lvs) ∧ Below w.heap.size w wr ∧ w1.heap.size < wr.heap.size) (fun _ _ _ _ wr => T.length - wr.iterPos w1.heap.size)
  case atStart => exact ⟨0, by omega, rfl, World.iter_heap _ _ _, HR.out, World.ownsRow_nil _ _ _ _, hb1.alloc hb1.size _, by simp [World.iter]⟩
  case round =>
    obtain ⟨k, hk, rfl, hit, hs, hrow, hB, hzr⟩ := hrel
    have hc1 := cuts_le T k
    have hc2 := cuts_length T k
    by_cases hlt : k < T.length
    · have hd0 : 0 < (T.drop k).length := by simp; omega
      have hst := pcs_step T k hlt
      have hal := hs.out
      rw [hst, List.all_cons, Bool.and_eq_true] at hal
      have ha : nextAll (T.drop k) = true := hal.1
      have hdec : Utf8.decode ⟨T.toArray⟩ k = (runeOf (T.drop k), nextN (T.drop k)) := by rw [decode_drop]; exact decode_right _ hd0 ha
      have hnx : ∀ ty, (Instr.next (.pointer (some ⟨w1.heap.size, 0, none⟩)) true ty).run Tryd.prog wr = _ := fun ty => Lib.run_next_any_at wr w1.heap.size ⟨T.toArray⟩ k ty hit (by rw [hsz]; exact hlt)
      rw [hdec] at hnx
      simp only at hnx
      have hp1 := nextN_pos (T.drop k)
      have hp2 := nextN_len (T.drop k) hd0
      simp only [List.length_drop] at hp2
      have hten := step_ten T k hlt ha
      have HS2 : Hid ((pcsF T.length (k + nextN (T.drop k)) (T.drop (k + nextN (T.drop k)))).all Pc.ok = true) := hal.2
      have HIT : Hid (wr.heap[w1.heap.size]? = some (.stringIter ⟨T.toArray⟩ k)) := hit
      have hitX := Lib.iterAt_heap wr w1.heap.size ⟨T.toArray⟩ k (k + nextN (T.drop k)) hit
      have hgX := iterAt_grownI wr w1.heap.size ⟨T.toArray⟩ (k + nextN (T.drop k))
      obtain ⟨X, hX⟩ : ∃ X, wr.iterAt w1.heap.size ⟨T.toArray⟩ (k + nextN (T.drop k)) = X := ⟨_, rfl⟩
      rw [hX] at hnx hitX hgX
      have hBX : Below w.heap.size w X := hB.grown hgX hB.size (fun j hj => by cases hj; exact s1)
      have HITX : Hid (X.heap[w1.heap.size]? = some (.stringIter ⟨T.toArray⟩ (k + nextN (T.drop k)))) := hitX
      have hzX := hgX.size
      have hrowX := hrow.kept hgX (by
        cases e : Value.ownBlock _ with
        | none => exact .inl rfl
        | some j => exact .inr (fun e' => by cases e'; have := (hrow.lt _ e).1; omega))
      clear hst hal ha hdec hX hit hs hitX hgX hrow
      by_cases h10 : runeOf (T.drop k) = 10
      · obtain ⟨hn1, hb10⟩ := hten.1 h10
        have HC : Hid (cuts T (k + nextN (T.drop k)) = ((cuts T k).1 ++ [seg T (cuts T k).2 k], k + 1)) := by show _ = _; rw [hn1]; exact cuts_at T k hb10
        have t10 : ((runeOf (T.drop k) : Int) == 10) = true := by rw [h10]; rfl
        have hx := extract_seg T (cuts T k).2 k
        clear hten
        generalize nextN (T.drop k) = n at *
        generalize (runeOf (T.drop k) : Int) = z at *
        obtain ⟨co, hco⟩ : ∃ co, (cuts T k).1 = co := ⟨_, rfl⟩
        obtain ⟨cf, hcf⟩ : ∃ cf, (cuts T k).2 = cf := ⟨_, rfl⟩
        rw [hco] at hrowX hc2 HC
        rw [hcf] at hc1 hx HC
        rw [hcf]
        clear hco hcf h10
        go_wp2_with (at_builtin; refine wpList_append_own _ rfl _ _ 52 rfl (w1.heap.size + 1) 9 i0 (.string ⟨#[]⟩) 1 16 Tryd.underlying52 hi hz0 hz1 hz2 rfl (by decide) _ _ _ rfl (hrowX.alloc _) ⟨X.heap.size, 0, none⟩ 1 1 [.string ⟨(seg T cf k).toArray⟩] rfl rfl (cell_one_at _ _ _ _ rfl) (by simp [Value.oneCell']) (by unfold maxLen; omega) (by omega) (by simp; omega) ?_; intro v' w4 hown' hgrow _)
        have hz4 := hgrow.size
        have hit4 : w4.heap[w1.heap.size]? = some (.stringIter ⟨T.toArray⟩ (k + n)) := by
          rw [hgrow.block _ (by simp; omega) (fun e => by have := (hrowX.lt _ e.symm).1; omega), Below.heap_alloc _ _ _ (by omega)]
          exact HITX.out
        simp at hz4
        go_roundw
        case rel => exact ⟨k + n, by omega, by rw [HC.out]; go_num, hit4, HS2.out, by rw [HC.out]; simp only [lvs_snoc, List.length_append]; exact hown', (hBX.alloc hBX.size _).grown hgrow (by have := hBX.size; simp; omega) (fun j hj => by have := (hrowX.lt j hj).1; omega), by omega⟩
        case measure => rw [iterPos_ofI hit4, iterPos_ofI HIT.out]; omega
      · have HC : Hid (cuts T (k + nextN (T.drop k)) = cuts T k) := cuts_past T k _ (hten.2 h10)
        have t10 : ((runeOf (T.drop k) : Int) == 10) = false := by simp; omega
        clear hten
        generalize nextN (T.drop k) = n at *
        generalize (runeOf (T.drop k) : Int) = z at *
        go_wp2
        go_roundw
        case rel => exact ⟨k + n, by omega, by rw [HC.out], HITX.out, HS2.out, by rw [HC.out]; exact hrowX, hBX, by omega⟩
        case measure => rw [iterPos_ofI HITX.out, iterPos_ofI HIT.out]; omega
    · obtain rfl : k = T.length := by omega
      have hnx : ∀ ty, (Instr.next (.pointer (some ⟨w1.heap.size, 0, none⟩)) true ty).run Tryd.prog wr = _ := fun ty => Lib.run_next_end_at wr w1.heap.size ⟨T.toArray⟩ T.length ty hit (by rw [hsz]; exact hlt)
      have hx := extract_seg T (cuts T T.length).2 T.length
      by_cases hfr : (cuts T T.length).2 < T.length
      · have HL : Hid (linesOf T = (cuts T T.length).1 ++ [seg T (cuts T T.length).2 T.length]) := by show _ = _; unfold linesOf; rw [if_pos hfr]
        obtain ⟨co, hco⟩ : ∃ co, (cuts T T.length).1 = co := ⟨_, rfl⟩
        obtain ⟨cf, hcf⟩ : ∃ cf, (cuts T T.length).2 = cf := ⟨_, rfl⟩
        rw [hco] at hrow hc2 HL
        rw [hcf] at hc1 hx HL hfr
        rw [hcf]
        clear hco hcf
        go_wp2_with (at_builtin; refine wpList_append_own _ rfl _ _ 52 rfl (w1.heap.size + 1) 9 i0 (.string ⟨#[]⟩) 1 16 Tryd.underlying52 hi hz0 hz1 hz2 rfl (by decide) _ _ _ rfl (hrow.alloc _) ⟨wr.heap.size, 0, none⟩ 1 1 [.string ⟨(seg T cf T.length).toArray⟩] rfl rfl (cell_one_at _ _ _ _ rfl) (by simp [Value.oneCell']) (by unfold maxLen; omega) (by omega) (by simp; omega) ?_; intro v' w4 hown' hgrow _)
        obtain ⟨ga, gc, hg⟩ := owns_slice hown'
        subst hg
        go_wp2
        go_ret
        refine ⟨_, rfl, ?_, (hB.alloc hB.size _).grown hgrow (by have := hB.size; simp; omega) (fun j hj => by have := (hrow.lt j hj).1; omega)⟩
        rw [HL.out, lvs_snoc, List.length_append]
        exact ⟨hown'.1, hown'.2.imp id (fun ⟨g, cap, cur, e1, e2, e3⟩ => ⟨g, cap, cur, e1, by omega, e3⟩)⟩
      · have HL : Hid (linesOf T = (cuts T T.length).1) := by show _ = _; unfold linesOf; rw [if_neg hfr]
        obtain ⟨ga, gc, hg⟩ := owns_slice hrow
        subst hg
        clear hx
        go_wp2
        go_ret
        refine ⟨_, rfl, ?_, hB⟩
        rw [HL.out]
        exact ⟨hrow.1, hrow.2.imp id (fun ⟨g, cap, cur, e1, e2, e3⟩ => ⟨g, cap, cur, e1, by omega, e3⟩)⟩

end Go.Proofs.YtpljklemkapnmaaDoor.U
