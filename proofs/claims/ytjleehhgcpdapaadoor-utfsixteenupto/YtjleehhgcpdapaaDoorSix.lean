/- What is proved here: contracts of units of sievelaw01, and of Sixteen of sieveref01 and utf: runes as units. -/
import Derived.Lib.OthersKept
import Derived.Test.YtjleehhgcpdapaaDoorFrom
namespace Go.Proofs.YtjleehhgcpdapaaDoor.U
open Go.RowKit Go.Shelf

theorem info16 : (Tryd.prog.info? 81).map (fun i => (i.zero, i.size, i.bytes)) = some (some (.int .u16 0), 1, 2) := by kernel_rfl

set_option maxRecDepth 100000 in
set_option maxHeartbeats 1000000 in
theorem units_ne (a a' : Option Addr) (n n' cap cap' : Nat) (w : World) (h : n ≠ n') :
    Calls Tryd.prog 33 #[.slice a n cap, .slice a' n' cap'] w fun e w' => e = .returned (.bool false) ∧ Below w.heap.size w w' := by
  have hne : ((n : Int) != (n' : Int)) = true := by rw [bne_iff_ne]; omega
  go_enter Tryd.func33, Tryd.ntmps33
  go_wp2
  go_ret
  exact ⟨rfl, Below.refl _ _⟩

set_option maxRecDepth 100000 in
set_option maxHeartbeats 1000000 in
theorem units_zero (a a' : Option Addr) (cap cap' : Nat) (w : World) :
    Calls Tryd.prog 33 #[.slice a 0 cap, .slice a' 0 cap'] w fun e w' => e = .returned (.bool true) ∧ Below w.heap.size w w' := by
  go_enter Tryd.func33, Tryd.ntmps33
  go_wp2
  go_loop [13] (fun i => i = .int .i64 0) (fun _ => 0)
  case atStart => rfl
  case round =>
    subst hrel
    go_wp2
    go_ret
    exact ⟨rfl, Below.refl _ _⟩

set_option maxRecDepth 100000 in
set_option maxHeartbeats 1000000 in
theorem units_pos (b off b' off' cap cap' : Nat) (xs ys : List Int) (w : World) (hl : xs.length = ys.length) (hm : xs.length ≤ 140737488355328)
    (hx : ∀ j, j < xs.length → w.cell? ⟨b, off + j, none⟩ = some (.int .u16 (zAt xs j))) (hy : ∀ j, j < ys.length → w.cell? ⟨b', off' + j, none⟩ = some (.int .u16 (zAt ys j))) :
    Calls Tryd.prog 33 #[.slice (some ⟨b, off, none⟩) xs.length cap, .slice (some ⟨b', off', none⟩) ys.length cap'] w fun e w' => e = .returned (.bool (decide (xs = ys))) ∧ Below w.heap.size w w' := by
  have HX : Hid (∀ j, j < xs.length → w.cell? ⟨b, off + j, none⟩ = some (.int .u16 (zAt xs j))) := hx
  have HY : Hid (∀ j, j < ys.length → w.cell? ⟨b', off' + j, none⟩ = some (.int .u16 (zAt ys j))) := hy
  have HL : Hid (xs.length = ys.length) := hl
  rw [← hl]
  clear hx hy hl
  generalize hn : xs.length = n at *
  have HN : Hid (xs.length = n) := hn
  clear hn
  go_enter Tryd.func33, Tryd.ntmps33
  go_wp2
  go_loopw [13] (fun i wr => ∃ k : Nat, k ≤ n ∧ i = .int .i64 k ∧ Below w.heap.size w wr ∧ Hid (∀ j, j < k → zAt xs j = zAt ys j)) (fun i _ => n - (intOf i).toNat)
  case atStart => exact ⟨0, by omega, rfl, Below.refl _ _, fun j hj => by omega⟩
  case round =>
    obtain ⟨k, hk, rfl, hB, hs⟩ := hrel
    by_cases hlt : k < n
    · have c1 : wr.cell? ⟨b, off + k, none⟩ = some (.int .u16 (zAt xs k)) := (hB.cell (p := ⟨b, off + k, none⟩) (cell_lt (HX.out k hlt))).trans (HX.out k hlt)
      have hky : k < ys.length := by have := HL.out; have := HN.out; omega
      have c2 : wr.cell? ⟨b', off' + k, none⟩ = some (.int .u16 (zAt ys k)) := (hB.cell (p := ⟨b', off' + k, none⟩) (cell_lt (HY.out k hky))).trans (HY.out k hky)
      by_cases he : zAt xs k = zAt ys k
      · have hd : (zAt xs k != zAt ys k) = false := by simp [he]
        have HE : Hid (zAt xs k = zAt ys k) := he
        clear he
        go_wp2
        go_quiet (fail)
        go_wp2
        go_roundw
        case rel => exact ⟨k + 1, by omega, by go_num, below_drewN hB _, fun j hj => by by_cases e : j = k
                                                                                        · subst e; exact HE.out
                                                                                        · exact hs.out j (by omega)⟩
        case measure => simp [intOf]; omega
      · have hd : (zAt xs k != zAt ys k) = true := by simp [he]
        have HE : Hid (zAt xs k ≠ zAt ys k) := he
        clear he
        go_wp2
        go_quiet (fail)
        go_wp2
        go_ret
        refine ⟨?_, below_drewN hB _⟩
        have hne : xs ≠ ys := fun e => HE.out (by rw [e])
        simp [hne]
    · obtain rfl : k = n := by omega
      go_wp2
      go_ret
      refine ⟨?_, hB⟩
      have he : xs = ys := zAt_ext (HN.out.trans HL.out) (fun j hj => hs.out j (by have e := HN.out; rw [e] at hj; exact hj))
      simp [he]

/-- **units of any two lists of units.** -/
theorem units_calls (v v' : Value) (xs ys : List Int) (w : World) (hm : xs.length ≤ 140737488355328) (hx : HasI .u16 w v xs) (hy : HasI .u16 w v' ys) :
    Calls Tryd.prog 33 #[v, v'] w fun e w' => e = .returned (.bool (decide (xs = ys))) ∧ Below w.heap.size w w' := by
  rcases hx with ⟨rfl, a, cap, rfl⟩ | ⟨hp, b, off, cap, rfl, hc, hx⟩
  · rcases hy with ⟨rfl, a', cap', rfl⟩ | ⟨hp', b', off', cap', rfl, hc', hy⟩
    · exact units_zero a a' cap cap' w
    · have hd : decide (([] : List Int) = ys) = false := by simp; exact List.length_pos_iff.1 hp'
      rw [hd]
      exact units_ne a (some ⟨b', off', none⟩) 0 ys.length cap cap' w (by omega)
  · rcases hy with ⟨rfl, a', cap', rfl⟩ | ⟨hp', b', off', cap', rfl, hc', hy⟩
    · have hd : decide (xs = []) = false := by simp; exact List.length_pos_iff.1 hp
      rw [hd]
      exact units_ne (some ⟨b, off, none⟩) a' xs.length 0 cap cap' w (by omega)
    · by_cases hl : xs.length = ys.length
      · exact units_pos b off b' off' cap cap' xs ys w hl hm hx hy
      · have hd : decide (xs = ys) = false := by simp; exact fun e => hl (by rw [e])
        rw [hd]
        exact units_ne (some ⟨b, off, none⟩) (some ⟨b', off', none⟩) xs.length ys.length cap cap' w hl


theorem cells_two16 (W : World) (a b : Value) (t : TypeId) (n : Nat) (hn : n = W.heap.size) : ∀ j u, [a, b][j]? = some u → (W.alloc (.cells #[a, b] t)).cell? ((⟨n, 0, none⟩ : Addr).add j) = some u := by
  intro j u h
  subst hn
  rw [add_none, Nat.zero_add]
  have hb := World.alloc_heap_new W (.cells #[a, b] t)
  simp only [World.cell?, hb]
  simpa using h
theorem sixs_take (zs : List Int) (k : Nat) (h : k < zs.length) : sixs (zs.take (k + 1)) = sixs (zs.take k) ++ six (zAt zs k) := by
  rw [List.take_succ_eq_append_getElem h, sixs_snoc]; simp [zAt, h]
theorem sixs_take_le (zs : List Int) (k : Nat) : (sixs (zs.take k)).length ≤ 2 * zs.length := by
  have := sixs_length (zs.take k); rw [List.length_take] at this; omega

set_option maxRecDepth 100000 in
set_option maxHeartbeats 1000000 in
theorem rsix_walk (zs : List Int) (a : Option Addr) (b off cap : Nat) (w : World) (ha : 0 < zs.length → a = some ⟨b, off, none⟩) (hl : (zs.length : Int) ≤ 1099511627776)
    (hc : ∀ j, j < zs.length → w.cell? ⟨b, off + j, none⟩ = some (.int .i32 (zAt zs j))) :
    Calls Tryd.prog 34 #[.slice a zs.length cap] w fun e W' => ∃ v, e = .returned v ∧ W'.ownsRow w.heap.size 81 1 v (sixs zs).length ((sixs zs).map (Value.int .u16)) ∧ Below w.heap.size w W' := by
  obtain ⟨i0, hi, hz0, hz1, hz2⟩ := info_parts info16
  have HC : Hid (∀ j, j < zs.length → w.cell? ⟨b, off + j, none⟩ = some (.int .i32 (zAt zs j))) := hc
  have HA : Hid (0 < zs.length → a = some ⟨b, off, none⟩) := ha
  clear hc ha
  go_enter Tryd.func34, Tryd.ntmps34
  go_wp2
  go_loopw [3, 5, 6, 9] (fun v _ _ i wr => ∃ k : Nat, k ≤ zs.length ∧ i = .int .i64 k ∧ wr.ownsRow w.heap.size 81 1 v (sixs (zs.take k)).length ((sixs (zs.take k)).map (Value.int .u16)) ∧ Below w.heap.size w wr) (fun _ _ _ i _ => zs.length - (intOf i).toNat)
  case atStart => exact ⟨0, by omega, rfl, World.ownsRow_nil _ _ _ _, Below.refl _ _⟩
  case round =>
    obtain ⟨k, hk, rfl, hrow, hB⟩ := hrel
    by_cases hlt : k < zs.length
    · have e' := HA.out (by omega)
      subst e'
      have c0 : wr.cell? ⟨b, off + k, none⟩ = some (.int .i32 (zAt zs k)) := (hB.cell (p := ⟨b, off + k, none⟩) (cell_lt (HC.out k hlt))).trans (HC.out k hlt)
      have s1 := hB.size
      have HT : Hid (sixs (zs.take (k + 1)) = sixs (zs.take k) ++ six (zAt zs k)) := sixs_take zs k hlt
      have hml := sixs_take_le zs k
      generalize hm : (sixs (zs.take k)).length = m at *
      have HM : Hid ((sixs (zs.take k)).length = m) := hm
      clear hm
      generalize zAt zs k = z at *
      by_cases hv : Utf8.valid z = true
      · have CC : Hid (∀ w', Calls Tryd.prog 36 #[.int .i32 z] w' fun e W' => e = .returned (.bool true) ∧ W' = w') := fun w' => by have := char_calls z w'; rw [hv] at this; exact this
        obtain ⟨v0, v1, v2⟩ := (valid_iff z).1 hv
        by_cases h6 : z < 65536
        · have e6 : six z = [z] := by unfold six; rw [if_pos hv, if_pos h6]
          rw [e6] at HT
          clear e6 hv v2
          go_wp2_with (first
            | (go_at_call 36; refine (CC.out _).mono ?_; rintro e w' ⟨rfl, hw⟩; obtain rfl : wr = w' := hw.symm)
            | (at_builtin; refine wpList_append_own _ rfl _ _ 56 rfl w.heap.size 81 i0 (.int .u16 0) 1 2 Tryd.underlying56 hi hz0 hz1 hz2 rfl (by decide) _ _ _ rfl (hrow.alloc _) ⟨wr.heap.size, 0, none⟩ 1 1 [.int .u16 (z)] rfl rfl (cell_one_at _ _ _ _ rfl) (by simp [Value.oneCell']) (by unfold maxLen; omega) (by omega) (by simp; omega) ?_; intro v' w4 hown' hgrow _))
          go_roundw
          case rel =>
            have H : w4.ownsRow w.heap.size 81 1 v' (sixs (zs.take (k + 1))).length ((sixs (zs.take (k + 1))).map (Value.int .u16)) ∧ Below w.heap.size w w4 := by
              rw [HT.out, List.length_append, HM.out]
              exact ⟨by simpa using hown', (hB.alloc s1 _).grown hgrow (by simp; omega) (fun j hj => (hrow.lt j hj).1)⟩
            first
              | exact ⟨k + 1, by omega, by go_num, H⟩
              | exact ⟨_, _, _, _, ⟨k + 1, by omega, by go_num, H⟩, rfl, rfl, rfl, rfl⟩
          case measure => simp [intOf]; omega
        · have e6 : six z = [55296 + (z - 65536) / 1024, 56320 + (z - 65536) % 1024] := by unfold six; rw [if_pos hv, if_neg h6]
          rw [e6] at HT
          have h6' : decide (z < 65536) = false := by simp; omega
          clear e6 hv v2
          go_wp2_with (first
            | (go_at_call 36; refine (CC.out _).mono ?_; rintro e w' ⟨rfl, hw⟩; obtain rfl : wr = w' := hw.symm)
            | (at_builtin; refine wpList_append_own _ rfl _ _ 56 rfl w.heap.size 81 i0 (.int .u16 0) 1 2 Tryd.underlying56 hi hz0 hz1 hz2 rfl (by decide) _ _ _ rfl (hrow.alloc _) ⟨wr.heap.size, 0, none⟩ 2 2 [.int .u16 (55296 + (z - 65536) / 1024), .int .u16 (56320 + (z - 65536) % 1024)] rfl rfl (cells_two16 _ _ _ _ _ rfl) (by simp [Value.oneCell']) (by unfold maxLen; omega) (by omega) (by simp; omega) ?_; intro v' w4 hown' hgrow _))
          go_roundw
          case rel =>
            have H : w4.ownsRow w.heap.size 81 1 v' (sixs (zs.take (k + 1))).length ((sixs (zs.take (k + 1))).map (Value.int .u16)) ∧ Below w.heap.size w w4 := by
              rw [HT.out, List.length_append, HM.out]
              exact ⟨by simpa using hown', (hB.alloc s1 _).grown hgrow (by simp; omega) (fun j hj => (hrow.lt j hj).1)⟩
            first
              | exact ⟨k + 1, by omega, by go_num, H⟩
              | exact ⟨_, _, _, _, ⟨k + 1, by omega, by go_num, H⟩, rfl, rfl, rfl, rfl⟩
          case measure => simp [intOf]; omega
      · have CC : Hid (∀ w', Calls Tryd.prog 36 #[.int .i32 z] w' fun e W' => e = .returned (.bool false) ∧ W' = w') := fun w' => by have := char_calls z w'; rw [show Utf8.valid z = false by simpa using hv] at this; exact this
        have e6 : six z = [65533] := by unfold six; rw [if_neg hv]
        rw [e6] at HT
        clear e6 hv
        go_wp2_with (first
          | (go_at_call 36; refine (CC.out _).mono ?_; rintro e w' ⟨rfl, hw⟩; obtain rfl : wr = w' := hw.symm)
          | (at_builtin; refine wpList_append_own _ rfl _ _ 56 rfl w.heap.size 81 i0 (.int .u16 0) 1 2 Tryd.underlying56 hi hz0 hz1 hz2 rfl (by decide) _ _ _ rfl (hrow.alloc _) ⟨wr.heap.size, 0, none⟩ 1 1 [.int .u16 (65533)] rfl rfl (cell_one_at _ _ _ _ rfl) (by simp [Value.oneCell']) (by unfold maxLen; omega) (by omega) (by simp; omega) ?_; intro v' w4 hown' hgrow _))
        go_roundw
        case rel =>
          have H : w4.ownsRow w.heap.size 81 1 v' (sixs (zs.take (k + 1))).length ((sixs (zs.take (k + 1))).map (Value.int .u16)) ∧ Below w.heap.size w w4 := by
            rw [HT.out, List.length_append, HM.out]
            exact ⟨by simpa using hown', (hB.alloc s1 _).grown hgrow (by simp; omega) (fun j hj => (hrow.lt j hj).1)⟩
          first
            | exact ⟨k + 1, by omega, by go_num, H⟩
            | exact ⟨_, _, _, _, ⟨k + 1, by omega, by go_num, H⟩, rfl, rfl, rfl, rfl⟩
        case measure => simp [intOf]; omega
    · obtain rfl : k = zs.length := by omega
      rw [List.take_length] at hrow
      go_wp2
      go_ret
      exact ⟨_, rfl, hrow, hB⟩

theorem iterAt_grown (w : World) (k : Nat) (s : ByteArray) (p : Nat) : w.grownBy (w.iterAt k s p) (some k) := by
  refine ⟨rfl, rfl, rfl, by simp [World.iterAt], fun j hj hne => ?_⟩
  have hjk : k ≠ j := fun e => hne (by rw [e])
  simp [World.iterAt, hjk]
theorem iterPos_of {w : World} {k : Nat} {s : ByteArray} {p : Nat} (h : w.heap[k]? = some (.stringIter s p)) : w.iterPos k = p := by unfold World.iterPos; rw [h]
/-- What a round leaves. -/
theorem six_left {w wr X w4 : World} {bs : List UInt8} {k n : Nat} {v v' : Value} {pre news : List Int} {m : Nat} (hB : Below w.heap.size w wr) (hit : wr.heap[w.heap.size]? = some (.stringIter ⟨bs.toArray⟩ k)) (hX : wr.iterAt w.heap.size ⟨bs.toArray⟩ (k + n) = X)
    (hrow : wr.ownsRow (w.heap.size + 1) 81 1 v m ((sixs pre).map (Value.int .u16))) (o : Obj) (hown' : w4.ownsRow (w.heap.size + 1) 81 1 v' (m + news.length) ((sixs pre).map (Value.int .u16) ++ news.map (Value.int .u16))) (hgrow : (X.alloc o).grownBy w4 v.ownBlock) (hm : (sixs pre).length = m) (z : Int) (hz : six z = news) :
    w4.heap[w.heap.size]? = some (.stringIter ⟨bs.toArray⟩ (k + n)) ∧ w4.ownsRow (w.heap.size + 1) 81 1 v' (sixs (pre ++ [z])).length ((sixs (pre ++ [z])).map (Value.int .u16)) ∧ Below w.heap.size w w4 := by
  have hlt := lt_of_block hit
  have hg := iterAt_grown wr w.heap.size ⟨bs.toArray⟩ (k + n)
  have hi := Lib.iterAt_heap wr w.heap.size ⟨bs.toArray⟩ k (k + n) hit
  rw [hX] at hg hi
  have hXs := hg.size
  have hne : ∀ j, v.ownBlock = some j → w.heap.size + 1 ≤ j := fun j e => (hrow.lt j e).1
  refine ⟨?_, ?_, ?_⟩
  · rw [hgrow.block w.heap.size (by simp; omega) (fun e => by have := hne _ e.symm; omega)]
    exact (Below.heap_alloc _ _ _ (by omega)).trans hi
  · rw [sixs_snoc, hz, List.length_append, List.map_append, hm]; exact hown'
  · have bX : Below w.heap.size w X := hB.trans ⟨hg.os, hg.tape, hg.output, hg.size, fun j hj => hg.block j (by have := hB.size; omega) (fun e => by simp at e; omega)⟩
    exact (bX.alloc (by have := hB.size; omega) _).grown hgrow (by simp; have := hB.size; omega) (fun j hj => by have := hne j hj; omega)

set_option maxRecDepth 100000 in
set_option maxHeartbeats 2000000 in
theorem six_walk (zs : List Int) (bs : List UInt8) (hbs : bs = encs zs) (v : Value) (w : World) (hl : (zs.length : Int) ≤ 1099511627776) (h : HasI .i32 w v zs) :
    Calls Tryd.prog 31 #[v] w fun e W' => ∃ v, e = .returned v ∧ W'.ownsRow w.heap.size 81 1 v (sixs zs).length ((sixs zs).map (Value.int .u16)) ∧ Below w.heap.size w W' := by
  obtain ⟨i0, hi, hz0, hz1, hz2⟩ := info_parts info16
  have hcr := conv_runes h
  rw [← hbs] at hcr
  have hbl : (bs.length : Int) ≤ 4398046511104 := by rw [hbs]; have := encs_length zs; omega
  have HR : Hid (runesI bs = zs.map mendR ∧ (pcs bs).all Pc.ok = true) := by rw [hbs]; exact runesI_encs zs
  have hsz := byteArr_size bs
  clear h hbs
  go_enter Tryd.func31, Tryd.ntmps31
  go_wp2
  clear hcr
  go_loopw [3, 5, 6] (fun v _ _ wr => ∃ (k : Nat) (pre : List Int), k ≤ bs.length ∧ pre.length ≤ k ∧ wr.heap[w.heap.size]? = some (.stringIter ⟨bs.toArray⟩ k) ∧ Hid (runesI bs = pre ++ rI bs k ∧ (pcsF bs.length k (bs.drop k)).all Pc.ok = true) ∧ wr.ownsRow (w.heap.size + 1) 81 1 v (sixs pre).length ((sixs pre).map (Value.int .u16)) ∧ Below w.heap.size w wr) (fun _ _ _ wr => bs.length - wr.iterPos w.heap.size)
  case atStart => exact ⟨0, [], by omega, by simp, World.iter_heap _ _ _, ⟨by rw [rI_drop, List.drop_zero]; rfl, HR.out.2⟩, World.ownsRow_nil _ _ _ _, (Below.refl _ w).alloc (Nat.le_refl _) _⟩
  case round =>
    obtain ⟨k, pre, hk, hpk, hit, hs, hrow, hB⟩ := hrel
    by_cases hlt : k < bs.length
    · have hd0 : 0 < (bs.drop k).length := by simp; omega
      have hst := pcs_step bs k hlt
      have hal := hs.out.2
      rw [hst, List.all_cons, Bool.and_eq_true] at hal
      have ha : nextAll (bs.drop k) = true := hal.1
      have hri : rI bs k = (runeOf (bs.drop k) : Int) :: rI bs (k + nextN (bs.drop k)) := by unfold rI; rw [hst]; simp [nextR, ha]
      have hdec : Utf8.decode ⟨bs.toArray⟩ k = (runeOf (bs.drop k), nextN (bs.drop k)) := by rw [decode_drop]; exact decode_right _ hd0 ha
      have hnx : ∀ ty, (Instr.next (.pointer (some ⟨w.heap.size, 0, none⟩)) true ty).run Tryd.prog wr = _ := fun ty => Lib.run_next_any_at wr w.heap.size ⟨bs.toArray⟩ k ty hit (by rw [hsz]; exact hlt)
      rw [hdec] at hnx
      simp only at hnx
      have hp1 := nextN_pos (bs.drop k)
      have hp2 := nextN_len (bs.drop k) hd0
      simp only [List.length_drop] at hp2
      have hvd := rune_valid (bs.drop k) hd0 ha
      have HS2 : Hid (runesI bs = (pre ++ [(runeOf (bs.drop k) : Int)]) ++ rI bs (k + nextN (bs.drop k)) ∧ (pcsF bs.length (k + nextN (bs.drop k)) (bs.drop (k + nextN (bs.drop k)))).all Pc.ok = true) := ⟨by rw [hs.out.1, hri]; simp, hal.2⟩
      have HIT : Hid (wr.heap[w.heap.size]? = some (.stringIter ⟨bs.toArray⟩ k)) := hit
      obtain ⟨X, hX⟩ : ∃ X, wr.iterAt w.heap.size ⟨bs.toArray⟩ (k + nextN (bs.drop k)) = X := ⟨_, rfl⟩
      have HX : Hid (wr.iterAt w.heap.size ⟨bs.toArray⟩ (k + nextN (bs.drop k)) = X) := hX
      have hrow' : X.ownsRow (w.heap.size + 1) 81 1 u3 (sixs pre).length ((sixs pre).map (Value.int .u16)) := by
        rw [← hX]; exact hrow.kept (iterAt_grown _ _ _ _) (by cases e : u3.ownBlock with
          | none => exact .inl rfl
          | some j => exact .inr (fun e' => by have := (hrow.lt j e).1; simp at e'; omega))
      have hXs : w.heap.size + 1 ≤ X.heap.size := by have := lt_of_block hit; have := (iterAt_grown wr w.heap.size ⟨bs.toArray⟩ (k + nextN (bs.drop k))).size; rw [hX] at this; omega
      have hml := sixs_length pre
      rw [hX] at hnx
      clear hst hal ha hri hdec hX hit hs
      generalize hm : (sixs pre).length = m at *
      have HM : Hid ((sixs pre).length = m) := hm
      clear hm
      generalize hz : (runeOf (bs.drop k) : Int) = z at *
      generalize nextN (bs.drop k) = n at *
      obtain ⟨v0, v1, v2⟩ := (valid_iff z).1 hvd
      clear hz
      by_cases h6 : z < 65536
      · have e6 : six z = [z] := by unfold six; rw [if_pos hvd, if_pos h6]
        have E6 : Hid (six z = [z]) := e6
        clear e6 hvd v2
        go_wp2_with ((at_builtin; refine wpList_append_own _ rfl _ _ 56 rfl (w.heap.size + 1) 81 i0 (.int .u16 0) 1 2 Tryd.underlying56 hi hz0 hz1 hz2 rfl (by decide) _ _ _ rfl (hrow'.alloc _) ⟨X.heap.size, 0, none⟩ 1 1 [.int .u16 (z)] rfl rfl (cell_one_at _ _ _ _ rfl) (by simp [Value.oneCell']) (by unfold maxLen; omega) (by omega) (by simp; omega) ?_; intro v' w4 hown' hgrow _))
        obtain ⟨l1, l2, l3⟩ := six_left (news := [z]) hB HIT.out HX.out hrow _ (by simpa using hown') hgrow HM.out z E6.out
        go_roundw
        case rel => exact ⟨k + n, pre ++ [z], by omega, by simp; omega, l1, HS2.out, l2, l3⟩
        case measure => rw [iterPos_of l1, iterPos_of HIT.out]; omega
      · have e6 : six z = [55296 + (z - 65536) / 1024, 56320 + (z - 65536) % 1024] := by unfold six; rw [if_pos hvd, if_neg h6]
        have E6 : Hid (six z = [55296 + (z - 65536) / 1024, 56320 + (z - 65536) % 1024]) := e6
        have h6' : decide (z < 65536) = false := by simp; omega
        clear e6 hvd v2
        go_wp2_with ((at_builtin; refine wpList_append_own _ rfl _ _ 56 rfl (w.heap.size + 1) 81 i0 (.int .u16 0) 1 2 Tryd.underlying56 hi hz0 hz1 hz2 rfl (by decide) _ _ _ rfl (hrow'.alloc _) ⟨X.heap.size, 0, none⟩ 2 2 [.int .u16 (55296 + (z - 65536) / 1024), .int .u16 (56320 + (z - 65536) % 1024)] rfl rfl (cells_two16 _ _ _ _ _ rfl) (by simp [Value.oneCell']) (by unfold maxLen; omega) (by omega) (by simp; omega) ?_; intro v' w4 hown' hgrow _))
        obtain ⟨l1, l2, l3⟩ := six_left (news := [55296 + (z - 65536) / 1024, 56320 + (z - 65536) % 1024]) hB HIT.out HX.out hrow _ (by simpa using hown') hgrow HM.out z E6.out
        go_roundw
        case rel => exact ⟨k + n, pre ++ [z], by omega, by simp; omega, l1, HS2.out, l2, l3⟩
        case measure => rw [iterPos_of l1, iterPos_of HIT.out]; omega
    · obtain rfl : k = bs.length := by omega
      have hnx : ∀ ty, (Instr.next (.pointer (some ⟨w.heap.size, 0, none⟩)) true ty).run Tryd.prog wr = _ := fun ty => Lib.run_next_end_at wr w.heap.size ⟨bs.toArray⟩ bs.length ty hit (by rw [hsz]; exact hlt)
      have HE : Hid (sixs zs = sixs pre) := by
        show sixs zs = sixs pre
        have := hs.out.1
        rw [HR.out.1, rI_drop, List.drop_length, show runesI [] = [] from rfl, List.append_nil] at this
        rw [← this, sixs_mendR]
      go_wp2
      go_ret
      refine ⟨_, rfl, ?_, hB⟩
      rw [HE.out]
      refine ⟨hrow.1, ?_⟩
      rcases hrow.2 with h | ⟨g, cap, cur, e1, e2, e3⟩
      · exact .inl h
      · exact .inr ⟨g, cap, cur, e1, by omega, e3⟩

/-- **Sixteen of any runes.** -/
theorem six_calls (v : Value) (zs : List Int) (w : World) (hl : zs.length ≤ 1099511627776) (h : HasI .i32 w v zs) :
    Calls Tryd.prog 31 #[v] w fun e W' => ∃ v, e = .returned v ∧ W'.ownsRow w.heap.size 81 1 v (sixs zs).length ((sixs zs).map (Value.int .u16)) ∧ Below w.heap.size w W' :=
  six_walk zs (encs zs) rfl v w (by omega) h
/-- **The document's Sixteen of any runes.** -/
theorem rsix_calls (v : Value) (zs : List Int) (w : World) (hl : zs.length ≤ 1099511627776) (h : HasI .i32 w v zs) :
    Calls Tryd.prog 34 #[v] w fun e W' => ∃ v, e = .returned v ∧ W'.ownsRow w.heap.size 81 1 v (sixs zs).length ((sixs zs).map (Value.int .u16)) ∧ Below w.heap.size w W' := by
  rcases h with ⟨rfl, a, cap, rfl⟩ | ⟨hp, b, off, cap, rfl, hcap, hx⟩
  · exact rsix_walk [] a 0 0 cap w (fun h => by simp at h) (by simp) (fun j hj => by simp at hj)
  · exact rsix_walk zs _ b off cap w (fun _ => rfl) (by omega) hx

end Go.Proofs.YtjleehhgcpdapaaDoor.U
