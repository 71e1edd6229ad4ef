/- What is proved here: contracts of the program's functions 'first' and 'next' of package utf: what they return for any bytes. -/
import Derived.Test.YtmfhhpacojodkaaGreatDoorMath
import Derived.Test.YtmfhhpacojodkaaGreatDoorShelf
import Derived.WalkKit
import Derived.OwnWalk
import Derived.Below
namespace Go.Proofs.YtmfhhpacojodkaaGreatDoor.U
open Go.RowKit Go.Shelf

theorem ret_tuple3 {a b c a' b' c' : Int} (h1 : a = a') (h2 : b = b') (h3 : c = c') : Ending.returned (.tuple #[.int .i64 a, .int .u8 b, .int .u8 c]) = .returned (.tuple #[.int .i64 a', .int .u8 b', .int .u8 c']) := by rw [h1, h2, h3]

set_option maxRecDepth 100000 in
set_option maxHeartbeats 1000000 in
theorem first_calls (c : Nat) (hc : (c : Int) < 256) (w : World) :
    Calls Tryz.prog 117 #[.int .u8 c] w fun e w' => e = .returned (.tuple #[.int .i64 (lead c), .int .u8 (lo2 c), .int .u8 (hi2 c)]) ∧ w' = w := by
  go_enter Tryz.func117, Tryz.ntmps117
  go_wp2
  all_goals go_ret3
  all_goals refine ⟨ret_tuple3 ?_ ?_ ?_, rfl⟩
  all_goals try simp only [beq_iff_eq, beq_eq_false_iff_ne, ne_eq] at *
  all_goals first | unfold lead | unfold lo2 | unfold hi2
  all_goals repeat' split
  all_goals omega

theorem cell_lt {w : World} {p : Addr} {v : Value} (h : w.cell? p = some v) : p.block < w.heap.size := by
  unfold World.cell? at h
  cases e : w.heap[p.block]? with
  | none => rw [e] at h; simp at h
  | some o => exact (Array.getElem?_eq_some_iff.1 e).1
theorem tabs_below {g k : Nat} {w w' : World} (hT : Lib.Utf8Tabs g k w) (hb : Below w.heap.size w w') : Lib.Utf8Tabs g k w' :=
  ⟨fun c hc => (hb.cell (p := ⟨g, c, none⟩) (cell_lt (hT.1 c hc))).trans (hT.1 c hc), fun i hi => ⟨(hb.cell (p := ⟨k, 2 * i, none⟩) (cell_lt (hT.2 i hi).1)).trans (hT.2 i hi).1, (hb.cell (p := ⟨k, 2 * i + 1, none⟩) (cell_lt (hT.2 i hi).2)).trans (hT.2 i hi).2⟩⟩

theorem bcell {W w1 : World} (hb : Below W.heap.size W w1) : (∀ b o, b < W.heap.size → w1.cell? ⟨b, o, none⟩ = W.cell? ⟨b, o, none⟩) ∧ (∀ b o, b < W.heap.size → w1.frozen? ⟨b, o, none⟩ = W.frozen? ⟨b, o, none⟩) :=
  ⟨fun b o h => hb.cell (p := ⟨b, o, none⟩) h, fun b o h => hb.frozen (p := ⟨b, o, none⟩) h⟩

theorem cs_other {X : World} {a b : Addr} {v : Value} (h : a ≠ b) : (X.setCell a v).cell? b = X.cell? b := by apply World.cell?_setCell_other; exact h
theorem cs_same {X : World} {a : Addr} {v u : Value} (h : X.cell? a = some u) : (X.setCell a v).cell? a = some v := by apply World.cell?_setCell_same; exact h

/-- Three cells of one block, stored one behind the other. -/
theorem three_cells (X : World) (B : Nat) (a b c a0 b0 c0 : Value) (h0 : X.cell? ⟨B, 0, none⟩ = some a0) (h1 : X.cell? ⟨B, 1, none⟩ = some b0) (h2 : X.cell? ⟨B, 2, none⟩ = some c0) :
    (((X.setCell ⟨B, 0, none⟩ a).setCell ⟨B, 1, none⟩ b).setCell ⟨B, 2, none⟩ c).cell? ⟨B, 0, none⟩ = some a ∧ (((X.setCell ⟨B, 0, none⟩ a).setCell ⟨B, 1, none⟩ b).setCell ⟨B, 2, none⟩ c).cell? ⟨B, 1, none⟩ = some b ∧ (((X.setCell ⟨B, 0, none⟩ a).setCell ⟨B, 1, none⟩ b).setCell ⟨B, 2, none⟩ c).cell? ⟨B, 2, none⟩ = some c := by
  refine ⟨?_, ?_, ?_⟩
  · rw [cs_other (by simp), cs_other (by simp)]; exact cs_same h0
  · rw [cs_other (by simp)]; exact cs_same (u := b0) (by rw [cs_other (by simp)]; exact h1)
  · exact cs_same (u := c0) (by rw [cs_other (by simp), cs_other (by simp)]; exact h2)

/-- What memory holds while 'next' reads: the result's box, and the piece behind k bytes. -/
def nextW (w : World) (k : Nat) : World := (w.alloc (.cells #[.int .i32 0, .int .i64 0, .bool false] 125)).alloc (.cells #[.int .i32 65533, .int .i64 k, .bool false] 125)

set_option maxRecDepth 100000 in
set_option maxHeartbeats 1000000 in
theorem next_zero (bs : List UInt8) (b off cap : Nat) (w : World) (h0 : (0 : Int) < (bs.length : Int)) (hn : lead (byteAt bs 0) = 0)
    (hc : w.cell? ⟨b, off, none⟩ = some (.int .u8 (byteAt bs 0))) :
    Calls Tryz.prog 100 #[.slice (some ⟨b, off, none⟩) bs.length cap] w fun e w' => e = .returned (.agg #[.int .i32 65533, .int .i64 1, .bool false]) ∧ Below w.heap.size w w' := by
  have hb : b < w.heap.size := cell_lt hc
  have c1 : ∀ o1, (w.alloc o1).cell? ⟨b, off, none⟩ = some (.int .u8 (byteAt bs 0)) := fun o1 => (((Below.refl _ w).alloc (Nat.le_refl _) o1).cell (p := ⟨b, off, none⟩) hb).trans hc
  have hlt := byteAt_lt bs 0
  have fc : ∀ w, Calls Tryz.prog 117 #[.int .u8 (byteAt bs 0)] w fun e w' => e = .returned (.tuple #[.int .i64 0, .int .u8 (lo2 (byteAt bs 0)), .int .u8 (hi2 (byteAt bs 0))]) ∧ w' = w := fun w => by
    have := first_calls (byteAt bs 0) (by omega) w; rw [hn] at this; exact this
  have FC : Hid (∀ w, Calls Tryz.prog 117 #[.int .u8 (byteAt bs 0)] w fun e w' => e = .returned (.tuple #[.int .i64 0, .int .u8 (lo2 (byteAt bs 0)), .int .u8 (hi2 (byteAt bs 0))]) ∧ w' = w) := fc
  clear fc hn
  go_enter Tryz.func100, Tryz.ntmps100
  go_wp2
  go_step3
  go_wp2_with (go_at_call 117; refine (FC.out _).mono ?_; rintro e w' ⟨rfl, rfl⟩)
  go_step3
  go_wp2
  go_loopw [4, 5] (fun lo hi wr => lo = .int .u8 (lo2 (byteAt bs 0)) ∧ hi = .int .u8 (hi2 (byteAt bs 0)) ∧ wr = nextW w 1) (fun _ _ _ => 0)
  case atStart => exact ⟨rfl, rfl, rfl⟩
  case round =>
    obtain ⟨rfl, rfl, rfl⟩ := hrel
    unfold nextW
    go_wp2
    rw [Exit.noGoto_ret]
    refine bodyPost_ret (v := .agg #[.int .i32 65533, .int .i64 1, .bool false]) (by simp [results, Tryz.results100, go_sem]) rfl ⟨rfl, ?_⟩
    exact ((Below.refl _ w).alloc (Nat.le_refl _) _).alloc (by simp) _

/-- What stands behind a reading of k bytes: char and open. -/
def nextV (w : World) (r : Int) (k : Nat) (o : Bool) : World := (w.alloc (.cells #[.int .i32 r, .int .i64 k, .bool o] 125)).alloc (.cells #[.int .i32 r, .int .i64 k, .bool o] 125)

theorem piece_eq {r r' : Int} {k k' : Nat} {o o' : Bool} (h1 : r = r') (h2 : k = k') (h3 : o = o') : Ending.returned (.agg #[.int .i32 r, .int .i64 (k : Int), .bool o]) = .returned (.agg #[.int .i32 r', .int .i64 (k' : Int), .bool o']) := by rw [h1, h2, h3]
/-- The three ways out. -/
theorem out_open {bs : List UInt8} {k : Nat} (hs : nextN bs = scan bs (lead (byteAt bs 0) - k) k) (hn : k < lead (byteAt bs 0)) (hl : k = bs.length) : nextR bs = 65533 ∧ nextN bs = k ∧ nextOpen bs = true := by
  have e : nextN bs = k := by rw [hs]; exact scan_out (.inr (.inl (by omega)))
  refine ⟨?_, e, ?_⟩
  · unfold nextR nextAll; rw [if_neg]; simp; omega
  · unfold nextOpen; simp; omega
theorem out_bad {bs : List UInt8} {k : Nat} (hs : nextN bs = scan bs (lead (byteAt bs 0) - k) k) (hn : k < lead (byteAt bs 0)) (hl : k < bs.length) (ho : byteAt bs k < loAt bs k ∨ hiAt bs k < byteAt bs k) : nextR bs = 65533 ∧ nextN bs = k ∧ nextOpen bs = false := by
  have e : nextN bs = k := by rw [hs]; exact scan_out (.inr (.inr (by unfold okAt; rcases ho with h | h <;> simp <;> omega)))
  refine ⟨?_, e, ?_⟩
  · unfold nextR nextAll; rw [if_neg]; simp; omega
  · unfold nextOpen; simp; omega
theorem out_all {bs : List UInt8} {k : Nat} (hs : nextN bs = scan bs (lead (byteAt bs 0) - k) k) (hn : k = lead (byteAt bs 0)) : nextR bs = runeOf bs ∧ nextN bs = k ∧ nextOpen bs = false ∧ nextAll bs = true := by
  have e : nextN bs = k := by rw [hs]; exact scan_out (.inl (by omega))
  have ha : nextAll bs = true := by unfold nextAll; simp; omega
  refine ⟨?_, e, ?_, ha⟩
  · unfold nextR; rw [if_pos ha]
  · unfold nextOpen; simp; omega

/-- The first bytes as the model has them. -/
def headB (bs : List UInt8) (n : Nat) : ByteArray := ⟨(bs.take n).toArray⟩
theorem headB_size (bs : List UInt8) (n : Nat) (h : n ≤ bs.length) : (headB bs n).size = n := by
  show (bs.take n).toArray.size = n
  simp; omega
theorem headB_get (bs : List UInt8) (n j : Nat) (h : n ≤ bs.length) (hj : j < n) : ((headB bs n).get! j).toNat = byteAt bs j := by
  have : (headB bs n).get! j = bs[j]?.getD 0 := by
    show ((bs.take n).toArray)[j]! = _
    rw [getElem!_pos (bs.take n).toArray j (by simp; omega)]
    simp [List.getElem_take, List.getElem?_eq_getElem (show j < bs.length by omega)]
  rw [this]; rfl
theorem decodeN_beyond (n b0 b1 b2 b3 c1 c2 c3 : Nat) (h1 : 1 < n → b1 = c1) (h2 : 2 < n → b2 = c2) (h3 : 3 < n → b3 = c3) (hn : lead b0 = n) (h0 : n ≠ 0) : Lib.decodeN n b0 b1 b2 b3 = Lib.decodeN n b0 c1 c2 c3 := by
  rcases lead_cases b0 with ⟨c, e⟩ | ⟨c, c', e⟩ | ⟨c, c', e⟩ | ⟨c, c', e⟩ | ⟨c, c', e⟩ | ⟨c, e⟩ <;> rw [hn] at e <;> subst e
  · unfold Lib.decodeN; rw [if_pos c, if_pos c]
  · exact absurd rfl h0
  · rw [h1 (by omega)]; unfold Lib.decodeN; simp only [show ¬ ((2 : Nat) < 2) by omega, show ¬ ((3 : Nat) < 2) by omega, false_and, and_false, if_false]
  · rw [h1 (by omega), h2 (by omega)]; unfold Lib.decodeN; simp only [show ¬ ((3 : Nat) < 3) by omega, false_and, and_false, if_false]
  · rw [h1 (by omega), h2 (by omega), h3 (by omega)]
  · exact absurd rfl h0
theorem decodeGo_head {bs : List UInt8} (hl : lead (byteAt bs 0) ≤ bs.length) (h : nextAll bs = true) : Lib.decodeGo (headB bs (lead (byteAt bs 0))) = (runeOf bs, lead (byteAt bs 0)) := by
  have hn : nextN bs = lead (byteAt bs 0) := by simpa [nextAll] using h
  have h0 : lead (byteAt bs 0) ≠ 0 := by have := nextN_pos bs; omega
  have hs := headB_size bs _ hl
  unfold Lib.decodeGo
  rw [if_neg (by omega), Lib.decode_at, hs, Nat.sub_zero, ← decode_all h]
  rw [headB_get bs _ 0 hl (by omega)]
  exact decodeN_beyond _ _ _ _ _ _ _ _ (fun a => headB_get bs _ 1 hl a) (fun a => headB_get bs _ 2 hl a) (fun a => headB_get bs _ 3 hl a) rfl h0

theorem decode_calls (bs : List UInt8) (b off cap : Nat) (w : World) (hl : lead (byteAt bs 0) ≤ bs.length) (ha : nextAll bs = true) (hT : Lib.Utf8Tabs (Tryz.lays32_ren.g 2) (Tryz.lays32_ren.g 3) w)
    (hc : ∀ j, j < bs.length → w.cell? ⟨b, off + j, none⟩ = some (.int .u8 (byteAt bs j))) :
    Calls Tryz.prog 118 #[.slice (some ⟨b, off, none⟩) (lead (byteAt bs 0)) cap] w fun e w' => e = .returned (.tuple #[.int .i32 (runeOf bs), .int .i64 (lead (byteAt bs 0))]) ∧ Below w.heap.size w w' := by
  have h := Any7.utf8_DecodeRune Tryz.lays32 (headB bs (lead (byteAt bs 0))) b off cap w hT (fun j hj => by
    rw [headB_size bs _ hl] at hj
    rw [headB_get bs _ j hl hj]
    exact hc j (by omega))
  rw [headB_size bs _ hl, decodeGo_head hl ha] at h
  exact h

set_option maxRecDepth 100000 in
set_option maxHeartbeats 2000000 in
theorem next_pos (bs : List UInt8) (b off cap : Nat) (w : World) (h0 : (0 : Int) < (bs.length : Int)) (hl : (bs.length : Int) ≤ 140737488355328) (hcap : (bs.length : Int) ≤ (cap : Int)) (hT : Lib.Utf8Tabs (Tryz.lays32_ren.g 2) (Tryz.lays32_ren.g 3) w)
    (hn : lead (byteAt bs 0) ≠ 0) (hc : ∀ j, j < bs.length → w.cell? ⟨b, off + j, none⟩ = some (.int .u8 (byteAt bs j))) :
    Calls Tryz.prog 100 #[.slice (some ⟨b, off, none⟩) bs.length cap] w fun e w' => e = .returned (.agg #[.int .i32 (nextR bs), .int .i64 (nextN bs), .bool (nextOpen bs)]) ∧ Below w.heap.size w w' := by
  have c0 : w.cell? ⟨b, off, none⟩ = some (.int .u8 (byteAt bs 0)) := hc 0 (by omega)
  have hb : b < w.heap.size := cell_lt c0
  have c1 : ∀ o1, (w.alloc o1).cell? ⟨b, off, none⟩ = some (.int .u8 (byteAt bs 0)) := fun o1 => (((Below.refl _ w).alloc (Nat.le_refl _) o1).cell (p := ⟨b, off, none⟩) hb).trans c0
  have HC : Hid (∀ j, j < bs.length → w.cell? ⟨b, off + j, none⟩ = some (.int .u8 (byteAt bs j))) := hc
  have HT : Hid (Lib.Utf8Tabs (Tryz.lays32_ren.g 2) (Tryz.lays32_ren.g 3) w) := hT
  have hlt := byteAt_lt bs 0
  have hL := lead_le (byteAt bs 0)
  have hs1 : Hid (nextN bs = scan bs (lead (byteAt bs 0) - 1) 1) := nextN_scan bs hn
  have HN : Hid (lead (byteAt bs 0) ≠ 0) := hn
  have hn1 : 1 ≤ lead (byteAt bs 0) := by omega
  clear hc hT c0 hn
  go_enter Tryz.func100, Tryz.ntmps100
  go_wp2
  go_step3
  go_wp2_with (go_at_call 117; refine (first_calls _ (by omega) _).mono ?_; rintro e w' ⟨rfl, rfl⟩)
  go_step3
  go_wp2
  go_loopw [4, 5] (fun lo hi wr => ∃ k : Nat, 1 ≤ k ∧ k ≤ lead (byteAt bs 0) ∧ k ≤ bs.length ∧ lo = .int .u8 (loAt bs k) ∧ hi = .int .u8 (hiAt bs k) ∧ wr = nextW w k ∧ Hid (nextN bs = scan bs (lead (byteAt bs 0) - k) k))
    (fun _ _ wr => 4 - (intOf ((wr.cell? ⟨w.heap.size + 1, 1, none⟩).getD (.int .i64 0))).toNat)
  case atStart => exact ⟨1, by omega, by omega, by omega, rfl, rfl, rfl, hs1⟩
  case round =>
    obtain ⟨k, hk1, hkn, hkl, rfl, rfl, rfl, hs⟩ := hrel
    unfold nextW
    by_cases hlt2 : k < lead (byteAt bs 0)
    · by_cases hlen : k < bs.length
      · have ck : ∀ o1 o2, ((w.alloc o1).alloc o2).cell? ⟨b, off + k, none⟩ = some (.int .u8 (byteAt bs k)) := fun o1 o2 => ((((Below.refl _ w).alloc (Nat.le_refl _) o1).alloc (by simp) o2).cell (p := ⟨b, off + k, none⟩) hb).trans (HC.out k hlen)
        have hke : ((k : Int) == (bs.length : Int)) = false := beq_eq_false_iff_ne.2 (by omega)
        by_cases hlo : byteAt bs k < loAt bs k
        · obtain ⟨e1, e2, e3⟩ := out_bad hs.out hlt2 hlen (.inl hlo)
          have E : Hid (nextR bs = 65533 ∧ nextN bs = k ∧ nextOpen bs = false) := ⟨e1, e2, e3⟩
          clear e1 e2 e3
          go_wp2
          rw [Exit.noGoto_ret]
          refine bodyPost_ret (v := .agg #[.int .i32 65533, .int .i64 k, .bool false]) (by simp [results, Tryz.results100, go_sem]) rfl ⟨piece_eq (by rw [E.out.1]; rfl) E.out.2.1.symm E.out.2.2.symm, ?_⟩
          exact ((Below.refl _ w).alloc (Nat.le_refl _) _).alloc (by simp) _
        · by_cases hhi : hiAt bs k < byteAt bs k
          · obtain ⟨e1, e2, e3⟩ := out_bad hs.out hlt2 hlen (.inr hhi)
            have E : Hid (nextR bs = 65533 ∧ nextN bs = k ∧ nextOpen bs = false) := ⟨e1, e2, e3⟩
            clear e1 e2 e3
            go_wp2
            rw [Exit.noGoto_ret]
            refine bodyPost_ret (v := .agg #[.int .i32 65533, .int .i64 k, .bool false]) (by simp [results, Tryz.results100, go_sem]) rfl ⟨piece_eq (by rw [E.out.1]; rfl) E.out.2.1.symm E.out.2.2.symm, ?_⟩
            exact ((Below.refl _ w).alloc (Nat.le_refl _) _).alloc (by simp) _
          · have hs2 : Hid (nextN bs = scan bs (lead (byteAt bs 0) - (k + 1)) (k + 1)) := hs.out.trans (scan_on hlt2 hlen (by unfold okAt; simp; omega))
            go_wp2
            go_roundw
            case rel => exact ⟨k + 1, by omega, by omega, by omega, by rw [loAt_two bs k hk1]; rfl, by rw [hiAt_two bs k hk1]; rfl, by go_num, hs2⟩
            case measure => simp [intOf]; omega
      · obtain rfl : k = bs.length := by omega
        obtain ⟨e1, e2, e3⟩ := out_open hs.out hlt2 rfl
        have E : Hid (nextR bs = 65533 ∧ nextN bs = bs.length ∧ nextOpen bs = true) := ⟨e1, e2, e3⟩
        clear e1 e2 e3
        go_wp2
        rw [Exit.noGoto_ret]
        refine bodyPost_ret (v := .agg #[.int .i32 65533, .int .i64 bs.length, .bool true]) (by simp [results, Tryz.results100, go_sem]) rfl ⟨piece_eq (by rw [E.out.1]; rfl) E.out.2.1.symm E.out.2.2.symm, ?_⟩
        exact ((Below.refl _ w).alloc (Nat.le_refl _) _).alloc (by simp) _
    · obtain rfl : k = lead (byteAt bs 0) := by omega
      obtain ⟨e1, e2, e3, e4⟩ := out_all hs.out rfl
      have E : Hid (nextR bs = runeOf bs ∧ nextN bs = lead (byteAt bs 0) ∧ nextOpen bs = false) := ⟨e1, e2, e3⟩
      clear e1 e2 e3
      have E4 : Hid (nextAll bs = true) := e4
      clear e4
      have hB : ∀ o1 o2, Below w.heap.size w ((w.alloc o1).alloc o2) := fun o1 o2 => ((Below.refl _ w).alloc (Nat.le_refl _) o1).alloc (by simp) o2
      go_wp2_with (go_at_call 118; refine (decode_calls bs _ _ _ _ hkl E4.out (tabs_below HT.out (hB _ _)) (fun j hj => ((hB _ _).cell (p := ⟨b, off + j, none⟩) hb).trans (HC.out j hj))).mono ?_; rintro e w1 ⟨rfl, hb1⟩; obtain ⟨hc1, hf1⟩ := bcell hb1; have hz : w.heap.size + 1 < w1.heap.size := by have := hb1.size; simp at this; omega)
      rw [Exit.noGoto_ret]
      obtain ⟨r0, r1, r2⟩ := three_cells (w1.setCell ⟨w.heap.size + 1, 0, none⟩ (.int .i32 (runeOf bs))) w.heap.size (.int .i32 (runeOf bs)) (.int .i64 (lead (byteAt bs 0))) (.bool false) (.int .i32 0) (.int .i64 0) (.bool false)
        (by rw [cs_other (by simp), hc1 _ _ (by simp; omega)]; simp) (by rw [cs_other (by simp), hc1 _ _ (by simp; omega)]; simp) (by rw [cs_other (by simp), hc1 _ _ (by simp; omega)]; simp)
      refine bodyPost_ret (v := .agg #[.int .i32 (runeOf bs), .int .i64 (lead (byteAt bs 0)), .bool false]) (by simp [results, Tryz.results100, go_sem, r0, r1, r2]) rfl ⟨piece_eq (by rw [E.out.1]) E.out.2.1.symm E.out.2.2.symm, ?_⟩
      have hB1 : Below w.heap.size w w1 := (hB _ _).trans (hb1.mono (by simp; omega))
      repeat (first | exact hB1 | refine Below.setCell ?_ (by simp) _)

/-- **'next' of any bytes that are not empty.** -/
theorem next_calls (bs : List UInt8) (b off cap : Nat) (w : World) (h0 : 0 < bs.length) (hl : bs.length ≤ 140737488355328) (hcap : bs.length ≤ cap) (hT : Lib.Utf8Tabs (Tryz.lays32_ren.g 2) (Tryz.lays32_ren.g 3) w)
    (hc : ∀ j, j < bs.length → w.cell? ⟨b, off + j, none⟩ = some (.int .u8 (byteAt bs j))) :
    Calls Tryz.prog 100 #[.slice (some ⟨b, off, none⟩) bs.length cap] w fun e w' => e = .returned (.agg #[.int .i32 (nextR bs), .int .i64 (nextN bs), .bool (nextOpen bs)]) ∧ Below w.heap.size w w' := by
  by_cases hn : lead (byteAt bs 0) = 0
  · have e2 : nextN bs = 1 := nextN_zero bs hn
    have e1 : nextR bs = 65533 := by unfold nextR nextAll; rw [if_neg]; simp; omega
    have e3 : nextOpen bs = false := by unfold nextOpen; simp; omega
    rw [e1, e2, e3]
    exact next_zero bs b off cap w (by omega) hn (hc 0 (by omega))
  · exact next_pos bs b off cap w (by omega) (by omega) (by omega) hT hn hc

end Go.Proofs.YtmfhhpacojodkaaGreatDoor.U
