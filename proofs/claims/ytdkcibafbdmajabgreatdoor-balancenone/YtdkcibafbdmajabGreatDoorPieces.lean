/- What is proved here: the contract of the document's own sieveref01.Pieces: the runes of any bytes, with their places, how many bytes each was made of and whether they were right. -/
import Derived.Test.YtdkcibafbdmajabGreatDoorBun14
import Derived.Test.YtdkcibafbdmajabGreatDoorBun15
namespace Go.Proofs.YtdkcibafbdmajabGreatDoor.U
open Go.RowKit Go.Shelf

theorem infoPiece : (Tryz.prog.info? 124).map (fun i => (i.zero, i.size, i.bytes)) = some (some (.agg #[.int .i32 0, .int .i64 0, .int .i64 0, .bool false]), 4, 32) := by kernel_rfl
/-- A piece's cells. -/
def pcCells (p : Pc) : List Value := [.int .i32 (p.r : Int), .int .i64 (p.pos : Int), .int .i64 (p.sz : Int), .bool p.ok]
theorem pcCells_len (l : List Pc) : (l.flatMap pcCells).length = l.length * 4 := by
  induction l with
  | nil => rfl
  | cons p l ih => simp [List.flatMap_cons, pcCells, ih]; omega
theorem cell_four_new (W : World) (a b c d : Value) (t : TypeId) (n : Nat) (hn : n = W.heap.size) : ∀ j u, [a, b, c, d][j]? = some u → (W.alloc (.cells #[a, b, c, d] t)).cell? ((⟨n, 0, none⟩ : Addr).add j) = some u := by
  intro j u h
  subst hn
  have ea : (⟨W.heap.size, 0, none⟩ : Addr).add j = ⟨W.heap.size, j, none⟩ := by unfold Addr.add; split <;> simp_all
  rw [ea]
  have hb := World.alloc_heap_new W (.cells #[a, b, c, d] t)
  simp only [World.cell?, hb]
  simpa using h
theorem flat_get (l : List Pc) (n i : Nat) (hn : n < l.length) (hi : i < 4) : (l.flatMap pcCells)[n * 4 + i]? = (pcCells l[n])[i]? := by
  induction l generalizing n with
  | nil => simp at hn
  | cons p l ih =>
    cases n with
    | zero => simp only [List.flatMap_cons, List.getElem_cons_zero]; rw [Nat.zero_mul, Nat.zero_add, List.getElem?_append_left (by simp [pcCells]; omega)]
    | succ n =>
      simp only [List.flatMap_cons, List.getElem_cons_succ]
      rw [List.getElem?_append_right (by simp [pcCells]; omega)]
      have : (n + 1) * 4 + i - (pcCells p).length = n * 4 + i := by simp [pcCells]; omega
      rw [this]
      exact ih n (by simpa using hn)
/-- What a list of pieces holds in memory. -/
theorem owns_piece {W : World} {base : Nat} {e : TypeId} {l : List Pc} {a : Option Addr} {cap : Nat} (h : W.ownsRow base e 4 (.slice a l.length cap) l.length (l.flatMap pcCells)) (n : Nat) (hn : n < l.length) :
    ∃ g, a = some ⟨g, 0, none⟩ ∧ base ≤ g ∧ g < W.heap.size ∧ W.cell? ⟨g, n * 4, none⟩ = some (.int .i32 (l[n].r : Int)) ∧ W.cell? ⟨g, n * 4 + 1, none⟩ = some (.int .i64 (l[n].pos : Int)) ∧ W.cell? ⟨g, n * 4 + 2, none⟩ = some (.int .i64 (l[n].sz : Int)) ∧ W.cell? ⟨g, n * 4 + 3, none⟩ = some (.bool l[n].ok) := by
  rcases h.2 with ⟨_, h0⟩ | ⟨g, cap', cur, hv, hb, hg, _⟩
  · omega
  · cases hv
    refine ⟨g, rfl, hb, lt_of_block hg, ?_, ?_, ?_, ?_⟩
    · have := flat_get l n 0 hn (by omega); rw [h.cellAt _ (by omega)]; simpa [pcCells] using this
    · have := flat_get l n 1 hn (by omega); rw [h.cellAt _ (by omega)]; simpa [pcCells] using this
    · have := flat_get l n 2 hn (by omega); rw [h.cellAt _ (by omega)]; simpa [pcCells] using this
    · have := flat_get l n 3 hn (by omega); rw [h.cellAt _ (by omega)]; simpa [pcCells] using this

/-- What the round's end needs: the row, the piece's own block, the frame. -/
theorem piece_end {w wr w1 w4 : World} {v : Value} {n : Nat} {xs : List Value} {x1 x2 : Array Value} {t1 t2 : TypeId} (hrow : wr.ownsRow w.heap.size 124 4 v n xs) (hB : Below w.heap.size w wr) (hb1 : Below wr.heap.size wr w1)
    (hg : ((w1.alloc (.cells x1 t1)).alloc (.cells x2 t2)).grownBy w4 v.ownBlock) :
    Below w.heap.size w w4 ∧ (∀ o, w4.cell? ⟨w1.heap.size, o, none⟩ = ((w1.alloc (.cells x1 t1)).alloc (.cells x2 t2)).cell? ⟨w1.heap.size, o, none⟩) := by
  have s1 := hB.size
  have s2 := hb1.size
  refine ⟨?_, fun o => ?_⟩
  · refine Below.grown (((hB.trans (hb1.mono s1)).alloc (by omega) _).alloc (by simp; omega) _) hg (by simp; omega) (fun k hk => (hrow.lt k hk).1)
  · exact cell_of_block (hg.block w1.heap.size (by simp; omega) (fun e => by have := (hrow.lt _ e.symm).2; omega))

set_option maxRecDepth 100000 in
set_option maxHeartbeats 4000000 in
theorem pieces_pos (bs : List UInt8) (b off cap : Nat) (w : World) (hl : (bs.length : Int) ≤ 4398046511104) (hcap : (bs.length : Int) ≤ (cap : Int))
    (hc : ∀ j, j < bs.length → w.cell? ⟨b, off + j, none⟩ = some (.int .u8 (byteAt bs j))) :
    Calls Tryz.prog 83 #[.slice (some ⟨b, off, none⟩) bs.length cap] w fun e W' => ∃ v, e = .returned v ∧ W'.ownsRow w.heap.size 124 4 v (pcs bs).length ((pcs bs).flatMap pcCells) ∧ Below w.heap.size w W' := by
  obtain ⟨i0, hi, hz0, hz1, hz2⟩ := info_parts infoPiece
  have HC : Hid (∀ j, j < bs.length → w.cell? ⟨b, off + j, none⟩ = some (.int .u8 (byteAt bs j))) := hc
  clear hc
  go_enter Tryz.func83, Tryz.ntmps83
  go_wp2
  go_loopw [3, 4] (fun v i wr => ∃ (k : Nat) (pre : List Pc), i = .int .i64 k ∧ k ≤ bs.length ∧ pre.length ≤ k ∧ Hid (pcs bs = pre ++ pcsF bs.length k (bs.drop k)) ∧ wr.ownsRow w.heap.size 124 4 v pre.length (pre.flatMap pcCells) ∧ Below w.heap.size w wr) (fun _ i _ => bs.length - (intOf i).toNat)
  case atStart => exact ⟨0, [], rfl, by omega, by simp, rfl, World.ownsRow_nil _ _ _ _, Below.refl _ _⟩
  case round =>
    rename_i v _
    obtain ⟨k, pre, rfl, hk, hpk, hx, hrow, hB⟩ := hrel
    by_cases hlt : k < bs.length
    · have hp1 := nextN_pos (bs.drop k)
      have hp2 : k + nextN (bs.drop k) ≤ bs.length := by have := nextN_len (bs.drop k) (by simp; omega); simp at this; omega
      have hst : Hid (pcs bs = (pre ++ [⟨nextR (bs.drop k), k, nextN (bs.drop k), nextAll (bs.drop k)⟩]) ++ pcsF bs.length (k + nextN (bs.drop k)) (bs.drop (k + nextN (bs.drop k)))) := by show pcs bs = _; rw [hx.out, pcs_step bs k hlt]; simp
      have s1 := hB.size
      have hB' : Hid (Below w.heap.size w wr) := hB
      have GG : Hid (∀ w', Hid (Below w.heap.size w w') → Calls Tryz.prog 106 #[.slice (some ⟨b, off + k, none⟩) (bs.length - k) (cap - k)] w' fun e w'' => e = .returned (.tuple #[.int .i64 (glen (bs.drop k)), .bool (nextAll (bs.drop k))]) ∧ Below w'.heap.size w' w'') :=
        fun w' hb => good_at bs b off cap k w' hlt (by omega) (fun j h => (hb.out.cell (p := ⟨b, off + j, none⟩) (cell_lt (HC.out j h))).trans (HC.out j h))
      clear hx
      by_cases hz : lead (byteAt (bs.drop k) 0) = 0
      · have e1 : glen (bs.drop k) = 0 := by unfold glen; rw [if_pos hz]
        have e2 : nextAll (bs.drop k) = false := by unfold nextAll; rw [nextN_zero _ hz, hz]; rfl
        have e3 : nextN (bs.drop k) = 1 := nextN_zero _ hz
        have e4 : nextR (bs.drop k) = 65533 := by unfold nextR; rw [e2]; rfl
        rw [e1, e2] at GG
        rw [e2, e3, e4] at hst
        rw [e3] at hp2
        have GC := GG
        clear GG e1 e2 e3 e4 hz hp1
        go_wp2_with (first | (go_at_call 106; refine (GC.out _ hB').mono ?_; rintro e w1 ⟨rfl, hb1⟩) | (at_builtin; refine wpList_append_own _ rfl _ _ 121 rfl w.heap.size 124 i0 (.agg #[.int .i32 0, .int .i64 0, .int .i64 0, .bool false]) 4 32 Tryz.underlying121 hi hz0 hz1 hz2 rfl (by decide) _ _ _ rfl (((owns_below hrow hb1).alloc _).alloc _) ⟨w1.heap.size + 1, 0, none⟩ 1 1 [.int .i32 65533, .int .i64 k, .int .i64 1, .bool false] rfl rfl (cell_four_new _ _ _ _ _ _ _ (by simp)) (fun x hx => by simp at hx; rcases hx with rfl | rfl | rfl | rfl <;> rfl) (by unfold maxLen; omega) (by omega) (by have := hb1.size; simp; omega) ?_; intro v' w4 hown' hgrow _; obtain ⟨hB4, hc4⟩ := piece_end hrow hB hb1 hgrow; have hs4 := hc4 2))
        go_roundw
        case rel => exact ⟨k + 1, pre ++ [⟨65533, k, 1, false⟩], by go_num, by omega, by simp; omega, hst, by simpa [pcCells] using hown', hB4⟩
        case measure => simp [intOf]; omega
      · have e1 : glen (bs.drop k) = nextN (bs.drop k) := by unfold glen nextN; rw [if_neg hz, if_neg hz]
        cases hall : nextAll (bs.drop k) with
        | false =>
          have e4 : nextR (bs.drop k) = 65533 := by unfold nextR; rw [hall]; rfl
          rw [e1, hall] at GG
          rw [hall, e4] at hst
          have GC := GG
          have hn0 : ((nextN (bs.drop k) : Int) == 0) = false := beq_eq_false_iff_ne.2 (by omega)
          clear GG e1 e4 hz hall
          go_wp2_with (first | (go_at_call 106; refine (GC.out _ hB').mono ?_; rintro e w1 ⟨rfl, hb1⟩) | (at_builtin; refine wpList_append_own _ rfl _ _ 121 rfl w.heap.size 124 i0 (.agg #[.int .i32 0, .int .i64 0, .int .i64 0, .bool false]) 4 32 Tryz.underlying121 hi hz0 hz1 hz2 rfl (by decide) _ _ _ rfl (((owns_below hrow hb1).alloc _).alloc _) ⟨w1.heap.size + 1, 0, none⟩ 1 1 [.int .i32 65533, .int .i64 k, .int .i64 (nextN (bs.drop k)), .bool false] rfl rfl (cell_four_new _ _ _ _ _ _ _ (by simp)) (fun x hx => by simp at hx; rcases hx with rfl | rfl | rfl | rfl <;> rfl) (by unfold maxLen; omega) (by omega) (by have := hb1.size; simp; omega) ?_; intro v' w4 hown' hgrow _; obtain ⟨hB4, hc4⟩ := piece_end hrow hB hb1 hgrow; have hs4 := hc4 2))
          go_roundw
          case rel => exact ⟨k + nextN (bs.drop k), pre ++ [⟨65533, k, nextN (bs.drop k), false⟩], by go_num, by omega, by simp; omega, hst, by simpa [pcCells] using hown', hB4⟩
          case measure => simp [intOf]; omega
        | true =>
          have e3 : nextN (bs.drop k) = lead (byteAt (bs.drop k) 0) := by simpa [nextAll] using hall
          have e4 : nextR (bs.drop k) = prF (bs.drop k) (lead (byteAt (bs.drop k) 0) - 1) := by rw [prF_final _ hz]; unfold nextR; rw [hall]; rfl
          have hL := lead_le (byteAt (bs.drop k) 0)
          have hcases : lead (byteAt (bs.drop k) 0) = 1 ∨ lead (byteAt (bs.drop k) 0) = 2 ∨ lead (byteAt (bs.drop k) 0) = 3 ∨ lead (byteAt (bs.drop k) 0) = 4 := by omega
          have hpb := prF_lt (bs.drop k)
          have hmk : maskOf (bs.drop k) = prF (bs.drop k) 0 := rfl
          rw [e1, hall, e3] at GG
          rw [hall, e3, e4] at hst
          rw [e3] at hp2
          have HPB : Hid (∀ m, m + 1 < lead (byteAt (bs.drop k) 0) → prF (bs.drop k) m < 32768) := hpb
          have hlt0 := byteAt_lt (bs.drop k) 0
          clear e1 e3 e4 hall hz hp1 hpb hL
          rcases hcases with e | e | e | e
          · rw [e] at GG hst hp2 HPB
            have hm0 : Hid (prF (bs.drop k) 0 = byteAt (bs.drop k) 0) := by show prF (bs.drop k) 0 = _; unfold prF maskOf; rw [e]; rfl
            have GC := GG
            clear GG hmk e
            go_wp2_with (go_at_call 106; refine (GC.out _ hB').mono ?_; rintro e w1 ⟨rfl, hb1⟩; have hcj : Hid (∀ o j, j < bs.length → (w1.alloc o).cell? ⟨b, off + j, none⟩ = some (.int .u8 (byteAt bs j))) := fun o j hj => (((hB.trans (hb1.mono s1)).alloc (by have := hb1.size; omega) o).cell (p := ⟨b, off + j, none⟩) (cell_lt (HC.out j hj))).trans (HC.out j hj); have hck : ∀ o, (w1.alloc o).cell? ⟨b, off + k, none⟩ = some (.int .u8 (byteAt (bs.drop k) 0)) := fun o => by rw [byteAt_drop]; exact hcj.out o k hlt)
            go_loop [8, 9] (fun r i => ∃ m : Nat, m + 1 ≤ 1 ∧ i = .int .i64 ((m + 1 : Nat) : Int) ∧ r = .int .i32 (prF (bs.drop k) m)) (fun _ i => 4 - (intOf i).toNat)
            case atStart => exact ⟨0, by omega, rfl, by rw [hm0.out]⟩
            case round =>
              obtain ⟨m, hm, rfl, rfl⟩ := hrel
              by_cases hm1 : m + 1 < 1
              · omega
              · obtain rfl : m = 0 := by omega
                go_wp2_with (at_builtin; refine wpList_append_own _ rfl _ _ 121 rfl w.heap.size 124 i0 (.agg #[.int .i32 0, .int .i64 0, .int .i64 0, .bool false]) 4 32 Tryz.underlying121 hi hz0 hz1 hz2 rfl (by decide) _ _ _ rfl (((owns_below hrow hb1).alloc _).alloc _) ⟨w1.heap.size + 1, 0, none⟩ 1 1 [.int .i32 (prF (bs.drop k) 0), .int .i64 k, .int .i64 1, .bool true] rfl rfl (cell_four_new _ _ _ _ _ _ _ (by simp)) (fun x hx => by simp at hx; rcases hx with rfl | rfl | rfl | rfl <;> rfl) (by unfold maxLen; omega) (by omega) (by have := hb1.size; simp; omega) ?_; intro v' w4 hown' hgrow _; obtain ⟨hB4, hc4⟩ := piece_end hrow hB hb1 hgrow; have hs4 := hc4 2)
                go_roundw
                case rel => exact ⟨k + 1, pre ++ [⟨prF (bs.drop k) 0, k, 1, true⟩], by go_num, by omega, by simp; omega, hst, by simpa [pcCells] using hown', hB4⟩
                case measure => simp [intOf]; omega
          · rw [e] at GG hst hp2 HPB
            have hm0 : Hid (prF (bs.drop k) 0 = byteAt (bs.drop k) 0 % 32) := by show prF (bs.drop k) 0 = _; unfold prF maskOf; rw [e]; rfl
            have GC := GG
            clear GG hmk e
            go_wp2_with (go_at_call 106; refine (GC.out _ hB').mono ?_; rintro e w1 ⟨rfl, hb1⟩; have hcj : Hid (∀ o j, j < bs.length → (w1.alloc o).cell? ⟨b, off + j, none⟩ = some (.int .u8 (byteAt bs j))) := fun o j hj => (((hB.trans (hb1.mono s1)).alloc (by have := hb1.size; omega) o).cell (p := ⟨b, off + j, none⟩) (cell_lt (HC.out j hj))).trans (HC.out j hj); have hck : ∀ o, (w1.alloc o).cell? ⟨b, off + k, none⟩ = some (.int .u8 (byteAt (bs.drop k) 0)) := fun o => by rw [byteAt_drop]; exact hcj.out o k hlt)
            go_loop [8, 9] (fun r i => ∃ m : Nat, m + 1 ≤ 2 ∧ i = .int .i64 ((m + 1 : Nat) : Int) ∧ r = .int .i32 (prF (bs.drop k) m)) (fun _ i => 4 - (intOf i).toNat)
            case atStart => exact ⟨0, by omega, rfl, by rw [hm0.out]; go_num⟩
            case round =>
              obtain ⟨m, hm, rfl, rfl⟩ := hrel
              by_cases hm1 : m + 1 < 2
              · have hpm := HPB.out m (by omega)
                have hbm := byteAt_lt (bs.drop k) (m + 1)
                have hcm : ∀ o, (w1.alloc o).cell? ⟨b, off + (k + (m + 1)), none⟩ = some (.int .u8 (byteAt (bs.drop k) (m + 1))) := fun o => by rw [byteAt_drop]; exact hcj.out o (k + (m + 1)) (by omega)
                go_wp2
                go_round
                case rel => exact ⟨m + 1, by omega, by go_num, by show _ = Value.int .i32 ((prF (bs.drop k) m * 64 + byteAt (bs.drop k) (m + 1) % 64 : Nat) : Int); go_num⟩
                case measure => simp [intOf]; omega
              · obtain rfl : m = 1 := by omega
                go_wp2_with (at_builtin; refine wpList_append_own _ rfl _ _ 121 rfl w.heap.size 124 i0 (.agg #[.int .i32 0, .int .i64 0, .int .i64 0, .bool false]) 4 32 Tryz.underlying121 hi hz0 hz1 hz2 rfl (by decide) _ _ _ rfl (((owns_below hrow hb1).alloc _).alloc _) ⟨w1.heap.size + 1, 0, none⟩ 1 1 [.int .i32 (prF (bs.drop k) 1), .int .i64 k, .int .i64 2, .bool true] rfl rfl (cell_four_new _ _ _ _ _ _ _ (by simp)) (fun x hx => by simp at hx; rcases hx with rfl | rfl | rfl | rfl <;> rfl) (by unfold maxLen; omega) (by omega) (by have := hb1.size; simp; omega) ?_; intro v' w4 hown' hgrow _; obtain ⟨hB4, hc4⟩ := piece_end hrow hB hb1 hgrow; have hs4 := hc4 2)
                go_roundw
                case rel => exact ⟨k + 2, pre ++ [⟨prF (bs.drop k) 1, k, 2, true⟩], by go_num, by omega, by simp; omega, hst, by simpa [pcCells] using hown', hB4⟩
                case measure => simp [intOf]; omega
          · rw [e] at GG hst hp2 HPB
            have hm0 : Hid (prF (bs.drop k) 0 = byteAt (bs.drop k) 0 % 16) := by show prF (bs.drop k) 0 = _; unfold prF maskOf; rw [e]; rfl
            have GC := GG
            clear GG hmk e
            go_wp2_with (go_at_call 106; refine (GC.out _ hB').mono ?_; rintro e w1 ⟨rfl, hb1⟩; have hcj : Hid (∀ o j, j < bs.length → (w1.alloc o).cell? ⟨b, off + j, none⟩ = some (.int .u8 (byteAt bs j))) := fun o j hj => (((hB.trans (hb1.mono s1)).alloc (by have := hb1.size; omega) o).cell (p := ⟨b, off + j, none⟩) (cell_lt (HC.out j hj))).trans (HC.out j hj); have hck : ∀ o, (w1.alloc o).cell? ⟨b, off + k, none⟩ = some (.int .u8 (byteAt (bs.drop k) 0)) := fun o => by rw [byteAt_drop]; exact hcj.out o k hlt)
            go_loop [8, 9] (fun r i => ∃ m : Nat, m + 1 ≤ 3 ∧ i = .int .i64 ((m + 1 : Nat) : Int) ∧ r = .int .i32 (prF (bs.drop k) m)) (fun _ i => 4 - (intOf i).toNat)
            case atStart => exact ⟨0, by omega, rfl, by rw [hm0.out]; go_num⟩
            case round =>
              obtain ⟨m, hm, rfl, rfl⟩ := hrel
              by_cases hm1 : m + 1 < 3
              · have hpm := HPB.out m (by omega)
                have hbm := byteAt_lt (bs.drop k) (m + 1)
                have hcm : ∀ o, (w1.alloc o).cell? ⟨b, off + (k + (m + 1)), none⟩ = some (.int .u8 (byteAt (bs.drop k) (m + 1))) := fun o => by rw [byteAt_drop]; exact hcj.out o (k + (m + 1)) (by omega)
                go_wp2
                go_round
                case rel => exact ⟨m + 1, by omega, by go_num, by show _ = Value.int .i32 ((prF (bs.drop k) m * 64 + byteAt (bs.drop k) (m + 1) % 64 : Nat) : Int); go_num⟩
                case measure => simp [intOf]; omega
              · obtain rfl : m = 2 := by omega
                go_wp2_with (at_builtin; refine wpList_append_own _ rfl _ _ 121 rfl w.heap.size 124 i0 (.agg #[.int .i32 0, .int .i64 0, .int .i64 0, .bool false]) 4 32 Tryz.underlying121 hi hz0 hz1 hz2 rfl (by decide) _ _ _ rfl (((owns_below hrow hb1).alloc _).alloc _) ⟨w1.heap.size + 1, 0, none⟩ 1 1 [.int .i32 (prF (bs.drop k) 2), .int .i64 k, .int .i64 3, .bool true] rfl rfl (cell_four_new _ _ _ _ _ _ _ (by simp)) (fun x hx => by simp at hx; rcases hx with rfl | rfl | rfl | rfl <;> rfl) (by unfold maxLen; omega) (by omega) (by have := hb1.size; simp; omega) ?_; intro v' w4 hown' hgrow _; obtain ⟨hB4, hc4⟩ := piece_end hrow hB hb1 hgrow; have hs4 := hc4 2)
                go_roundw
                case rel => exact ⟨k + 3, pre ++ [⟨prF (bs.drop k) 2, k, 3, true⟩], by go_num, by omega, by simp; omega, hst, by simpa [pcCells] using hown', hB4⟩
                case measure => simp [intOf]; omega
          · rw [e] at GG hst hp2 HPB
            have hm0 : Hid (prF (bs.drop k) 0 = byteAt (bs.drop k) 0 % 8) := by show prF (bs.drop k) 0 = _; unfold prF maskOf; rw [e]; rfl
            have GC := GG
            clear GG hmk e
            go_wp2_with (go_at_call 106; refine (GC.out _ hB').mono ?_; rintro e w1 ⟨rfl, hb1⟩; have hcj : Hid (∀ o j, j < bs.length → (w1.alloc o).cell? ⟨b, off + j, none⟩ = some (.int .u8 (byteAt bs j))) := fun o j hj => (((hB.trans (hb1.mono s1)).alloc (by have := hb1.size; omega) o).cell (p := ⟨b, off + j, none⟩) (cell_lt (HC.out j hj))).trans (HC.out j hj); have hck : ∀ o, (w1.alloc o).cell? ⟨b, off + k, none⟩ = some (.int .u8 (byteAt (bs.drop k) 0)) := fun o => by rw [byteAt_drop]; exact hcj.out o k hlt)
            go_loop [8, 9] (fun r i => ∃ m : Nat, m + 1 ≤ 4 ∧ i = .int .i64 ((m + 1 : Nat) : Int) ∧ r = .int .i32 (prF (bs.drop k) m)) (fun _ i => 4 - (intOf i).toNat)
            case atStart => exact ⟨0, by omega, rfl, by rw [hm0.out]; go_num⟩
            case round =>
              obtain ⟨m, hm, rfl, rfl⟩ := hrel
              by_cases hm1 : m + 1 < 4
              · have hpm := HPB.out m (by omega)
                have hbm := byteAt_lt (bs.drop k) (m + 1)
                have hcm : ∀ o, (w1.alloc o).cell? ⟨b, off + (k + (m + 1)), none⟩ = some (.int .u8 (byteAt (bs.drop k) (m + 1))) := fun o => by rw [byteAt_drop]; exact hcj.out o (k + (m + 1)) (by omega)
                go_wp2
                go_round
                case rel => exact ⟨m + 1, by omega, by go_num, by show _ = Value.int .i32 ((prF (bs.drop k) m * 64 + byteAt (bs.drop k) (m + 1) % 64 : Nat) : Int); go_num⟩
                case measure => simp [intOf]; omega
              · obtain rfl : m = 3 := by omega
                go_wp2_with (at_builtin; refine wpList_append_own _ rfl _ _ 121 rfl w.heap.size 124 i0 (.agg #[.int .i32 0, .int .i64 0, .int .i64 0, .bool false]) 4 32 Tryz.underlying121 hi hz0 hz1 hz2 rfl (by decide) _ _ _ rfl (((owns_below hrow hb1).alloc _).alloc _) ⟨w1.heap.size + 1, 0, none⟩ 1 1 [.int .i32 (prF (bs.drop k) 3), .int .i64 k, .int .i64 4, .bool true] rfl rfl (cell_four_new _ _ _ _ _ _ _ (by simp)) (fun x hx => by simp at hx; rcases hx with rfl | rfl | rfl | rfl <;> rfl) (by unfold maxLen; omega) (by omega) (by have := hb1.size; simp; omega) ?_; intro v' w4 hown' hgrow _; obtain ⟨hB4, hc4⟩ := piece_end hrow hB hb1 hgrow; have hs4 := hc4 2)
                go_roundw
                case rel => exact ⟨k + 4, pre ++ [⟨prF (bs.drop k) 3, k, 4, true⟩], by go_num, by omega, by simp; omega, hst, by simpa [pcCells] using hown', hB4⟩
                case measure => simp [intOf]; omega
    · obtain rfl : k = bs.length := by omega
      go_wp2
      go_ret
      have e : pcs bs = pre := by rw [hx.out, pcs_end bs _ (Nat.le_refl _)]; simp
      exact ⟨_, rfl, by rw [e]; exact hrow, hB⟩

set_option maxRecDepth 100000 in
set_option maxHeartbeats 1000000 in
theorem pieces_zero (a : Option Addr) (cap : Nat) (w : World) :
    Calls Tryz.prog 83 #[.slice a 0 cap] w fun e W' => e = .returned (.slice none 0 0) ∧ Below w.heap.size w W' := by
  go_enter Tryz.func83, Tryz.ntmps83
  go_wp2
  go_loop [3, 4] (fun v i => v = .slice none 0 0 ∧ i = .int .i64 0) (fun _ _ => 0)
  case atStart => exact ⟨rfl, rfl⟩
  case round =>
    obtain ⟨rfl, rfl⟩ := hrel
    go_wp2
    go_ret
    exact ⟨rfl, Below.refl _ _⟩

/-- **Pieces of any bytes.** -/
theorem pieces_calls (v : Value) (bs : List UInt8) (n₀ : Nat) (w : World) (hl : bs.length ≤ 4398046511104) (hH : HasB n₀ w v bs) :
    Calls Tryz.prog 83 #[v] w fun e W' => ∃ v, e = .returned v ∧ W'.ownsRow w.heap.size 124 4 v (pcs bs).length ((pcs bs).flatMap pcCells) ∧ Below w.heap.size w W' := by
  rcases hH with ⟨rfl, a, cap, rfl⟩ | ⟨h0, b, off, cap, rfl, hcap, _, hx⟩
  · exact (pieces_zero a cap w).mono fun e W' ⟨he, hb⟩ => ⟨_, he, World.ownsRow_nil _ _ _ _, hb⟩
  · exact pieces_pos bs b off cap w (by omega) (by omega) hx

end Go.Proofs.YtdkcibafbdmajabGreatDoor.U
