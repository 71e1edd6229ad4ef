/- What is proved here: contracts of Lend and Kept of sieveref01: bytes handed out in the middle of greater memory, and whether that memory is as it was. -/
import Derived.BigQuiet
import Derived.Deep.QuietTactic
import Derived.WalkSmall
import Derived.Test.YtlihfamkngahaaaDoorIter
namespace Go.Proofs.YtlihfamkngahaaaDoor.U
open Go.RowKit Go.Shelf

theorem infoByte : (Tryd.prog.info? 5).map (fun i => (i.zero, i.size, i.bytes)) = some (some (.int .u8 0), 1, 1) := by kernel_rfl

/-- Block g holds N bytes, by a function of the place; none is frozen. -/
def RowB (g N : Nat) (f : Nat → Nat) (w : World) : Prop := (∀ j, j < N → w.cell? ⟨g, j, none⟩ = some (.int .u8 (f j))) ∧ ∀ j, j < N → w.frozen? ⟨g, j, none⟩ = false
theorem RowB.set {g N : Nat} {f : Nat → Nat} {w : World} (h : RowB g N f w) (i x : Nat) (hi : i < N) : RowB g N (fun j => if j = i then x else f j) (w.setCell ⟨g, i, none⟩ (.int .u8 x)) := by
  refine ⟨fun j hj => ?_, fun j hj => by rw [World.frozen?_setCell]; exact h.2 j hj⟩
  show _ = some (Value.int .u8 ((if j = i then x else f j : Nat) : Int))
  by_cases e : j = i
  · rw [if_pos e, e]; exact cs_same (h.1 i hi)
  · rw [if_neg e, cs_other (a := ⟨g, i, none⟩) (b := ⟨g, j, none⟩) (fun h => e (by cases h; rfl))]; exact h.1 j hj
theorem upto_set {f : Nat → Nat} {k x : Nat} (h : ∀ j, j < k → f j = x) : ∀ j, j < k + 1 → (if j = k then x else f j) = x := fun j hj => by
  by_cases e : j = k
  · rw [if_pos e]
  · rw [if_neg e]; exact h j (by omega)
theorem RowB.congr {g N : Nat} {f f' : Nat → Nat} {w : World} (h : RowB g N f w) (he : ∀ j, j < N → f j = f' j) : RowB g N f' w := ⟨fun j hj => by rw [← he j hj]; exact h.1 j hj, h.2⟩
theorem RowB.below {g N n : Nat} {f : Nat → Nat} {w w' : World} (h : RowB g N f w) (hb : Below n w w') (hg : g < n) : RowB g N f w' := ⟨fun j hj => (hb.cell (p := ⟨g, j, none⟩) hg).trans (h.1 j hj), fun j hj => (hb.frozen (p := ⟨g, j, none⟩) hg).trans (h.2 j hj)⟩

/-- New memory of N bytes. -/
def madeW (w : World) (N : Nat) : World := w.alloc (.cells (madeCells (Value.int .u8 0).cells N) 5)
theorem madeW_below (w : World) (N : Nat) : Below w.heap.size w (madeW w N) := (Below.refl _ w).alloc (Nat.le_refl _) _
theorem madeW_size (w : World) (N : Nat) : (madeW w N).heap.size = w.heap.size + 1 := by simp [madeW]
theorem madeW_row (w : World) (N : Nat) : RowB w.heap.size N (fun _ => 0) (madeW w N) := by
  have hb := World.alloc_heap_new w (.cells (madeCells (Value.int .u8 0).cells N) 5)
  refine ⟨fun j hj => ?_, fun j _ => ?_⟩
  · unfold madeW; simp only [World.cell?, hb]; simp [madeCells, Value.cells, hj, Nat.mod_one]
  · unfold madeW; simp only [World.frozen?, hb]; simp
theorem run_made (w : World) (N : Nat) (k : Int) (hk : k = (N : Int)) (h : N ≤ 281474976710656) : (Instr.makeSlice 22 (.int .i64 k) (.int .i64 k)).run Tryd.prog w = .ok (.slice (some ⟨w.heap.size, 0, none⟩) N N) (madeW w N) := by
  subst hk
  obtain ⟨i0, hi, hz0, hz1, hz2⟩ := info_parts infoByte
  have := run_make (P := Tryd.prog) w 22 5 i0 (.int .u8 0) Tryd.underlying22 hi hz0 .i64 .i64 N N (by omega) (by omega) (by rw [hz2]; omega) (by omega)
  rw [this, hz1]; simp [madeW]

/-- The bytes with two of 165 on either side. -/
def lent (bs : List UInt8) : List UInt8 := 165 :: 165 :: (bs ++ [165, 165])
theorem lent_length (bs : List UInt8) : (lent bs).length = bs.length + 4 := by simp [lent]
theorem byteAt_lent (bs : List UInt8) (j : Nat) (hj : j < bs.length + 4) : byteAt (lent bs) j = if 2 ≤ j ∧ j < bs.length + 2 then byteAt bs (j - 2) else 165 := by
  unfold byteAt lent
  match j with
  | 0 => rfl
  | 1 => rfl
  | j + 2 =>
    simp only [List.getElem?_cons_succ, List.getElem?_append]
    by_cases h : j < bs.length
    · rw [if_pos h, if_pos (by omega)]; rfl
    · rw [if_neg h, if_neg (by omega)]
      have : j - bs.length = 0 ∨ j - bs.length = 1 := by omega
      rcases this with e | e <;> rw [e] <;> rfl

set_option maxRecDepth 100000 in
set_option maxHeartbeats 1000000 in
theorem lend_walk (bs : List UInt8) (a : Option Addr) (b off cap : Nat) (w : World) (ha : 0 < bs.length → a = some ⟨b, off, none⟩) (hl : (bs.length : Int) ≤ 70368744177664)
    (hc : ∀ j, j < bs.length → w.cell? ⟨b, off + j, none⟩ = some (.int .u8 (byteAt bs j))) :
    Calls Tryd.prog 4 #[.slice a bs.length cap] w fun e W' => e = .returned (.tuple #[.slice (some ⟨w.heap.size, 0, none⟩) (bs.length + 4) (bs.length + 4), .slice (some ⟨w.heap.size, 2, none⟩) bs.length (bs.length + 2)]) ∧ RowB w.heap.size (bs.length + 4) (byteAt (lent bs)) W' ∧ Below w.heap.size w W' := by
  have hmk := run_made w (bs.length + 4) ((bs.length : Int) + 4) (by omega) (by omega)
  have HC : Hid (∀ j, j < bs.length → w.cell? ⟨b, off + j, none⟩ = some (.int .u8 (byteAt bs j))) := hc
  have HA : Hid (0 < bs.length → a = some ⟨b, off, none⟩) := ha
  clear hc ha
  go_enter Tryd.func4, Tryd.ntmps4
  go_wp2
  clear hmk
  go_loopw [14] (fun i wr => ∃ (k : Nat) (f : Nat → Nat), k ≤ bs.length + 4 ∧ i = .int .i64 k ∧ Below w.heap.size w wr ∧ w.heap.size < wr.heap.size ∧ RowB w.heap.size (bs.length + 4) f wr ∧ Hid (∀ j, j < k → f j = 165)) (fun i _ => bs.length + 4 - (intOf i).toNat)
  case atStart => exact ⟨0, _, by omega, rfl, madeW_below _ _, by rw [madeW_size]; omega, madeW_row _ _, fun j hj => by omega⟩
  case round =>
    obtain ⟨k, f, hk, rfl, hB, hsz, hr, hf⟩ := hrel
    by_cases hlt : k < bs.length + 4
    · have c1 := hr.1 k hlt
      have f1 := hr.2 k hlt
      go_wp2
      go_roundw
      case rel => exact ⟨k + 1, _, by omega, by go_num, hB.setCell (p := ⟨w.heap.size, k, none⟩) (Nat.le_refl _) _, by simpa [World.setCell] using hsz, hr.set k 165 hlt, upto_set hf.out⟩
      case measure => simp [intOf]; omega
    · have hr2 := hr.congr (f' := fun j => if 2 ≤ j ∧ j < 0 + 2 then byteAt bs (j - 2) else 165) (fun j hj => by rw [hf.out j (by omega), if_neg (by omega)])
      clear hr hf
      go_wp2
      go_loopw [23] (fun i wr => ∃ k : Nat, k ≤ bs.length ∧ i = .int .i64 k ∧ Below w.heap.size w wr ∧ w.heap.size < wr.heap.size ∧ RowB w.heap.size (bs.length + 4) (fun j => if 2 ≤ j ∧ j < k + 2 then byteAt bs (j - 2) else 165) wr) (fun i _ => bs.length - (intOf i).toNat)
      case atStart => exact ⟨0, by omega, rfl, hB, hsz, hr2⟩
      case round =>
        rename_i wr2
        obtain ⟨m, hm, rfl, hB2, hsz2, hr3⟩ := hrel
        by_cases hlt2 : m < bs.length
        · have c1 := hr3.1 (m + 2) (by omega)
          have f1 := hr3.2 (m + 2) (by omega)
          have c2 := (hB2.cell (p := ⟨b, off + m, none⟩) (cell_lt (HC.out m hlt2))).trans (HC.out m hlt2)
          have ea := HA.out (by omega)
          subst ea
          go_wp2
          go_roundw
          case rel => exact ⟨m + 1, by omega, by go_num, hB2.setCell (p := ⟨w.heap.size, m + 2, none⟩) (Nat.le_refl _) _, by simpa [World.setCell] using hsz2, (hr3.set (m + 2) (byteAt bs m) (by omega)).congr (fun j hj => by
              by_cases e : j = m + 2
              · subst e; rw [if_pos rfl, if_pos (by omega)]; rfl
              · simp only [if_neg e]
                by_cases e2 : 2 ≤ j ∧ j < m + 2
                · rw [if_pos e2, if_pos (by omega)]
                · rw [if_neg e2, if_neg (by omega)])⟩
          case measure => simp [intOf]; omega
        · obtain rfl : m = bs.length := by omega
          go_wp2
          go_quiet (fail)
          go_wp2
          go_ret2
          exact ⟨rfl, ((hr3.congr (fun j hj => (byteAt_lent bs j hj).symm)).below (below_drewN (Below.refl _ _) _) hsz2), below_drewN hB2 _⟩

/-- **Lend of any bytes**: memory of its own that holds them, with two bytes of 165 on either side. -/
theorem lend_calls (v : Value) (bs : List UInt8) (n₀ : Nat) (w : World) (hl : bs.length ≤ 70368744177664) (hH : HasB n₀ w v bs) :
    Calls Tryd.prog 4 #[v] w fun e W' => e = .returned (.tuple #[.slice (some ⟨w.heap.size, 0, none⟩) (bs.length + 4) (bs.length + 4), .slice (some ⟨w.heap.size, 2, none⟩) bs.length (bs.length + 2)]) ∧ RowB w.heap.size (bs.length + 4) (byteAt (lent bs)) W' ∧ Below w.heap.size w W' := by
  rcases hH with ⟨rfl, a, cap, rfl⟩ | ⟨h0, b, off, cap, rfl, hcap, _, hx⟩
  · exact lend_walk [] a 0 0 cap w (fun h => by simp at h) (by simp) (fun j hj => by simp at hj)
  · exact lend_walk bs _ b off cap w (fun _ => rfl) (by omega) hx
theorem RowB.hasB {g : Nat} {bs : List UInt8} {w : World} (h : RowB g (bs.length + 4) (byteAt (lent bs)) w) (n₀ : Nat) (hg : g < n₀) : HasB n₀ w (.slice (some ⟨g, 2, none⟩) bs.length (bs.length + 2)) bs := by
  by_cases h0 : bs.length = 0
  · have e := List.length_eq_zero_iff.1 h0
    subst e; exact .inl ⟨rfl, _, _, rfl⟩
  · refine .inr ⟨by omega, g, 2, _, rfl, by omega, hg, fun j hj => ?_⟩
    rw [h.1 (2 + j) (by omega), byteAt_lent bs _ (by omega), if_pos (by omega)]
    rw [show 2 + j - 2 = j by omega]

set_option maxRecDepth 100000 in
set_option maxHeartbeats 2000000 in
/-- **Kept, where the memory is as it was.** -/
theorem kept_walk (bs : List UInt8) (a : Option Addr) (g b off cap : Nat) (w : World) (ha : 0 < bs.length → a = some ⟨b, off, none⟩) (hl : (bs.length : Int) ≤ 70368744177664) (hr : RowB g (bs.length + 4) (byteAt (lent bs)) w)
    (hc : ∀ j, j < bs.length → w.cell? ⟨b, off + j, none⟩ = some (.int .u8 (byteAt bs j))) :
    Calls Tryd.prog 11 #[.slice (some ⟨g, 0, none⟩) (bs.length + 4) (bs.length + 4), .slice a bs.length cap] w fun e W' => e = .returned (.bool true) ∧ Below w.heap.size w W' := by
  have HC : Hid (∀ j, j < bs.length → w.cell? ⟨b, off + j, none⟩ = some (.int .u8 (byteAt bs j))) := hc
  have HA : Hid (0 < bs.length → a = some ⟨b, off, none⟩) := ha
  have HR : Hid (RowB g (bs.length + 4) (byteAt (lent bs)) w) := hr
  clear hc ha hr
  go_enter Tryd.func11, Tryd.ntmps11
  go_wp2
  go_loop [16] (fun i => ∃ k : Nat, k ≤ bs.length + 4 ∧ i = .int .i64 k) (fun i => bs.length + 4 - (intOf i).toNat)
  case atStart => exact ⟨0, by omega, rfl⟩
  case round =>
    obtain ⟨k, hk, rfl⟩ := hrel
    by_cases hlt : k < bs.length + 4
    · have hbl := byteAt_lent bs k hlt
      by_cases hin : 2 ≤ k ∧ k < bs.length + 2
      · obtain ⟨m, rfl⟩ : ∃ m, k = m + 2 := ⟨k - 2, by omega⟩
        rw [if_pos hin, show m + 2 - 2 = m by omega] at hbl
        have hm : m < bs.length := by omega
        have c1 := HR.out.1 (m + 2) (by omega)
        rw [hbl] at c1
        have c2 := HC.out m hm
        have ea := HA.out (by omega)
        subst ea
        clear hbl
        go_wp2
        go_round
        case rel => exact ⟨m + 2 + 1, by omega, by go_num⟩
        case measure => simp [intOf]; omega
      · rw [if_neg hin] at hbl
        have c1 := HR.out.1 k (by omega)
        rw [hbl] at c1
        clear hbl
        by_cases h2 : 2 ≤ k
        · have h3 : bs.length + 2 ≤ k := by omega
          have hd : decide ((k : Int) < (bs.length : Int) + 2) = false := by simp; omega
          clear hin
          go_wp2
          go_round
          case rel => exact ⟨k + 1, by omega, by go_num⟩
          case measure => simp [intOf]; omega
        · clear hin
          go_wp2
          go_round
          case rel => exact ⟨k + 1, by omega, by go_num⟩
          case measure => simp [intOf]; omega
    · go_wp2
      go_ret
      exact ⟨rfl, Below.refl _ _⟩
theorem kept_calls (v : Value) (bs : List UInt8) (n₀ g : Nat) (w : World) (hl : bs.length ≤ 70368744177664) (hH : HasB n₀ w v bs) (hr : RowB g (bs.length + 4) (byteAt (lent bs)) w) :
    Calls Tryd.prog 11 #[.slice (some ⟨g, 0, none⟩) (bs.length + 4) (bs.length + 4), v] w fun e W' => e = .returned (.bool true) ∧ Below w.heap.size w W' := by
  rcases hH with ⟨rfl, a, cap, rfl⟩ | ⟨h0, b, off, cap, rfl, hcap, _, hx⟩
  · exact kept_walk [] a g 0 0 cap w (fun h => by simp at h) (by simp) hr (fun j hj => by simp at hj)
  · exact kept_walk bs _ g b off cap w (fun _ => rfl) (by omega) hr hx

end Go.Proofs.YtlihfamkngahaaaDoor.U
