/- What is proved here: what a loop over the iterator 'walk' of package utf is told, for any bytes, as long as each round keeps to its own variables. -/
import Derived.RangeFuncNested
import Derived.RangeFuncBound
import Derived.RangeFuncBox
import Derived.RangeFuncCalls
import Derived.RangeFuncLeaves
import Derived.Shelf.Abstract
import Derived.Shelf.RegionOpen
import Derived.WalkKit
import Derived.OwnWalkIn
import Derived.TacticsInMore
import Derived.LoopNIn
import Derived.LoopIn
import Derived.Test.YtmfhhpacojodkaaGreatDoorNext
namespace Go.Proofs.YtmfhhpacojodkaaGreatDoor.U
open Go.RowKit Go.Shelf
attribute [local go_sem] Oper.semAt_some

/-- Block k is the row of a slice that one of the boxes holds. -/
def rowIn (bxs : List Nat) (W : World) (k : Nat) : Prop := ∃ B ∈ bxs, ∃ v, W.cell? ⟨B, 0, none⟩ = some v ∧ v.ownBlock = some k
/-- WHAT A ROUND KEEPS: all below n₀; every block of cells but the loop's own boxes and the rows that they hold; a row is the old one or a new block. -/
def Kpr (n₀ : Nat) (bxs : List Nat) (W W' : World) : Prop :=
  Below n₀ W W' ∧ (∀ k o, W.heap[k]? = some o → o.isCells = true → k ∉ bxs → ¬ rowIn bxs W k → W'.heap[k]? = some o) ∧
  (∀ k, rowIn bxs W' k → rowIn bxs W k ∨ (W.heap.size ≤ k ∧ k < W'.heap.size))

theorem lt_of_block {W : World} {k : Nat} {o : Obj} (h : W.heap[k]? = some o) : k < W.heap.size := (Array.getElem?_eq_some_iff.1 h).1
theorem Kpr.refl (n₀ : Nat) (bxs : List Nat) (W : World) : Kpr n₀ bxs W W := ⟨Below.refl _ _, fun _ _ h _ _ _ => h, fun _ h => .inl h⟩
theorem Kpr.trans {n₀ : Nat} {bxs : List Nat} {A B C : World} (h : Kpr n₀ bxs A B) (k : Kpr n₀ bxs B C) : Kpr n₀ bxs A C := by
  refine ⟨h.1.trans k.1, fun j o hj hc hb hr => ?_, fun j hj => ?_⟩
  · refine k.2.1 j o (h.2.1 j o hj hc hb hr) hc hb (fun hB => ?_)
    rcases h.2.2 j hB with hA | ⟨hA, _⟩
    · exact hr hA
    · have := lt_of_block hj; omega
  · have s1 := h.1.size; have s2 := k.1.size
    rcases k.2.2 j hj with hB | ⟨hB, hC⟩
    · rcases h.2.2 j hB with hA | ⟨hA, hA'⟩
      · exact .inl hA
      · exact .inr ⟨hA, by omega⟩
    · exact .inr ⟨by omega, hC⟩
theorem cell_of_block {W W' : World} {p : Addr} (h : W'.heap[p.block]? = W.heap[p.block]?) : W'.cell? p = W.cell? p := World.cell?_of_block (w := W) h
theorem block_of_cell {W : World} {p : Addr} {v : Value} (h : W.cell? p = some v) : ∃ o, W.heap[p.block]? = some o ∧ o.isCells = true := by
  unfold World.cell? at h
  split at h
  · rename_i c e f hb; exact ⟨_, hb, rfl⟩
  · cases h
/-- A cell that a round keeps. -/
theorem Kpr.cell {n₀ : Nat} {bxs : List Nat} {W W' : World} (h : Kpr n₀ bxs W W') {p : Addr} {v : Value} (hc : W.cell? p = some v) (hb : p.block ∉ bxs) (hr : ¬ rowIn bxs W p.block) : W'.cell? p = some v := by
  obtain ⟨o, ho, hi⟩ := block_of_cell hc
  rw [cell_of_block ((h.2.1 _ o ho hi hb hr).trans ho.symm)]; exact hc
/-- The law's own book-keeping keeps it. -/
theorem Kpr.book {n₀ : Nat} {bxs : List Nat} {w : World} (hn : n₀ ≤ w.heap.size) (hb : ∀ B ∈ bxs, B < w.heap.size) (W : World) (l : Nat) (o o' : Obj) (hl : w.heap.size ≤ l) (h : W.heap[l]? = some o) (hc : o.isCells = false) (hw : o.isWalk = false) : Kpr n₀ bxs W (W.putObj l o') := by
  refine ⟨belowK_b hn W l o o' hl h hc hw, fun k ok hk hkc _ _ => ?_, fun k hk => .inl ?_⟩
  · have : k ≠ l := by rintro rfl; rw [hk] at h; cases h; rw [hkc] at hc; cases hc
    rw [World.putObj_heap_other this]; exact hk
  · obtain ⟨B, hB, v, hv, e⟩ := hk
    refine ⟨B, hB, v, ?_, e⟩
    rw [← hv]; exact (cell_of_block (World.putObj_heap_other (by have := hb B hB; show B ≠ l; omega))).symm
/-- Whatever turns nothing that was there keeps it. -/
theorem rowIn_below {bxs : List Nat} {A B : World} (h : Below A.heap.size A B) (hb : ∀ b ∈ bxs, b < A.heap.size) {k : Nat} : rowIn bxs B k ↔ rowIn bxs A k := by
  constructor
  · rintro ⟨b, hB, v, hv, e⟩; exact ⟨b, hB, v, by rw [← hv]; exact (h.cell (p := ⟨b, 0, none⟩) (hb b hB)).symm, e⟩
  · rintro ⟨b, hB, v, hv, e⟩; exact ⟨b, hB, v, by rw [← hv]; exact h.cell (p := ⟨b, 0, none⟩) (hb b hB), e⟩

/-- The bytes that a slice value holds in memory, below n₀. -/
def HasB (n₀ : Nat) (w : World) (v : Value) (bs : List UInt8) : Prop :=
  (bs = [] ∧ ∃ a cap, v = .slice a 0 cap) ∨ (0 < bs.length ∧ ∃ b off cap, v = .slice (some ⟨b, off, none⟩) bs.length cap ∧ bs.length ≤ cap ∧ b < n₀ ∧ ∀ j, j < bs.length → w.cell? ⟨b, off + j, none⟩ = some (.int .u8 (byteAt bs j)))

theorem next_at (bs : List UInt8) (b off cap k : Nat) (w : World) (h0 : k < bs.length) (hl : bs.length ≤ 140737488355328) (hcap : bs.length ≤ cap) (hT : Lib.Utf8Tabs (Tryz.lays32_ren.g 2) (Tryz.lays32_ren.g 3) w)
    (hc : ∀ j, j < bs.length → w.cell? ⟨b, off + j, none⟩ = some (.int .u8 (byteAt bs j))) :
    Calls Tryz.prog 100 #[.slice (some ⟨b, off + k, none⟩) (bs.length - k) (cap - k)] w fun e w' => e = .returned (.agg #[.int .i32 (nextR (bs.drop k)), .int .i64 (nextN (bs.drop k)), .bool (nextOpen (bs.drop k))]) ∧ Below w.heap.size w w' := by
  have h := next_calls (bs.drop k) b (off + k) (cap - k) w (by simp; omega) (by simp; omega) (by simp; omega) hT (fun j hj => by rw [byteAt_drop, Nat.add_assoc]; exact hc (k + j) (by simp at hj; omega))
  rw [List.length_drop] at h
  exact h
theorem grownBy_of_below {W W' : World} (h : Below W.heap.size W W') : W.grownBy W' none := ⟨h.os, h.tape, h.output, h.size, fun k hk _ => h.block k hk⟩
theorem owns_below {A B : World} {base : Nat} {e : TypeId} {size : Nat} {v : Value} {n : Nat} {xs : List Value} (h : A.ownsRow base e size v n xs) (hb : Below A.heap.size A B) : B.ownsRow base e size v n xs :=
  h.kept (grownBy_of_below hb) (by cases v.ownBlock <;> simp)

theorem owns_slice {W : World} {base : Nat} {e : TypeId} {size : Nat} {v : Value} {n : Nat} {xs : List Value} (h : W.ownsRow base e size v n xs) : ∃ a cap, v = .slice a n cap := by
  rcases h.2 with ⟨rfl, rfl⟩ | ⟨g, cap, cur, rfl, _⟩
  · exact ⟨none, 0, rfl⟩
  · exact ⟨_, cap, rfl⟩
/-- What a round that goes on leaves to the iterator: its own piece, the box of its bytes, where the rows are. -/
theorem round_keeps {n₀ Bs : Nat} {bxs : List Nat} {wr w2 W3 : World} {v : Value} (hb : Below wr.heap.size wr w2) (h : Kpr n₀ bxs w2 W3) (hBs : wr.cell? ⟨Bs, 0, none⟩ = some v) (hn₀ : n₀ ≤ Bs) (hBx : ∀ B ∈ bxs, n₀ ≤ B ∧ B ≠ Bs ∧ B < wr.heap.size)
    (hrow : ∀ j, rowIn bxs wr j → j < wr.heap.size ∧ j ≠ Bs ∧ n₀ ≤ j) :
    W3.cell? ⟨Bs, 0, none⟩ = some v ∧ (∀ j, rowIn bxs W3 j → j < W3.heap.size ∧ j ≠ Bs ∧ n₀ ≤ j) ∧ (∀ p u, wr.heap.size ≤ p → w2.cell? ⟨p, u, none⟩ ≠ none → W3.cell? ⟨p, u, none⟩ = w2.cell? ⟨p, u, none⟩) := by
  have hlt := cell_lt hBs
  have hrb : ∀ j, rowIn bxs w2 j ↔ rowIn bxs wr j := fun j => rowIn_below hb (fun b hB => (hBx b hB).2.2)
  have s2 := hb.size
  have s3 := h.1.size
  refine ⟨h.cell ((hb.cell (p := ⟨Bs, 0, none⟩) hlt).trans hBs) (fun hm => (hBx _ hm).2.1 rfl) (fun hr => (hrow _ ((hrb _).1 hr)).2.1 rfl), fun j hj => ?_, fun p u hp hu => ?_⟩
  · rcases h.2.2 j hj with hA | ⟨hA, hA'⟩
    · have := hrow j ((hrb j).1 hA); exact ⟨by omega, this.2⟩
    · simp only at hlt; exact ⟨hA', by omega, by omega⟩
  · cases e : w2.cell? ⟨p, u, none⟩ with
    | none => exact absurd e hu
    | some v' =>
      refine h.cell e (fun hm => ?_) (fun hr => ?_)
      · have := (hBx _ hm).2.2; simp only at this; omega
      · have := (hrow _ ((hrb _).1 hr)).1; simp only at this; omega

set_option maxRecDepth 100000 in
set_option maxHeartbeats 2000000 in
theorem walk1_in (n : Nat) (hn : 1 ≤ n) (l Bs n₀ b off cap : Nat) (bs : List UInt8) (bxs : List Nat) (hl : bs.length ≤ 140737488355328) (hcap : bs.length ≤ cap) (J Jx : List (Nat × Nat) → World → Prop) (W : World)
    (hJ : AbidesFrom W.heap.size J)
    (hY : ∀ pre x W1, J pre W1 → pre.length < bs.length → YieldAt Fence.wide (n - 1) Tryz.prog l #[.int .i64 (x.1 : Int), .int .i32 (x.2 : Int)] W1 fun e W' =>
      (e = .returned (.bool true) ∧ J (pre ++ [x]) W' ∧ Kpr n₀ bxs W1 W') ∨ (e = .returned (.bool false) ∧ Jx (pre ++ [x]) W'))
    (hb : b < n₀) (hn₀ : n₀ ≤ Bs) (hBs : W.cell? ⟨Bs, 0, none⟩ = some (.slice (some ⟨b, off, none⟩) bs.length cap)) (hBx : ∀ B ∈ bxs, n₀ ≤ B ∧ B ≠ Bs ∧ B < W.heap.size) (hrow : ∀ k, rowIn bxs W k → k < W.heap.size ∧ k ≠ Bs ∧ n₀ ≤ k)
    (hT : Lib.Utf8Tabs (Tryz.lays32_ren.g 2) (Tryz.lays32_ren.g 3) W) (hg : Tryz.lays32_ren.g 2 < n₀ ∧ Tryz.lays32_ren.g 3 < n₀)
    (hc : ∀ j, j < bs.length → W.cell? ⟨b, off + j, none⟩ = some (.int .u8 (byteAt bs j))) (h0 : J [] W) :
    CallsIn Fence.wide n Tryz.prog 99 #[.func (.yield l) #[] #[], .pointer (some ⟨Bs, 0, none⟩)] W fun e W' => (∃ v, e = .returned v) ∧
      ((∃ ys, ys = toks bs ∧ J ys W') ∨ (∃ pre, pre <+: toks bs ∧ Jx pre W')) := by
  refine callsIn_of_wp Tryz.func99 rfl trivial ?_ rfl
  simp only [Tryz.ntmps99, List.size_toArray, List.length_cons, List.length_nil, Nat.reduceAdd, Nat.reduceSub, Array.replicate_succ, Array.replicate_zero, List.push_toArray, List.append_toArray, List.nil_append, List.cons_append]
  gi_wp2
  gi_loopw [3] (fun i wr => ∃ (k : Nat) (pre : List (Nat × Nat)), i = .int .i64 k ∧ k ≤ bs.length ∧ pre.length ≤ k ∧ Hid (toks bs = pre ++ toksF bs.length k (bs.drop k)) ∧ J pre wr ∧ Below n₀ W wr ∧ wr.cell? ⟨Bs, 0, none⟩ = some (.slice (some ⟨b, off, none⟩) bs.length cap) ∧ (∀ j, rowIn bxs wr j → j < wr.heap.size ∧ j ≠ Bs ∧ n₀ ≤ j))
    (fun i _ => bs.length - (intOf i).toNat)
  case atStart => exact ⟨0, [], rfl, by omega, by simp, rfl, h0, Below.refl _ _, hBs, hrow⟩
  case round =>
    obtain ⟨k, pre, rfl, hk, hpk, hx, hJs, hnx, hBs', hrow'⟩ := hrel
    by_cases hlt : k < bs.length
    · have hp1 := nextN_pos (bs.drop k)
      have hp2 : k + nextN (bs.drop k) ≤ bs.length := by have := nextN_len (bs.drop k) (by simp; omega); simp at this; omega
      have hst : Hid (toksF bs.length k (bs.drop k) = (k, nextR (bs.drop k)) :: toksF bs.length (k + nextN (bs.drop k)) (bs.drop (k + nextN (bs.drop k)))) := toks_step bs k hlt
      have hs0 := hnx.size
      have hBx' : ∀ B ∈ bxs, n₀ ≤ B ∧ B ≠ Bs ∧ B < wr.heap.size := fun B hB => by have := hBx B hB; exact ⟨this.1, this.2.1, by omega⟩
      have HBX : Hid (∀ B ∈ bxs, n₀ ≤ B ∧ B ≠ Bs ∧ B < wr.heap.size) := hBx'
      have HROW : Hid (∀ j, rowIn bxs wr j → j < wr.heap.size ∧ j ≠ Bs ∧ n₀ ≤ j) := hrow'
      have hT' : Hid (Lib.Utf8Tabs (Tryz.lays32_ren.g 2) (Tryz.lays32_ren.g 3) wr) := ⟨fun c h => (hnx.cell (p := ⟨_, c, none⟩) hg.1).trans (hT.1 c h), fun i h => ⟨(hnx.cell (p := ⟨_, 2 * i, none⟩) hg.2).trans (hT.2 i h).1, (hnx.cell (p := ⟨_, 2 * i + 1, none⟩) hg.2).trans (hT.2 i h).2⟩⟩
      have hc' : Hid (∀ j, j < bs.length → wr.cell? ⟨b, off + j, none⟩ = some (.int .u8 (byteAt bs j))) := fun j h => (hnx.cell (p := ⟨b, off + j, none⟩) hb).trans (hc j h)
      clear hBx' hrow'
      gi_wp2_with (refine ⟨trivial, ?_⟩; gi_at_call 100; refine (callsIn_wide.2 (next_at bs b off cap k _ hlt hl hcap hT'.out hc'.out)).mono ?_; rintro e w1 ⟨rfl, hb1⟩; have hb2 : Below wr.heap.size wr (w1.alloc (.cells #[.int .i32 (nextR (bs.drop k)), .int .i64 (nextN (bs.drop k)), .bool (nextOpen (bs.drop k))] 125)) := hb1.alloc hb1.size _; obtain ⟨fn, tmps, assign, body, hy, hR⟩ := hY pre (k, nextR (bs.drop k)) (w1.alloc (.cells #[.int .i32 (nextR (bs.drop k)), .int .i64 (nextN (bs.drop k)), .bool (nextOpen (bs.drop k))] 125)) (hJ _ _ _ none hJs (grownBy_of_below hb2) (fun _ h => by cases h)) (by omega); dsimp only at hy)
      refine hR.mono ?_
      rintro e W3 (⟨rfl, hJ3, hk3⟩ | ⟨rfl, hJx3⟩)
      · obtain ⟨q1, q2, q3⟩ := round_keeps hb2 hk3 hBs' hn₀ HBX.out HROW.out
        have hp : W3.cell? ⟨w1.heap.size, 1, none⟩ = some (.int .i64 (nextN (bs.drop k))) := by rw [q3 _ _ hb1.size (by simp)]; simp
        have Q2 := q2
        have HQ2 : Hid (∀ j, rowIn bxs W3 j → j < W3.heap.size ∧ j ≠ Bs ∧ n₀ ≤ j) := Q2
        clear q2 Q2 q3
        gi_wp2
        go_roundw
        case rel => exact ⟨k + nextN (bs.drop k), pre ++ [(k, nextR (bs.drop k))], by go_num, hp2, by simp; omega, by show toks bs = _; rw [hx.out, hst.out]; simp, hJ3, (hnx.trans (hb2.mono (by have := cell_lt hBs; simp only at this; omega))).trans hk3.1, q1, HQ2.out⟩
        case measure => simp [intOf]; omega
      · gi_wp2
        refine bodyPost_ret (results_none rfl _ _ _) rfl ?_
        exact ⟨⟨_, rfl⟩, .inr ⟨_, ⟨toksF bs.length (k + nextN (bs.drop k)) (bs.drop (k + nextN (bs.drop k))), by rw [hx.out, hst.out]; simp⟩, hJx3⟩⟩
    · obtain rfl : k = bs.length := by omega
      gi_wp2
      go_end0
      exact ⟨⟨_, rfl⟩, .inl ⟨pre, by rw [hx.out, toks_end bs _ (Nat.le_refl _)]; simp, hJs⟩⟩

set_option maxRecDepth 100000 in
set_option maxHeartbeats 1000000 in
theorem walk1_nil (n l Bs : Nat) (a : Option Addr) (cap : Nat) (J : List (Nat × Nat) → World → Prop) (W : World) (hBs : W.cell? ⟨Bs, 0, none⟩ = some (.slice a 0 cap)) (h0 : J [] W) :
    CallsIn Fence.wide n Tryz.prog 99 #[.func (.yield l) #[] #[], .pointer (some ⟨Bs, 0, none⟩)] W fun e W' => (∃ v, e = .returned v) ∧ J [] W' := by
  refine callsIn_of_wp Tryz.func99 rfl trivial ?_ rfl
  simp only [Tryz.ntmps99, List.size_toArray, List.length_cons, List.length_nil, Nat.reduceAdd, Nat.reduceSub, Array.replicate_succ, Array.replicate_zero, List.push_toArray, List.append_toArray, List.nil_append, List.cons_append]
  gi_wp2
  gi_loopw [3] (fun i wr => i = .int .i64 0 ∧ wr = W) (fun _ _ => 0)
  case atStart => exact ⟨rfl, rfl⟩
  case round =>
    obtain ⟨rfl, rfl⟩ := hrel
    gi_wp2
    go_end0
    exact ⟨⟨_, rfl⟩, h0⟩

/-- walk(b): the bytes are boxed; the function value captures the box. -/
theorem walk_in (n : Nat) (a : Option Addr) (len cap : Nat) (w : World) :
    CallsIn Fence.wide n Tryz.prog 76 #[.slice a len cap] w fun e w' => e = .returned (.func (.func 99) #[] #[.pointer (some ⟨w.heap.size, 0, none⟩)]) ∧ w' = w.alloc (.cells #[.slice a len cap] 29) := by
  refine callsIn_of_wp Tryz.func76 rfl trivial ?_ rfl
  simp only [Tryz.ntmps76, List.size_toArray, List.length_cons, List.length_nil, Nat.reduceAdd, Nat.reduceSub, Array.replicate_succ, Array.replicate_zero, List.push_toArray, List.append_toArray, List.nil_append, List.cons_append]
  gi_wp2
  go_ret
  exact ⟨rfl, rfl⟩

theorem HasB.below {n₀ : Nat} {A B : World} {v : Value} {bs : List UInt8} (h : Below n₀ A B) (hl : HasB n₀ A v bs) : HasB n₀ B v bs := by
  rcases hl with hl | ⟨hp, b, off, cap, hv, hc, hb, hx⟩
  · exact .inl hl
  · exact .inr ⟨hp, b, off, cap, hv, hc, hb, fun j hj => (h.cell (p := ⟨b, off + j, none⟩) hb).trans (hx j hj)⟩

/-- **The iterator of walk(b): all of b's runes with their places, in order; or, where a round has said 'no more', a beginning of them.** -/
theorem walk_stops (n : Nat) (hn : 1 ≤ n) (Bs n₀ : Nat) (v : Value) (bs : List UInt8) (bxs : List Nat) (w : World) (hl : bs.length ≤ 140737488355328) (hH : HasB n₀ w v bs) (hn₀ : n₀ ≤ Bs) (hBs : w.cell? ⟨Bs, 0, none⟩ = some v)
    (hBx : ∀ B ∈ bxs, n₀ ≤ B ∧ B ≠ Bs ∧ B < w.heap.size) (hrow : ∀ k, rowIn bxs w k → k < w.heap.size ∧ k ≠ Bs ∧ n₀ ≤ k)
    (hT : Lib.Utf8Tabs (Tryz.lays32_ren.g 2) (Tryz.lays32_ren.g 3) w) (hg : Tryz.lays32_ren.g 2 < n₀ ∧ Tryz.lays32_ren.g 3 < n₀) :
    SeqStopsK Fence.wide n Tryz.prog 99 #[.pointer (some ⟨Bs, 0, none⟩)] (fun x : Nat × Nat => #[Value.int .i64 (x.1 : Int), Value.int .i32 (x.2 : Int)]) (Kpr n₀ bxs) (fun ys => ys = toks bs) (fun pre => pre <+: toks bs) bs.length w := fun l J Jx W hW hJ _ hY h0 => by
  have hlt := cell_lt hBs
  simp only at hlt
  have hc := (hW.cell (p := ⟨Bs, 0, none⟩) hlt).trans hBs
  have hs := hW.size
  rcases hH.below (hW.mono (by omega)) with ⟨rfl, a, cap, rfl⟩ | ⟨_, b, off, cap, rfl, hcap, hb, hx⟩
  · exact (walk1_nil n l Bs a cap J W hc h0).mono fun e W' ⟨he, hj⟩ => ⟨he, .inl ⟨_, rfl, hj⟩⟩
  · exact walk1_in n hn l Bs n₀ b off cap bs bxs hl hcap J Jx W hJ hY hb hn₀ hc (fun B hB => ⟨(hBx B hB).1, (hBx B hB).2.1, by have := (hBx B hB).2.2; omega⟩)
      (fun k hk => by have := hrow k ((rowIn_below hW (fun b hB => (hBx b hB).2.2)).1 hk); exact ⟨by omega, this.2⟩) (tabs_below hT hW) hg hx h0

end Go.Proofs.YtmfhhpacojodkaaGreatDoor.U
