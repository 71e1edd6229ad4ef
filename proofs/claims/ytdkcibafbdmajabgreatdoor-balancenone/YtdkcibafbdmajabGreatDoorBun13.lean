/- What is proved here: laws and contracts of Next, Iter, one behind the other (each says its own). -/
import Derived.Test.YtdkcibafbdmajabGreatDoorMath
import Derived.Test.YtdkcibafbdmajabGreatDoorShelf
import Derived.WalkKit
import Derived.OwnWalk
import Derived.Below
import Derived.RangeFuncNested
import Derived.RangeFuncBound
import Derived.RangeFuncBox
import Derived.RangeFuncCalls
import Derived.RangeFuncLeaves
import Derived.Shelf.Abstract
import Derived.Shelf.RegionOpen
import Derived.OwnWalkIn
import Derived.TacticsInMore
import Derived.LoopNIn
import Derived.LoopIn
/- What is proved here: contracts of the program's functions 'first' and 'next' of package utf: what they return for any bytes. -/
namespace Go.Proofs.YtdkcibafbdmajabGreatDoor.U
open Go.RowKit Go.Shelf

theorem ret_tuple3 {a b c a' b' c' : Int} (h1 : a = a') (h2 : b = b') (h3 : c = c') : Ending.returned (.tuple #[.int .i64 a, .int .u8 b, .int .u8 c]) = .returned (.tuple #[.int .i64 a', .int .u8 b', .int .u8 c']) := by rw [h1, h2, h3]

theorem cell_lt {w : World} {p : Addr} {v : Value} (h : w.cell? p = some v) : p.block < w.heap.size := by
  unfold World.cell? at h
  cases e : w.heap[p.block]? with
  | none => rw [e] at h; simp at h
  | some o => exact (Array.getElem?_eq_some_iff.1 e).1
theorem tabs_below {g k : Nat} {w w' : World} (hT : Lib.Utf8Tabs g k w) (hb : Below w.heap.size w w') : Lib.Utf8Tabs g k w' :=
  ⟨fun c hc => (hb.cell (p := ⟨g, c, none⟩) (cell_lt (hT.1 c hc))).trans (hT.1 c hc), fun i hi => ⟨(hb.cell (p := ⟨k, 2 * i, none⟩) (cell_lt (hT.2 i hi).1)).trans (hT.2 i hi).1, (hb.cell (p := ⟨k, 2 * i + 1, none⟩) (cell_lt (hT.2 i hi).2)).trans (hT.2 i hi).2⟩⟩

theorem bcell {W w1 : World} (hb : Below W.heap.size W w1) : (∀ b o, b < W.heap.size → w1.cell? ⟨b, o, none⟩ = W.cell? ⟨b, o, none⟩) ∧ (∀ b o, b < W.heap.size → w1.frozen? ⟨b, o, none⟩ = W.frozen? ⟨b, o, none⟩) :=
  ⟨fun b o h => hb.cell (p := ⟨b, o, none⟩) h, fun b o h => hb.frozen (p := ⟨b, o, none⟩) h⟩

theorem cs_other {X : World} {a b : Addr} {v : Value} (h : a ≠ b) : (X.setCell a v).cell? b = X.cell? b := by apply World.cell?_setCell_other; exact h
theorem cs_same {X : World} {a : Addr} {v u : Value} (h : X.cell? a = some u) : (X.setCell a v).cell? a = some v := by apply World.cell?_setCell_same; exact h

/-- Three cells of one block, stored one behind the other. -/
theorem three_cells (X : World) (B : Nat) (a b c a0 b0 c0 : Value) (h0 : X.cell? ⟨B, 0, none⟩ = some a0) (h1 : X.cell? ⟨B, 1, none⟩ = some b0) (h2 : X.cell? ⟨B, 2, none⟩ = some c0) :
    (((X.setCell ⟨B, 0, none⟩ a).setCell ⟨B, 1, none⟩ b).setCell ⟨B, 2, none⟩ c).cell? ⟨B, 0, none⟩ = some a ∧ (((X.setCell ⟨B, 0, none⟩ a).setCell ⟨B, 1, none⟩ b).setCell ⟨B, 2, none⟩ c).cell? ⟨B, 1, none⟩ = some b ∧ (((X.setCell ⟨B, 0, none⟩ a).setCell ⟨B, 1, none⟩ b).setCell ⟨B, 2, none⟩ c).cell? ⟨B, 2, none⟩ = some c := by
  refine ⟨?_, ?_, ?_⟩
  · rw [cs_other (by simp), cs_other (by simp)]; exact cs_same h0
  · rw [cs_other (by simp)]; exact cs_same (u := b0) (by rw [cs_other (by simp)]; exact h1)
  · exact cs_same (u := c0) (by rw [cs_other (by simp), cs_other (by simp)]; exact h2)

theorem piece_eq {r r' : Int} {k k' : Nat} {o o' : Bool} (h1 : r = r') (h2 : k = k') (h3 : o = o') : Ending.returned (.agg #[.int .i32 r, .int .i64 (k : Int), .bool o]) = .returned (.agg #[.int .i32 r', .int .i64 (k' : Int), .bool o']) := by rw [h1, h2, h3]
/-- The three ways out. -/
theorem out_open {bs : List UInt8} {k : Nat} (hs : nextN bs = scan bs (lead (byteAt bs 0) - k) k) (hn : k < lead (byteAt bs 0)) (hl : k = bs.length) : nextR bs = 65533 ∧ nextN bs = k ∧ nextOpen bs = true := by
  have e : nextN bs = k := by rw [hs]; exact scan_out (.inr (.inl (by omega)))
  refine ⟨?_, e, ?_⟩
  · unfold nextR nextAll; rw [if_neg]; simp; omega
  · unfold nextOpen; simp; omega
theorem out_bad {bs : List UInt8} {k : Nat} (hs : nextN bs = scan bs (lead (byteAt bs 0) - k) k) (hn : k < lead (byteAt bs 0)) (hl : k < bs.length) (ho : byteAt bs k < loAt bs k ∨ hiAt bs k < byteAt bs k) : nextR bs = 65533 ∧ nextN bs = k ∧ nextOpen bs = false := by
  have e : nextN bs = k := by rw [hs]; exact scan_out (.inr (.inr (by unfold okAt; rcases ho with h | h <;> simp <;> omega)))
  refine ⟨?_, e, ?_⟩
  · unfold nextR nextAll; rw [if_neg]; simp; omega
  · unfold nextOpen; simp; omega
theorem out_all {bs : List UInt8} {k : Nat} (hs : nextN bs = scan bs (lead (byteAt bs 0) - k) k) (hn : k = lead (byteAt bs 0)) : nextR bs = runeOf bs ∧ nextN bs = k ∧ nextOpen bs = false ∧ nextAll bs = true := by
  have e : nextN bs = k := by rw [hs]; exact scan_out (.inl (by omega))
  have ha : nextAll bs = true := by unfold nextAll; simp; omega
  refine ⟨?_, e, ?_, ha⟩
  · unfold nextR; rw [if_pos ha]
  · unfold nextOpen; simp; omega

/-- The first bytes as the model has them. -/
def headB (bs : List UInt8) (n : Nat) : ByteArray := ⟨(bs.take n).toArray⟩
theorem headB_size (bs : List UInt8) (n : Nat) (h : n ≤ bs.length) : (headB bs n).size = n := by
  show (bs.take n).toArray.size = n
  simp; omega
theorem headB_get (bs : List UInt8) (n j : Nat) (h : n ≤ bs.length) (hj : j < n) : ((headB bs n).get! j).toNat = byteAt bs j := by
  have : (headB bs n).get! j = bs[j]?.getD 0 := by
    show ((bs.take n).toArray)[j]! = _
    rw [getElem!_pos (bs.take n).toArray j (by simp; omega)]
    simp [List.getElem_take, List.getElem?_eq_getElem (show j < bs.length by omega)]
  rw [this]; rfl
theorem decodeN_beyond (n b0 b1 b2 b3 c1 c2 c3 : Nat) (h1 : 1 < n → b1 = c1) (h2 : 2 < n → b2 = c2) (h3 : 3 < n → b3 = c3) (hn : lead b0 = n) (h0 : n ≠ 0) : Lib.decodeN n b0 b1 b2 b3 = Lib.decodeN n b0 c1 c2 c3 := by
  rcases lead_cases b0 with ⟨c, e⟩ | ⟨c, c', e⟩ | ⟨c, c', e⟩ | ⟨c, c', e⟩ | ⟨c, c', e⟩ | ⟨c, e⟩ <;> rw [hn] at e <;> subst e
  · unfold Lib.decodeN; rw [if_pos c, if_pos c]
  · exact absurd rfl h0
  · rw [h1 (by omega)]; unfold Lib.decodeN; simp only [show ¬ ((2 : Nat) < 2) by omega, show ¬ ((3 : Nat) < 2) by omega, false_and, and_false, if_false]
  · rw [h1 (by omega), h2 (by omega)]; unfold Lib.decodeN; simp only [show ¬ ((3 : Nat) < 3) by omega, false_and, and_false, if_false]
  · rw [h1 (by omega), h2 (by omega), h3 (by omega)]
  · exact absurd rfl h0
theorem decodeGo_head {bs : List UInt8} (hl : lead (byteAt bs 0) ≤ bs.length) (h : nextAll bs = true) : Lib.decodeGo (headB bs (lead (byteAt bs 0))) = (runeOf bs, lead (byteAt bs 0)) := by
  have hn : nextN bs = lead (byteAt bs 0) := by simpa [nextAll] using h
  have h0 : lead (byteAt bs 0) ≠ 0 := by have := nextN_pos bs; omega
  have hs := headB_size bs _ hl
  unfold Lib.decodeGo
  rw [if_neg (by omega), Lib.decode_at, hs, Nat.sub_zero, ← decode_all h]
  rw [headB_get bs _ 0 hl (by omega)]
  exact decodeN_beyond _ _ _ _ _ _ _ _ (fun a => headB_get bs _ 1 hl a) (fun a => headB_get bs _ 2 hl a) (fun a => headB_get bs _ 3 hl a) rfl h0

end Go.Proofs.YtdkcibafbdmajabGreatDoor.U

/- What is proved here: what a loop over the iterator 'walk' of package utf is told, for any bytes, as long as each round keeps to its own variables. -/
namespace Go.Proofs.YtdkcibafbdmajabGreatDoor.U
open Go.RowKit Go.Shelf
attribute [local go_sem] Oper.semAt_some

/-- Block k is the row of a slice that one of the boxes holds. -/
def rowIn (bxs : List Nat) (W : World) (k : Nat) : Prop := ∃ B ∈ bxs, ∃ v, W.cell? ⟨B, 0, none⟩ = some v ∧ v.ownBlock = some k
/-- WHAT A ROUND KEEPS: all below n₀; every block of cells but the loop's own boxes and the rows that they hold; a row is the old one or a new block. -/
def Kpr (n₀ : Nat) (bxs : List Nat) (W W' : World) : Prop :=
  Below n₀ W W' ∧ (∀ k o, W.heap[k]? = some o → o.isCells = true → k ∉ bxs → ¬ rowIn bxs W k → W'.heap[k]? = some o) ∧
  (∀ k, rowIn bxs W' k → rowIn bxs W k ∨ (W.heap.size ≤ k ∧ k < W'.heap.size))

theorem lt_of_block {W : World} {k : Nat} {o : Obj} (h : W.heap[k]? = some o) : k < W.heap.size := (Array.getElem?_eq_some_iff.1 h).1
theorem Kpr.refl (n₀ : Nat) (bxs : List Nat) (W : World) : Kpr n₀ bxs W W := ⟨Below.refl _ _, fun _ _ h _ _ _ => h, fun _ h => .inl h⟩
theorem Kpr.trans {n₀ : Nat} {bxs : List Nat} {A B C : World} (h : Kpr n₀ bxs A B) (k : Kpr n₀ bxs B C) : Kpr n₀ bxs A C := by
  refine ⟨h.1.trans k.1, fun j o hj hc hb hr => ?_, fun j hj => ?_⟩
  · refine k.2.1 j o (h.2.1 j o hj hc hb hr) hc hb (fun hB => ?_)
    rcases h.2.2 j hB with hA | ⟨hA, _⟩
    · exact hr hA
    · have := lt_of_block hj; omega
  · have s1 := h.1.size; have s2 := k.1.size
    rcases k.2.2 j hj with hB | ⟨hB, hC⟩
    · rcases h.2.2 j hB with hA | ⟨hA, hA'⟩
      · exact .inl hA
      · exact .inr ⟨hA, by omega⟩
    · exact .inr ⟨by omega, hC⟩
theorem cell_of_block {W W' : World} {p : Addr} (h : W'.heap[p.block]? = W.heap[p.block]?) : W'.cell? p = W.cell? p := World.cell?_of_block (w := W) h
theorem block_of_cell {W : World} {p : Addr} {v : Value} (h : W.cell? p = some v) : ∃ o, W.heap[p.block]? = some o ∧ o.isCells = true := by
  unfold World.cell? at h
  split at h
  · rename_i c e f hb; exact ⟨_, hb, rfl⟩
  · cases h
/-- A cell that a round keeps. -/
theorem Kpr.cell {n₀ : Nat} {bxs : List Nat} {W W' : World} (h : Kpr n₀ bxs W W') {p : Addr} {v : Value} (hc : W.cell? p = some v) (hb : p.block ∉ bxs) (hr : ¬ rowIn bxs W p.block) : W'.cell? p = some v := by
  obtain ⟨o, ho, hi⟩ := block_of_cell hc
  rw [cell_of_block ((h.2.1 _ o ho hi hb hr).trans ho.symm)]; exact hc
/-- The law's own book-keeping keeps it. -/
theorem Kpr.book {n₀ : Nat} {bxs : List Nat} {w : World} (hn : n₀ ≤ w.heap.size) (hb : ∀ B ∈ bxs, B < w.heap.size) (W : World) (l : Nat) (o o' : Obj) (hl : w.heap.size ≤ l) (h : W.heap[l]? = some o) (hc : o.isCells = false) (hw : o.isWalk = false) : Kpr n₀ bxs W (W.putObj l o') := by
  refine ⟨belowK_b hn W l o o' hl h hc hw, fun k ok hk hkc _ _ => ?_, fun k hk => .inl ?_⟩
  · have : k ≠ l := by rintro rfl; rw [hk] at h; cases h; rw [hkc] at hc; cases hc
    rw [World.putObj_heap_other this]; exact hk
  · obtain ⟨B, hB, v, hv, e⟩ := hk
    refine ⟨B, hB, v, ?_, e⟩
    rw [← hv]; exact (cell_of_block (World.putObj_heap_other (by have := hb B hB; show B ≠ l; omega))).symm
/-- Whatever turns nothing that was there keeps it. -/
theorem rowIn_below {bxs : List Nat} {A B : World} (h : Below A.heap.size A B) (hb : ∀ b ∈ bxs, b < A.heap.size) {k : Nat} : rowIn bxs B k ↔ rowIn bxs A k := by
  constructor
  · rintro ⟨b, hB, v, hv, e⟩; exact ⟨b, hB, v, by rw [← hv]; exact (h.cell (p := ⟨b, 0, none⟩) (hb b hB)).symm, e⟩
  · rintro ⟨b, hB, v, hv, e⟩; exact ⟨b, hB, v, by rw [← hv]; exact h.cell (p := ⟨b, 0, none⟩) (hb b hB), e⟩

/-- The bytes that a slice value holds in memory, below n₀. -/
def HasB (n₀ : Nat) (w : World) (v : Value) (bs : List UInt8) : Prop :=
  (bs = [] ∧ ∃ a cap, v = .slice a 0 cap) ∨ (0 < bs.length ∧ ∃ b off cap, v = .slice (some ⟨b, off, none⟩) bs.length cap ∧ bs.length ≤ cap ∧ b < n₀ ∧ ∀ j, j < bs.length → w.cell? ⟨b, off + j, none⟩ = some (.int .u8 (byteAt bs j)))

theorem grownBy_of_below {W W' : World} (h : Below W.heap.size W W') : W.grownBy W' none := ⟨h.os, h.tape, h.output, h.size, fun k hk _ => h.block k hk⟩
theorem owns_below {A B : World} {base : Nat} {e : TypeId} {size : Nat} {v : Value} {n : Nat} {xs : List Value} (h : A.ownsRow base e size v n xs) (hb : Below A.heap.size A B) : B.ownsRow base e size v n xs :=
  h.kept (grownBy_of_below hb) (by cases v.ownBlock <;> simp)

theorem owns_slice {W : World} {base : Nat} {e : TypeId} {size : Nat} {v : Value} {n : Nat} {xs : List Value} (h : W.ownsRow base e size v n xs) : ∃ a cap, v = .slice a n cap := by
  rcases h.2 with ⟨rfl, rfl⟩ | ⟨g, cap, cur, rfl, _⟩
  · exact ⟨none, 0, rfl⟩
  · exact ⟨_, cap, rfl⟩
/-- What a round that goes on leaves to the iterator: its own piece, the box of its bytes, where the rows are. -/
theorem round_keeps {n₀ Bs : Nat} {bxs : List Nat} {wr w2 W3 : World} {v : Value} (hb : Below wr.heap.size wr w2) (h : Kpr n₀ bxs w2 W3) (hBs : wr.cell? ⟨Bs, 0, none⟩ = some v) (hn₀ : n₀ ≤ Bs) (hBx : ∀ B ∈ bxs, n₀ ≤ B ∧ B ≠ Bs ∧ B < wr.heap.size)
    (hrow : ∀ j, rowIn bxs wr j → j < wr.heap.size ∧ j ≠ Bs ∧ n₀ ≤ j) :
    W3.cell? ⟨Bs, 0, none⟩ = some v ∧ (∀ j, rowIn bxs W3 j → j < W3.heap.size ∧ j ≠ Bs ∧ n₀ ≤ j) ∧ (∀ p u, wr.heap.size ≤ p → w2.cell? ⟨p, u, none⟩ ≠ none → W3.cell? ⟨p, u, none⟩ = w2.cell? ⟨p, u, none⟩) := by
  have hlt := cell_lt hBs
  have hrb : ∀ j, rowIn bxs w2 j ↔ rowIn bxs wr j := fun j => rowIn_below hb (fun b hB => (hBx b hB).2.2)
  have s2 := hb.size
  have s3 := h.1.size
  refine ⟨h.cell ((hb.cell (p := ⟨Bs, 0, none⟩) hlt).trans hBs) (fun hm => (hBx _ hm).2.1 rfl) (fun hr => (hrow _ ((hrb _).1 hr)).2.1 rfl), fun j hj => ?_, fun p u hp hu => ?_⟩
  · rcases h.2.2 j hj with hA | ⟨hA, hA'⟩
    · have := hrow j ((hrb j).1 hA); exact ⟨by omega, this.2⟩
    · simp only at hlt; exact ⟨hA', by omega, by omega⟩
  · cases e : w2.cell? ⟨p, u, none⟩ with
    | none => exact absurd e hu
    | some v' =>
      refine h.cell e (fun hm => ?_) (fun hr => ?_)
      · have := (hBx _ hm).2.2; simp only at this; omega
      · have := (hrow _ ((hrb _).1 hr)).1; simp only at this; omega

theorem HasB.below {n₀ : Nat} {A B : World} {v : Value} {bs : List UInt8} (h : Below n₀ A B) (hl : HasB n₀ A v bs) : HasB n₀ B v bs := by
  rcases hl with hl | ⟨hp, b, off, cap, hv, hc, hb, hx⟩
  · exact .inl hl
  · exact .inr ⟨hp, b, off, cap, hv, hc, hb, fun j hj => (h.cell (p := ⟨b, off + j, none⟩) hb).trans (hx j hj)⟩

end Go.Proofs.YtdkcibafbdmajabGreatDoor.U
