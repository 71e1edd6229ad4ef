/- What is proved here: contracts of the program's functions 'first' and 'next' of package utf: what they return for any bytes. -/
import Derived.Test.YthbmlffhcppcaaaDoorMath
import Derived.Test.YthbmlffhcppcaaaDoorShelf
import Derived.WalkKit
import Derived.OwnWalk
import Derived.Below
namespace Go.Proofs.YthbmlffhcppcaaaDoor.U
open Go.RowKit Go.Shelf

theorem ret_tuple3 {a b c a' b' c' : Int} (h1 : a = a') (h2 : b = b') (h3 : c = c') : Ending.returned (.tuple #[.int .i64 a, .int .u8 b, .int .u8 c]) = .returned (.tuple #[.int .i64 a', .int .u8 b', .int .u8 c']) := by rw [h1, h2, h3]

theorem cell_lt {w : World} {p : Addr} {v : Value} (h : w.cell? p = some v) : p.block < w.heap.size := by
  unfold World.cell? at h
  cases e : w.heap[p.block]? with
  | none => rw [e] at h; simp at h
  | some o => exact (Array.getElem?_eq_some_iff.1 e).1
theorem tabs_below {g k : Nat} {w w' : World} (hT : Lib.Utf8Tabs g k w) (hb : Below w.heap.size w w') : Lib.Utf8Tabs g k w' :=
  ⟨fun c hc => (hb.cell (p := ⟨g, c, none⟩) (cell_lt (hT.1 c hc))).trans (hT.1 c hc), fun i hi => ⟨(hb.cell (p := ⟨k, 2 * i, none⟩) (cell_lt (hT.2 i hi).1)).trans (hT.2 i hi).1, (hb.cell (p := ⟨k, 2 * i + 1, none⟩) (cell_lt (hT.2 i hi).2)).trans (hT.2 i hi).2⟩⟩

theorem bcell {W w1 : World} (hb : Below W.heap.size W w1) : (∀ b o, b < W.heap.size → w1.cell? ⟨b, o, none⟩ = W.cell? ⟨b, o, none⟩) ∧ (∀ b o, b < W.heap.size → w1.frozen? ⟨b, o, none⟩ = W.frozen? ⟨b, o, none⟩) :=
  ⟨fun b o h => hb.cell (p := ⟨b, o, none⟩) h, fun b o h => hb.frozen (p := ⟨b, o, none⟩) h⟩

theorem cs_other {X : World} {a b : Addr} {v : Value} (h : a ≠ b) : (X.setCell a v).cell? b = X.cell? b := by apply World.cell?_setCell_other; exact h
theorem cs_same {X : World} {a : Addr} {v u : Value} (h : X.cell? a = some u) : (X.setCell a v).cell? a = some v := by apply World.cell?_setCell_same; exact h

/-- Three cells of one block, stored one behind the other. -/
theorem three_cells (X : World) (B : Nat) (a b c a0 b0 c0 : Value) (h0 : X.cell? ⟨B, 0, none⟩ = some a0) (h1 : X.cell? ⟨B, 1, none⟩ = some b0) (h2 : X.cell? ⟨B, 2, none⟩ = some c0) :
    (((X.setCell ⟨B, 0, none⟩ a).setCell ⟨B, 1, none⟩ b).setCell ⟨B, 2, none⟩ c).cell? ⟨B, 0, none⟩ = some a ∧ (((X.setCell ⟨B, 0, none⟩ a).setCell ⟨B, 1, none⟩ b).setCell ⟨B, 2, none⟩ c).cell? ⟨B, 1, none⟩ = some b ∧ (((X.setCell ⟨B, 0, none⟩ a).setCell ⟨B, 1, none⟩ b).setCell ⟨B, 2, none⟩ c).cell? ⟨B, 2, none⟩ = some c := by
  refine ⟨?_, ?_, ?_⟩
  · rw [cs_other (by simp), cs_other (by simp)]; exact cs_same h0
  · rw [cs_other (by simp)]; exact cs_same (u := b0) (by rw [cs_other (by simp)]; exact h1)
  · exact cs_same (u := c0) (by rw [cs_other (by simp), cs_other (by simp)]; exact h2)

theorem piece_eq {r r' : Int} {k k' : Nat} {o o' : Bool} (h1 : r = r') (h2 : k = k') (h3 : o = o') : Ending.returned (.agg #[.int .i32 r, .int .i64 (k : Int), .bool o]) = .returned (.agg #[.int .i32 r', .int .i64 (k' : Int), .bool o']) := by rw [h1, h2, h3]
/-- The three ways out. -/
theorem out_open {bs : List UInt8} {k : Nat} (hs : nextN bs = scan bs (lead (byteAt bs 0) - k) k) (hn : k < lead (byteAt bs 0)) (hl : k = bs.length) : nextR bs = 65533 ∧ nextN bs = k ∧ nextOpen bs = true := by
  have e : nextN bs = k := by rw [hs]; exact scan_out (.inr (.inl (by omega)))
  refine ⟨?_, e, ?_⟩
  · unfold nextR nextAll; rw [if_neg]; simp; omega
  · unfold nextOpen; simp; omega
theorem out_bad {bs : List UInt8} {k : Nat} (hs : nextN bs = scan bs (lead (byteAt bs 0) - k) k) (hn : k < lead (byteAt bs 0)) (hl : k < bs.length) (ho : byteAt bs k < loAt bs k ∨ hiAt bs k < byteAt bs k) : nextR bs = 65533 ∧ nextN bs = k ∧ nextOpen bs = false := by
  have e : nextN bs = k := by rw [hs]; exact scan_out (.inr (.inr (by unfold okAt; rcases ho with h | h <;> simp <;> omega)))
  refine ⟨?_, e, ?_⟩
  · unfold nextR nextAll; rw [if_neg]; simp; omega
  · unfold nextOpen; simp; omega
theorem out_all {bs : List UInt8} {k : Nat} (hs : nextN bs = scan bs (lead (byteAt bs 0) - k) k) (hn : k = lead (byteAt bs 0)) : nextR bs = runeOf bs ∧ nextN bs = k ∧ nextOpen bs = false ∧ nextAll bs = true := by
  have e : nextN bs = k := by rw [hs]; exact scan_out (.inl (by omega))
  have ha : nextAll bs = true := by unfold nextAll; simp; omega
  refine ⟨?_, e, ?_, ha⟩
  · unfold nextR; rw [if_pos ha]
  · unfold nextOpen; simp; omega

/-- The first bytes as the model has them. -/
def headB (bs : List UInt8) (n : Nat) : ByteArray := ⟨(bs.take n).toArray⟩
theorem headB_size (bs : List UInt8) (n : Nat) (h : n ≤ bs.length) : (headB bs n).size = n := by
  show (bs.take n).toArray.size = n
  simp; omega
theorem headB_get (bs : List UInt8) (n j : Nat) (h : n ≤ bs.length) (hj : j < n) : ((headB bs n).get! j).toNat = byteAt bs j := by
  have : (headB bs n).get! j = bs[j]?.getD 0 := by
    show ((bs.take n).toArray)[j]! = _
    rw [getElem!_pos (bs.take n).toArray j (by simp; omega)]
    simp [List.getElem_take, List.getElem?_eq_getElem (show j < bs.length by omega)]
  rw [this]; rfl
theorem decodeN_beyond (n b0 b1 b2 b3 c1 c2 c3 : Nat) (h1 : 1 < n → b1 = c1) (h2 : 2 < n → b2 = c2) (h3 : 3 < n → b3 = c3) (hn : lead b0 = n) (h0 : n ≠ 0) : Lib.decodeN n b0 b1 b2 b3 = Lib.decodeN n b0 c1 c2 c3 := by
  rcases lead_cases b0 with ⟨c, e⟩ | ⟨c, c', e⟩ | ⟨c, c', e⟩ | ⟨c, c', e⟩ | ⟨c, c', e⟩ | ⟨c, e⟩ <;> rw [hn] at e <;> subst e
  · unfold Lib.decodeN; rw [if_pos c, if_pos c]
  · exact absurd rfl h0
  · rw [h1 (by omega)]; unfold Lib.decodeN; simp only [show ¬ ((2 : Nat) < 2) by omega, show ¬ ((3 : Nat) < 2) by omega, false_and, and_false, if_false]
  · rw [h1 (by omega), h2 (by omega)]; unfold Lib.decodeN; simp only [show ¬ ((3 : Nat) < 3) by omega, false_and, and_false, if_false]
  · rw [h1 (by omega), h2 (by omega), h3 (by omega)]
  · exact absurd rfl h0
theorem decodeGo_head {bs : List UInt8} (hl : lead (byteAt bs 0) ≤ bs.length) (h : nextAll bs = true) : Lib.decodeGo (headB bs (lead (byteAt bs 0))) = (runeOf bs, lead (byteAt bs 0)) := by
  have hn : nextN bs = lead (byteAt bs 0) := by simpa [nextAll] using h
  have h0 : lead (byteAt bs 0) ≠ 0 := by have := nextN_pos bs; omega
  have hs := headB_size bs _ hl
  unfold Lib.decodeGo
  rw [if_neg (by omega), Lib.decode_at, hs, Nat.sub_zero, ← decode_all h]
  rw [headB_get bs _ 0 hl (by omega)]
  exact decodeN_beyond _ _ _ _ _ _ _ _ (fun a => headB_get bs _ 1 hl a) (fun a => headB_get bs _ 2 hl a) (fun a => headB_get bs _ 3 hl a) rfl h0

end Go.Proofs.YthbmlffhcppcaaaDoor.U
