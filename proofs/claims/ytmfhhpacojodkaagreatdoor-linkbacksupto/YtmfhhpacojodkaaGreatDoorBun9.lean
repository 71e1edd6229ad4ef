/- What is proved here: laws and contracts of IterG, LpBRune, one behind the other (each says its own). -/
import Derived.RangeFuncNested
import Derived.RangeFuncBound
import Derived.RangeFuncBox
import Derived.RangeFuncCalls
import Derived.RangeFuncLeaves
import Derived.Shelf.Abstract
import Derived.Shelf.RegionOpen
import Derived.WalkKit
import Derived.OwnWalkIn
import Derived.TacticsInMore
import Derived.LoopNIn
import Derived.LoopIn
import Derived.Test.YtmfhhpacojodkaaGreatDoorIter
import Derived.Test.YtmfhhpacojodkaaGreatDoorBun8
import Derived.Maps.AppendAt
import Derived.Shelf.Strings.BuilderRune
import Derived.Lib.UnsafeStr
import Derived.Laws.Externs
import Derived.Test.YtmfhhpacojodkaaGreatDoorLpShelf
import Derived.Test.YtmfhhpacojodkaaGreatDoorTShelf
/- What is proved here: what a loop over the iterator 'walk' of package utf is told, for any bytes anywhere in memory, as long as each round keeps to blocks of its own (boxes of any number of cells, and the rows that these hold). -/
namespace Go.Proofs.YtmfhhpacojodkaaGreatDoor.U
open Go.RowKit Go.Shelf
attribute [local go_sem] Oper.semAt_some

/-- Block k is the row of a slice that a cell of one of the boxes holds. -/
def rowG (bxs : List Nat) (W : World) (k : Nat) : Prop := ∃ B ∈ bxs, ∃ o v, W.cell? ⟨B, o, none⟩ = some v ∧ v.ownBlock = some k
/-- WHAT A ROUND KEEPS: all below n₀; every block of cells but the boxes and the rows that they hold; a row is the old one or a new block. -/
def KprG (n₀ : Nat) (bxs : List Nat) (W W' : World) : Prop :=
  Below n₀ W W' ∧ (∀ k o, W.heap[k]? = some o → o.isCells = true → k ∉ bxs → ¬ rowG bxs W k → W'.heap[k]? = some o) ∧
  (∀ k, rowG bxs W' k → rowG bxs W k ∨ (W.heap.size ≤ k ∧ k < W'.heap.size))
theorem KprG.refl (n₀ : Nat) (bxs : List Nat) (W : World) : KprG n₀ bxs W W := ⟨Below.refl _ _, fun _ _ h _ _ _ => h, fun _ h => .inl h⟩
theorem KprG.trans {n₀ : Nat} {bxs : List Nat} {A B C : World} (h : KprG n₀ bxs A B) (k : KprG n₀ bxs B C) : KprG n₀ bxs A C := by
  refine ⟨h.1.trans k.1, fun j o hj hc hb hr => ?_, fun j hj => ?_⟩
  · refine k.2.1 j o (h.2.1 j o hj hc hb hr) hc hb (fun hB => ?_)
    rcases h.2.2 j hB with hA | ⟨hA, _⟩
    · exact hr hA
    · have := lt_of_block hj; omega
  · have s1 := h.1.size; have s2 := k.1.size
    rcases k.2.2 j hj with hB | ⟨hB, hC⟩
    · rcases h.2.2 j hB with hA | ⟨hA, hA'⟩
      · exact .inl hA
      · exact .inr ⟨hA, by omega⟩
    · exact .inr ⟨by omega, hC⟩
/-- A block that no round touches. -/
def Free (bxs : List Nat) (W : World) (k : Nat) : Prop := k ∉ bxs ∧ ¬ rowG bxs W k
theorem KprG.block {n₀ : Nat} {bxs : List Nat} {W W' : World} (h : KprG n₀ bxs W W') {k : Nat} {o : Obj} (hk : W.heap[k]? = some o) (hc : o.isCells = true) (hf : Free bxs W k) : W'.heap[k]? = some o := h.2.1 k o hk hc hf.1 hf.2
theorem KprG.cell {n₀ : Nat} {bxs : List Nat} {W W' : World} (h : KprG n₀ bxs W W') {p : Addr} {v : Value} (hc : W.cell? p = some v) (hf : Free bxs W p.block) : W'.cell? p = some v := by
  obtain ⟨o, ho, hi⟩ := block_of_cell hc
  rw [cell_of_block ((h.block ho hi hf).trans ho.symm)]; exact hc
theorem KprG.free {n₀ : Nat} {bxs : List Nat} {W W' : World} (h : KprG n₀ bxs W W') {k : Nat} (hf : Free bxs W k) (hk : k < W.heap.size) : Free bxs W' k :=
  ⟨hf.1, fun hr => (h.2.2 k hr).elim hf.2 (fun hh => by omega)⟩
theorem KprG.book {n₀ : Nat} {bxs : List Nat} {w : World} (hn : n₀ ≤ w.heap.size) (hb : ∀ B ∈ bxs, B < w.heap.size) (W : World) (l : Nat) (o o' : Obj) (hl : w.heap.size ≤ l) (h : W.heap[l]? = some o) (hc : o.isCells = false) (hw : o.isWalk = false) : KprG n₀ bxs W (W.putObj l o') := by
  refine ⟨belowK_b hn W l o o' hl h hc hw, fun k ok hk hkc _ _ => ?_, fun k hk => .inl ?_⟩
  · have : k ≠ l := by rintro rfl; rw [hk] at h; cases h; rw [hkc] at hc; cases hc
    rw [World.putObj_heap_other this]; exact hk
  · obtain ⟨B, hB, u, v, hv, e⟩ := hk
    refine ⟨B, hB, u, v, ?_, e⟩
    rw [← hv]; exact (cell_of_block (World.putObj_heap_other (by have := hb B hB; show B ≠ l; omega))).symm
theorem rowG_below {bxs : List Nat} {A B : World} (h : Below A.heap.size A B) (hb : ∀ b ∈ bxs, b < A.heap.size) {k : Nat} : rowG bxs B k ↔ rowG bxs A k := by
  constructor
  · rintro ⟨b, hB, u, v, hv, e⟩; exact ⟨b, hB, u, v, by rw [← hv]; exact (h.cell (p := ⟨b, u, none⟩) (hb b hB)).symm, e⟩
  · rintro ⟨b, hB, u, v, hv, e⟩; exact ⟨b, hB, u, v, by rw [← hv]; exact h.cell (p := ⟨b, u, none⟩) (hb b hB), e⟩
/-- Whatever turns nothing that was there keeps it. -/
theorem KprG.below {n₀ : Nat} {bxs : List Nat} {A B : World} (h : Below A.heap.size A B) (hn : n₀ ≤ A.heap.size) (hb : ∀ b ∈ bxs, b < A.heap.size) : KprG n₀ bxs A B :=
  ⟨h.mono hn, fun k _ hk _ _ _ => (h.block k (lt_of_block hk)).trans hk, fun _ hk => .inl ((rowG_below h hb).1 hk)⟩
/-- More boxes: where those that come to it hold no slice. -/
theorem KprG.more {n₀ : Nat} {bxs ex : List Nat} {A B : World} (h : KprG n₀ bxs A B) (he : ∀ b ∈ ex, ∀ u v, B.cell? ⟨b, u, none⟩ = some v → v.ownBlock = none) : KprG n₀ (ex ++ bxs) A B := by
  refine ⟨h.1, fun k o hk hc hb hr => h.2.1 k o hk hc (fun hm => hb (by simp [hm])) (fun ⟨b, hB, x⟩ => hr ⟨b, by simp [hB], x⟩), fun k hk => ?_⟩
  obtain ⟨b, hB, u, v, hv, e⟩ := hk
  rcases List.mem_append.1 hB with hB | hB
  · rw [he b hB u v hv] at e; cases e
  · exact (h.2.2 k ⟨b, hB, u, v, hv, e⟩).imp (fun ⟨b, hB, x⟩ => ⟨b, by simp [hB], x⟩) id
/-- A store into a box, of what is no slice. -/
theorem KprG.store {n₀ : Nat} {bxs : List Nat} {W : World} {p : Addr} {x : Value} (hp : p.block ∈ bxs) (hn : n₀ ≤ p.block) (hx : x.ownBlock = none) : KprG n₀ bxs W (W.setCell p x) := by
  refine ⟨(Below.refl _ _).setCell hn _, fun k o hk _ hb _ => ?_, fun k hk => .inl ?_⟩
  · rw [Below.heap_setCell _ _ _ _ (fun e => hb (by rw [e]; exact hp))]; exact hk
  · obtain ⟨B, hB, u, v, hv, e⟩ := hk
    by_cases hq : p = ⟨B, u, none⟩
    · subst hq
      cases hc : W.cell? ⟨B, u, none⟩ with
      | none =>
        have : (W.setCell ⟨B, u, none⟩ x).cell? ⟨B, u, none⟩ = none := by
          simp only [World.cell?, World.setCell] at hc ⊢
          simp only [Array.getElem?_modify]
          cases hh : W.heap[B]? with
          | none => simp
          | some ob =>
            rw [hh] at hc
            cases ob <;> simp_all
        rw [this] at hv; cases hv
      | some y => rw [cs_same hc] at hv; cases hv; rw [hx] at e; cases e
    · rw [cs_other hq] at hv; exact ⟨B, hB, u, v, hv, e⟩

/-- Where the iterator's bytes lie, and that no round touches them. -/
structure WalkAt (Bs b off cap : Nat) (bs : List UInt8) (bxs : List Nat) (W : World) : Prop where
  cBs : W.cell? ⟨Bs, 0, none⟩ = some (.slice (some ⟨b, off, none⟩) bs.length cap)
  cb : ∀ j, j < bs.length → W.cell? ⟨b, off + j, none⟩ = some (.int .u8 (byteAt bs j))
  fBs : Free bxs W Bs
  fb : Free bxs W b
  hBx : ∀ B ∈ bxs, B < W.heap.size
  hrow : ∀ k, rowG bxs W k → k < W.heap.size
theorem WalkAt.below {Bs b off cap : Nat} {bs : List UInt8} {bxs : List Nat} {A B : World} (h : WalkAt Bs b off cap bs bxs A) (hB : Below A.heap.size A B) : WalkAt Bs b off cap bs bxs B where
  cBs := (hB.cell (p := ⟨Bs, 0, none⟩) (cell_lt h.cBs)).trans h.cBs
  cb := fun j hj => (hB.cell (p := ⟨b, off + j, none⟩) (cell_lt (h.cb j hj))).trans (h.cb j hj)
  fBs := ⟨h.fBs.1, fun hr => h.fBs.2 ((rowG_below hB h.hBx).1 hr)⟩
  fb := ⟨h.fb.1, fun hr => h.fb.2 ((rowG_below hB h.hBx).1 hr)⟩
  hBx := fun k hk => by have := h.hBx k hk; have := hB.size; omega
  hrow := fun k hk => by have := h.hrow k ((rowG_below hB h.hBx).1 hk); have := hB.size; omega
theorem WalkAt.kept {Bs b off cap n₀ : Nat} {bs : List UInt8} {bxs : List Nat} {A B : World} (h : WalkAt Bs b off cap bs bxs A) (hB : KprG n₀ bxs A B) (h0 : 0 < bs.length) : WalkAt Bs b off cap bs bxs B where
  cBs := hB.cell h.cBs h.fBs
  cb := fun j hj => hB.cell (h.cb j hj) h.fb
  fBs := hB.free h.fBs (cell_lt h.cBs)
  fb := hB.free h.fb (cell_lt (h.cb 0 h0))
  hBx := fun k hk => by have := h.hBx k hk; have := hB.1.size; omega
  hrow := fun k hk => by
    have := hB.1.size
    rcases hB.2.2 k hk with hk | hk
    · have := h.hrow k hk; omega
    · omega
/-- What was laid since is free. -/
theorem WalkAt.new {Bs b off cap : Nat} {bs : List UInt8} {bxs : List Nat} {A B : World} (h : WalkAt Bs b off cap bs bxs A) (hB : Below A.heap.size A B) {k : Nat} (hk : A.heap.size ≤ k) : Free bxs B k :=
  ⟨fun hm => by have := h.hBx k hm; omega, fun hr => by have := h.hrow k ((rowG_below hB h.hBx).1 hr); omega⟩

def tokAt (bs : List UInt8) (k : Nat) (hk : k < bs.length) (hl : bs.length ≤ 140737488355328) : Tok := ⟨(k, nextR (bs.drop k)), by simp only; omega, rune_lt _ (by simp; omega)⟩

set_option maxRecDepth 100000 in
set_option maxHeartbeats 2000000 in
theorem walkG_in (n : Nat) (hn : 1 ≤ n) (l Bs n₀ b off cap : Nat) (bs : List UInt8) (bxs : List Nat) (h0 : 0 < bs.length) (hl : bs.length ≤ 140737488355328) (hcap : bs.length ≤ cap) (J Jx : List Tok → World → Prop) (W : World)
    (hJ : AbidesFrom W.heap.size J)
    (hY : ∀ pre x W1, J pre W1 → pre.length < bs.length → YieldAt Fence.wide (n - 1) Tryz.prog l #[.int .i64 (x.1.1 : Int), .int .i32 (x.1.2 : Int)] W1 fun e W' =>
      (e = .returned (.bool true) ∧ J (pre ++ [x]) W' ∧ KprG n₀ bxs W1 W') ∨ (e = .returned (.bool false) ∧ Jx (pre ++ [x]) W'))
    (hA : WalkAt Bs b off cap bs bxs W) (hn₀ : n₀ ≤ W.heap.size)
    (hT : Lib.Utf8Tabs (Tryz.lays32_ren.g 2) (Tryz.lays32_ren.g 3) W) (hg : Tryz.lays32_ren.g 2 < n₀ ∧ Tryz.lays32_ren.g 3 < n₀) (hJ0 : J [] W) :
    CallsIn Fence.wide n Tryz.prog 99 #[.func (.yield l) #[] #[], .pointer (some ⟨Bs, 0, none⟩)] W fun e W' => (∃ v, e = .returned v) ∧
      ((∃ ys : List Tok, ys.map Subtype.val = toks bs ∧ J ys W') ∨ (∃ pre : List Tok, pre.map Subtype.val <+: toks bs ∧ Jx pre W')) := by
  refine callsIn_of_wp Tryz.func99 rfl trivial ?_ rfl
  simp only [Tryz.ntmps99, List.size_toArray, List.length_cons, List.length_nil, Nat.reduceAdd, Nat.reduceSub, Array.replicate_succ, Array.replicate_zero, List.push_toArray, List.append_toArray, List.nil_append, List.cons_append]
  gi_wp2
  gi_loopw [3] (fun i wr => ∃ (k : Nat) (pre : List Tok), i = .int .i64 k ∧ k ≤ bs.length ∧ pre.length ≤ k ∧ Hid (toks bs = pre.map Subtype.val ++ toksF bs.length k (bs.drop k)) ∧ J pre wr ∧ Below n₀ W wr ∧ Hid (WalkAt Bs b off cap bs bxs wr))
    (fun i _ => bs.length - (intOf i).toNat)
  case atStart => exact ⟨0, [], rfl, by omega, by simp, rfl, hJ0, Below.refl _ _, hA⟩
  case round =>
    obtain ⟨k, pre, rfl, hk, hpk, hx, hJs, hnx, HA⟩ := hrel
    have hBs' := HA.out.cBs
    by_cases hlt : k < bs.length
    · have hp1 := nextN_pos (bs.drop k)
      have hp2 : k + nextN (bs.drop k) ≤ bs.length := by have := nextN_len (bs.drop k) (by simp; omega); simp at this; omega
      have hst : Hid (toksF bs.length k (bs.drop k) = (k, nextR (bs.drop k)) :: toksF bs.length (k + nextN (bs.drop k)) (bs.drop (k + nextN (bs.drop k)))) := toks_step bs k hlt
      have hs0 := hnx.size
      have hT' : Hid (Lib.Utf8Tabs (Tryz.lays32_ren.g 2) (Tryz.lays32_ren.g 3) wr) := ⟨fun c h => (hnx.cell (p := ⟨_, c, none⟩) hg.1).trans (hT.1 c h), fun i h => ⟨(hnx.cell (p := ⟨_, 2 * i, none⟩) hg.2).trans (hT.2 i h).1, (hnx.cell (p := ⟨_, 2 * i + 1, none⟩) hg.2).trans (hT.2 i h).2⟩⟩
      gi_wp2_with (refine ⟨trivial, ?_⟩; gi_at_call 100; refine (callsIn_wide.2 (next_at bs b off cap k _ hlt hl hcap hT'.out HA.out.cb)).mono ?_; rintro e w1 ⟨rfl, hb1⟩; have hb2 : Below wr.heap.size wr (w1.alloc (.cells #[.int .i32 (nextR (bs.drop k)), .int .i64 (nextN (bs.drop k)), .bool (nextOpen (bs.drop k))] 125)) := hb1.alloc hb1.size _; obtain ⟨fn, tmps, assign, body, hy, hR⟩ := hY pre (tokAt bs k hlt hl) (w1.alloc (.cells #[.int .i32 (nextR (bs.drop k)), .int .i64 (nextN (bs.drop k)), .bool (nextOpen (bs.drop k))] 125)) (hJ _ _ _ none hJs (grownBy_of_below hb2) (fun _ h => by cases h)) (by omega); dsimp only [tokAt] at hy)
      refine hR.mono ?_
      rintro e W3 (⟨rfl, hJ3, hk3⟩ | ⟨rfl, hJx3⟩)
      · have hA3 : Hid (WalkAt Bs b off cap bs bxs W3) := (HA.out.below hb2).kept hk3 h0
        have hp : W3.cell? ⟨w1.heap.size, 1, none⟩ = some (.int .i64 (nextN (bs.drop k))) := hk3.cell (by simp) (HA.out.new hb2 hb1.size)
        have hz2 := hb2.size
        gi_wp2
        go_roundw
        case rel => exact ⟨k + nextN (bs.drop k), pre ++ [tokAt bs k hlt hl], by go_num, hp2, by simp; omega, by show toks bs = _; rw [hx.out, hst.out]; simp [tokAt], hJ3, (hnx.trans (hb2.mono (by omega))).trans hk3.1, hA3⟩
        case measure => simp [intOf]; omega
      · gi_wp2
        refine bodyPost_ret (results_none rfl _ _ _) rfl ?_
        exact ⟨⟨_, rfl⟩, .inr ⟨_, ⟨toksF bs.length (k + nextN (bs.drop k)) (bs.drop (k + nextN (bs.drop k))), by rw [hx.out, hst.out]; simp [tokAt]⟩, hJx3⟩⟩
    · obtain rfl : k = bs.length := by omega
      gi_wp2
      go_end0
      exact ⟨⟨_, rfl⟩, .inl ⟨pre, by rw [hx.out, toks_end bs _ (Nat.le_refl _)]; simp, hJs⟩⟩

set_option maxRecDepth 100000 in
set_option maxHeartbeats 1000000 in
theorem walkG_nil (n l Bs : Nat) (a : Option Addr) (cap : Nat) (J : List Tok → World → Prop) (W : World) (hBs : W.cell? ⟨Bs, 0, none⟩ = some (.slice a 0 cap)) (h0 : J [] W) :
    CallsIn Fence.wide n Tryz.prog 99 #[.func (.yield l) #[] #[], .pointer (some ⟨Bs, 0, none⟩)] W fun e W' => (∃ v, e = .returned v) ∧ J [] W' := by
  refine callsIn_of_wp Tryz.func99 rfl trivial ?_ rfl
  simp only [Tryz.ntmps99, List.size_toArray, List.length_cons, List.length_nil, Nat.reduceAdd, Nat.reduceSub, Array.replicate_succ, Array.replicate_zero, List.push_toArray, List.append_toArray, List.nil_append, List.cons_append]
  gi_wp2
  gi_loopw [3] (fun i wr => i = .int .i64 0 ∧ wr = W) (fun _ _ => 0)
  case atStart => exact ⟨rfl, rfl⟩
  case round =>
    obtain ⟨rfl, rfl⟩ := hrel
    gi_wp2
    go_end0
    exact ⟨⟨_, rfl⟩, h0⟩

/-- The bytes of a slice that the box Bs holds, and that no round touches. -/
def WalkAny (Bs : Nat) (bs : List UInt8) (bxs : List Nat) (w : World) : Prop :=
  (bs = [] ∧ ∃ a cap, w.cell? ⟨Bs, 0, none⟩ = some (.slice a 0 cap)) ∨ (0 < bs.length ∧ ∃ b off cap, bs.length ≤ cap ∧ WalkAt Bs b off cap bs bxs w)

/-- **The iterator of walk(b): all of b's runes with their places, in order; or, where a round has said 'no more', a beginning of them.** -/
theorem walkG_stops (n : Nat) (hn : 1 ≤ n) (Bs n₀ : Nat) (bs : List UInt8) (bxs : List Nat) (w : World) (hl : bs.length ≤ 140737488355328) (hA : WalkAny Bs bs bxs w) (hn₀ : n₀ ≤ w.heap.size)
    (hT : Lib.Utf8Tabs (Tryz.lays32_ren.g 2) (Tryz.lays32_ren.g 3) w) (hg : Tryz.lays32_ren.g 2 < n₀ ∧ Tryz.lays32_ren.g 3 < n₀) :
    SeqStopsK Fence.wide n Tryz.prog 99 #[.pointer (some ⟨Bs, 0, none⟩)] (fun x : Tok => #[Value.int .i64 (x.1.1 : Int), Value.int .i32 (x.1.2 : Int)]) (KprG n₀ bxs) (fun ys => ys.map Subtype.val = toks bs) (fun pre => pre.map Subtype.val <+: toks bs) bs.length w := fun l J Jx W hW hJ _ hY h0 => by
  have hs := hW.size
  rcases hA with ⟨rfl, a, cap, hc⟩ | ⟨hp, b, off, cap, hcap, hA⟩
  · exact (walkG_nil n l Bs a cap J W ((hW.cell (p := ⟨Bs, 0, none⟩) (cell_lt hc)).trans hc) h0).mono fun e W' ⟨he, hj⟩ => ⟨he, .inl ⟨[], rfl, hj⟩⟩
  · exact walkG_in n hn l Bs n₀ b off cap bs bxs hp hl hcap J Jx W hJ hY (hA.below hW) (by omega) (tabs_below hT hW) hg h0

end Go.Proofs.YtmfhhpacojodkaaGreatDoor.U

/- What is proved here: (*strings.Builder).WriteRune of any character, with where the builder's row lies then; and String. -/
namespace Go.Proofs.YtmfhhpacojodkaaGreatDoor.U
open Go.RowKit Go.Shelf

theorem infoByteB : (Tryz.prog.info? 5).map (fun i => (i.zero, i.size, i.bytes)) = some (some (.int .u8 0), 1, 1) := by kernel_rfl
/-- What an append to a row of bytes does. -/
def Appended (B : Nat) (v : Value) (n m : Nat) (xs news : List Value) (w w' : World) (v' : Value) : Prop :=
  w'.ownsRow B 5 1 v' (n + m) (xs ++ news) ∧ (∃ o, (w.alloc o).grownBy w' v.ownBlock) ∧ (v'.ownBlock = v.ownBlock ∨ v'.ownBlock = some (w.heap.size + 1))

set_option maxHeartbeats 4000000 in
set_option maxRecDepth 100000 in
theorem arune_two (B : Nat) (v : Value) (n : Nat) (xs : List Value) (r : Int) (h0 : 128 ≤ r) (h1 : r ≤ 2047) (w : World) (hown : w.ownsRow B 5 1 v n xs) (hlen : n + 4 ≤ 140737488355328) (hBw : B ≤ w.heap.size) :
    Calls Tryz.prog 115 #[v, .int .i32 r] w fun e w' => ∃ v', e = .returned v' ∧ Appended B v n 2 xs [.int .u8 (192 + r / 64), .int .u8 (128 + r % 64)] w w' v' := by
  obtain ⟨i0, hi, hz0, hz1, hz2⟩ := info_parts infoByteB
  go_enter Tryz.func115, Tryz.ntmps115
  go_wp2_with (at_builtin; refine wpList_append_own_at _ rfl _ _ 29 rfl B 5 i0 (.int .u8 0) 1 1 Tryz.underlying29 hi hz0 hz1 hz2 rfl (by decide) _ _ _ rfl (hown.alloc _) ⟨w.heap.size, 0, none⟩ 2 2 [.int .u8 (192 + r / 64), .int .u8 (128 + r % 64)] rfl rfl ?c1 ?c2 ?c3 ?c4 ?c5 ?_)
  case c1 =>
    intro j u hj
    match j, hj with
    | 0, hj => simp at hj; subst hj; simp [Addr.add]
    | 1, hj => simp at hj; subst hj; simp [Addr.add]
    | (j + 2), hj => simp at hj
  case c2 => intro u hu; simp at hu; rcases hu with rfl | rfl <;> rfl
  case c3 => unfold maxLen; omega
  case c4 => omega
  case c5 => simp; omega
  intro v' w2 hown' hgrow _ hob
  go_wp2
  go_ret
  exact ⟨_, rfl, hown', ⟨_, hgrow⟩, by simpa using hob⟩

set_option maxHeartbeats 4000000 in
set_option maxRecDepth 100000 in
theorem arune_lo (B : Nat) (v : Value) (n : Nat) (xs : List Value) (r : Int) (h0 : 2048 ≤ r) (h1 : r < 55296) (w : World) (hown : w.ownsRow B 5 1 v n xs) (hlen : n + 4 ≤ 140737488355328) (hBw : B ≤ w.heap.size) :
    Calls Tryz.prog 115 #[v, .int .i32 r] w fun e w' => ∃ v', e = .returned v' ∧ Appended B v n 3 xs [.int .u8 (224 + r / 4096), .int .u8 (128 + r / 64 % 64), .int .u8 (128 + r % 64)] w w' v' := by
  obtain ⟨i0, hi, hz0, hz1, hz2⟩ := info_parts infoByteB
  go_enter Tryz.func115, Tryz.ntmps115
  go_wp2_with (at_builtin; refine wpList_append_own_at _ rfl _ _ 29 rfl B 5 i0 (.int .u8 0) 1 1 Tryz.underlying29 hi hz0 hz1 hz2 rfl (by decide) _ _ _ rfl (hown.alloc _) ⟨w.heap.size, 0, none⟩ 3 3 [.int .u8 (224 + r / 4096), .int .u8 (128 + r / 64 % 64), .int .u8 (128 + r % 64)] rfl rfl ?c1 ?c2 ?c3 ?c4 ?c5 ?_)
  case c1 =>
    intro j u hj
    match j, hj with
    | 0, hj => simp at hj; subst hj; simp [Addr.add]
    | 1, hj => simp at hj; subst hj; simp [Addr.add]
    | 2, hj => simp at hj; subst hj; simp [Addr.add]
    | (j + 3), hj => simp at hj
  case c2 => intro u hu; simp at hu; rcases hu with rfl | rfl | rfl <;> rfl
  case c3 => unfold maxLen; omega
  case c4 => omega
  case c5 => simp; omega
  intro v' w2 hown' hgrow _ hob
  go_wp2
  go_ret
  exact ⟨_, rfl, hown', ⟨_, hgrow⟩, by simpa using hob⟩

set_option maxHeartbeats 4000000 in
set_option maxRecDepth 100000 in
theorem arune_hi (B : Nat) (v : Value) (n : Nat) (xs : List Value) (r : Int) (h0 : 57343 < r) (h1 : r ≤ 65535) (w : World) (hown : w.ownsRow B 5 1 v n xs) (hlen : n + 4 ≤ 140737488355328) (hBw : B ≤ w.heap.size) :
    Calls Tryz.prog 115 #[v, .int .i32 r] w fun e w' => ∃ v', e = .returned v' ∧ Appended B v n 3 xs [.int .u8 (224 + r / 4096), .int .u8 (128 + r / 64 % 64), .int .u8 (128 + r % 64)] w w' v' := by
  obtain ⟨i0, hi, hz0, hz1, hz2⟩ := info_parts infoByteB
  go_enter Tryz.func115, Tryz.ntmps115
  go_wp2_with (at_builtin; refine wpList_append_own_at _ rfl _ _ 29 rfl B 5 i0 (.int .u8 0) 1 1 Tryz.underlying29 hi hz0 hz1 hz2 rfl (by decide) _ _ _ rfl (hown.alloc _) ⟨w.heap.size, 0, none⟩ 3 3 [.int .u8 (224 + r / 4096), .int .u8 (128 + r / 64 % 64), .int .u8 (128 + r % 64)] rfl rfl ?c1 ?c2 ?c3 ?c4 ?c5 ?_)
  case c1 =>
    intro j u hj
    match j, hj with
    | 0, hj => simp at hj; subst hj; simp [Addr.add]
    | 1, hj => simp at hj; subst hj; simp [Addr.add]
    | 2, hj => simp at hj; subst hj; simp [Addr.add]
    | (j + 3), hj => simp at hj
  case c2 => intro u hu; simp at hu; rcases hu with rfl | rfl | rfl <;> rfl
  case c3 => unfold maxLen; omega
  case c4 => omega
  case c5 => simp; omega
  intro v' w2 hown' hgrow _ hob
  go_wp2
  go_ret
  exact ⟨_, rfl, hown', ⟨_, hgrow⟩, by simpa using hob⟩

set_option maxHeartbeats 4000000 in
set_option maxRecDepth 100000 in
theorem arune_four (B : Nat) (v : Value) (n : Nat) (xs : List Value) (r : Int) (h0 : 65536 ≤ r) (h1 : r ≤ 1114111) (w : World) (hown : w.ownsRow B 5 1 v n xs) (hlen : n + 4 ≤ 140737488355328) (hBw : B ≤ w.heap.size) :
    Calls Tryz.prog 115 #[v, .int .i32 r] w fun e w' => ∃ v', e = .returned v' ∧ Appended B v n 4 xs [.int .u8 (240 + r / 262144), .int .u8 (128 + r / 4096 % 64), .int .u8 (128 + r / 64 % 64), .int .u8 (128 + r % 64)] w w' v' := by
  obtain ⟨i0, hi, hz0, hz1, hz2⟩ := info_parts infoByteB
  go_enter Tryz.func115, Tryz.ntmps115
  go_wp2_with (at_builtin; refine wpList_append_own_at _ rfl _ _ 29 rfl B 5 i0 (.int .u8 0) 1 1 Tryz.underlying29 hi hz0 hz1 hz2 rfl (by decide) _ _ _ rfl (hown.alloc _) ⟨w.heap.size, 0, none⟩ 4 4 [.int .u8 (240 + r / 262144), .int .u8 (128 + r / 4096 % 64), .int .u8 (128 + r / 64 % 64), .int .u8 (128 + r % 64)] rfl rfl ?c1 ?c2 ?c3 ?c4 ?c5 ?_)
  case c1 =>
    intro j u hj
    match j, hj with
    | 0, hj => simp at hj; subst hj; simp [Addr.add]
    | 1, hj => simp at hj; subst hj; simp [Addr.add]
    | 2, hj => simp at hj; subst hj; simp [Addr.add]
    | 3, hj => simp at hj; subst hj; simp [Addr.add]
    | (j + 4), hj => simp at hj
  case c2 => intro u hu; simp at hu; rcases hu with rfl | rfl | rfl | rfl <;> rfl
  case c3 => unfold maxLen; omega
  case c4 => omega
  case c5 => simp; omega
  intro v' w2 hown' hgrow _ hob
  go_wp2
  go_ret
  exact ⟨_, rfl, hown', ⟨_, hgrow⟩, by simpa using hob⟩

set_option maxHeartbeats 4000000 in
set_option maxRecDepth 100000 in
theorem arune_ascii (B : Nat) (v : Value) (n : Nat) (xs : List Value) (r : Int) (h0 : 0 ≤ r) (h1 : r ≤ 127) (w : World) (hown : w.ownsRow B 5 1 v n xs) (hlen : n + 4 ≤ 140737488355328) (hBw : B ≤ w.heap.size) :
    Calls Tryz.prog 95 #[v, .int .i32 r] w fun e w' => ∃ v', e = .returned v' ∧ Appended B v n 1 xs [.int .u8 r] w w' v' := by
  obtain ⟨i0, hi, hz0, hz1, hz2⟩ := info_parts infoByteB
  go_enter Tryz.func95, Tryz.ntmps95
  go_wp2_with (at_builtin; refine wpList_append_own_at _ rfl _ _ 29 rfl B 5 i0 (.int .u8 0) 1 1 Tryz.underlying29 hi hz0 hz1 hz2 rfl (by decide) _ _ _ rfl (hown.alloc _) ⟨w.heap.size, 0, none⟩ 1 1 [.int .u8 r] rfl rfl ?c1 ?c2 ?c3 ?c4 ?c5 ?_)
  case c1 =>
    intro j u hj
    match j, hj with
    | 0, hj => simp at hj; subst hj; simp [Addr.add]
    | (j + 1), hj => simp at hj
  case c2 => intro u hu; simp at hu; subst hu; rfl
  case c3 => unfold maxLen; omega
  case c4 => omega
  case c5 => simp; omega
  intro v' w2 hown' hgrow _ hob
  go_wp2
  go_ret
  exact ⟨_, rfl, hown', ⟨_, hgrow⟩, by simpa using hob⟩

set_option maxHeartbeats 4000000 in
set_option maxRecDepth 100000 in
theorem arune_more (v : Value) (r : Int) (h0 : 128 ≤ r) (h1 : r ≤ 1114111) (w : World) (Q : Value → World → Prop) (H : Hid (Calls Tryz.prog 115 #[v, .int .i32 r] w fun e w' => ∃ v', e = .returned v' ∧ Q v' w')) :
    Calls Tryz.prog 95 #[v, .int .i32 r] w fun e w' => ∃ v', e = .returned v' ∧ Q v' w' := by
  go_enter Tryz.func95, Tryz.ntmps95
  go_wp2_with (go_at_call 115; refine H.out.mono ?_; rintro e w1 ⟨v', rfl, hR⟩)
  go_ret
  exact ⟨_, rfl, hR⟩

/-- **utf8.AppendRune of any character.** -/
theorem arune_calls (B : Nat) (v : Value) (n : Nat) (xs : List Value) (r : Int) (h0 : 0 ≤ r ∧ r ≤ 1114111 ∧ ¬ (55296 ≤ r ∧ r ≤ 57343)) (w : World) (hown : w.ownsRow B 5 1 v n xs) (hlen : n + 4 ≤ 140737488355328) (hBw : B ≤ w.heap.size) :
    Calls Tryz.prog 95 #[v, .int .i32 r] w fun e w' => ∃ v', e = .returned v' ∧ Appended B v n (Lib.runeCells r).length xs (Lib.runeCells r) w w' v' := by
  by_cases c1 : r ≤ 127
  · rw [show Lib.runeCells r = [.int .u8 r] by simp [Lib.runeCells, Lib.encodeRuneZ_one h0.1 c1]]
    exact arune_ascii B v n xs r h0.1 c1 w hown hlen hBw
  · refine arune_more v r (by omega) (by omega) w _ ?_
    by_cases c2 : r ≤ 2047
    · rw [show Lib.runeCells r = [.int .u8 (192 + r / 64), .int .u8 (128 + r % 64)] by simp [Lib.runeCells, Lib.encodeRuneZ_two (show 128 ≤ r by omega) c2]]
      exact (arune_two B v n xs r (by omega) c2 w hown hlen hBw).mono fun e w' ⟨v', he, hA⟩ => ⟨v', he, hA⟩
    · by_cases c3 : r ≤ 65535
      · have e3 : Lib.runeCells r = [.int .u8 (224 + r / 4096), .int .u8 (128 + r / 64 % 64), .int .u8 (128 + r % 64)] := by
          unfold Lib.runeCells Lib.encodeRuneZ
          rw [if_neg (by omega), if_neg (by omega)]
          first | (rw [if_pos (by omega)]; rfl) | (rw [if_neg (by omega), if_pos (by omega)]; rfl)
        rw [e3]
        by_cases c4 : r < 55296
        · exact (arune_lo B v n xs r (by omega) c4 w hown hlen hBw).mono fun e w' ⟨v', he, hA⟩ => ⟨v', he, hA⟩
        · exact (arune_hi B v n xs r (by omega) c3 w hown hlen hBw).mono fun e w' ⟨v', he, hA⟩ => ⟨v', he, hA⟩
      · have e4 : Lib.runeCells r = [.int .u8 (240 + r / 262144), .int .u8 (128 + r / 4096 % 64), .int .u8 (128 + r / 64 % 64), .int .u8 (128 + r % 64)] := by
          unfold Lib.runeCells Lib.encodeRuneZ
          rw [if_neg (by omega), if_neg (by omega), if_neg (by omega)]
          first | (rw [if_pos (by omega)]; rfl) | (rw [if_neg (by omega), if_pos (by omega)]; rfl)
        rw [e4]
        exact (arune_four B v n xs r (by omega) (by omega) w hown hlen hBw).mono fun e w' ⟨v', he, hA⟩ => ⟨v', he, hA⟩

end Go.Proofs.YtmfhhpacojodkaaGreatDoor.U
