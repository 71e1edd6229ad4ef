/- What is proved here: the contract of sieveref02.New. -/
import Derived.Deep.RegionLaw
import Derived.Deep.RegionHeld3
import Derived.Deep.AppendLies
import Derived.Test.YtkpjmcoihbebkaaCReached
import Derived.Test.YtkpjmcoihbebkaaBun3
namespace Go.Proofs.Ytkpjmcoihbebkaa.C
open Go.RowKit

/-- A struct in memory, none of it frozen. -/
def Blk (w : World) (g : Nat) (cs : Array Value) (t : TypeId) : Prop := w.heap[g]? = some (.cells cs t)
theorem Blk.cell {w : World} {g : Nat} {cs : Array Value} {t : TypeId} (h : Blk w g cs t) (j : Nat) : w.cell? ⟨g, j, none⟩ = cs[j]? := by
  simp only [World.cell?]; rw [show w.heap[g]? = _ from h]; simp
theorem Blk.frozen {w : World} {g : Nat} {cs : Array Value} {t : TypeId} (h : Blk w g cs t) (j : Nat) : w.frozen? ⟨g, j, none⟩ = false := by
  simp only [World.frozen?]; rw [show w.heap[g]? = _ from h]; simp
theorem Blk.lt {w : World} {g : Nat} {cs : Array Value} {t : TypeId} (h : Blk w g cs t) : g < w.heap.size := by
  have : w.heap[g]? = some _ := h
  exact (Array.getElem?_eq_some_iff.1 this).1
theorem Blk.set {w : World} {g : Nat} {cs : Array Value} {t : TypeId} (h : Blk w g cs t) (j : Nat) (v : Value) : Blk (w.setCell ⟨g, j, none⟩ v) g (cs.setIfInBounds j v) t := by
  have hh : w.heap[g]? = some _ := h
  have hl := h.lt
  show (w.setCell ⟨g, j, none⟩ v).heap[g]? = _
  simp only [World.setCell, Array.getElem?_modify, hh]; simp
theorem Blk.new (w : World) (cs : Array Value) (t : TypeId) : Blk (w.alloc (.cells cs t)) w.heap.size cs t := World.alloc_heap_new w _
theorem Blk.below {w w' : World} {g : Nat} {cs : Array Value} {t : TypeId} (h : Blk w g cs t) (hb : Below w.heap.size w w') : Blk w' g cs t := (hb.block g h.lt).trans h
theorem Blk.grown {w w' : World} {g : Nat} {cs : Array Value} {t : TypeId} {row : Option Nat} (h : Blk w g cs t) (hb : w.grownBy w' row) (hr : some g ≠ row) : Blk w' g cs t := (hb.block g h.lt hr).trans h
theorem Blk.alloc {w : World} {g : Nat} {cs : Array Value} {t : TypeId} (h : Blk w g cs t) (o : Obj) : Blk (w.alloc o) g cs t := h.below ((Below.refl _ w).alloc (Nat.le_refl _) o)
theorem Blk.drew {w : World} {g : Nat} {cs : Array Value} {t : TypeId} (h : Blk w g cs t) : Blk w.drew g cs t := h
/-- A script behind a write into another block. -/
theorem OwnS.set {base : Nat} {e : TypeId} {w : World} {r : Value} {l : List (List UInt8 × Bool)} (h : OwnS base e w r l) (g j : Nat) (u : Value) (hg : g < base) : OwnS base e (w.setCell ⟨g, j, none⟩ u) r l := by
  obtain ⟨xs, h1, h2, h3, h4⟩ := h
  have gr : w.grownBy (w.setCell ⟨g, j, none⟩ u) (some g) := ⟨rfl, rfl, rfl, by simp [World.setCell], fun k _ hk => Below.heap_setCell _ _ _ k (fun e => hk (by rw [e]))⟩
  have ap : ∀ {e' : TypeId} {size n : Nat} {v : Value} {ys : List Value}, w.ownsRow base e' size v n ys → v.ownBlock = none ∨ v.ownBlock ≠ some g := fun {e' size n v ys} ho => by
    cases e : v.ownBlock with
    | none => exact .inl rfl
    | some k => exact .inr (fun h => by have := (ho.lt k e).1; simp at h; omega)
  exact ⟨xs, h1, h2.kept gr (ap h2), fun x hx => (h3 x hx).kept gr (ap (h3 x hx)), h4⟩

set_option maxRecDepth 100000 in
set_option maxHeartbeats 40000000 in
/-- **New of any script.** -/
theorem rnew_calls (l : List (List UInt8 × Bool)) (r : Value) (w : World) (hS : HasS w r l) (hl : (l.length : Int) ≤ 1000000000000) (hn : ∀ x ∈ l, x.1.length ≤ 100000000000000) :
    Calls Try.prog 10 #[r] w fun e W' => ∃ v, e = .returned (.pointer (some ⟨w.heap.size, 0, none⟩)) ∧ Blk W' w.heap.size #[v, .int .i64 0, .int .i64 0, .int .i64 0] 47 ∧ OwnS (w.heap.size + 1) 54 W' v l ∧ Below w.heap.size w W' := by
  obtain ⟨i0, hi, hz0, hz1, hz2⟩ := info_parts infoRStep
  obtain ⟨ra, rc, rfl⟩ := hS.slice
  have HS : Hid (HasS w (.slice ra l.length rc) l) := hS
  have HN : Hid (∀ x ∈ l, x.1.length ≤ 100000000000000) := hn
  clear hS hn
  go_enter Try.func10, Try.ntmps10
  go_wp2
  go_loopw [5, 10] (fun _ i wr => ∃ (k : Nat) (v : Value), k ≤ l.length ∧ i = .int .i64 k ∧ Hid (Blk wr w.heap.size #[v, .int .i64 0, .int .i64 0, .int .i64 0] 47) ∧ OwnS (w.heap.size + 1) 54 wr v (l.take k) ∧ Below w.heap.size w wr) (fun _ i _ => l.length - (intOf i).toNat)
  case atStart => exact ⟨0, _, by omega, rfl, Blk.new _ _ _, ⟨[], by simp, World.ownsRow_nil _ _ _ _, (fun x hx => by cases hx), List.Pairwise.nil⟩, (Below.refl _ w).alloc (Nat.le_refl _) _⟩
  case round =>
    obtain ⟨k, v, hk, rfl, hBlk, hO, hB⟩ := hrel
    by_cases hlt : k < l.length
    · obtain ⟨b, off, a, c, rfl, d0, hd, d1⟩ := (HS.out.below hB).at k hlt
      have s1 : w.heap.size < wr.heap.size := hBlk.out.lt
      obtain ⟨xs, x1, x2, x3, x4⟩ := hO
      have htk : (l.take k).length = k := by rw [List.length_take]; omega
      rw [htk] at x2
      obtain ⟨va, vc, rfl⟩ := owns_slice x2
      have HX : Hid (xs.map Prod.snd = l.take k ∧ (∀ x ∈ xs, wr.ownsRow (w.heap.size + 1) 5 1 x.1 x.2.1.length (bvs x.2.1)) ∧ xs.Pairwise (fun x y => ∀ k, x.1.ownBlock = some k → y.1.ownBlock ≠ some k)) := ⟨x1, x3, x4⟩
      have HT : Hid (l.take (k + 1) = l.take k ++ [l[k]]) := List.take_succ_eq_append_getElem hlt
      have hdl := HN.out l[k] (List.getElem_mem _)
      rcases hkind : l[k] with ⟨dk, fk⟩
      rw [hkind] at HT hd d0 d1 hdl
      simp only at hd d0 d1 hdl
      have HD : Hid (Byt wr (.slice a dk.length c) dk) := hd
      clear hkind hd x1 x3 x4
      have hU3 : Hid (∀ j, (Value.slice va k vc).ownBlock = some j → w.heap.size + 1 ≤ j ∧ j < wr.heap.size) := x2.lt
      obtain ⟨W0, hW0⟩ : ∃ W0, wr.alloc (.cells #[.slice a dk.length c, .bool fk] 54) = W0 := ⟨_, rfl⟩
      have z0 : W0.heap.size = wr.heap.size + 1 := by rw [← hW0]; simp
      have b0 : Below wr.heap.size wr W0 := by rw [← hW0]; exact (Below.refl _ wr).alloc (Nat.le_refl _) _
      have e0 : W0.cell? ⟨wr.heap.size, 0, none⟩ = some (.slice a dk.length c) := by rw [← hW0, cell_new]; rfl
      have e1 : W0.cell? ⟨wr.heap.size, 1, none⟩ = some (.bool fk) := by rw [← hW0, cell_new]; rfl
      have HX2 : Hid (wr.ownsRow (w.heap.size + 1) 54 2 (.slice va k vc) k (xs.flatMap fun x => [x.1, Value.bool x.2.2])) := x2
      have HB0 : Hid (Blk W0 w.heap.size #[.slice va k vc, .int .i64 0, .int .i64 0, .int .i64 0] 47) := hBlk.out.below b0
      clear x2
      have hg0 : W0.cell? ⟨w.heap.size, 0, none⟩ = some (.slice va k vc) := HB0.out.cell 0
      go_wp2_with fail
      try rw [hW0]
      clear hW0
      have n0 := World.new_ne W0 _ e0
      have n1 := World.new_ne W0 _ e1
      have n2 := World.new_ne W0 _ hg0
      go_region_law
        (first
        | (refine step_bytes (by rfl) _ _ (by rfl) W0.heap.size (.slice (some ⟨W0.heap.size, 0, none⟩) 0 0) 0 [] (by simp [Act.eval]) (owns_empty W0.drew _ 1) (.slice a dk.length c) dk (by simp [Act.eval]) (HD.out.below (b0.drew.alloc (by show wr.heap.size ≤ W0.heap.size; omega) _)) (by omega) (by simp) ?_; intro v' w4 hown' hgrow; rw [Nat.zero_add, List.nil_append] at hown'; obtain ⟨na, nc, rfl⟩ := owns_slice hown'; have bw4 : Below wr.heap.size wr w4 := (b0.drew.alloc (by show wr.heap.size ≤ W0.heap.size; omega) _).grown hgrow (by show wr.heap.size ≤ (W0.drew.alloc _).heap.size; simp; omega) (fun j hj => by simp [Value.ownBlock] at hj; omega); have z4 : W0.heap.size < w4.heap.size := by { have := hgrow.size; simp at this; omega }; have p0 : w4.cell? ⟨wr.heap.size, 0, none⟩ = some (.slice a dk.length c) := hgrow.cell ((cell_under _ _ _ (by show wr.heap.size < W0.heap.size; omega)).trans e0) (by simp [Value.ownBlock]; omega); have m0 := World.new_ne w4 _ p0; have p1 : w4.cell? ⟨wr.heap.size, 1, none⟩ = some (.bool fk) := hgrow.cell ((cell_under _ _ _ (by show wr.heap.size < W0.heap.size; omega)).trans e1) (by simp [Value.ownBlock]; omega); have m1 := World.new_ne w4 _ p1; have hg4 : w4.cell? ⟨w.heap.size, 0, none⟩ = some (.slice va k vc) := (hBlk.out.below bw4).cell 0; have m2 := World.new_ne w4 _ hg4; have hg4a : (w4.alloc (.cells #[.slice na dk.length nc, .bool fk] 54)).cell? ⟨w.heap.size, 0, none⟩ = some (.slice va k vc) := ((hBlk.out.below bw4).alloc _).cell 0)
        | (refine step_own (by rfl) _ _ 22 (by rfl) (w.heap.size + 1) 54 i0 (.agg #[.slice none 0 0, .bool false]) 2 32 Try.underlying22 hi hz0 hz1 hz2 rfl (by decide) (.slice va k vc) k (xs.flatMap fun x => [x.1, Value.bool x.2.2]) (by simp [Act.eval]) ((owns_below HX2.out bw4).alloc _) ⟨w4.heap.size, 0, none⟩ 1 1 [.slice na dk.length nc, .bool fk] (by simp [Act.eval]) rfl (cells_two _ _ _ _ _ rfl) (by simp [Value.oneCell']) (by unfold maxLen; omega) (by omega) (by simp; omega) ?_; intro v5 w5 hown5 hgrow5; obtain ⟨v5a, v5c, rfl⟩ := owns_slice hown5; have q0 : w5.cell? ⟨wr.heap.size, 0, none⟩ = some (.slice a dk.length c) := hgrow5.cell ((cell_under _ _ _ (by show wr.heap.size < w4.heap.size; omega)).trans p0) (by intro e; have := (hU3.out _ e.symm).2; simp at this); have q1 : w5.cell? ⟨wr.heap.size, 1, none⟩ = some (.bool fk) := hgrow5.cell ((cell_under _ _ _ (by show wr.heap.size < w4.heap.size; omega)).trans p1) (by intro e; have := (hU3.out _ e.symm).2; simp at this); have HB5 : Hid (Blk w5 w.heap.size #[.slice va k vc, .int .i64 0, .int .i64 0, .int .i64 0] 47) := ((hBlk.out.below bw4).alloc _).grown hgrow5 (by intro e; have := (hU3.out _ e.symm).1; omega); have hg5 : w5.cell? ⟨w.heap.size, 0, none⟩ = some (.slice va k vc) := HB5.out.cell 0; have hf5 : w5.frozen? ⟨w.heap.size, 0, none⟩ = false := HB5.out.frozen 0))
      all_goals
        go_wp2
        go_roundw
        case rel => exact ⟨k + 1, _, by omega, by go_num, HB5.out.set 0 _, by
          rw [HT.out]
          exact OwnS.set (OwnS.snoc (w := w4.alloc _) (by decide) HX.out.1 (by rw [htk]; exact (owns_below HX2.out bw4).alloc _) (fun x hx => (owns_below (HX.out.2.1 x hx) bw4).alloc _) ((owns_mono hown' (by omega)).alloc _) (by rw [htk]; exact hown5) hgrow5 HX.out.2.2 (fun x hx j e e' => by have := ((HX.out.2.1 x hx).lt j e).2; have := (hown'.lt j e').1; omega)) _ _ _ (by omega), (((hB.trans (bw4.mono (by omega))).alloc (by omega) _).grown hgrow5 (by simp; omega) (fun j hj => by have := (hU3.out j hj).1; omega)).setCell (p := ⟨w.heap.size, 0, none⟩) (Nat.le_refl _) _⟩
        case measure => simp [intOf]; omega
    · obtain rfl : k = l.length := by omega
      rw [List.take_length] at hO
      go_wp2
      go_ret
      exact ⟨v, rfl, hBlk.out, hO, hB⟩
end Go.Proofs.Ytkpjmcoihbebkaa.C
