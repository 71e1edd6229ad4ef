/- What is proved here: a link as a struct in memory; its parts of a scheme and what stands behind it. -/
import Derived.Test.YtjhmphokmmmoaaaGreatDoorBun14
namespace Go.Proofs.YtjhmphokmmmoaaaGreatDoor.L
open Go.RowKit Go.Shelf Go.Proofs.YtjhmphokmmmoaaaGreatDoor.N Go.Proofs.YtjhmphokmmmoaaaGreatDoor.U

/-- A struct in memory, none of it frozen. -/
def Blk (w : World) (g : Nat) (cs : Array Value) (t : TypeId) : Prop := w.heap[g]? = some (.cells cs t)
theorem Blk.cell {w : World} {g : Nat} {cs : Array Value} {t : TypeId} (h : Blk w g cs t) (j : Nat) : w.cell? ⟨g, j, none⟩ = cs[j]? := by
  simp only [World.cell?]; rw [show w.heap[g]? = _ from h]; simp
theorem Blk.frozen {w : World} {g : Nat} {cs : Array Value} {t : TypeId} (h : Blk w g cs t) (j : Nat) : w.frozen? ⟨g, j, none⟩ = false := by
  simp only [World.frozen?]; rw [show w.heap[g]? = _ from h]; simp
theorem Blk.lt {w : World} {g : Nat} {cs : Array Value} {t : TypeId} (h : Blk w g cs t) : g < w.heap.size := by
  have : w.heap[g]? = some _ := h
  exact (Array.getElem?_eq_some_iff.1 this).1
theorem Blk.set {w : World} {g : Nat} {cs : Array Value} {t : TypeId} (h : Blk w g cs t) (j : Nat) (v : Value) : Blk (w.setCell ⟨g, j, none⟩ v) g (cs.setIfInBounds j v) t := by
  have hh : w.heap[g]? = some _ := h
  have hl := h.lt
  show (w.setCell ⟨g, j, none⟩ v).heap[g]? = _
  simp only [World.setCell, Array.getElem?_modify, hh]; simp
theorem Blk.new (w : World) (cs : Array Value) (t : TypeId) : Blk (w.alloc (.cells cs t)) w.heap.size cs t := World.alloc_heap_new w _
theorem Blk.below {w w' : World} {g : Nat} {cs : Array Value} {t : TypeId} (h : Blk w g cs t) (hb : Below w.heap.size w w') : Blk w' g cs t := (hb.block g h.lt).trans h
theorem Blk.alloc {w : World} {g : Nat} {cs : Array Value} {t : TypeId} (h : Blk w g cs t) (o : Obj) : Blk (w.alloc o) g cs t := h.below ((Below.refl _ w).alloc (Nat.le_refl _) o)
theorem Blk.drew {w : World} {g : Nat} {cs : Array Value} {t : TypeId} (h : Blk w g cs t) : Blk w.drew g cs t := h
theorem Blk.other {w : World} {g g' : Nat} {cs : Array Value} {t : TypeId} (h : Blk w g cs t) (hg : g ≠ g') (j : Nat) (v : Value) : Blk (w.setCell ⟨g', j, none⟩ v) g cs t := by
  show (w.setCell ⟨g', j, none⟩ v).heap[g]? = _
  rw [Below.heap_setCell _ _ _ _ (fun e => hg e)]
  exact h
/-- The nine cells of a link. -/
theorem Blk.nine {w : World} {g : Nat} {v0 v1 v2 v3 v4 v5 v6 v7 v8 : Value} {t : TypeId} (h : Blk w g #[v0, v1, v2, v3, v4, v5, v6, v7, v8] t) :
    w.cell? ⟨g, 0, none⟩ = some v0 ∧ w.cell? ⟨g, 1, none⟩ = some v1 ∧ w.cell? ⟨g, 2, none⟩ = some v2 ∧ w.cell? ⟨g, 3, none⟩ = some v3 ∧ w.cell? ⟨g, 4, none⟩ = some v4 ∧ w.cell? ⟨g, 5, none⟩ = some v5 ∧ w.cell? ⟨g, 6, none⟩ = some v6 ∧ w.cell? ⟨g, 7, none⟩ = some v7 ∧ w.cell? ⟨g, 8, none⟩ = some v8 ∧ ∀ k, w.frozen? ⟨g, k, none⟩ = false :=
  ⟨h.cell 0, h.cell 1, h.cell 2, h.cell 3, h.cell 4, h.cell 5, h.cell 6, h.cell 7, h.cell 8, h.frozen⟩
theorem below_setCell {n : Nat} {w W : World} (h : Below n w W) {g : Nat} (hg : n ≤ g) (j : Nat) (v : Value) : Below n w (W.setCell ⟨g, j, none⟩ v) :=
  ⟨h.os, h.tape, h.output, by simpa [World.setCell] using h.size, fun k hk => by rw [Below.heap_setCell _ _ _ _ (fun e => by rw [show k = g from e] at hk; omega)]; exact h.block k hk⟩
def noLink : Array Value := #[.string ⟨#[]⟩, .string ⟨#[]⟩, .string ⟨#[]⟩, .string ⟨#[]⟩, .string ⟨#[]⟩, .bool false, .bool false, .bool false, .bool false]
theorem below_put9 {n : Nat} {w W : World} (h : Below n w W) {g : Nat} (hg : n ≤ g) (v0 v1 v2 v3 v4 v5 v6 v7 v8 : Value) : Below n w (((((((((W.setCell ⟨g, 0, none⟩ v0).setCell ⟨g, 1, none⟩ v1).setCell ⟨g, 2, none⟩ v2).setCell ⟨g, 3, none⟩ v3).setCell ⟨g, 4, none⟩ v4).setCell ⟨g, 5, none⟩ v5).setCell ⟨g, 6, none⟩ v6).setCell ⟨g, 7, none⟩ v7).setCell ⟨g, 8, none⟩ v8) :=
  below_setCell (below_setCell (below_setCell (below_setCell (below_setCell (below_setCell (below_setCell (below_setCell (below_setCell h hg 0 v0) hg 1 v1) hg 2 v2) hg 3 v3) hg 4 v4) hg 5 v5) hg 6 v6) hg 7 v7) hg 8 v8
theorem Blk.put9 {w : World} {g : Nat} {u0 u1 u2 u3 u4 u5 u6 u7 u8 : Value} {t : TypeId} (h : Blk w g #[u0, u1, u2, u3, u4, u5, u6, u7, u8] t) (v0 v1 v2 v3 v4 v5 v6 v7 v8 : Value) : Blk (((((((((w.setCell ⟨g, 0, none⟩ v0).setCell ⟨g, 1, none⟩ v1).setCell ⟨g, 2, none⟩ v2).setCell ⟨g, 3, none⟩ v3).setCell ⟨g, 4, none⟩ v4).setCell ⟨g, 5, none⟩ v5).setCell ⟨g, 6, none⟩ v6).setCell ⟨g, 7, none⟩ v7).setCell ⟨g, 8, none⟩ v8) g #[v0, v1, v2, v3, v4, v5, v6, v7, v8] t := by
  have h0 : Blk _ g #[v0, u1, u2, u3, u4, u5, u6, u7, u8] t := h.set 0 v0
  have h1 : Blk _ g #[v0, v1, u2, u3, u4, u5, u6, u7, u8] t := h0.set 1 v1
  have h2 : Blk _ g #[v0, v1, v2, u3, u4, u5, u6, u7, u8] t := h1.set 2 v2
  have h3 : Blk _ g #[v0, v1, v2, v3, u4, u5, u6, u7, u8] t := h2.set 3 v3
  have h4 : Blk _ g #[v0, v1, v2, v3, v4, u5, u6, u7, u8] t := h3.set 4 v4
  have h5 : Blk _ g #[v0, v1, v2, v3, v4, v5, u6, u7, u8] t := h4.set 5 v5
  have h6 : Blk _ g #[v0, v1, v2, v3, v4, v5, v6, u7, u8] t := h5.set 6 v6
  have h7 : Blk _ g #[v0, v1, v2, v3, v4, v5, v6, v7, u8] t := h6.set 7 v7
  have h8 : Blk _ g #[v0, v1, v2, v3, v4, v5, v6, v7, v8] t := h7.set 8 v8
  exact h8
def Lk.mend (l : Lk) : Lk := { l with sc := mendL l.sc, ho := mendL l.ho, pa := mendL l.pa, qu := mendL l.qu, fr := mendL l.fr }
structure Lk.Small (l : Lk) (n : Nat) : Prop where
  sc : l.sc.length ≤ n
  ho : l.ho.length ≤ n
  pa : l.pa.length ≤ n
  qu : l.qu.length ≤ n
  fr : l.fr.length ≤ n
/-- The parts, of a scheme and what stands behind it. -/
def partsK (sc : List UInt8) (hb : Bool) (r : List UInt8) : Lk where
  sc := sc
  hs := hb
  fr := r.drop (upToL [35] r + 1)
  hf := decide (upToL [35] r < r.length)
  qu := (aheadK r).drop (upToL [63] (aheadK r) + 1)
  hq := decide (upToL [63] (aheadK r) < (aheadK r).length)
  hh := (hostK ((aheadK r).take (upToL [63] (aheadK r)))).1
  ho := (hostK ((aheadK r).take (upToL [63] (aheadK r)))).2.1
  pa := (hostK ((aheadK r).take (upToL [63] (aheadK r)))).2.2
theorem split_none {s : List UInt8} (h : colonL s = none) : splitK s = partsK [] false s := by
  have e : restK s = s := by unfold restK; rw [h]
  unfold splitK partsK
  rw [e, h]
  rfl
theorem split_some {s : List UInt8} {n : Nat} (h : colonL s = some n) : splitK s = partsK (lower (s.take n)) true (s.drop (n + 1)) := by
  have e : restK s = s.drop (n + 1) := by unfold restK; rw [h]
  unfold splitK partsK
  rw [e, h]
  rfl
theorem parts_v (sc : List UInt8) (hb : Bool) (r : List UInt8) : ∃ A F hf B Q hq, r.take (upToL [35] r) = A ∧ r.drop (upToL [35] r + 1) = F ∧ decide (upToL [35] r < r.length) = hf ∧ A.take (upToL [63] A) = B ∧ A.drop (upToL [63] A + 1) = Q ∧ decide (upToL [63] A < A.length) = hq ∧
    (partsK sc hb r).v = .agg #[.string ⟨sc.toArray⟩, .string ⟨(hostK B).2.1.toArray⟩, .string ⟨(hostK B).2.2.toArray⟩, .string ⟨Q.toArray⟩, .string ⟨F.toArray⟩, .bool hb, .bool (hostK B).1, .bool hq, .bool hf] ∧ A.length ≤ r.length ∧ B.length ≤ A.length :=
  ⟨_, _, _, _, _, _, rfl, rfl, rfl, rfl, rfl, rfl, rfl, by simp; omega, by simp; omega⟩
theorem parts_three (sc : List UInt8) (hb : Bool) (r : List UInt8) : ∃ B Q F, Three r B Q F ∧ (partsK sc hb r).v = .agg #[.string ⟨sc.toArray⟩, .string ⟨(hostK B).2.1.toArray⟩, .string ⟨(hostK B).2.2.toArray⟩, .string ⟨(Q.drop 1).toArray⟩, .string ⟨(F.drop 1).toArray⟩, .bool hb, .bool (hostK B).1, .bool (decide (0 < Q.length)), .bool (decide (0 < F.length))] := by
  obtain ⟨B, Q, F, h, h1, h2, h3, h4⟩ := three r
  refine ⟨B, Q, F, h, ?_⟩
  have hA : aheadK r = B ++ Q := h1.symm
  have e1 : (B ++ Q).drop (upToL [63] (B ++ Q) + 1) = Q.drop 1 := by
    have : (B ++ Q).drop (upToL [63] (B ++ Q) + 1) = ((B ++ Q).drop (upToL [63] (B ++ Q))).drop 1 := by rw [List.drop_drop]
    rw [this, ← h4]
  have e2 : r.drop (upToL [35] r + 1) = F.drop 1 := by
    have : r.drop (upToL [35] r + 1) = (r.drop (upToL [35] r)).drop 1 := by rw [List.drop_drop]
    rw [this, ← h2]
  have e3 : decide (upToL [63] (B ++ Q) < (B ++ Q).length) = decide (0 < Q.length) := by
    have e := congrArg List.length h4
    rw [List.length_drop] at e
    rw [decide_eq_decide]
    omega
  have e4 : decide (upToL [35] r < r.length) = decide (0 < F.length) := by
    have e := congrArg List.length h2
    rw [List.length_drop] at e
    rw [decide_eq_decide]
    omega
  unfold Lk.v partsK
  simp only
  rw [hA, ← h3, e1, e2, e3, e4]
theorem nohost_r {r B Q F : List UInt8} (h : Three r B Q F) (hB : (hostK B).1 = false) : r.length ≤ 1 ∨ (1 < r.length ∧ (r.getD 0 0 == 47) = false) ∨ (1 < r.length ∧ (r.getD 0 0 == 47) = true ∧ (r.getD 1 0 == 47) = false) := by
  by_cases h1 : r.length ≤ 1
  · exact .inl h1
  · cases e0 : (r.getD 0 0 == 47) with
    | false => exact .inr (.inl ⟨by omega, rfl⟩)
    | true =>
      cases e1 : (r.getD 1 0 == 47) with
      | false => exact .inr (.inr ⟨by omega, rfl, rfl⟩)
      | true =>
        exfalso
        have ht := h.tail
        have ha := h.all
        have z0 : r.getD 0 0 = 47 := by simpa using e0
        have z1 : r.getD 1 0 = 47 := by simpa using e1
        rw [ha] at z0 z1 h1
        cases B with
        | nil =>
          rcases ht with e | ⟨c, t, e, hc⟩
          · rw [e] at h1; simp at h1
          · rw [e] at z0; simp at z0; rcases hc with rfl | rfl <;> simp at z0
        | cons a B' =>
          cases B' with
          | nil =>
            rcases ht with e | ⟨c, t, e, hc⟩
            · rw [e] at h1; simp at h1
            · rw [e] at z1; simp at z1; rcases hc with rfl | rfl <;> simp at z1
          | cons b u =>
            simp at z0 z1
            subst z0; subst z1
            have : (hostK (47 :: 47 :: u)).1 = true := rfl
            rw [this] at hB
            cases hB
theorem hostK_cases (B : List UInt8) : ((hostK B).1 = false ∧ (hostK B).2.1 = [] ∧ (hostK B).2.2 = B) ∨ ∃ C, B = 47 :: 47 :: C ∧ hostK B = (true, C.take (upToL [47] C), C.drop (upToL [47] C)) := by
  cases B with
  | nil => exact .inl ⟨rfl, rfl, rfl⟩
  | cons a t =>
    cases t with
    | nil => exact .inl ⟨rfl, rfl, rfl⟩
    | cons b u =>
      have e : hostK (a :: b :: u) = if (a == 47 && b == 47) = true then (true, u.take (upToL [47] u), u.drop (upToL [47] u)) else (false, [], a :: b :: u) := rfl
      rw [e]
      cases hc : (a == 47 && b == 47) with
      | false => exact .inl ⟨rfl, rfl, rfl⟩
      | true =>
        simp at hc
        obtain ⟨rfl, rfl⟩ := hc
        right
        exact ⟨u, rfl, by simp⟩
end Go.Proofs.YtjhmphokmmmoaaaGreatDoor.L
