/- What is proved here: the contract of Read of sieveref07. -/
import Derived.Test.YtelfejbhlolppaaDoorTRReadM
import Derived.Test.YtelfejbhlolppaaDoorTRCut
import Derived.Test.YtelfejbhlolppaaDoorBun9
import Derived.Deep.RegionHeld3
namespace Go.Proofs.YtelfejbhlolppaaDoor.T
open Go.RowKit N

theorem cut_yes (s p : ByteArray) (r : List UInt8) (h : s.data.toList = p.data.toList ++ r) : cutV s p = .tuple #[.string ⟨r.toArray⟩, .bool true] := by
  have hp : p.data.toList.isPrefixOf s.data.toList = true := by rw [List.isPrefixOf_iff_prefix]; exact ⟨r, h.symm⟩
  unfold cutV
  rw [hp]
  have hd : s.data.toList.drop p.size = r := by rw [← size_data p, h, List.drop_left]
  rw [hd]
theorem cut_no (s p : ByteArray) (h : p.data.toList.isPrefixOf s.data.toList = false) : cutV s p = .tuple #[.string s, .bool false] := by
  unfold cutV
  rw [h]
theorem sumA_snoc (l : AL) (a b : ByteArray) : sumA (l ++ [(a, b)]) = sumA l + (a.size + b.size) := by unfold sumA; simp
/-- Where Read stands: its result's block, and its token's. -/
structure RdT (w W : World) (K : Int) (N X : ByteArray) (V : Value) (B : Bool) : Prop where
  below : Below w.heap.size w W
  res : W.heap[w.heap.size]? = some (.cells #[.int .i64 0, .string ⟨#[]⟩, .string ⟨#[]⟩, .slice none 0 0, .bool false, .int .i64 0, .int .i64 0, .int .i64 0] 28 (0, 0))
  tok : W.heap[w.heap.size + 1]? = some (.cells #[.int .i64 K, .string N, .string X, V, .bool B, .int .i64 0, .int .i64 0, .int .i64 0] 28 (0, 0))
theorem RdT.start (w : World) : RdT w ((w.alloc (.cells #[.int .i64 0, .string ⟨#[]⟩, .string ⟨#[]⟩, .slice none 0 0, .bool false, .int .i64 0, .int .i64 0, .int .i64 0] 28)).alloc (.cells #[.int .i64 0, .string ⟨#[]⟩, .string ⟨#[]⟩, .slice none 0 0, .bool false, .int .i64 0, .int .i64 0, .int .i64 0] 28)) 0 ⟨#[]⟩ ⟨#[]⟩ (.slice none 0 0) false := by
  have hz : (w.alloc (.cells #[.int .i64 0, .string ⟨#[]⟩, .string ⟨#[]⟩, .slice none 0 0, .bool false, .int .i64 0, .int .i64 0, .int .i64 0] 28)).heap.size = w.heap.size + 1 := by simp
  refine ⟨((Below.refl _ w).alloc (Nat.le_refl _) _).alloc (by omega) _, ?_, ?_⟩
  · exact (((Below.refl _ (w.alloc (.cells #[.int .i64 0, .string ⟨#[]⟩, .string ⟨#[]⟩, .slice none 0 0, .bool false, .int .i64 0, .int .i64 0, .int .i64 0] 28))).alloc (Nat.le_refl _) _).block w.heap.size (by omega)).trans (new_at w _ _)
  · have := new_at (w.alloc (.cells #[.int .i64 0, .string ⟨#[]⟩, .string ⟨#[]⟩, .slice none 0 0, .bool false, .int .i64 0, .int .i64 0, .int .i64 0] 28)) #[.int .i64 0, .string ⟨#[]⟩, .string ⟨#[]⟩, .slice none 0 0, .bool false, .int .i64 0, .int .i64 0, .int .i64 0] 28
    rw [hz] at this
    exact this
theorem RdT.size {w W : World} {K : Int} {N X : ByteArray} {V : Value} {B : Bool} (h : RdT w W K N X V B) : w.heap.size + 2 ≤ W.heap.size := by have := lt_of_at h.tok; omega
theorem RdT.call {w W W' : World} {K : Int} {N X : ByteArray} {V : Value} {B : Bool} (h : RdT w W K N X V B) (hb : Below W.heap.size W W') : RdT w W' K N X V B :=
  ⟨h.below.trans (hb.mono h.below.size), (hb.block _ (by have := h.size; omega)).trans h.res, (hb.block _ (by have := h.size; omega)).trans h.tok⟩
theorem RdT.gt {w W W' : World} {K : Int} {N X : ByteArray} {V : Value} {B : Bool} (h : RdT w W K N X V B) {row : Option Nat} (hg : W.grownBy W' row) (hr : ∀ j, row = some j → w.heap.size ≤ j) (h0 : row ≠ some w.heap.size) (h1 : row ≠ some (w.heap.size + 1)) : RdT w W' K N X V B :=
  ⟨h.below.grown hg (by have := h.size; omega) hr, (hg.block _ (by have := h.size; omega) (fun e => h0 e.symm)).trans h.res, (hg.block _ (by have := h.size; omega) (fun e => h1 e.symm)).trans h.tok⟩
theorem RdT.alloc {w W : World} {K : Int} {N X : ByteArray} {V : Value} {B : Bool} (h : RdT w W K N X V B) (o : Obj) : RdT w (W.alloc o) K N X V B :=
  h.gt (row := none) (World.grownBy_alloc _ _ _) (fun _ e => by cases e) (by simp) (by simp)
theorem RdT.put {w W : World} {K : Int} {N X : ByteArray} {V : Value} {B : Bool} (h : RdT w W K N X V B) (i : Nat) (u : Value) : Below w.heap.size w (W.setCell ⟨w.heap.size + 1, i, none⟩ u) ∧ (W.setCell ⟨w.heap.size + 1, i, none⟩ u).heap[w.heap.size]? = some (.cells #[.int .i64 0, .string ⟨#[]⟩, .string ⟨#[]⟩, .slice none 0 0, .bool false, .int .i64 0, .int .i64 0, .int .i64 0] 28 (0, 0)) :=
  ⟨h.below.grown (grown_set _ _ _ _) (by have := h.size; omega) (fun j e => by cases e; omega), (Below.heap_setCell _ _ _ _ (fun e => by have : w.heap.size = w.heap.size + 1 := e; omega)).trans h.res⟩
theorem RdT.k {w W : World} {K : Int} {N X : ByteArray} {V : Value} {B : Bool} (h : RdT w W K N X V B) (K' : Int) : RdT w (W.setCell ⟨w.heap.size + 1, 0, none⟩ (.int .i64 K')) K' N X V B := ⟨(h.put _ _).1, (h.put _ _).2, set_block h.tok 0 _⟩
theorem RdT.n {w W : World} {K : Int} {N X : ByteArray} {V : Value} {B : Bool} (h : RdT w W K N X V B) (N' : ByteArray) : RdT w (W.setCell ⟨w.heap.size + 1, 1, none⟩ (.string N')) K N' X V B := ⟨(h.put _ _).1, (h.put _ _).2, set_block h.tok 1 _⟩
theorem RdT.x {w W : World} {K : Int} {N X : ByteArray} {V : Value} {B : Bool} (h : RdT w W K N X V B) (X' : ByteArray) : RdT w (W.setCell ⟨w.heap.size + 1, 2, none⟩ (.string X')) K N X' V B := ⟨(h.put _ _).1, (h.put _ _).2, set_block h.tok 2 _⟩
theorem RdT.v {w W : World} {K : Int} {N X : ByteArray} {V : Value} {B : Bool} (h : RdT w W K N X V B) (V' : Value) : RdT w (W.setCell ⟨w.heap.size + 1, 3, none⟩ V') K N X V' B := ⟨(h.put _ _).1, (h.put _ _).2, set_block h.tok 3 _⟩
theorem RdT.b {w W : World} {K : Int} {N X : ByteArray} {V : Value} {B : Bool} (h : RdT w W K N X V B) (B' : Bool) : RdT w (W.setCell ⟨w.heap.size + 1, 4, none⟩ (.bool B')) K N X V B' := ⟨(h.put _ _).1, (h.put _ _).2, set_block h.tok 4 _⟩
theorem results_rread {tmps : Array Value} {W : World} {A : Nat} {b : Bool} {v0 v1 v2 v3 v4 v5 v6 v7 : Value} {fz : Nat × Nat} (h2 : tmps[2]?.getD undef = .pointer (some ⟨A, 0, none⟩)) (h3 : tmps[3]?.getD undef = .bool b) (h : W.heap[A]? = some (.cells #[v0, v1, v2, v3, v4, v5, v6, v7] 28 fz)) :
    (results Tryd.f42 tmps).run Tryd.prog W = .ok (.tuple #[.agg #[v0, v1, v2, v3, v4, v5, v6, v7], .bool b]) W := by
  have c0 : W.cell? ⟨A, 0, none⟩ = some v0 := cell_at h
  have c1 : W.cell? ⟨A, 1, none⟩ = some v1 := cell_at h
  have c2 : W.cell? ⟨A, 2, none⟩ = some v2 := cell_at h
  have c3 : W.cell? ⟨A, 3, none⟩ = some v3 := cell_at h
  have c4 : W.cell? ⟨A, 4, none⟩ = some v4 := cell_at h
  have c5 : W.cell? ⟨A, 5, none⟩ = some v5 := cell_at h
  have c6 : W.cell? ⟨A, 6, none⟩ = some v6 := cell_at h
  have c7 : W.cell? ⟨A, 7, none⟩ = some v7 := cell_at h
  simp [results, Tryd.results42, go_sem, h2, h3, c0, c1, c2, c3, c4, c5, c6, c7]
theorem drew_at {W : World} {k : Nat} {o : Obj} (h : W.heap[k]? = some o) : W.drew.heap[k]? = some o := h
theorem ownA_drew {base : Nat} {W : World} {v : Value} {l : AL} (h : OwnA base W v l) : OwnA base W.drew v l := h
theorem below_of_drew {A C : World} (h : Below A.drew.heap.size A.drew C) : Below A.heap.size A C := (Below.refl _ A).drew.trans h
theorem put8_belowR {w W : World} (h : Below w.heap.size w W) (hW : w.heap.size < W.heap.size) (v0 v1 v2 v3 v4 v5 v6 v7 : Value) :
    Below w.heap.size w ((((((((W.setCell ⟨w.heap.size, 0, none⟩ v0).setCell ⟨w.heap.size, 1, none⟩ v1).setCell ⟨w.heap.size, 2, none⟩ v2).setCell ⟨w.heap.size, 3, none⟩ v3).setCell ⟨w.heap.size, 4, none⟩ v4).setCell ⟨w.heap.size, 5, none⟩ v5).setCell ⟨w.heap.size, 6, none⟩ v6).setCell ⟨w.heap.size, 7, none⟩ v7) := by
  have go : ∀ (X : World) (j : Nat) (u : Value), Below w.heap.size w X → w.heap.size < X.heap.size → Below w.heap.size w (X.setCell ⟨w.heap.size, j, none⟩ u) ∧ w.heap.size < (X.setCell ⟨w.heap.size, j, none⟩ u).heap.size := fun X j u h hx => ⟨h.grown (grown_set _ _ _ _) (by omega) (fun j e => by cases e; omega), by simpa [World.setCell] using hx⟩
  obtain ⟨a1, b1⟩ := go _ 0 v0 h hW
  obtain ⟨a2, b2⟩ := go _ 1 v1 a1 b1
  obtain ⟨a3, b3⟩ := go _ 2 v2 a2 b2
  obtain ⟨a4, b4⟩ := go _ 3 v3 a3 b3
  obtain ⟨a5, b5⟩ := go _ 4 v4 a4 b4
  obtain ⟨a6, b6⟩ := go _ 5 v5 a5 b5
  obtain ⟨a7, b7⟩ := go _ 6 v6 a6 b6
  exact (go _ 7 v7 a7 b7).1
def strLenR : Value → Nat
  | .string s => s.size
  | _ => 0
def mzR (v5 v6 : Value) : Nat := match v6 with
  | .bool true => strLenR v5 + 1
  | _ => 0

theorem pre_split {a b : List UInt8} (h : a.isPrefixOf b = true) : ∃ x, b = a ++ x := by
  rw [List.isPrefixOf_iff_prefix] at h
  obtain ⟨x, h⟩ := h
  exact ⟨x, h.symm⟩
theorem pre_one (c : UInt8) (b : List UInt8) (h : b.head? ≠ some c) : [c].isPrefixOf b = false := by
  cases b with
  | nil => rfl
  | cons d r =>
    simp at h
    simp [List.isPrefixOf]
    exact fun e => h e.symm
theorem cutyes_calls (s p X : ByteArray) (x : List UInt8) (hs : s.size ≤ 1048576) (hp : p.size ≤ 1048576) (h : s.data.toList = p.data.toList ++ x) (hX : (⟨x.toArray⟩ : ByteArray) = X) : ∀ W, Calls Tryd.prog 56 #[.string s, .string p] W fun e w' => e = .returned (.tuple #[.string X, .bool true]) ∧ Below W.heap.size W w' := fun W => by
  have := rcut_calls s p W hs hp
  rw [cut_yes s p x h, hX] at this
  exact this
theorem cutno_calls (s p : ByteArray) (hs : s.size ≤ 1048576) (hp : p.size ≤ 1048576) (h : p.data.toList.isPrefixOf s.data.toList = false) : ∀ W, Calls Tryd.prog 56 #[.string s, .string p] W fun e w' => e = .returned (.tuple #[.string s, .bool false]) ∧ Below W.heap.size W w' := fun W => by
  have := rcut_calls s p W hs hp
  rw [cut_no s p h] at this
  exact this
theorem unqV_any (X : ByteArray) : ∃ (A R : ByteArray) (b : Bool), unqV X = .tuple #[.string A, .string R, .bool b] ∧ (b = true → unqd X.data.toList = some (A.data.toList, R.data.toList)) ∧ (b = false → unqd X.data.toList = none) := by
  cases h : unqd X.data.toList with
  | none => exact ⟨_, _, false, unqV_none X h, (fun h => by cases h), fun _ => rfl⟩
  | some ar => exact ⟨_, _, true, unqV_some X ar.1 ar.2 h, fun _ => rfl, fun h => by cases h⟩
theorem unqV_size (X : ByteArray) {A R : ByteArray} (h : unqV X = .tuple #[.string A, .string R, .bool false]) : A.size = 0 := by
  cases hq : unqd X.data.toList with
  | none => rw [unqV_none X hq] at h; simp at h; rw [← h.1]; rfl
  | some ar => rw [unqV_some X ar.1 ar.2 hq] at h; simp at h
/-- Where a round of Read stands: the attribute's block besides. -/
structure RaT (w W : World) (g : Nat) (l : AL) (V : Value) (A P Q : ByteArray) : Prop where
  rd : RdT w W 1 A ⟨#[]⟩ V false
  own : OwnA w.heap.size W V l
  blk : W.heap[g]? = some (.cells #[.string P, .string Q] 36 (0, 0))
  low : w.heap.size + 2 ≤ g
  far : V.ownBlock = none ∨ V.ownBlock ≠ some g
theorem RaT.start {w wr : World} {l : AL} {V : Value} {A : ByteArray} (hR : RdT w wr 1 A ⟨#[]⟩ V false) (hO : OwnA w.heap.size wr V l) : RaT w (wr.alloc (.cells #[.string ⟨#[]⟩, .string ⟨#[]⟩] 36)) wr.heap.size l V A ⟨#[]⟩ ⟨#[]⟩ :=
  ⟨hR.alloc _, World.ownsRow.alloc hO _, new_at _ _ _, hR.size, by
    rcases hv : V.ownBlock with _ | k
    · exact .inl rfl
    · right; intro e; simp at e; have := World.ownsRow.lt hO k hv; omega⟩
theorem RaT.call {w W W' : World} {g : Nat} {l : AL} {V : Value} {A P Q : ByteArray} (h : RaT w W g l V A P Q) (hb : Below W.heap.size W W') : RaT w W' g l V A P Q :=
  ⟨h.rd.call hb, C.owns_below h.own hb, (hb.block _ (lt_of_at h.blk)).trans h.blk, h.low, h.far⟩
theorem RaT.rdSet {w W : World} {g : Nat} {l : AL} {V : Value} {A P Q : ByteArray} (h : RaT w W g l V A P Q) (i : Nat) (u : Value) : RdT w (W.setCell ⟨g, i, none⟩ u) 1 A ⟨#[]⟩ V false :=
  h.rd.gt (grown_set _ _ _ _) (fun j e => by cases e; have := h.low; omega) (fun e => by have := h.low; simp at e; omega) (fun e => by have := h.low; simp at e; omega)
theorem RaT.set0 {w W : World} {g : Nat} {l : AL} {V : Value} {A P Q : ByteArray} (h : RaT w W g l V A P Q) (P' : ByteArray) : RaT w (W.setCell ⟨g, 0, none⟩ (.string P')) g l V A P' Q :=
  ⟨h.rdSet _ _, OwnA.set h.own h.far _ _, set_block h.blk 0 _, h.low, h.far⟩
theorem RaT.set1 {w W : World} {g : Nat} {l : AL} {V : Value} {A P Q : ByteArray} (h : RaT w W g l V A P Q) (Q' : ByteArray) : RaT w (W.setCell ⟨g, 1, none⟩ (.string Q')) g l V A P Q' :=
  ⟨h.rdSet _ _, OwnA.set h.own h.far _ _, set_block h.blk 1 _, h.low, h.far⟩
theorem RaT.app {w W w9 : World} {g : Nat} {l : AL} {V : Value} {A P Q : ByteArray} {o : Obj} (h : RaT w W g l V A P Q) (hg : (W.alloc o).grownBy w9 V.ownBlock) : RdT w w9 1 A ⟨#[]⟩ V false := by
  have ho := World.ownsRow.alloc h.own o
  have hr := h.rd.alloc o
  have a0 := OwnA.apart ho hr.res (by decide)
  have a1 := OwnA.apart ho hr.tok (by decide)
  exact hr.gt hg (fun j e => (World.ownsRow.lt ho j e).1) (a0.elim (fun e => by rw [e]; simp) id) (a1.elim (fun e => by rw [e]; simp) id)

/-- What a token and the sign beside it say of a line. -/
def FinR (s : ByteArray) (t : T.Tok) (l : AL) (b : Bool) : Prop := (b = true → readP s.data.toList = some (t, l)) ∧ (b = false → readP s.data.toList = none)
/-- What Read answers. -/
def RPost (s : ByteArray) (w : World) (e : Ending) (w' : World) : Prop := ∃ (t : T.Tok) (l : AL) (v : Value) (b : Bool), e = .returned (.tuple #[t.val v, .bool b]) ∧ OwnA w.heap.size w' v l ∧ Below w.heap.size w w' ∧ FinR s t l b

set_option maxRecDepth 100000 in
set_option maxHeartbeats 16000000 in
/-- **Read.** -/
theorem rread_calls (s : ByteArray) (w : World) (hs : s.size ≤ 1048576) :
    Calls Tryd.prog 42 #[.string s] w fun e w' => RPost s w e w' := by
  obtain ⟨i0, hi, hz0, hz1, hz2⟩ := info_parts infoAttr
  have HI : Hid (Tryd.prog.info? 36 = some i0 ∧ i0.zero = some (.agg #[.string ⟨#[]⟩, .string ⟨#[]⟩]) ∧ i0.size = 2 ∧ i0.bytes = 32) := ⟨hi, hz0, hz1, hz2⟩
  clear hi hz0 hz1 hz2
  go_enter Tryd.func42, Tryd.ntmps42
  by_cases hd : s.data.toList = (wordS 4).data.toList
  · have q0 : (s.toList == [100, 111, 99, 116, 121, 112, 101]) = true := by rw [Lib.toList_data, hd]; rfl
    have HFIN : Hid (FinR s (⟨4, ⟨#[]⟩, ⟨#[]⟩, false, 0, 0, 0⟩ : T.Tok) [] true) := ⟨fun _ => by rw [hd, readP_doc], fun h => by cases h⟩
    clear hd
    go_wp2
    all_goals exact bodyPost_ret (results_rread rfl rfl ((((Below.refl _ _).alloc (Nat.le_refl _) _).block w.heap.size (by simp)).trans (new_at w _ _))) rfl ⟨(⟨4, ⟨#[]⟩, ⟨#[]⟩, false, 0, 0, 0⟩ : T.Tok), [], .slice none 0 0, true, rfl, World.ownsRow_nil _ _ _ _, ((Below.refl _ w).alloc (Nat.le_refl _) _).alloc (by simp) _, HFIN.out⟩
  · have q0 : (s.toList == [100, 111, 99, 116, 121, 112, 101]) = false := by rw [Lib.toList_data]; simpa [wordS] using hd
    have HRd := RdT.start w
    go_wp2_with fail
    generalize (w.alloc (.cells #[.int .i64 0, .string ⟨#[]⟩, .string ⟨#[]⟩, .slice none 0 0, .bool false, .int .i64 0, .int .i64 0, .int .i64 0] 28)).alloc (.cells #[.int .i64 0, .string ⟨#[]⟩, .string ⟨#[]⟩, .slice none 0 0, .bool false, .int .i64 0, .int .i64 0, .int .i64 0] 28) = W2 at HRd ⊢
    have HR2 : Hid (RdT w W2 0 ⟨#[]⟩ ⟨#[]⟩ (.slice none 0 0) false) := HRd
    clear HRd
    by_cases hp : ((wordS 0).data.toList ++ [32]).isPrefixOf s.data.toList = true
    · obtain ⟨x, hx⟩ := pre_split hp
      obtain ⟨X, hX⟩ : ∃ X : ByteArray, (⟨x.toArray⟩ : ByteArray) = X := ⟨_, rfl⟩
      have hXd : X.data.toList = x := by rw [← hX]
      have hXz : X.size ≤ s.size := by rw [← size_data, ← size_data, hXd, hx]; simp; omega
      have HRP : Hid (s.data.toList = (wordS 0).data.toList ++ 32 :: x) := by show _ = _; rw [hx]; rfl
      have CY : Hid (∀ W, Calls Tryd.prog 56 #[.string s, .string ⟨#[116, 101, 120, 116, 32]⟩] W fun e w' => e = .returned (.tuple #[.string X, .bool true]) ∧ Below W.heap.size W w') := cutyes_calls s ⟨#[116, 101, 120, 116, 32]⟩ X x hs (by decide) hx hX
      clear hp hx hX
      refine (CY.out W2).mono ?_
      rintro e w3 ⟨rfl, hb3⟩
      have HR3 : Hid (RdT w w3 0 ⟨#[]⟩ ⟨#[]⟩ (.slice none 0 0) false) := HR2.out.call hb3
      clear hb3
      have y0 : w3.cell? ⟨w.heap.size + 1, 0, none⟩ = some (.int .i64 0) := cell_at HR3.out.tok
      have f3 : ∀ i, w3.frozen? ⟨w.heap.size + 1, i, none⟩ = false := fun i => frozen_at HR3.out.tok
      obtain ⟨W4, hW4⟩ : ∃ W4, w3.setCell ⟨w.heap.size + 1, 0, none⟩ (.int .i64 0) = W4 := ⟨_, rfl⟩
      have HR4 : Hid (RdT w W4 0 ⟨#[]⟩ ⟨#[]⟩ (.slice none 0 0) false) := by rw [← hW4]; exact HR3.out.k 0
      go_wp2_with fail
      clear y0 f3
      have UC := unquote_calls X W4 (by omega)
      cases hq : unqd x with
      | none =>
        rw [unqV_none X (by rw [hXd]; exact hq)] at UC
        have HN : Hid (readP s.data.toList = none) := by show _ = _; rw [HRP.out, readP_one_none 0 (by omega) x hq]
        clear hq hXd
        refine UC.mono ?_
        rintro e w5 ⟨rfl, hb5⟩
        have HR5 : Hid (RdT w w5 0 ⟨#[]⟩ ⟨#[]⟩ (.slice none 0 0) false) := HR4.out.call hb5
        clear hb5
        have o2 : w5.cell? ⟨w.heap.size + 1, 2, none⟩ = some (.string ⟨#[]⟩) := cell_at HR5.out.tok
        have f5 : ∀ i, w5.frozen? ⟨w.heap.size + 1, i, none⟩ = false := fun i => frozen_at HR5.out.tok
        obtain ⟨W6, hW6⟩ : ∃ W6, w5.setCell ⟨w.heap.size + 1, 2, none⟩ (.string ⟨#[]⟩) = W6 := ⟨_, rfl⟩
        have HR6 : Hid (RdT w W6 0 ⟨#[]⟩ ⟨#[]⟩ (.slice none 0 0) false) := by rw [← hW6]; exact HR5.out.x ⟨#[]⟩
        have HO6 : Hid (OwnA w.heap.size W6 (.slice none 0 0) []) := World.ownsRow_nil _ _ _ _
        have HFIN : Hid (FinR s (⟨0, ⟨#[]⟩, ⟨#[]⟩, false, 0, 0, 0⟩ : T.Tok) [] false) := ⟨(fun h => by cases h), fun _ => HN.out⟩
        have y0 : W6.cell? ⟨w.heap.size + 1, 0, none⟩ = some (.int .i64 0) := cell_at HR6.out.tok
        have y1 : W6.cell? ⟨w.heap.size + 1, 1, none⟩ = some (.string ⟨#[]⟩) := cell_at HR6.out.tok
        have y2 : W6.cell? ⟨w.heap.size + 1, 2, none⟩ = some (.string ⟨#[]⟩) := cell_at HR6.out.tok
        have y3 : W6.cell? ⟨w.heap.size + 1, 3, none⟩ = some (.slice none 0 0) := cell_at HR6.out.tok
        have y4 : W6.cell? ⟨w.heap.size + 1, 4, none⟩ = some (.bool false) := cell_at HR6.out.tok
        have y5 : W6.cell? ⟨w.heap.size + 1, 5, none⟩ = some (.int .i64 0) := cell_at HR6.out.tok
        have y6 : W6.cell? ⟨w.heap.size + 1, 6, none⟩ = some (.int .i64 0) := cell_at HR6.out.tok
        have y7 : W6.cell? ⟨w.heap.size + 1, 7, none⟩ = some (.int .i64 0) := cell_at HR6.out.tok
        have r0 : W6.cell? ⟨w.heap.size, 0, none⟩ = some (.int .i64 0) := cell_at HR6.out.res
        have r1 : W6.cell? ⟨w.heap.size, 1, none⟩ = some (.string ⟨#[]⟩) := cell_at HR6.out.res
        have r2 : W6.cell? ⟨w.heap.size, 2, none⟩ = some (.string ⟨#[]⟩) := cell_at HR6.out.res
        have r3 : W6.cell? ⟨w.heap.size, 3, none⟩ = some (.slice none 0 0) := cell_at HR6.out.res
        have r4 : W6.cell? ⟨w.heap.size, 4, none⟩ = some (.bool false) := cell_at HR6.out.res
        have r5 : W6.cell? ⟨w.heap.size, 5, none⟩ = some (.int .i64 0) := cell_at HR6.out.res
        have r6 : W6.cell? ⟨w.heap.size, 6, none⟩ = some (.int .i64 0) := cell_at HR6.out.res
        have r7 : W6.cell? ⟨w.heap.size, 7, none⟩ = some (.int .i64 0) := cell_at HR6.out.res
        have fr : ∀ i, W6.frozen? ⟨w.heap.size, i, none⟩ = false := fun i => frozen_at HR6.out.res
        go_wp2_with fail
        clear hW6 hW4 UC o2 f5 HR5 HR4 HR3 CY
        go_region
        obtain ⟨WX, hWX⟩ : ∃ WX, ((((((((W6.setCell ⟨w.heap.size, 0, none⟩ (.int .i64 0)).setCell ⟨w.heap.size, 1, none⟩ (.string ⟨#[]⟩)).setCell ⟨w.heap.size, 2, none⟩ (.string ⟨#[]⟩)).setCell ⟨w.heap.size, 3, none⟩ (.slice none 0 0)).setCell ⟨w.heap.size, 4, none⟩ (.bool false)).setCell ⟨w.heap.size, 5, none⟩ (.int .i64 0)).setCell ⟨w.heap.size, 6, none⟩ (.int .i64 0)).setCell ⟨w.heap.size, 7, none⟩ (.int .i64 0)).drew = WX := ⟨_, rfl⟩
        rw [hWX]
        have HX1 : Hid (WX.heap[w.heap.size]? = some (.cells #[.int .i64 0, .string ⟨#[]⟩, .string ⟨#[]⟩, .slice none 0 0, .bool false, .int .i64 0, .int .i64 0, .int .i64 0] 28 (0, 0))) := by rw [← hWX]; exact drew_at (put8_at HR6.out.res _ _ _ _ _ _ _ _)
        have HX2 : Hid (OwnA w.heap.size WX (.slice none 0 0) []) := by rw [← hWX]; exact ownA_drew (OwnA.put8 HO6.out (OwnA.apart HO6.out HR6.out.res (by decide)) _ _ _ _ _ _ _ _)
        have HX3 : Hid (Below w.heap.size w WX) := by rw [← hWX]; exact (put8_belowR HR6.out.below (by have := HR6.out.size; omega) _ _ _ _ _ _ _ _).drew
        clear hWX r0 r1 r2 r3 r4 r5 r6 r7 fr y0 y1 y2 y3 y4 y5 y6 y7 
        go_wp2
        all_goals exact bodyPost_ret (results_rread rfl rfl HX1.out) rfl ⟨(⟨0, ⟨#[]⟩, ⟨#[]⟩, false, 0, 0, 0⟩ : T.Tok), [], .slice none 0 0, false, rfl, HX2.out, HX3.out, HFIN.out⟩
      | some ar =>
        obtain ⟨a, r'⟩ := ar
        have hu := unqd_len hq
        rw [unqV_some X a r' (by rw [hXd]; exact hq)] at UC
        have HQ := readP_text 0 (.inl rfl) x a r' hq
        rw [← HRP.out] at HQ
        obtain ⟨A, hA⟩ : ∃ A : ByteArray, (⟨a.toArray⟩ : ByteArray) = A := ⟨_, rfl⟩
        obtain ⟨R, hR⟩ : ∃ R : ByteArray, (⟨r'.toArray⟩ : ByteArray) = R := ⟨_, rfl⟩
        have hAz : A.size ≤ 1048576 := by
          rw [← hA]
          have h1 : X.size = x.length := by rw [← size_data, hXd]
          show a.toArray.size ≤ _
          simp; omega
        have hRd : R.data.toList = r' := by rw [← hR]
        rw [hA] at HQ
        rw [hA, hR] at UC
        clear hq hXd hA hR hu
        refine UC.mono ?_
        rintro e w5 ⟨rfl, hb5⟩
        have HR5 : Hid (RdT w w5 0 ⟨#[]⟩ ⟨#[]⟩ (.slice none 0 0) false) := HR4.out.call hb5
        clear hb5
        have o2 : w5.cell? ⟨w.heap.size + 1, 2, none⟩ = some (.string ⟨#[]⟩) := cell_at HR5.out.tok
        have f5 : ∀ i, w5.frozen? ⟨w.heap.size + 1, i, none⟩ = false := fun i => frozen_at HR5.out.tok
        obtain ⟨W6, hW6⟩ : ∃ W6, w5.setCell ⟨w.heap.size + 1, 2, none⟩ (.string A) = W6 := ⟨_, rfl⟩
        have HR6 : Hid (RdT w W6 0 ⟨#[]⟩ A (.slice none 0 0) false) := by rw [← hW6]; exact HR5.out.x A
        have HO6 : Hid (OwnA w.heap.size W6 (.slice none 0 0) []) := World.ownsRow_nil _ _ _ _
        by_cases hr : r' = []
        · have q9 : R.toList.isEmpty = true := by rw [Lib.toList_data, hRd, hr]; rfl
          have HC : Hid (readP s.data.toList = if checkB (⟨0, ⟨#[]⟩, A, false, 0, 0, 0⟩ : T.Tok) [] = true then some ((⟨0, ⟨#[]⟩, A, false, 0, 0, 0⟩ : T.Tok), []) else none) := by
            show _ = _
            rw [HQ, hr]; simp
          have HZ2 : Hid (SizesA [] ∧ T.Tok.Sizes (⟨0, ⟨#[]⟩, A, false, 0, 0, 0⟩ : T.Tok)) := ⟨⟨by simp, fun x hx => by cases hx⟩, Nat.zero_le _, (by show A.size ≤ _; omega)⟩
          clear hr hRd HQ
          have MC : Hid (∀ W, Below W6.heap.size W6 W → Calls Tryd.prog 11 #[.agg #[.int .i64 0, .string ⟨#[]⟩, .string A, .slice none 0 0, .bool false, .int .i64 0, .int .i64 0, .int .i64 0]] W fun e w' => e = .returned (.bool (checkB (⟨0, ⟨#[]⟩, A, false, 0, 0, 0⟩ : T.Tok) [])) ∧ Below W.heap.size W w') := fun W hb => may_calls (⟨0, ⟨#[]⟩, A, false, 0, 0, 0⟩ : T.Tok) [] (.slice none 0 0) W (OwnA.has (C.owns_below HO6.out hb)) HZ2.out.1 HZ2.out.2
          obtain ⟨bc, hbc⟩ : ∃ bc, checkB (⟨0, ⟨#[]⟩, A, false, 0, 0, 0⟩ : T.Tok) [] = bc := ⟨_, rfl⟩
          have HFIN : Hid (FinR s (⟨0, ⟨#[]⟩, A, false, 0, 0, 0⟩ : T.Tok) [] bc) := by
            show _ ∧ _
            rw [HC.out, hbc]
            exact ⟨fun h => by rw [if_pos h], fun h => by rw [if_neg (by rw [h]; decide)]⟩
          rw [hbc] at MC
          clear hbc
          have y0 : W6.cell? ⟨w.heap.size + 1, 0, none⟩ = some (.int .i64 0) := cell_at HR6.out.tok
          have y1 : W6.cell? ⟨w.heap.size + 1, 1, none⟩ = some (.string ⟨#[]⟩) := cell_at HR6.out.tok
          have y2 : W6.cell? ⟨w.heap.size + 1, 2, none⟩ = some (.string A) := cell_at HR6.out.tok
          have y3 : W6.cell? ⟨w.heap.size + 1, 3, none⟩ = some (.slice none 0 0) := cell_at HR6.out.tok
          have y4 : W6.cell? ⟨w.heap.size + 1, 4, none⟩ = some (.bool false) := cell_at HR6.out.tok
          have y5 : W6.cell? ⟨w.heap.size + 1, 5, none⟩ = some (.int .i64 0) := cell_at HR6.out.tok
          have y6 : W6.cell? ⟨w.heap.size + 1, 6, none⟩ = some (.int .i64 0) := cell_at HR6.out.tok
          have y7 : W6.cell? ⟨w.heap.size + 1, 7, none⟩ = some (.int .i64 0) := cell_at HR6.out.tok
          go_wp2_with fail
          clear hW6 hW4 UC o2 f5 HR5 HR4 HR3 CY
          go_region_held3 (fun w' => w'.cell? ⟨w.heap.size + 1, 0, none⟩ = some (.int .i64 0) ∧ w'.cell? ⟨w.heap.size + 1, 1, none⟩ = some (.string ⟨#[]⟩) ∧ w'.cell? ⟨w.heap.size + 1, 2, none⟩ = some (.string A) ∧ w'.cell? ⟨w.heap.size + 1, 3, none⟩ = some (.slice none 0 0) ∧ w'.cell? ⟨w.heap.size + 1, 4, none⟩ = some (.bool false) ∧ w'.cell? ⟨w.heap.size + 1, 5, none⟩ = some (.int .i64 0) ∧ w'.cell? ⟨w.heap.size + 1, 6, none⟩ = some (.int .i64 0) ∧ w'.cell? ⟨w.heap.size + 1, 7, none⟩ = some (.int .i64 0)) (first | with_reducible exact ⟨d0, d1, d2, d3, d4, d5, d6, d7⟩ | with_reducible exact ⟨y0, y1, y2, y3, y4, y5, y6, y7⟩ | go_keep) (first
            | (go_at_call 11; refine (MC.out _ (Below.refl _ _).drew).mono ?_; rintro e w9 ⟨rfl, hb9⟩; have HB9 : Hid (Below W6.heap.size W6 w9) := below_of_drew hb9; have HR9 : Hid (RdT w w9 0 ⟨#[]⟩ A (.slice none 0 0) false) := HR6.out.call HB9.out; have d0 : w9.cell? ⟨w.heap.size + 1, 0, none⟩ = some (.int .i64 0) := cell_at HR9.out.tok; have d1 : w9.cell? ⟨w.heap.size + 1, 1, none⟩ = some (.string ⟨#[]⟩) := cell_at HR9.out.tok; have d2 : w9.cell? ⟨w.heap.size + 1, 2, none⟩ = some (.string A) := cell_at HR9.out.tok; have d3 : w9.cell? ⟨w.heap.size + 1, 3, none⟩ = some (.slice none 0 0) := cell_at HR9.out.tok; have d4 : w9.cell? ⟨w.heap.size + 1, 4, none⟩ = some (.bool false) := cell_at HR9.out.tok; have d5 : w9.cell? ⟨w.heap.size + 1, 5, none⟩ = some (.int .i64 0) := cell_at HR9.out.tok; have d6 : w9.cell? ⟨w.heap.size + 1, 6, none⟩ = some (.int .i64 0) := cell_at HR9.out.tok; have d7 : w9.cell? ⟨w.heap.size + 1, 7, none⟩ = some (.int .i64 0) := cell_at HR9.out.tok; have r0 : w9.cell? ⟨w.heap.size, 0, none⟩ = some (.int .i64 0) := cell_at HR9.out.res; have r1 : w9.cell? ⟨w.heap.size, 1, none⟩ = some (.string ⟨#[]⟩) := cell_at HR9.out.res; have r2 : w9.cell? ⟨w.heap.size, 2, none⟩ = some (.string ⟨#[]⟩) := cell_at HR9.out.res; have r3 : w9.cell? ⟨w.heap.size, 3, none⟩ = some (.slice none 0 0) := cell_at HR9.out.res; have r4 : w9.cell? ⟨w.heap.size, 4, none⟩ = some (.bool false) := cell_at HR9.out.res; have r5 : w9.cell? ⟨w.heap.size, 5, none⟩ = some (.int .i64 0) := cell_at HR9.out.res; have r6 : w9.cell? ⟨w.heap.size, 6, none⟩ = some (.int .i64 0) := cell_at HR9.out.res; have r7 : w9.cell? ⟨w.heap.size, 7, none⟩ = some (.int .i64 0) := cell_at HR9.out.res; have fr : ∀ i, w9.frozen? ⟨w.heap.size, i, none⟩ = false := fun i => frozen_at HR9.out.res))
          have HO9 : Hid (OwnA w.heap.size w9 (.slice none 0 0) []) := C.owns_below HO6.out HB9.out
          obtain ⟨WX, hWX⟩ : ∃ WX, ((((((((w9.setCell ⟨w.heap.size, 0, none⟩ (.int .i64 0)).setCell ⟨w.heap.size, 1, none⟩ (.string ⟨#[]⟩)).setCell ⟨w.heap.size, 2, none⟩ (.string A)).setCell ⟨w.heap.size, 3, none⟩ (.slice none 0 0)).setCell ⟨w.heap.size, 4, none⟩ (.bool false)).setCell ⟨w.heap.size, 5, none⟩ (.int .i64 0)).setCell ⟨w.heap.size, 6, none⟩ (.int .i64 0)).setCell ⟨w.heap.size, 7, none⟩ (.int .i64 0)) = WX := ⟨_, rfl⟩
          rw [hWX]
          have HX1 : Hid (WX.heap[w.heap.size]? = some (.cells #[.int .i64 0, .string ⟨#[]⟩, .string A, .slice none 0 0, .bool false, .int .i64 0, .int .i64 0, .int .i64 0] 28 (0, 0))) := by rw [← hWX]; exact (put8_at HR9.out.res _ _ _ _ _ _ _ _)
          have HX2 : Hid (OwnA w.heap.size WX (.slice none 0 0) []) := by rw [← hWX]; exact (OwnA.put8 HO9.out (OwnA.apart HO9.out HR9.out.res (by decide)) _ _ _ _ _ _ _ _)
          have HX3 : Hid (Below w.heap.size w WX) := by rw [← hWX]; exact (put8_belowR HR9.out.below (by have := HR9.out.size; omega) _ _ _ _ _ _ _ _)
          clear hWX r0 r1 r2 r3 r4 r5 r6 r7 fr y0 y1 y2 y3 y4 y5 y6 y7 d0 d1 d2 d3 d4 d5 d6 d7
          go_wp2
          all_goals exact bodyPost_ret (results_rread rfl rfl HX1.out) rfl ⟨(⟨0, ⟨#[]⟩, A, false, 0, 0, 0⟩ : T.Tok), [], .slice none 0 0, bc, rfl, HX2.out, HX3.out, HFIN.out⟩
        · have q9 : R.toList.isEmpty = false := by rw [Lib.toList_data, hRd]; simpa using hr
          have HN : Hid (readP s.data.toList = none) := by show _ = _; rw [HQ, if_neg (fun h => hr h.1)]
          clear hr hRd HQ
          have HFIN : Hid (FinR s (⟨0, ⟨#[]⟩, A, false, 0, 0, 0⟩ : T.Tok) [] false) := ⟨(fun h => by cases h), fun _ => HN.out⟩
          have y0 : W6.cell? ⟨w.heap.size + 1, 0, none⟩ = some (.int .i64 0) := cell_at HR6.out.tok
          have y1 : W6.cell? ⟨w.heap.size + 1, 1, none⟩ = some (.string ⟨#[]⟩) := cell_at HR6.out.tok
          have y2 : W6.cell? ⟨w.heap.size + 1, 2, none⟩ = some (.string A) := cell_at HR6.out.tok
          have y3 : W6.cell? ⟨w.heap.size + 1, 3, none⟩ = some (.slice none 0 0) := cell_at HR6.out.tok
          have y4 : W6.cell? ⟨w.heap.size + 1, 4, none⟩ = some (.bool false) := cell_at HR6.out.tok
          have y5 : W6.cell? ⟨w.heap.size + 1, 5, none⟩ = some (.int .i64 0) := cell_at HR6.out.tok
          have y6 : W6.cell? ⟨w.heap.size + 1, 6, none⟩ = some (.int .i64 0) := cell_at HR6.out.tok
          have y7 : W6.cell? ⟨w.heap.size + 1, 7, none⟩ = some (.int .i64 0) := cell_at HR6.out.tok
          have r0 : W6.cell? ⟨w.heap.size, 0, none⟩ = some (.int .i64 0) := cell_at HR6.out.res
          have r1 : W6.cell? ⟨w.heap.size, 1, none⟩ = some (.string ⟨#[]⟩) := cell_at HR6.out.res
          have r2 : W6.cell? ⟨w.heap.size, 2, none⟩ = some (.string ⟨#[]⟩) := cell_at HR6.out.res
          have r3 : W6.cell? ⟨w.heap.size, 3, none⟩ = some (.slice none 0 0) := cell_at HR6.out.res
          have r4 : W6.cell? ⟨w.heap.size, 4, none⟩ = some (.bool false) := cell_at HR6.out.res
          have r5 : W6.cell? ⟨w.heap.size, 5, none⟩ = some (.int .i64 0) := cell_at HR6.out.res
          have r6 : W6.cell? ⟨w.heap.size, 6, none⟩ = some (.int .i64 0) := cell_at HR6.out.res
          have r7 : W6.cell? ⟨w.heap.size, 7, none⟩ = some (.int .i64 0) := cell_at HR6.out.res
          have fr : ∀ i, W6.frozen? ⟨w.heap.size, i, none⟩ = false := fun i => frozen_at HR6.out.res
          go_wp2_with fail
          clear hW6 hW4 UC o2 f5 HR5 HR4 HR3 CY
          go_region
          obtain ⟨WX, hWX⟩ : ∃ WX, ((((((((W6.setCell ⟨w.heap.size, 0, none⟩ (.int .i64 0)).setCell ⟨w.heap.size, 1, none⟩ (.string ⟨#[]⟩)).setCell ⟨w.heap.size, 2, none⟩ (.string A)).setCell ⟨w.heap.size, 3, none⟩ (.slice none 0 0)).setCell ⟨w.heap.size, 4, none⟩ (.bool false)).setCell ⟨w.heap.size, 5, none⟩ (.int .i64 0)).setCell ⟨w.heap.size, 6, none⟩ (.int .i64 0)).setCell ⟨w.heap.size, 7, none⟩ (.int .i64 0)).drew = WX := ⟨_, rfl⟩
          rw [hWX]
          have HX1 : Hid (WX.heap[w.heap.size]? = some (.cells #[.int .i64 0, .string ⟨#[]⟩, .string A, .slice none 0 0, .bool false, .int .i64 0, .int .i64 0, .int .i64 0] 28 (0, 0))) := by rw [← hWX]; exact drew_at (put8_at HR6.out.res _ _ _ _ _ _ _ _)
          have HX2 : Hid (OwnA w.heap.size WX (.slice none 0 0) []) := by rw [← hWX]; exact ownA_drew (OwnA.put8 HO6.out (OwnA.apart HO6.out HR6.out.res (by decide)) _ _ _ _ _ _ _ _)
          have HX3 : Hid (Below w.heap.size w WX) := by rw [← hWX]; exact (put8_belowR HR6.out.below (by have := HR6.out.size; omega) _ _ _ _ _ _ _ _).drew
          clear hWX r0 r1 r2 r3 r4 r5 r6 r7 fr y0 y1 y2 y3 y4 y5 y6 y7 
          go_wp2
          all_goals exact bodyPost_ret (results_rread rfl rfl HX1.out) rfl ⟨(⟨0, ⟨#[]⟩, A, false, 0, 0, 0⟩ : T.Tok), [], .slice none 0 0, false, rfl, HX2.out, HX3.out, HFIN.out⟩
    have hn0 : ((wordS 0).data.toList ++ [32]).isPrefixOf s.data.toList = false := by rwa [Bool.not_eq_true] at hp
    have HNO0 : Hid (∀ W, Calls Tryd.prog 56 #[.string s, .string ⟨#[116, 101, 120, 116, 32]⟩] W fun e w' => e = .returned (.tuple #[.string s, .bool false]) ∧ Below W.heap.size W w') := cutno_calls s ⟨#[116, 101, 120, 116, 32]⟩ hs (by decide) hn0
    clear hp
    by_cases hp : ((wordS 3).data.toList ++ [32]).isPrefixOf s.data.toList = true
    · obtain ⟨x, hx⟩ := pre_split hp
      obtain ⟨X, hX⟩ : ∃ X : ByteArray, (⟨x.toArray⟩ : ByteArray) = X := ⟨_, rfl⟩
      have hXd : X.data.toList = x := by rw [← hX]
      have hXz : X.size ≤ s.size := by rw [← size_data, ← size_data, hXd, hx]; simp; omega
      have HRP : Hid (s.data.toList = (wordS 3).data.toList ++ 32 :: x) := by show _ = _; rw [hx]; rfl
      have CY : Hid (∀ W, Calls Tryd.prog 56 #[.string s, .string ⟨#[99, 111, 109, 109, 101, 110, 116, 32]⟩] W fun e w' => e = .returned (.tuple #[.string X, .bool true]) ∧ Below W.heap.size W w') := cutyes_calls s ⟨#[99, 111, 109, 109, 101, 110, 116, 32]⟩ X x hs (by decide) hx hX
      clear hp hx hX
      refine (HNO0.out W2).mono ?_
      rintro e u0 ⟨rfl, hbu0⟩
      have HRu0 : Hid (RdT w u0 0 ⟨#[]⟩ ⟨#[]⟩ (.slice none 0 0) false) := HR2.out.call hbu0
      clear hbu0
      go_wp2_with fail
      refine (CY.out u0).mono ?_
      rintro e w3 ⟨rfl, hb3⟩
      have HR3 : Hid (RdT w w3 0 ⟨#[]⟩ ⟨#[]⟩ (.slice none 0 0) false) := HRu0.out.call hb3
      clear hb3
      have y0 : w3.cell? ⟨w.heap.size + 1, 0, none⟩ = some (.int .i64 0) := cell_at HR3.out.tok
      have f3 : ∀ i, w3.frozen? ⟨w.heap.size + 1, i, none⟩ = false := fun i => frozen_at HR3.out.tok
      obtain ⟨W4, hW4⟩ : ∃ W4, w3.setCell ⟨w.heap.size + 1, 0, none⟩ (.int .i64 3) = W4 := ⟨_, rfl⟩
      have HR4 : Hid (RdT w W4 3 ⟨#[]⟩ ⟨#[]⟩ (.slice none 0 0) false) := by rw [← hW4]; exact HR3.out.k 3
      go_wp2_with fail
      clear y0 f3
      have UC := unquote_calls X W4 (by omega)
      cases hq : unqd x with
      | none =>
        rw [unqV_none X (by rw [hXd]; exact hq)] at UC
        have HN : Hid (readP s.data.toList = none) := by show _ = _; rw [HRP.out, readP_one_none 3 (by omega) x hq]
        clear hq hXd
        refine UC.mono ?_
        rintro e w5 ⟨rfl, hb5⟩
        have HR5 : Hid (RdT w w5 3 ⟨#[]⟩ ⟨#[]⟩ (.slice none 0 0) false) := HR4.out.call hb5
        clear hb5
        have o2 : w5.cell? ⟨w.heap.size + 1, 2, none⟩ = some (.string ⟨#[]⟩) := cell_at HR5.out.tok
        have f5 : ∀ i, w5.frozen? ⟨w.heap.size + 1, i, none⟩ = false := fun i => frozen_at HR5.out.tok
        obtain ⟨W6, hW6⟩ : ∃ W6, w5.setCell ⟨w.heap.size + 1, 2, none⟩ (.string ⟨#[]⟩) = W6 := ⟨_, rfl⟩
        have HR6 : Hid (RdT w W6 3 ⟨#[]⟩ ⟨#[]⟩ (.slice none 0 0) false) := by rw [← hW6]; exact HR5.out.x ⟨#[]⟩
        have HO6 : Hid (OwnA w.heap.size W6 (.slice none 0 0) []) := World.ownsRow_nil _ _ _ _
        have HFIN : Hid (FinR s (⟨3, ⟨#[]⟩, ⟨#[]⟩, false, 0, 0, 0⟩ : T.Tok) [] false) := ⟨(fun h => by cases h), fun _ => HN.out⟩
        have y0 : W6.cell? ⟨w.heap.size + 1, 0, none⟩ = some (.int .i64 3) := cell_at HR6.out.tok
        have y1 : W6.cell? ⟨w.heap.size + 1, 1, none⟩ = some (.string ⟨#[]⟩) := cell_at HR6.out.tok
        have y2 : W6.cell? ⟨w.heap.size + 1, 2, none⟩ = some (.string ⟨#[]⟩) := cell_at HR6.out.tok
        have y3 : W6.cell? ⟨w.heap.size + 1, 3, none⟩ = some (.slice none 0 0) := cell_at HR6.out.tok
        have y4 : W6.cell? ⟨w.heap.size + 1, 4, none⟩ = some (.bool false) := cell_at HR6.out.tok
        have y5 : W6.cell? ⟨w.heap.size + 1, 5, none⟩ = some (.int .i64 0) := cell_at HR6.out.tok
        have y6 : W6.cell? ⟨w.heap.size + 1, 6, none⟩ = some (.int .i64 0) := cell_at HR6.out.tok
        have y7 : W6.cell? ⟨w.heap.size + 1, 7, none⟩ = some (.int .i64 0) := cell_at HR6.out.tok
        have r0 : W6.cell? ⟨w.heap.size, 0, none⟩ = some (.int .i64 0) := cell_at HR6.out.res
        have r1 : W6.cell? ⟨w.heap.size, 1, none⟩ = some (.string ⟨#[]⟩) := cell_at HR6.out.res
        have r2 : W6.cell? ⟨w.heap.size, 2, none⟩ = some (.string ⟨#[]⟩) := cell_at HR6.out.res
        have r3 : W6.cell? ⟨w.heap.size, 3, none⟩ = some (.slice none 0 0) := cell_at HR6.out.res
        have r4 : W6.cell? ⟨w.heap.size, 4, none⟩ = some (.bool false) := cell_at HR6.out.res
        have r5 : W6.cell? ⟨w.heap.size, 5, none⟩ = some (.int .i64 0) := cell_at HR6.out.res
        have r6 : W6.cell? ⟨w.heap.size, 6, none⟩ = some (.int .i64 0) := cell_at HR6.out.res
        have r7 : W6.cell? ⟨w.heap.size, 7, none⟩ = some (.int .i64 0) := cell_at HR6.out.res
        have fr : ∀ i, W6.frozen? ⟨w.heap.size, i, none⟩ = false := fun i => frozen_at HR6.out.res
        go_wp2_with fail
        clear hW6 hW4 UC o2 f5 HR5 HR4 HR3 CY
        go_region
        obtain ⟨WX, hWX⟩ : ∃ WX, ((((((((W6.setCell ⟨w.heap.size, 0, none⟩ (.int .i64 3)).setCell ⟨w.heap.size, 1, none⟩ (.string ⟨#[]⟩)).setCell ⟨w.heap.size, 2, none⟩ (.string ⟨#[]⟩)).setCell ⟨w.heap.size, 3, none⟩ (.slice none 0 0)).setCell ⟨w.heap.size, 4, none⟩ (.bool false)).setCell ⟨w.heap.size, 5, none⟩ (.int .i64 0)).setCell ⟨w.heap.size, 6, none⟩ (.int .i64 0)).setCell ⟨w.heap.size, 7, none⟩ (.int .i64 0)).drew = WX := ⟨_, rfl⟩
        rw [hWX]
        have HX1 : Hid (WX.heap[w.heap.size]? = some (.cells #[.int .i64 3, .string ⟨#[]⟩, .string ⟨#[]⟩, .slice none 0 0, .bool false, .int .i64 0, .int .i64 0, .int .i64 0] 28 (0, 0))) := by rw [← hWX]; exact drew_at (put8_at HR6.out.res _ _ _ _ _ _ _ _)
        have HX2 : Hid (OwnA w.heap.size WX (.slice none 0 0) []) := by rw [← hWX]; exact ownA_drew (OwnA.put8 HO6.out (OwnA.apart HO6.out HR6.out.res (by decide)) _ _ _ _ _ _ _ _)
        have HX3 : Hid (Below w.heap.size w WX) := by rw [← hWX]; exact (put8_belowR HR6.out.below (by have := HR6.out.size; omega) _ _ _ _ _ _ _ _).drew
        clear hWX r0 r1 r2 r3 r4 r5 r6 r7 fr y0 y1 y2 y3 y4 y5 y6 y7 
        go_wp2
        all_goals exact bodyPost_ret (results_rread rfl rfl HX1.out) rfl ⟨(⟨3, ⟨#[]⟩, ⟨#[]⟩, false, 0, 0, 0⟩ : T.Tok), [], .slice none 0 0, false, rfl, HX2.out, HX3.out, HFIN.out⟩
      | some ar =>
        obtain ⟨a, r'⟩ := ar
        have hu := unqd_len hq
        rw [unqV_some X a r' (by rw [hXd]; exact hq)] at UC
        have HQ := readP_text 3 (.inr rfl) x a r' hq
        rw [← HRP.out] at HQ
        obtain ⟨A, hA⟩ : ∃ A : ByteArray, (⟨a.toArray⟩ : ByteArray) = A := ⟨_, rfl⟩
        obtain ⟨R, hR⟩ : ∃ R : ByteArray, (⟨r'.toArray⟩ : ByteArray) = R := ⟨_, rfl⟩
        have hAz : A.size ≤ 1048576 := by
          rw [← hA]
          have h1 : X.size = x.length := by rw [← size_data, hXd]
          show a.toArray.size ≤ _
          simp; omega
        have hRd : R.data.toList = r' := by rw [← hR]
        rw [hA] at HQ
        rw [hA, hR] at UC
        clear hq hXd hA hR hu
        refine UC.mono ?_
        rintro e w5 ⟨rfl, hb5⟩
        have HR5 : Hid (RdT w w5 3 ⟨#[]⟩ ⟨#[]⟩ (.slice none 0 0) false) := HR4.out.call hb5
        clear hb5
        have o2 : w5.cell? ⟨w.heap.size + 1, 2, none⟩ = some (.string ⟨#[]⟩) := cell_at HR5.out.tok
        have f5 : ∀ i, w5.frozen? ⟨w.heap.size + 1, i, none⟩ = false := fun i => frozen_at HR5.out.tok
        obtain ⟨W6, hW6⟩ : ∃ W6, w5.setCell ⟨w.heap.size + 1, 2, none⟩ (.string A) = W6 := ⟨_, rfl⟩
        have HR6 : Hid (RdT w W6 3 ⟨#[]⟩ A (.slice none 0 0) false) := by rw [← hW6]; exact HR5.out.x A
        have HO6 : Hid (OwnA w.heap.size W6 (.slice none 0 0) []) := World.ownsRow_nil _ _ _ _
        by_cases hr : r' = []
        · have q9 : R.toList.isEmpty = true := by rw [Lib.toList_data, hRd, hr]; rfl
          have HC : Hid (readP s.data.toList = if checkB (⟨3, ⟨#[]⟩, A, false, 0, 0, 0⟩ : T.Tok) [] = true then some ((⟨3, ⟨#[]⟩, A, false, 0, 0, 0⟩ : T.Tok), []) else none) := by
            show _ = _
            rw [HQ, hr]; simp
          have HZ2 : Hid (SizesA [] ∧ T.Tok.Sizes (⟨3, ⟨#[]⟩, A, false, 0, 0, 0⟩ : T.Tok)) := ⟨⟨by simp, fun x hx => by cases hx⟩, Nat.zero_le _, (by show A.size ≤ _; omega)⟩
          clear hr hRd HQ
          have MC : Hid (∀ W, Below W6.heap.size W6 W → Calls Tryd.prog 11 #[.agg #[.int .i64 3, .string ⟨#[]⟩, .string A, .slice none 0 0, .bool false, .int .i64 0, .int .i64 0, .int .i64 0]] W fun e w' => e = .returned (.bool (checkB (⟨3, ⟨#[]⟩, A, false, 0, 0, 0⟩ : T.Tok) [])) ∧ Below W.heap.size W w') := fun W hb => may_calls (⟨3, ⟨#[]⟩, A, false, 0, 0, 0⟩ : T.Tok) [] (.slice none 0 0) W (OwnA.has (C.owns_below HO6.out hb)) HZ2.out.1 HZ2.out.2
          obtain ⟨bc, hbc⟩ : ∃ bc, checkB (⟨3, ⟨#[]⟩, A, false, 0, 0, 0⟩ : T.Tok) [] = bc := ⟨_, rfl⟩
          have HFIN : Hid (FinR s (⟨3, ⟨#[]⟩, A, false, 0, 0, 0⟩ : T.Tok) [] bc) := by
            show _ ∧ _
            rw [HC.out, hbc]
            exact ⟨fun h => by rw [if_pos h], fun h => by rw [if_neg (by rw [h]; decide)]⟩
          rw [hbc] at MC
          clear hbc
          have y0 : W6.cell? ⟨w.heap.size + 1, 0, none⟩ = some (.int .i64 3) := cell_at HR6.out.tok
          have y1 : W6.cell? ⟨w.heap.size + 1, 1, none⟩ = some (.string ⟨#[]⟩) := cell_at HR6.out.tok
          have y2 : W6.cell? ⟨w.heap.size + 1, 2, none⟩ = some (.string A) := cell_at HR6.out.tok
          have y3 : W6.cell? ⟨w.heap.size + 1, 3, none⟩ = some (.slice none 0 0) := cell_at HR6.out.tok
          have y4 : W6.cell? ⟨w.heap.size + 1, 4, none⟩ = some (.bool false) := cell_at HR6.out.tok
          have y5 : W6.cell? ⟨w.heap.size + 1, 5, none⟩ = some (.int .i64 0) := cell_at HR6.out.tok
          have y6 : W6.cell? ⟨w.heap.size + 1, 6, none⟩ = some (.int .i64 0) := cell_at HR6.out.tok
          have y7 : W6.cell? ⟨w.heap.size + 1, 7, none⟩ = some (.int .i64 0) := cell_at HR6.out.tok
          go_wp2_with fail
          clear hW6 hW4 UC o2 f5 HR5 HR4 HR3 CY
          go_region_held3 (fun w' => w'.cell? ⟨w.heap.size + 1, 0, none⟩ = some (.int .i64 3) ∧ w'.cell? ⟨w.heap.size + 1, 1, none⟩ = some (.string ⟨#[]⟩) ∧ w'.cell? ⟨w.heap.size + 1, 2, none⟩ = some (.string A) ∧ w'.cell? ⟨w.heap.size + 1, 3, none⟩ = some (.slice none 0 0) ∧ w'.cell? ⟨w.heap.size + 1, 4, none⟩ = some (.bool false) ∧ w'.cell? ⟨w.heap.size + 1, 5, none⟩ = some (.int .i64 0) ∧ w'.cell? ⟨w.heap.size + 1, 6, none⟩ = some (.int .i64 0) ∧ w'.cell? ⟨w.heap.size + 1, 7, none⟩ = some (.int .i64 0)) (first | with_reducible exact ⟨d0, d1, d2, d3, d4, d5, d6, d7⟩ | with_reducible exact ⟨y0, y1, y2, y3, y4, y5, y6, y7⟩ | go_keep) (first
            | (go_at_call 11; refine (MC.out _ (Below.refl _ _).drew).mono ?_; rintro e w9 ⟨rfl, hb9⟩; have HB9 : Hid (Below W6.heap.size W6 w9) := below_of_drew hb9; have HR9 : Hid (RdT w w9 3 ⟨#[]⟩ A (.slice none 0 0) false) := HR6.out.call HB9.out; have d0 : w9.cell? ⟨w.heap.size + 1, 0, none⟩ = some (.int .i64 3) := cell_at HR9.out.tok; have d1 : w9.cell? ⟨w.heap.size + 1, 1, none⟩ = some (.string ⟨#[]⟩) := cell_at HR9.out.tok; have d2 : w9.cell? ⟨w.heap.size + 1, 2, none⟩ = some (.string A) := cell_at HR9.out.tok; have d3 : w9.cell? ⟨w.heap.size + 1, 3, none⟩ = some (.slice none 0 0) := cell_at HR9.out.tok; have d4 : w9.cell? ⟨w.heap.size + 1, 4, none⟩ = some (.bool false) := cell_at HR9.out.tok; have d5 : w9.cell? ⟨w.heap.size + 1, 5, none⟩ = some (.int .i64 0) := cell_at HR9.out.tok; have d6 : w9.cell? ⟨w.heap.size + 1, 6, none⟩ = some (.int .i64 0) := cell_at HR9.out.tok; have d7 : w9.cell? ⟨w.heap.size + 1, 7, none⟩ = some (.int .i64 0) := cell_at HR9.out.tok; have r0 : w9.cell? ⟨w.heap.size, 0, none⟩ = some (.int .i64 0) := cell_at HR9.out.res; have r1 : w9.cell? ⟨w.heap.size, 1, none⟩ = some (.string ⟨#[]⟩) := cell_at HR9.out.res; have r2 : w9.cell? ⟨w.heap.size, 2, none⟩ = some (.string ⟨#[]⟩) := cell_at HR9.out.res; have r3 : w9.cell? ⟨w.heap.size, 3, none⟩ = some (.slice none 0 0) := cell_at HR9.out.res; have r4 : w9.cell? ⟨w.heap.size, 4, none⟩ = some (.bool false) := cell_at HR9.out.res; have r5 : w9.cell? ⟨w.heap.size, 5, none⟩ = some (.int .i64 0) := cell_at HR9.out.res; have r6 : w9.cell? ⟨w.heap.size, 6, none⟩ = some (.int .i64 0) := cell_at HR9.out.res; have r7 : w9.cell? ⟨w.heap.size, 7, none⟩ = some (.int .i64 0) := cell_at HR9.out.res; have fr : ∀ i, w9.frozen? ⟨w.heap.size, i, none⟩ = false := fun i => frozen_at HR9.out.res))
          have HO9 : Hid (OwnA w.heap.size w9 (.slice none 0 0) []) := C.owns_below HO6.out HB9.out
          obtain ⟨WX, hWX⟩ : ∃ WX, ((((((((w9.setCell ⟨w.heap.size, 0, none⟩ (.int .i64 3)).setCell ⟨w.heap.size, 1, none⟩ (.string ⟨#[]⟩)).setCell ⟨w.heap.size, 2, none⟩ (.string A)).setCell ⟨w.heap.size, 3, none⟩ (.slice none 0 0)).setCell ⟨w.heap.size, 4, none⟩ (.bool false)).setCell ⟨w.heap.size, 5, none⟩ (.int .i64 0)).setCell ⟨w.heap.size, 6, none⟩ (.int .i64 0)).setCell ⟨w.heap.size, 7, none⟩ (.int .i64 0)) = WX := ⟨_, rfl⟩
          rw [hWX]
          have HX1 : Hid (WX.heap[w.heap.size]? = some (.cells #[.int .i64 3, .string ⟨#[]⟩, .string A, .slice none 0 0, .bool false, .int .i64 0, .int .i64 0, .int .i64 0] 28 (0, 0))) := by rw [← hWX]; exact (put8_at HR9.out.res _ _ _ _ _ _ _ _)
          have HX2 : Hid (OwnA w.heap.size WX (.slice none 0 0) []) := by rw [← hWX]; exact (OwnA.put8 HO9.out (OwnA.apart HO9.out HR9.out.res (by decide)) _ _ _ _ _ _ _ _)
          have HX3 : Hid (Below w.heap.size w WX) := by rw [← hWX]; exact (put8_belowR HR9.out.below (by have := HR9.out.size; omega) _ _ _ _ _ _ _ _)
          clear hWX r0 r1 r2 r3 r4 r5 r6 r7 fr y0 y1 y2 y3 y4 y5 y6 y7 d0 d1 d2 d3 d4 d5 d6 d7
          go_wp2
          all_goals exact bodyPost_ret (results_rread rfl rfl HX1.out) rfl ⟨(⟨3, ⟨#[]⟩, A, false, 0, 0, 0⟩ : T.Tok), [], .slice none 0 0, bc, rfl, HX2.out, HX3.out, HFIN.out⟩
        · have q9 : R.toList.isEmpty = false := by rw [Lib.toList_data, hRd]; simpa using hr
          have HN : Hid (readP s.data.toList = none) := by show _ = _; rw [HQ, if_neg (fun h => hr h.1)]
          clear hr hRd HQ
          have HFIN : Hid (FinR s (⟨3, ⟨#[]⟩, A, false, 0, 0, 0⟩ : T.Tok) [] false) := ⟨(fun h => by cases h), fun _ => HN.out⟩
          have y0 : W6.cell? ⟨w.heap.size + 1, 0, none⟩ = some (.int .i64 3) := cell_at HR6.out.tok
          have y1 : W6.cell? ⟨w.heap.size + 1, 1, none⟩ = some (.string ⟨#[]⟩) := cell_at HR6.out.tok
          have y2 : W6.cell? ⟨w.heap.size + 1, 2, none⟩ = some (.string A) := cell_at HR6.out.tok
          have y3 : W6.cell? ⟨w.heap.size + 1, 3, none⟩ = some (.slice none 0 0) := cell_at HR6.out.tok
          have y4 : W6.cell? ⟨w.heap.size + 1, 4, none⟩ = some (.bool false) := cell_at HR6.out.tok
          have y5 : W6.cell? ⟨w.heap.size + 1, 5, none⟩ = some (.int .i64 0) := cell_at HR6.out.tok
          have y6 : W6.cell? ⟨w.heap.size + 1, 6, none⟩ = some (.int .i64 0) := cell_at HR6.out.tok
          have y7 : W6.cell? ⟨w.heap.size + 1, 7, none⟩ = some (.int .i64 0) := cell_at HR6.out.tok
          have r0 : W6.cell? ⟨w.heap.size, 0, none⟩ = some (.int .i64 0) := cell_at HR6.out.res
          have r1 : W6.cell? ⟨w.heap.size, 1, none⟩ = some (.string ⟨#[]⟩) := cell_at HR6.out.res
          have r2 : W6.cell? ⟨w.heap.size, 2, none⟩ = some (.string ⟨#[]⟩) := cell_at HR6.out.res
          have r3 : W6.cell? ⟨w.heap.size, 3, none⟩ = some (.slice none 0 0) := cell_at HR6.out.res
          have r4 : W6.cell? ⟨w.heap.size, 4, none⟩ = some (.bool false) := cell_at HR6.out.res
          have r5 : W6.cell? ⟨w.heap.size, 5, none⟩ = some (.int .i64 0) := cell_at HR6.out.res
          have r6 : W6.cell? ⟨w.heap.size, 6, none⟩ = some (.int .i64 0) := cell_at HR6.out.res
          have r7 : W6.cell? ⟨w.heap.size, 7, none⟩ = some (.int .i64 0) := cell_at HR6.out.res
          have fr : ∀ i, W6.frozen? ⟨w.heap.size, i, none⟩ = false := fun i => frozen_at HR6.out.res
          go_wp2_with fail
          clear hW6 hW4 UC o2 f5 HR5 HR4 HR3 CY
          go_region
          obtain ⟨WX, hWX⟩ : ∃ WX, ((((((((W6.setCell ⟨w.heap.size, 0, none⟩ (.int .i64 3)).setCell ⟨w.heap.size, 1, none⟩ (.string ⟨#[]⟩)).setCell ⟨w.heap.size, 2, none⟩ (.string A)).setCell ⟨w.heap.size, 3, none⟩ (.slice none 0 0)).setCell ⟨w.heap.size, 4, none⟩ (.bool false)).setCell ⟨w.heap.size, 5, none⟩ (.int .i64 0)).setCell ⟨w.heap.size, 6, none⟩ (.int .i64 0)).setCell ⟨w.heap.size, 7, none⟩ (.int .i64 0)).drew = WX := ⟨_, rfl⟩
          rw [hWX]
          have HX1 : Hid (WX.heap[w.heap.size]? = some (.cells #[.int .i64 3, .string ⟨#[]⟩, .string A, .slice none 0 0, .bool false, .int .i64 0, .int .i64 0, .int .i64 0] 28 (0, 0))) := by rw [← hWX]; exact drew_at (put8_at HR6.out.res _ _ _ _ _ _ _ _)
          have HX2 : Hid (OwnA w.heap.size WX (.slice none 0 0) []) := by rw [← hWX]; exact ownA_drew (OwnA.put8 HO6.out (OwnA.apart HO6.out HR6.out.res (by decide)) _ _ _ _ _ _ _ _)
          have HX3 : Hid (Below w.heap.size w WX) := by rw [← hWX]; exact (put8_belowR HR6.out.below (by have := HR6.out.size; omega) _ _ _ _ _ _ _ _).drew
          clear hWX r0 r1 r2 r3 r4 r5 r6 r7 fr y0 y1 y2 y3 y4 y5 y6 y7 
          go_wp2
          all_goals exact bodyPost_ret (results_rread rfl rfl HX1.out) rfl ⟨(⟨3, ⟨#[]⟩, A, false, 0, 0, 0⟩ : T.Tok), [], .slice none 0 0, false, rfl, HX2.out, HX3.out, HFIN.out⟩
    have hn3 : ((wordS 3).data.toList ++ [32]).isPrefixOf s.data.toList = false := by rwa [Bool.not_eq_true] at hp
    have HNO3 : Hid (∀ W, Calls Tryd.prog 56 #[.string s, .string ⟨#[99, 111, 109, 109, 101, 110, 116, 32]⟩] W fun e w' => e = .returned (.tuple #[.string s, .bool false]) ∧ Below W.heap.size W w') := cutno_calls s ⟨#[99, 111, 109, 109, 101, 110, 116, 32]⟩ hs (by decide) hn3
    clear hp
    by_cases hp : ((wordS 2).data.toList ++ [32]).isPrefixOf s.data.toList = true
    · obtain ⟨x, hx⟩ := pre_split hp
      obtain ⟨X, hX⟩ : ∃ X : ByteArray, (⟨x.toArray⟩ : ByteArray) = X := ⟨_, rfl⟩
      have hXd : X.data.toList = x := by rw [← hX]
      have hXz : X.size ≤ s.size := by rw [← size_data, ← size_data, hXd, hx]; simp; omega
      have HRP : Hid (s.data.toList = (wordS 2).data.toList ++ 32 :: x) := by show _ = _; rw [hx]; rfl
      have CY : Hid (∀ W, Calls Tryd.prog 56 #[.string s, .string ⟨#[101, 110, 100, 32]⟩] W fun e w' => e = .returned (.tuple #[.string X, .bool true]) ∧ Below W.heap.size W w') := cutyes_calls s ⟨#[101, 110, 100, 32]⟩ X x hs (by decide) hx hX
      clear hp hx hX
      refine (HNO0.out W2).mono ?_
      rintro e u0 ⟨rfl, hbu0⟩
      have HRu0 : Hid (RdT w u0 0 ⟨#[]⟩ ⟨#[]⟩ (.slice none 0 0) false) := HR2.out.call hbu0
      clear hbu0
      go_wp2_with fail
      refine (HNO3.out u0).mono ?_
      rintro e u1 ⟨rfl, hbu1⟩
      have HRu1 : Hid (RdT w u1 0 ⟨#[]⟩ ⟨#[]⟩ (.slice none 0 0) false) := HRu0.out.call hbu1
      clear hbu1
      go_wp2_with fail
      refine (CY.out u1).mono ?_
      rintro e w3 ⟨rfl, hb3⟩
      have HR3 : Hid (RdT w w3 0 ⟨#[]⟩ ⟨#[]⟩ (.slice none 0 0) false) := HRu1.out.call hb3
      clear hb3
      have y0 : w3.cell? ⟨w.heap.size + 1, 0, none⟩ = some (.int .i64 0) := cell_at HR3.out.tok
      have f3 : ∀ i, w3.frozen? ⟨w.heap.size + 1, i, none⟩ = false := fun i => frozen_at HR3.out.tok
      obtain ⟨W4, hW4⟩ : ∃ W4, w3.setCell ⟨w.heap.size + 1, 0, none⟩ (.int .i64 2) = W4 := ⟨_, rfl⟩
      have HR4 : Hid (RdT w W4 2 ⟨#[]⟩ ⟨#[]⟩ (.slice none 0 0) false) := by rw [← hW4]; exact HR3.out.k 2
      go_wp2_with fail
      clear y0 f3
      have UC := unquote_calls X W4 (by omega)
      cases hq : unqd x with
      | none =>
        rw [unqV_none X (by rw [hXd]; exact hq)] at UC
        have HN : Hid (readP s.data.toList = none) := by show _ = _; rw [HRP.out, readP_one_none 2 (by omega) x hq]
        clear hq hXd
        refine UC.mono ?_
        rintro e w5 ⟨rfl, hb5⟩
        have HR5 : Hid (RdT w w5 2 ⟨#[]⟩ ⟨#[]⟩ (.slice none 0 0) false) := HR4.out.call hb5
        clear hb5
        have o1 : w5.cell? ⟨w.heap.size + 1, 1, none⟩ = some (.string ⟨#[]⟩) := cell_at HR5.out.tok
        have f5 : ∀ i, w5.frozen? ⟨w.heap.size + 1, i, none⟩ = false := fun i => frozen_at HR5.out.tok
        obtain ⟨W6, hW6⟩ : ∃ W6, w5.setCell ⟨w.heap.size + 1, 1, none⟩ (.string ⟨#[]⟩) = W6 := ⟨_, rfl⟩
        have HR6 : Hid (RdT w W6 2 ⟨#[]⟩ ⟨#[]⟩ (.slice none 0 0) false) := by rw [← hW6]; exact HR5.out.n ⟨#[]⟩
        have HO6 : Hid (OwnA w.heap.size W6 (.slice none 0 0) []) := World.ownsRow_nil _ _ _ _
        have HFIN : Hid (FinR s (⟨2, ⟨#[]⟩, ⟨#[]⟩, false, 0, 0, 0⟩ : T.Tok) [] false) := ⟨(fun h => by cases h), fun _ => HN.out⟩
        have y0 : W6.cell? ⟨w.heap.size + 1, 0, none⟩ = some (.int .i64 2) := cell_at HR6.out.tok
        have y1 : W6.cell? ⟨w.heap.size + 1, 1, none⟩ = some (.string ⟨#[]⟩) := cell_at HR6.out.tok
        have y2 : W6.cell? ⟨w.heap.size + 1, 2, none⟩ = some (.string ⟨#[]⟩) := cell_at HR6.out.tok
        have y3 : W6.cell? ⟨w.heap.size + 1, 3, none⟩ = some (.slice none 0 0) := cell_at HR6.out.tok
        have y4 : W6.cell? ⟨w.heap.size + 1, 4, none⟩ = some (.bool false) := cell_at HR6.out.tok
        have y5 : W6.cell? ⟨w.heap.size + 1, 5, none⟩ = some (.int .i64 0) := cell_at HR6.out.tok
        have y6 : W6.cell? ⟨w.heap.size + 1, 6, none⟩ = some (.int .i64 0) := cell_at HR6.out.tok
        have y7 : W6.cell? ⟨w.heap.size + 1, 7, none⟩ = some (.int .i64 0) := cell_at HR6.out.tok
        have r0 : W6.cell? ⟨w.heap.size, 0, none⟩ = some (.int .i64 0) := cell_at HR6.out.res
        have r1 : W6.cell? ⟨w.heap.size, 1, none⟩ = some (.string ⟨#[]⟩) := cell_at HR6.out.res
        have r2 : W6.cell? ⟨w.heap.size, 2, none⟩ = some (.string ⟨#[]⟩) := cell_at HR6.out.res
        have r3 : W6.cell? ⟨w.heap.size, 3, none⟩ = some (.slice none 0 0) := cell_at HR6.out.res
        have r4 : W6.cell? ⟨w.heap.size, 4, none⟩ = some (.bool false) := cell_at HR6.out.res
        have r5 : W6.cell? ⟨w.heap.size, 5, none⟩ = some (.int .i64 0) := cell_at HR6.out.res
        have r6 : W6.cell? ⟨w.heap.size, 6, none⟩ = some (.int .i64 0) := cell_at HR6.out.res
        have r7 : W6.cell? ⟨w.heap.size, 7, none⟩ = some (.int .i64 0) := cell_at HR6.out.res
        have fr : ∀ i, W6.frozen? ⟨w.heap.size, i, none⟩ = false := fun i => frozen_at HR6.out.res
        go_wp2_with fail
        clear hW6 hW4 UC o1 f5 HR5 HR4 HR3 CY
        go_region
        obtain ⟨WX, hWX⟩ : ∃ WX, ((((((((W6.setCell ⟨w.heap.size, 0, none⟩ (.int .i64 2)).setCell ⟨w.heap.size, 1, none⟩ (.string ⟨#[]⟩)).setCell ⟨w.heap.size, 2, none⟩ (.string ⟨#[]⟩)).setCell ⟨w.heap.size, 3, none⟩ (.slice none 0 0)).setCell ⟨w.heap.size, 4, none⟩ (.bool false)).setCell ⟨w.heap.size, 5, none⟩ (.int .i64 0)).setCell ⟨w.heap.size, 6, none⟩ (.int .i64 0)).setCell ⟨w.heap.size, 7, none⟩ (.int .i64 0)).drew = WX := ⟨_, rfl⟩
        rw [hWX]
        have HX1 : Hid (WX.heap[w.heap.size]? = some (.cells #[.int .i64 2, .string ⟨#[]⟩, .string ⟨#[]⟩, .slice none 0 0, .bool false, .int .i64 0, .int .i64 0, .int .i64 0] 28 (0, 0))) := by rw [← hWX]; exact drew_at (put8_at HR6.out.res _ _ _ _ _ _ _ _)
        have HX2 : Hid (OwnA w.heap.size WX (.slice none 0 0) []) := by rw [← hWX]; exact ownA_drew (OwnA.put8 HO6.out (OwnA.apart HO6.out HR6.out.res (by decide)) _ _ _ _ _ _ _ _)
        have HX3 : Hid (Below w.heap.size w WX) := by rw [← hWX]; exact (put8_belowR HR6.out.below (by have := HR6.out.size; omega) _ _ _ _ _ _ _ _).drew
        clear hWX r0 r1 r2 r3 r4 r5 r6 r7 fr y0 y1 y2 y3 y4 y5 y6 y7 
        go_wp2
        all_goals exact bodyPost_ret (results_rread rfl rfl HX1.out) rfl ⟨(⟨2, ⟨#[]⟩, ⟨#[]⟩, false, 0, 0, 0⟩ : T.Tok), [], .slice none 0 0, false, rfl, HX2.out, HX3.out, HFIN.out⟩
      | some ar =>
        obtain ⟨a, r'⟩ := ar
        have hu := unqd_len hq
        rw [unqV_some X a r' (by rw [hXd]; exact hq)] at UC
        have HQ := readP_end x a r' hq
        rw [← HRP.out] at HQ
        obtain ⟨A, hA⟩ : ∃ A : ByteArray, (⟨a.toArray⟩ : ByteArray) = A := ⟨_, rfl⟩
        obtain ⟨R, hR⟩ : ∃ R : ByteArray, (⟨r'.toArray⟩ : ByteArray) = R := ⟨_, rfl⟩
        have hAz : A.size ≤ 1048576 := by
          rw [← hA]
          have h1 : X.size = x.length := by rw [← size_data, hXd]
          show a.toArray.size ≤ _
          simp; omega
        have hRd : R.data.toList = r' := by rw [← hR]
        rw [hA] at HQ
        rw [hA, hR] at UC
        clear hq hXd hA hR hu
        refine UC.mono ?_
        rintro e w5 ⟨rfl, hb5⟩
        have HR5 : Hid (RdT w w5 2 ⟨#[]⟩ ⟨#[]⟩ (.slice none 0 0) false) := HR4.out.call hb5
        clear hb5
        have o1 : w5.cell? ⟨w.heap.size + 1, 1, none⟩ = some (.string ⟨#[]⟩) := cell_at HR5.out.tok
        have f5 : ∀ i, w5.frozen? ⟨w.heap.size + 1, i, none⟩ = false := fun i => frozen_at HR5.out.tok
        obtain ⟨W6, hW6⟩ : ∃ W6, w5.setCell ⟨w.heap.size + 1, 1, none⟩ (.string A) = W6 := ⟨_, rfl⟩
        have HR6 : Hid (RdT w W6 2 A ⟨#[]⟩ (.slice none 0 0) false) := by rw [← hW6]; exact HR5.out.n A
        have HO6 : Hid (OwnA w.heap.size W6 (.slice none 0 0) []) := World.ownsRow_nil _ _ _ _
        by_cases hr : r' = []
        · have q9 : R.toList.isEmpty = true := by rw [Lib.toList_data, hRd, hr]; rfl
          have HC : Hid (readP s.data.toList = if checkB (⟨2, A, ⟨#[]⟩, false, 0, 0, 0⟩ : T.Tok) [] = true then some ((⟨2, A, ⟨#[]⟩, false, 0, 0, 0⟩ : T.Tok), []) else none) := by
            show _ = _
            rw [HQ, hr]; simp
          have HZ2 : Hid (SizesA [] ∧ T.Tok.Sizes (⟨2, A, ⟨#[]⟩, false, 0, 0, 0⟩ : T.Tok)) := ⟨⟨by simp, fun x hx => by cases hx⟩, (by show A.size ≤ _; omega), Nat.zero_le _⟩
          clear hr hRd HQ
          have MC : Hid (∀ W, Below W6.heap.size W6 W → Calls Tryd.prog 11 #[.agg #[.int .i64 2, .string A, .string ⟨#[]⟩, .slice none 0 0, .bool false, .int .i64 0, .int .i64 0, .int .i64 0]] W fun e w' => e = .returned (.bool (checkB (⟨2, A, ⟨#[]⟩, false, 0, 0, 0⟩ : T.Tok) [])) ∧ Below W.heap.size W w') := fun W hb => may_calls (⟨2, A, ⟨#[]⟩, false, 0, 0, 0⟩ : T.Tok) [] (.slice none 0 0) W (OwnA.has (C.owns_below HO6.out hb)) HZ2.out.1 HZ2.out.2
          obtain ⟨bc, hbc⟩ : ∃ bc, checkB (⟨2, A, ⟨#[]⟩, false, 0, 0, 0⟩ : T.Tok) [] = bc := ⟨_, rfl⟩
          have HFIN : Hid (FinR s (⟨2, A, ⟨#[]⟩, false, 0, 0, 0⟩ : T.Tok) [] bc) := by
            show _ ∧ _
            rw [HC.out, hbc]
            exact ⟨fun h => by rw [if_pos h], fun h => by rw [if_neg (by rw [h]; decide)]⟩
          rw [hbc] at MC
          clear hbc
          have y0 : W6.cell? ⟨w.heap.size + 1, 0, none⟩ = some (.int .i64 2) := cell_at HR6.out.tok
          have y1 : W6.cell? ⟨w.heap.size + 1, 1, none⟩ = some (.string A) := cell_at HR6.out.tok
          have y2 : W6.cell? ⟨w.heap.size + 1, 2, none⟩ = some (.string ⟨#[]⟩) := cell_at HR6.out.tok
          have y3 : W6.cell? ⟨w.heap.size + 1, 3, none⟩ = some (.slice none 0 0) := cell_at HR6.out.tok
          have y4 : W6.cell? ⟨w.heap.size + 1, 4, none⟩ = some (.bool false) := cell_at HR6.out.tok
          have y5 : W6.cell? ⟨w.heap.size + 1, 5, none⟩ = some (.int .i64 0) := cell_at HR6.out.tok
          have y6 : W6.cell? ⟨w.heap.size + 1, 6, none⟩ = some (.int .i64 0) := cell_at HR6.out.tok
          have y7 : W6.cell? ⟨w.heap.size + 1, 7, none⟩ = some (.int .i64 0) := cell_at HR6.out.tok
          go_wp2_with fail
          clear hW6 hW4 UC o1 f5 HR5 HR4 HR3 CY
          go_region_held3 (fun w' => w'.cell? ⟨w.heap.size + 1, 0, none⟩ = some (.int .i64 2) ∧ w'.cell? ⟨w.heap.size + 1, 1, none⟩ = some (.string A) ∧ w'.cell? ⟨w.heap.size + 1, 2, none⟩ = some (.string ⟨#[]⟩) ∧ w'.cell? ⟨w.heap.size + 1, 3, none⟩ = some (.slice none 0 0) ∧ w'.cell? ⟨w.heap.size + 1, 4, none⟩ = some (.bool false) ∧ w'.cell? ⟨w.heap.size + 1, 5, none⟩ = some (.int .i64 0) ∧ w'.cell? ⟨w.heap.size + 1, 6, none⟩ = some (.int .i64 0) ∧ w'.cell? ⟨w.heap.size + 1, 7, none⟩ = some (.int .i64 0)) (first | with_reducible exact ⟨d0, d1, d2, d3, d4, d5, d6, d7⟩ | with_reducible exact ⟨y0, y1, y2, y3, y4, y5, y6, y7⟩ | go_keep) (first
            | (go_at_call 11; refine (MC.out _ (Below.refl _ _).drew).mono ?_; rintro e w9 ⟨rfl, hb9⟩; have HB9 : Hid (Below W6.heap.size W6 w9) := below_of_drew hb9; have HR9 : Hid (RdT w w9 2 A ⟨#[]⟩ (.slice none 0 0) false) := HR6.out.call HB9.out; have d0 : w9.cell? ⟨w.heap.size + 1, 0, none⟩ = some (.int .i64 2) := cell_at HR9.out.tok; have d1 : w9.cell? ⟨w.heap.size + 1, 1, none⟩ = some (.string A) := cell_at HR9.out.tok; have d2 : w9.cell? ⟨w.heap.size + 1, 2, none⟩ = some (.string ⟨#[]⟩) := cell_at HR9.out.tok; have d3 : w9.cell? ⟨w.heap.size + 1, 3, none⟩ = some (.slice none 0 0) := cell_at HR9.out.tok; have d4 : w9.cell? ⟨w.heap.size + 1, 4, none⟩ = some (.bool false) := cell_at HR9.out.tok; have d5 : w9.cell? ⟨w.heap.size + 1, 5, none⟩ = some (.int .i64 0) := cell_at HR9.out.tok; have d6 : w9.cell? ⟨w.heap.size + 1, 6, none⟩ = some (.int .i64 0) := cell_at HR9.out.tok; have d7 : w9.cell? ⟨w.heap.size + 1, 7, none⟩ = some (.int .i64 0) := cell_at HR9.out.tok; have r0 : w9.cell? ⟨w.heap.size, 0, none⟩ = some (.int .i64 0) := cell_at HR9.out.res; have r1 : w9.cell? ⟨w.heap.size, 1, none⟩ = some (.string ⟨#[]⟩) := cell_at HR9.out.res; have r2 : w9.cell? ⟨w.heap.size, 2, none⟩ = some (.string ⟨#[]⟩) := cell_at HR9.out.res; have r3 : w9.cell? ⟨w.heap.size, 3, none⟩ = some (.slice none 0 0) := cell_at HR9.out.res; have r4 : w9.cell? ⟨w.heap.size, 4, none⟩ = some (.bool false) := cell_at HR9.out.res; have r5 : w9.cell? ⟨w.heap.size, 5, none⟩ = some (.int .i64 0) := cell_at HR9.out.res; have r6 : w9.cell? ⟨w.heap.size, 6, none⟩ = some (.int .i64 0) := cell_at HR9.out.res; have r7 : w9.cell? ⟨w.heap.size, 7, none⟩ = some (.int .i64 0) := cell_at HR9.out.res; have fr : ∀ i, w9.frozen? ⟨w.heap.size, i, none⟩ = false := fun i => frozen_at HR9.out.res))
          have HO9 : Hid (OwnA w.heap.size w9 (.slice none 0 0) []) := C.owns_below HO6.out HB9.out
          obtain ⟨WX, hWX⟩ : ∃ WX, ((((((((w9.setCell ⟨w.heap.size, 0, none⟩ (.int .i64 2)).setCell ⟨w.heap.size, 1, none⟩ (.string A)).setCell ⟨w.heap.size, 2, none⟩ (.string ⟨#[]⟩)).setCell ⟨w.heap.size, 3, none⟩ (.slice none 0 0)).setCell ⟨w.heap.size, 4, none⟩ (.bool false)).setCell ⟨w.heap.size, 5, none⟩ (.int .i64 0)).setCell ⟨w.heap.size, 6, none⟩ (.int .i64 0)).setCell ⟨w.heap.size, 7, none⟩ (.int .i64 0)) = WX := ⟨_, rfl⟩
          rw [hWX]
          have HX1 : Hid (WX.heap[w.heap.size]? = some (.cells #[.int .i64 2, .string A, .string ⟨#[]⟩, .slice none 0 0, .bool false, .int .i64 0, .int .i64 0, .int .i64 0] 28 (0, 0))) := by rw [← hWX]; exact (put8_at HR9.out.res _ _ _ _ _ _ _ _)
          have HX2 : Hid (OwnA w.heap.size WX (.slice none 0 0) []) := by rw [← hWX]; exact (OwnA.put8 HO9.out (OwnA.apart HO9.out HR9.out.res (by decide)) _ _ _ _ _ _ _ _)
          have HX3 : Hid (Below w.heap.size w WX) := by rw [← hWX]; exact (put8_belowR HR9.out.below (by have := HR9.out.size; omega) _ _ _ _ _ _ _ _)
          clear hWX r0 r1 r2 r3 r4 r5 r6 r7 fr y0 y1 y2 y3 y4 y5 y6 y7 d0 d1 d2 d3 d4 d5 d6 d7
          go_wp2
          all_goals exact bodyPost_ret (results_rread rfl rfl HX1.out) rfl ⟨(⟨2, A, ⟨#[]⟩, false, 0, 0, 0⟩ : T.Tok), [], .slice none 0 0, bc, rfl, HX2.out, HX3.out, HFIN.out⟩
        · have q9 : R.toList.isEmpty = false := by rw [Lib.toList_data, hRd]; simpa using hr
          have HN : Hid (readP s.data.toList = none) := by show _ = _; rw [HQ, if_neg (fun h => hr h.1)]
          clear hr hRd HQ
          have HFIN : Hid (FinR s (⟨2, A, ⟨#[]⟩, false, 0, 0, 0⟩ : T.Tok) [] false) := ⟨(fun h => by cases h), fun _ => HN.out⟩
          have y0 : W6.cell? ⟨w.heap.size + 1, 0, none⟩ = some (.int .i64 2) := cell_at HR6.out.tok
          have y1 : W6.cell? ⟨w.heap.size + 1, 1, none⟩ = some (.string A) := cell_at HR6.out.tok
          have y2 : W6.cell? ⟨w.heap.size + 1, 2, none⟩ = some (.string ⟨#[]⟩) := cell_at HR6.out.tok
          have y3 : W6.cell? ⟨w.heap.size + 1, 3, none⟩ = some (.slice none 0 0) := cell_at HR6.out.tok
          have y4 : W6.cell? ⟨w.heap.size + 1, 4, none⟩ = some (.bool false) := cell_at HR6.out.tok
          have y5 : W6.cell? ⟨w.heap.size + 1, 5, none⟩ = some (.int .i64 0) := cell_at HR6.out.tok
          have y6 : W6.cell? ⟨w.heap.size + 1, 6, none⟩ = some (.int .i64 0) := cell_at HR6.out.tok
          have y7 : W6.cell? ⟨w.heap.size + 1, 7, none⟩ = some (.int .i64 0) := cell_at HR6.out.tok
          have r0 : W6.cell? ⟨w.heap.size, 0, none⟩ = some (.int .i64 0) := cell_at HR6.out.res
          have r1 : W6.cell? ⟨w.heap.size, 1, none⟩ = some (.string ⟨#[]⟩) := cell_at HR6.out.res
          have r2 : W6.cell? ⟨w.heap.size, 2, none⟩ = some (.string ⟨#[]⟩) := cell_at HR6.out.res
          have r3 : W6.cell? ⟨w.heap.size, 3, none⟩ = some (.slice none 0 0) := cell_at HR6.out.res
          have r4 : W6.cell? ⟨w.heap.size, 4, none⟩ = some (.bool false) := cell_at HR6.out.res
          have r5 : W6.cell? ⟨w.heap.size, 5, none⟩ = some (.int .i64 0) := cell_at HR6.out.res
          have r6 : W6.cell? ⟨w.heap.size, 6, none⟩ = some (.int .i64 0) := cell_at HR6.out.res
          have r7 : W6.cell? ⟨w.heap.size, 7, none⟩ = some (.int .i64 0) := cell_at HR6.out.res
          have fr : ∀ i, W6.frozen? ⟨w.heap.size, i, none⟩ = false := fun i => frozen_at HR6.out.res
          go_wp2_with fail
          clear hW6 hW4 UC o1 f5 HR5 HR4 HR3 CY
          go_region
          obtain ⟨WX, hWX⟩ : ∃ WX, ((((((((W6.setCell ⟨w.heap.size, 0, none⟩ (.int .i64 2)).setCell ⟨w.heap.size, 1, none⟩ (.string A)).setCell ⟨w.heap.size, 2, none⟩ (.string ⟨#[]⟩)).setCell ⟨w.heap.size, 3, none⟩ (.slice none 0 0)).setCell ⟨w.heap.size, 4, none⟩ (.bool false)).setCell ⟨w.heap.size, 5, none⟩ (.int .i64 0)).setCell ⟨w.heap.size, 6, none⟩ (.int .i64 0)).setCell ⟨w.heap.size, 7, none⟩ (.int .i64 0)).drew = WX := ⟨_, rfl⟩
          rw [hWX]
          have HX1 : Hid (WX.heap[w.heap.size]? = some (.cells #[.int .i64 2, .string A, .string ⟨#[]⟩, .slice none 0 0, .bool false, .int .i64 0, .int .i64 0, .int .i64 0] 28 (0, 0))) := by rw [← hWX]; exact drew_at (put8_at HR6.out.res _ _ _ _ _ _ _ _)
          have HX2 : Hid (OwnA w.heap.size WX (.slice none 0 0) []) := by rw [← hWX]; exact ownA_drew (OwnA.put8 HO6.out (OwnA.apart HO6.out HR6.out.res (by decide)) _ _ _ _ _ _ _ _)
          have HX3 : Hid (Below w.heap.size w WX) := by rw [← hWX]; exact (put8_belowR HR6.out.below (by have := HR6.out.size; omega) _ _ _ _ _ _ _ _).drew
          clear hWX r0 r1 r2 r3 r4 r5 r6 r7 fr y0 y1 y2 y3 y4 y5 y6 y7 
          go_wp2
          all_goals exact bodyPost_ret (results_rread rfl rfl HX1.out) rfl ⟨(⟨2, A, ⟨#[]⟩, false, 0, 0, 0⟩ : T.Tok), [], .slice none 0 0, false, rfl, HX2.out, HX3.out, HFIN.out⟩
    have hn2 : ((wordS 2).data.toList ++ [32]).isPrefixOf s.data.toList = false := by rwa [Bool.not_eq_true] at hp
    have HNO2 : Hid (∀ W, Calls Tryd.prog 56 #[.string s, .string ⟨#[101, 110, 100, 32]⟩] W fun e w' => e = .returned (.tuple #[.string s, .bool false]) ∧ Below W.heap.size W w') := cutno_calls s ⟨#[101, 110, 100, 32]⟩ hs (by decide) hn2
    clear hp
    by_cases hp : ((wordS 1).data.toList ++ [32]).isPrefixOf s.data.toList = true
    · obtain ⟨x, hx⟩ := pre_split hp
      obtain ⟨X, hX⟩ : ∃ X : ByteArray, (⟨x.toArray⟩ : ByteArray) = X := ⟨_, rfl⟩
      have hXd : X.data.toList = x := by rw [← hX]
      have hXz : X.size ≤ s.size := by rw [← size_data, ← size_data, hXd, hx]; simp; omega
      have HRP : Hid (s.data.toList = (wordS 1).data.toList ++ 32 :: x) := by show _ = _; rw [hx]; rfl
      have CY : Hid (∀ W, Calls Tryd.prog 56 #[.string s, .string ⟨#[115, 116, 97, 114, 116, 32]⟩] W fun e w' => e = .returned (.tuple #[.string X, .bool true]) ∧ Below W.heap.size W w') := cutyes_calls s ⟨#[115, 116, 97, 114, 116, 32]⟩ X x hs (by decide) hx hX
      clear hp hx hX
      refine (HNO0.out W2).mono ?_
      rintro e u0 ⟨rfl, hbu0⟩
      have HRu0 : Hid (RdT w u0 0 ⟨#[]⟩ ⟨#[]⟩ (.slice none 0 0) false) := HR2.out.call hbu0
      clear hbu0
      go_wp2_with fail
      refine (HNO3.out u0).mono ?_
      rintro e u1 ⟨rfl, hbu1⟩
      have HRu1 : Hid (RdT w u1 0 ⟨#[]⟩ ⟨#[]⟩ (.slice none 0 0) false) := HRu0.out.call hbu1
      clear hbu1
      go_wp2_with fail
      refine (HNO2.out u1).mono ?_
      rintro e u2 ⟨rfl, hbu2⟩
      have HRu2 : Hid (RdT w u2 0 ⟨#[]⟩ ⟨#[]⟩ (.slice none 0 0) false) := HRu1.out.call hbu2
      clear hbu2
      go_wp2_with fail
      refine (CY.out u2).mono ?_
      rintro e w3 ⟨rfl, hb3⟩
      have HR3 : Hid (RdT w w3 0 ⟨#[]⟩ ⟨#[]⟩ (.slice none 0 0) false) := HRu2.out.call hb3
      clear hb3
      have y0 : w3.cell? ⟨w.heap.size + 1, 0, none⟩ = some (.int .i64 0) := cell_at HR3.out.tok
      have f3 : ∀ i, w3.frozen? ⟨w.heap.size + 1, i, none⟩ = false := fun i => frozen_at HR3.out.tok
      obtain ⟨W4, hW4⟩ : ∃ W4, w3.setCell ⟨w.heap.size + 1, 0, none⟩ (.int .i64 1) = W4 := ⟨_, rfl⟩
      have HR4 : Hid (RdT w W4 1 ⟨#[]⟩ ⟨#[]⟩ (.slice none 0 0) false) := by rw [← hW4]; exact HR3.out.k 1
      go_wp2_with fail
      clear y0 f3
      have UC := unquote_calls X W4 (by omega)
      obtain ⟨A, R', b, hU, hUt, hUf⟩ := unqV_any X
      rw [hU] at UC
      rw [hXd] at hUt hUf
      obtain ⟨R, hR1, hR2⟩ : ∃ R : Option (AL × Bool), (b = true → attrsF (R'.data.toList.length + 1) [] R'.data.toList = R) ∧ (b = false → R = none) := by
        cases b with
        | true => exact ⟨_, fun _ => rfl, fun h => by cases h⟩
        | false => exact ⟨none, (fun h => by cases h), fun _ => rfl⟩
      have HRD : readP s.data.toList = startR A.data.toList R := by
        rw [HRP.out]
        cases b with
        | true => rw [readP_start x _ _ (hUt rfl), hR1 rfl]
        | false => rw [hR2 rfl, readP_one_none 1 (by omega) x (hUf rfl)]; rfl
      have HRN : Hid (R = none → readP s.data.toList = none) := fun h => by rw [HRD, h]; rfl
      have HRS : Hid (∀ l b', R = some (l, b') → readP s.data.toList = if checkB (⟨1, A, ⟨#[]⟩, b', 0, 0, 0⟩ : T.Tok) l = true then some ((⟨1, A, ⟨#[]⟩, b', 0, 0, 0⟩ : T.Tok), l) else none) := fun l b' h => by
        rw [HRD, h]; unfold startR; simp only [byteArr_eta]
      have hsz : b = true → A.size + R'.size ≤ s.size := fun h => by
        have h1 := unqd_len (hUt h)
        have h2 : X.size = x.length := by rw [← size_data, hXd]
        rw [size_data, size_data] at h1
        omega
      have hAz : A.size ≤ 1048576 := by
        cases b with
        | true => have := hsz rfl; omega
        | false => have h0 := unqV_size X hU; omega
      have HE0 : Hid (b = true → R'.size < R'.data.toList.length + 1 ∧ attrsF (R'.data.toList.length + 1) [] R'.data.toList = R) := fun h => ⟨by rw [size_data]; omega, hR1 h⟩
      have HN0 : Hid (b = false → R = none) := hR2
      have HZ0 : Hid (b = true → ([] : AL).length + sumA [] + R'.size ≤ s.size) := fun h => by have := hsz h; show 0 + 0 + _ ≤ _; omega
      clear hU hUt hUf hR1 hR2 HRD hsz hXd
      refine UC.mono ?_
      rintro e w5 ⟨rfl, hb5⟩
      have HR5 : Hid (RdT w w5 1 ⟨#[]⟩ ⟨#[]⟩ (.slice none 0 0) false) := HR4.out.call hb5
      clear hb5
      have o1 : w5.cell? ⟨w.heap.size + 1, 1, none⟩ = some (.string ⟨#[]⟩) := cell_at HR5.out.tok
      have f5 : ∀ i, w5.frozen? ⟨w.heap.size + 1, i, none⟩ = false := fun i => frozen_at HR5.out.tok
      obtain ⟨W6, hW6⟩ : ∃ W6, w5.setCell ⟨w.heap.size + 1, 1, none⟩ (.string A) = W6 := ⟨_, rfl⟩
      have HR6 : Hid (RdT w W6 1 A ⟨#[]⟩ (.slice none 0 0) false) := by rw [← hW6]; exact HR5.out.n A
      have HO6 : Hid (OwnA w.heap.size W6 (.slice none 0 0) []) := World.ownsRow_nil _ _ _ _
      go_wp2_with fail
      clear o1 f5 UC
      go_loopw [5, 6, 7] (fun v5 v6 _ wr => ∃ (n : Nat) (l : AL) (S : ByteArray) (V : Value) (bb : Bool), v5 = .string S ∧ v6 = .bool bb ∧ Hid (RdT w wr 1 A ⟨#[]⟩ V false) ∧ Hid (OwnA w.heap.size wr V l) ∧ Hid (bb = true → S.size < n ∧ attrsF n l S.data.toList = R) ∧ Hid (bb = false → R = none) ∧ Hid (bb = true → l.length + sumA l + S.size ≤ s.size)) (fun v5 v6 _ _ => mzR v5 v6)
      case atStart => exact ⟨_, [], R', _, b, rfl, rfl, HR6, HO6, HE0, HN0, HZ0⟩
      case round =>
        clear HR4 HR5 HR6 HO6 HE0 HN0 HZ0 hW6 CY
        obtain ⟨n, l, S, V, bb, rfl, rfl, hR, hO, hE, hN, hZ⟩ := hrel
        obtain ⟨va, vc, rfl⟩ := C.owns_slice hO.out
        cases bb with
        | false =>
          have HN : Hid (readP s.data.toList = none) := HRN.out (hN.out rfl)
          clear hE hN hZ
          have HFIN : Hid (FinR s (⟨1, A, ⟨#[]⟩, false, 0, 0, 0⟩ : T.Tok) l false) := ⟨(fun h => by cases h), fun _ => HN.out⟩
          have y0 : wr.cell? ⟨w.heap.size + 1, 0, none⟩ = some (.int .i64 1) := cell_at hR.out.tok
          have y1 : wr.cell? ⟨w.heap.size + 1, 1, none⟩ = some (.string A) := cell_at hR.out.tok
          have y2 : wr.cell? ⟨w.heap.size + 1, 2, none⟩ = some (.string ⟨#[]⟩) := cell_at hR.out.tok
          have y3 : wr.cell? ⟨w.heap.size + 1, 3, none⟩ = some (.slice va l.length vc) := cell_at hR.out.tok
          have y4 : wr.cell? ⟨w.heap.size + 1, 4, none⟩ = some (.bool false) := cell_at hR.out.tok
          have y5 : wr.cell? ⟨w.heap.size + 1, 5, none⟩ = some (.int .i64 0) := cell_at hR.out.tok
          have y6 : wr.cell? ⟨w.heap.size + 1, 6, none⟩ = some (.int .i64 0) := cell_at hR.out.tok
          have y7 : wr.cell? ⟨w.heap.size + 1, 7, none⟩ = some (.int .i64 0) := cell_at hR.out.tok
          have r0 : wr.cell? ⟨w.heap.size, 0, none⟩ = some (.int .i64 0) := cell_at hR.out.res
          have r1 : wr.cell? ⟨w.heap.size, 1, none⟩ = some (.string ⟨#[]⟩) := cell_at hR.out.res
          have r2 : wr.cell? ⟨w.heap.size, 2, none⟩ = some (.string ⟨#[]⟩) := cell_at hR.out.res
          have r3 : wr.cell? ⟨w.heap.size, 3, none⟩ = some (.slice none 0 0) := cell_at hR.out.res
          have r4 : wr.cell? ⟨w.heap.size, 4, none⟩ = some (.bool false) := cell_at hR.out.res
          have r5 : wr.cell? ⟨w.heap.size, 5, none⟩ = some (.int .i64 0) := cell_at hR.out.res
          have r6 : wr.cell? ⟨w.heap.size, 6, none⟩ = some (.int .i64 0) := cell_at hR.out.res
          have r7 : wr.cell? ⟨w.heap.size, 7, none⟩ = some (.int .i64 0) := cell_at hR.out.res
          have fr : ∀ i, wr.frozen? ⟨w.heap.size, i, none⟩ = false := fun i => frozen_at hR.out.res
          go_wp2_with fail
          go_region
          obtain ⟨WX, hWX⟩ : ∃ WX, ((((((((wr.setCell ⟨w.heap.size, 0, none⟩ (.int .i64 1)).setCell ⟨w.heap.size, 1, none⟩ (.string A)).setCell ⟨w.heap.size, 2, none⟩ (.string ⟨#[]⟩)).setCell ⟨w.heap.size, 3, none⟩ (.slice va l.length vc)).setCell ⟨w.heap.size, 4, none⟩ (.bool false)).setCell ⟨w.heap.size, 5, none⟩ (.int .i64 0)).setCell ⟨w.heap.size, 6, none⟩ (.int .i64 0)).setCell ⟨w.heap.size, 7, none⟩ (.int .i64 0)).drew = WX := ⟨_, rfl⟩
          rw [hWX]
          have HX1 : Hid (WX.heap[w.heap.size]? = some (.cells #[.int .i64 1, .string A, .string ⟨#[]⟩, .slice va l.length vc, .bool false, .int .i64 0, .int .i64 0, .int .i64 0] 28 (0, 0))) := by rw [← hWX]; exact drew_at (put8_at hR.out.res _ _ _ _ _ _ _ _)
          have HX2 : Hid (OwnA w.heap.size WX (.slice va l.length vc) l) := by rw [← hWX]; exact ownA_drew (OwnA.put8 hO.out (OwnA.apart hO.out hR.out.res (by decide)) _ _ _ _ _ _ _ _)
          have HX3 : Hid (Below w.heap.size w WX) := by rw [← hWX]; exact (put8_belowR hR.out.below (by have := hR.out.size; omega) _ _ _ _ _ _ _ _).drew
          clear hWX r0 r1 r2 r3 r4 r5 r6 r7 fr y0 y1 y2 y3 y4 y5 y6 y7 
          go_wp2
          all_goals exact bodyPost_ret (results_rread rfl rfl HX1.out) rfl ⟨(⟨1, A, ⟨#[]⟩, false, 0, 0, 0⟩ : T.Tok), l, .slice va l.length vc, false, rfl, HX2.out, HX3.out, HFIN.out⟩
        | true =>
          obtain ⟨hE1, hE2⟩ := hE.out rfl
          have hZ1 := hZ.out rfl
          clear hE hN hZ
          obtain ⟨m, rfl⟩ : ∃ m, n = m + 1 := ⟨n - 1, by omega⟩
          by_cases e0 : S.data.toList = []
          · have q0 : S.toList.isEmpty = true := by rw [Lib.toList_data, e0]; rfl
            have q1 : (S.toList == [32, 47]) = false := by rw [Lib.toList_data, e0]; rfl
            have HC : Hid (readP s.data.toList = if checkB (⟨1, A, ⟨#[]⟩, false, 0, 0, 0⟩ : T.Tok) l = true then some ((⟨1, A, ⟨#[]⟩, false, 0, 0, 0⟩ : T.Tok), l) else none) := HRS.out l false (by rw [← hE2, e0, attrsF_nil])
            have HZ2 : Hid (SizesA l ∧ T.Tok.Sizes (⟨1, A, ⟨#[]⟩, false, 0, 0, 0⟩ : T.Tok)) := by
              refine ⟨⟨by omega, fun y hy => ?_⟩, (by show A.size ≤ _; omega), Nat.zero_le _⟩
              obtain ⟨j, hj, rfl⟩ := List.mem_iff_getElem.1 hy
              have h1 := sumA_succ l j hj
              have h2 := sumA_take l (j + 1)
              omega
            clear e0 hE2
            have MC : Hid (∀ W, Below wr.heap.size wr W → Calls Tryd.prog 11 #[.agg #[.int .i64 1, .string A, .string ⟨#[]⟩, .slice va l.length vc, .bool false, .int .i64 0, .int .i64 0, .int .i64 0]] W fun e w' => e = .returned (.bool (checkB (⟨1, A, ⟨#[]⟩, false, 0, 0, 0⟩ : T.Tok) l)) ∧ Below W.heap.size W w') := fun W hb => may_calls (⟨1, A, ⟨#[]⟩, false, 0, 0, 0⟩ : T.Tok) l (.slice va l.length vc) W (OwnA.has (C.owns_below hO.out hb)) HZ2.out.1 HZ2.out.2
            obtain ⟨bc, hbc⟩ : ∃ bc, checkB (⟨1, A, ⟨#[]⟩, false, 0, 0, 0⟩ : T.Tok) l = bc := ⟨_, rfl⟩
            have HFIN : Hid (FinR s (⟨1, A, ⟨#[]⟩, false, 0, 0, 0⟩ : T.Tok) l bc) := by
              show _ ∧ _
              rw [HC.out, hbc]
              exact ⟨fun h => by rw [if_pos h], fun h => by rw [if_neg (by rw [h]; decide)]⟩
            rw [hbc] at MC
            clear hbc
            have y0 : wr.cell? ⟨w.heap.size + 1, 0, none⟩ = some (.int .i64 1) := cell_at hR.out.tok
            have y1 : wr.cell? ⟨w.heap.size + 1, 1, none⟩ = some (.string A) := cell_at hR.out.tok
            have y2 : wr.cell? ⟨w.heap.size + 1, 2, none⟩ = some (.string ⟨#[]⟩) := cell_at hR.out.tok
            have y3 : wr.cell? ⟨w.heap.size + 1, 3, none⟩ = some (.slice va l.length vc) := cell_at hR.out.tok
            have y4 : wr.cell? ⟨w.heap.size + 1, 4, none⟩ = some (.bool false) := cell_at hR.out.tok
            have y5 : wr.cell? ⟨w.heap.size + 1, 5, none⟩ = some (.int .i64 0) := cell_at hR.out.tok
            have y6 : wr.cell? ⟨w.heap.size + 1, 6, none⟩ = some (.int .i64 0) := cell_at hR.out.tok
            have y7 : wr.cell? ⟨w.heap.size + 1, 7, none⟩ = some (.int .i64 0) := cell_at hR.out.tok
            go_wp2_with fail
            go_region_held3 (fun w' => w'.cell? ⟨w.heap.size + 1, 0, none⟩ = some (.int .i64 1) ∧ w'.cell? ⟨w.heap.size + 1, 1, none⟩ = some (.string A) ∧ w'.cell? ⟨w.heap.size + 1, 2, none⟩ = some (.string ⟨#[]⟩) ∧ w'.cell? ⟨w.heap.size + 1, 3, none⟩ = some (.slice va l.length vc) ∧ w'.cell? ⟨w.heap.size + 1, 4, none⟩ = some (.bool false) ∧ w'.cell? ⟨w.heap.size + 1, 5, none⟩ = some (.int .i64 0) ∧ w'.cell? ⟨w.heap.size + 1, 6, none⟩ = some (.int .i64 0) ∧ w'.cell? ⟨w.heap.size + 1, 7, none⟩ = some (.int .i64 0)) (first | with_reducible exact ⟨d0, d1, d2, d3, d4, d5, d6, d7⟩ | with_reducible exact ⟨y0, y1, y2, y3, y4, y5, y6, y7⟩ | go_keep) (first
              | (go_at_call 11; refine (MC.out _ (Below.refl _ _).drew).mono ?_; rintro e w9 ⟨rfl, hb9⟩; have HB9 : Hid (Below wr.heap.size wr w9) := below_of_drew hb9; have HR9 : Hid (RdT w w9 1 A ⟨#[]⟩ (.slice va l.length vc) false) := hR.out.call HB9.out; have d0 : w9.cell? ⟨w.heap.size + 1, 0, none⟩ = some (.int .i64 1) := cell_at HR9.out.tok; have d1 : w9.cell? ⟨w.heap.size + 1, 1, none⟩ = some (.string A) := cell_at HR9.out.tok; have d2 : w9.cell? ⟨w.heap.size + 1, 2, none⟩ = some (.string ⟨#[]⟩) := cell_at HR9.out.tok; have d3 : w9.cell? ⟨w.heap.size + 1, 3, none⟩ = some (.slice va l.length vc) := cell_at HR9.out.tok; have d4 : w9.cell? ⟨w.heap.size + 1, 4, none⟩ = some (.bool false) := cell_at HR9.out.tok; have d5 : w9.cell? ⟨w.heap.size + 1, 5, none⟩ = some (.int .i64 0) := cell_at HR9.out.tok; have d6 : w9.cell? ⟨w.heap.size + 1, 6, none⟩ = some (.int .i64 0) := cell_at HR9.out.tok; have d7 : w9.cell? ⟨w.heap.size + 1, 7, none⟩ = some (.int .i64 0) := cell_at HR9.out.tok; have r0 : w9.cell? ⟨w.heap.size, 0, none⟩ = some (.int .i64 0) := cell_at HR9.out.res; have r1 : w9.cell? ⟨w.heap.size, 1, none⟩ = some (.string ⟨#[]⟩) := cell_at HR9.out.res; have r2 : w9.cell? ⟨w.heap.size, 2, none⟩ = some (.string ⟨#[]⟩) := cell_at HR9.out.res; have r3 : w9.cell? ⟨w.heap.size, 3, none⟩ = some (.slice none 0 0) := cell_at HR9.out.res; have r4 : w9.cell? ⟨w.heap.size, 4, none⟩ = some (.bool false) := cell_at HR9.out.res; have r5 : w9.cell? ⟨w.heap.size, 5, none⟩ = some (.int .i64 0) := cell_at HR9.out.res; have r6 : w9.cell? ⟨w.heap.size, 6, none⟩ = some (.int .i64 0) := cell_at HR9.out.res; have r7 : w9.cell? ⟨w.heap.size, 7, none⟩ = some (.int .i64 0) := cell_at HR9.out.res; have fr : ∀ i, w9.frozen? ⟨w.heap.size, i, none⟩ = false := fun i => frozen_at HR9.out.res))
            have HO9 : Hid (OwnA w.heap.size w9 (.slice va l.length vc) l) := C.owns_below hO.out HB9.out
            obtain ⟨WX, hWX⟩ : ∃ WX, ((((((((w9.setCell ⟨w.heap.size, 0, none⟩ (.int .i64 1)).setCell ⟨w.heap.size, 1, none⟩ (.string A)).setCell ⟨w.heap.size, 2, none⟩ (.string ⟨#[]⟩)).setCell ⟨w.heap.size, 3, none⟩ (.slice va l.length vc)).setCell ⟨w.heap.size, 4, none⟩ (.bool false)).setCell ⟨w.heap.size, 5, none⟩ (.int .i64 0)).setCell ⟨w.heap.size, 6, none⟩ (.int .i64 0)).setCell ⟨w.heap.size, 7, none⟩ (.int .i64 0)) = WX := ⟨_, rfl⟩
            rw [hWX]
            have HX1 : Hid (WX.heap[w.heap.size]? = some (.cells #[.int .i64 1, .string A, .string ⟨#[]⟩, .slice va l.length vc, .bool false, .int .i64 0, .int .i64 0, .int .i64 0] 28 (0, 0))) := by rw [← hWX]; exact (put8_at HR9.out.res _ _ _ _ _ _ _ _)
            have HX2 : Hid (OwnA w.heap.size WX (.slice va l.length vc) l) := by rw [← hWX]; exact (OwnA.put8 HO9.out (OwnA.apart HO9.out HR9.out.res (by decide)) _ _ _ _ _ _ _ _)
            have HX3 : Hid (Below w.heap.size w WX) := by rw [← hWX]; exact (put8_belowR HR9.out.below (by have := HR9.out.size; omega) _ _ _ _ _ _ _ _)
            clear hWX r0 r1 r2 r3 r4 r5 r6 r7 fr y0 y1 y2 y3 y4 y5 y6 y7 d0 d1 d2 d3 d4 d5 d6 d7
            go_wp2
            all_goals exact bodyPost_ret (results_rread rfl rfl HX1.out) rfl ⟨(⟨1, A, ⟨#[]⟩, false, 0, 0, 0⟩ : T.Tok), l, .slice va l.length vc, bc, rfl, HX2.out, HX3.out, HFIN.out⟩
          by_cases e1 : S.data.toList = [32, 47]
          · have q0 : S.toList.isEmpty = false := by rw [Lib.toList_data, e1]; rfl
            have q1 : (S.toList == [32, 47]) = true := by rw [Lib.toList_data, e1]; rfl
            have HC : Hid (readP s.data.toList = if checkB (⟨1, A, ⟨#[]⟩, true, 0, 0, 0⟩ : T.Tok) l = true then some ((⟨1, A, ⟨#[]⟩, true, 0, 0, 0⟩ : T.Tok), l) else none) := HRS.out l true (by rw [← hE2, e1, attrsF_self])
            have HZ2 : Hid (SizesA l ∧ T.Tok.Sizes (⟨1, A, ⟨#[]⟩, true, 0, 0, 0⟩ : T.Tok)) := by
              refine ⟨⟨by omega, fun y hy => ?_⟩, (by show A.size ≤ _; omega), Nat.zero_le _⟩
              obtain ⟨j, hj, rfl⟩ := List.mem_iff_getElem.1 hy
              have h1 := sumA_succ l j hj
              have h2 := sumA_take l (j + 1)
              omega
            clear e0 e1 hE2
            have z4 : wr.cell? ⟨w.heap.size + 1, 4, none⟩ = some (.bool false) := cell_at hR.out.tok
            have f4 : ∀ i, wr.frozen? ⟨w.heap.size + 1, i, none⟩ = false := fun i => frozen_at hR.out.tok
            obtain ⟨W7, hW7⟩ : ∃ W7, wr.setCell ⟨w.heap.size + 1, 4, none⟩ (.bool true) = W7 := ⟨_, rfl⟩
            have HR7 : Hid (RdT w W7 1 A ⟨#[]⟩ (.slice va l.length vc) true) := by rw [← hW7]; exact hR.out.b true
            have HO7 : Hid (OwnA w.heap.size W7 (.slice va l.length vc) l) := by rw [← hW7]; exact OwnA.set hO.out (OwnA.apart hO.out hR.out.tok (by decide)) 4 _
            have MC : Hid (∀ W, Below W7.heap.size W7 W → Calls Tryd.prog 11 #[.agg #[.int .i64 1, .string A, .string ⟨#[]⟩, .slice va l.length vc, .bool true, .int .i64 0, .int .i64 0, .int .i64 0]] W fun e w' => e = .returned (.bool (checkB (⟨1, A, ⟨#[]⟩, true, 0, 0, 0⟩ : T.Tok) l)) ∧ Below W.heap.size W w') := fun W hb => may_calls (⟨1, A, ⟨#[]⟩, true, 0, 0, 0⟩ : T.Tok) l (.slice va l.length vc) W (OwnA.has (C.owns_below HO7.out hb)) HZ2.out.1 HZ2.out.2
            obtain ⟨bc, hbc⟩ : ∃ bc, checkB (⟨1, A, ⟨#[]⟩, true, 0, 0, 0⟩ : T.Tok) l = bc := ⟨_, rfl⟩
            have HFIN : Hid (FinR s (⟨1, A, ⟨#[]⟩, true, 0, 0, 0⟩ : T.Tok) l bc) := by
              show _ ∧ _
              rw [HC.out, hbc]
              exact ⟨fun h => by rw [if_pos h], fun h => by rw [if_neg (by rw [h]; decide)]⟩
            rw [hbc] at MC
            clear hbc
            have y0 : W7.cell? ⟨w.heap.size + 1, 0, none⟩ = some (.int .i64 1) := cell_at HR7.out.tok
            have y1 : W7.cell? ⟨w.heap.size + 1, 1, none⟩ = some (.string A) := cell_at HR7.out.tok
            have y2 : W7.cell? ⟨w.heap.size + 1, 2, none⟩ = some (.string ⟨#[]⟩) := cell_at HR7.out.tok
            have y3 : W7.cell? ⟨w.heap.size + 1, 3, none⟩ = some (.slice va l.length vc) := cell_at HR7.out.tok
            have y4 : W7.cell? ⟨w.heap.size + 1, 4, none⟩ = some (.bool true) := cell_at HR7.out.tok
            have y5 : W7.cell? ⟨w.heap.size + 1, 5, none⟩ = some (.int .i64 0) := cell_at HR7.out.tok
            have y6 : W7.cell? ⟨w.heap.size + 1, 6, none⟩ = some (.int .i64 0) := cell_at HR7.out.tok
            have y7 : W7.cell? ⟨w.heap.size + 1, 7, none⟩ = some (.int .i64 0) := cell_at HR7.out.tok
            go_wp2_with fail
            clear hW7 z4 f4
            go_region_held3 (fun w' => w'.cell? ⟨w.heap.size + 1, 0, none⟩ = some (.int .i64 1) ∧ w'.cell? ⟨w.heap.size + 1, 1, none⟩ = some (.string A) ∧ w'.cell? ⟨w.heap.size + 1, 2, none⟩ = some (.string ⟨#[]⟩) ∧ w'.cell? ⟨w.heap.size + 1, 3, none⟩ = some (.slice va l.length vc) ∧ w'.cell? ⟨w.heap.size + 1, 4, none⟩ = some (.bool true) ∧ w'.cell? ⟨w.heap.size + 1, 5, none⟩ = some (.int .i64 0) ∧ w'.cell? ⟨w.heap.size + 1, 6, none⟩ = some (.int .i64 0) ∧ w'.cell? ⟨w.heap.size + 1, 7, none⟩ = some (.int .i64 0)) (first | with_reducible exact ⟨d0, d1, d2, d3, d4, d5, d6, d7⟩ | with_reducible exact ⟨y0, y1, y2, y3, y4, y5, y6, y7⟩ | go_keep) (first
              | (go_at_call 11; refine (MC.out _ (Below.refl _ _).drew).mono ?_; rintro e w9 ⟨rfl, hb9⟩; have HB9 : Hid (Below W7.heap.size W7 w9) := below_of_drew hb9; have HR9 : Hid (RdT w w9 1 A ⟨#[]⟩ (.slice va l.length vc) true) := HR7.out.call HB9.out; have d0 : w9.cell? ⟨w.heap.size + 1, 0, none⟩ = some (.int .i64 1) := cell_at HR9.out.tok; have d1 : w9.cell? ⟨w.heap.size + 1, 1, none⟩ = some (.string A) := cell_at HR9.out.tok; have d2 : w9.cell? ⟨w.heap.size + 1, 2, none⟩ = some (.string ⟨#[]⟩) := cell_at HR9.out.tok; have d3 : w9.cell? ⟨w.heap.size + 1, 3, none⟩ = some (.slice va l.length vc) := cell_at HR9.out.tok; have d4 : w9.cell? ⟨w.heap.size + 1, 4, none⟩ = some (.bool true) := cell_at HR9.out.tok; have d5 : w9.cell? ⟨w.heap.size + 1, 5, none⟩ = some (.int .i64 0) := cell_at HR9.out.tok; have d6 : w9.cell? ⟨w.heap.size + 1, 6, none⟩ = some (.int .i64 0) := cell_at HR9.out.tok; have d7 : w9.cell? ⟨w.heap.size + 1, 7, none⟩ = some (.int .i64 0) := cell_at HR9.out.tok; have r0 : w9.cell? ⟨w.heap.size, 0, none⟩ = some (.int .i64 0) := cell_at HR9.out.res; have r1 : w9.cell? ⟨w.heap.size, 1, none⟩ = some (.string ⟨#[]⟩) := cell_at HR9.out.res; have r2 : w9.cell? ⟨w.heap.size, 2, none⟩ = some (.string ⟨#[]⟩) := cell_at HR9.out.res; have r3 : w9.cell? ⟨w.heap.size, 3, none⟩ = some (.slice none 0 0) := cell_at HR9.out.res; have r4 : w9.cell? ⟨w.heap.size, 4, none⟩ = some (.bool false) := cell_at HR9.out.res; have r5 : w9.cell? ⟨w.heap.size, 5, none⟩ = some (.int .i64 0) := cell_at HR9.out.res; have r6 : w9.cell? ⟨w.heap.size, 6, none⟩ = some (.int .i64 0) := cell_at HR9.out.res; have r7 : w9.cell? ⟨w.heap.size, 7, none⟩ = some (.int .i64 0) := cell_at HR9.out.res; have fr : ∀ i, w9.frozen? ⟨w.heap.size, i, none⟩ = false := fun i => frozen_at HR9.out.res))
            have HO9 : Hid (OwnA w.heap.size w9 (.slice va l.length vc) l) := C.owns_below HO7.out HB9.out
            obtain ⟨WX, hWX⟩ : ∃ WX, ((((((((w9.setCell ⟨w.heap.size, 0, none⟩ (.int .i64 1)).setCell ⟨w.heap.size, 1, none⟩ (.string A)).setCell ⟨w.heap.size, 2, none⟩ (.string ⟨#[]⟩)).setCell ⟨w.heap.size, 3, none⟩ (.slice va l.length vc)).setCell ⟨w.heap.size, 4, none⟩ (.bool true)).setCell ⟨w.heap.size, 5, none⟩ (.int .i64 0)).setCell ⟨w.heap.size, 6, none⟩ (.int .i64 0)).setCell ⟨w.heap.size, 7, none⟩ (.int .i64 0)) = WX := ⟨_, rfl⟩
            rw [hWX]
            have HX1 : Hid (WX.heap[w.heap.size]? = some (.cells #[.int .i64 1, .string A, .string ⟨#[]⟩, .slice va l.length vc, .bool true, .int .i64 0, .int .i64 0, .int .i64 0] 28 (0, 0))) := by rw [← hWX]; exact (put8_at HR9.out.res _ _ _ _ _ _ _ _)
            have HX2 : Hid (OwnA w.heap.size WX (.slice va l.length vc) l) := by rw [← hWX]; exact (OwnA.put8 HO9.out (OwnA.apart HO9.out HR9.out.res (by decide)) _ _ _ _ _ _ _ _)
            have HX3 : Hid (Below w.heap.size w WX) := by rw [← hWX]; exact (put8_belowR HR9.out.below (by have := HR9.out.size; omega) _ _ _ _ _ _ _ _)
            clear hWX r0 r1 r2 r3 r4 r5 r6 r7 fr y0 y1 y2 y3 y4 y5 y6 y7 d0 d1 d2 d3 d4 d5 d6 d7
            go_wp2
            all_goals exact bodyPost_ret (results_rread rfl rfl HX1.out) rfl ⟨(⟨1, A, ⟨#[]⟩, true, 0, 0, 0⟩ : T.Tok), l, .slice va l.length vc, bc, rfl, HX2.out, HX3.out, HFIN.out⟩
          have q0 : S.toList.isEmpty = false := by rw [Lib.toList_data]; simpa using e0
          have q1 : (S.toList == [32, 47]) = false := by rw [Lib.toList_data]; simpa using e1
          have HA3 : Hid (RaT w (wr.alloc (.cells #[.string ⟨#[]⟩, .string ⟨#[]⟩] 36)) wr.heap.size l (.slice va l.length vc) A ⟨#[]⟩ ⟨#[]⟩) := RaT.start hR.out hO.out
          obtain ⟨W3, hW3⟩ : ∃ W3, wr.alloc (.cells #[.string ⟨#[]⟩, .string ⟨#[]⟩] 36) = W3 := ⟨_, rfl⟩
          rw [hW3] at HA3
          have HW3 : Hid (wr.alloc (.cells #[.string ⟨#[]⟩, .string ⟨#[]⟩] 36) = W3) := hW3
          clear hW3
          by_cases hx : S.data.toList.head? = some 32
          · obtain ⟨y, hy⟩ : ∃ y, S.data.toList = 32 :: y := by
              cases hc : S.data.toList with
              | nil => rw [hc] at hx; simp at hx
              | cons c y => rw [hc] at hx; simp at hx; exact ⟨y, by rw [hx]⟩
            obtain ⟨Y, hY⟩ : ∃ Y : ByteArray, (⟨y.toArray⟩ : ByteArray) = Y := ⟨_, rfl⟩
            have hYd : Y.data.toList = y := by rw [← hY]
            have hYz : Y.size + 1 = S.size := by rw [← size_data, ← size_data, hYd, hy]; rfl
            have CY2 : Hid (∀ W, Calls Tryd.prog 56 #[.string S, .string ⟨#[32]⟩] W fun e w' => e = .returned (.tuple #[.string Y, .bool true]) ∧ Below W.heap.size W w') := cutyes_calls S ⟨#[32]⟩ Y y (by omega) (by decide) hy hY
            have UY : Hid (∀ W, Calls Tryd.prog 57 #[.string Y] W fun e w' => e = .returned (unqV Y) ∧ Below W.heap.size W w') := fun W => unquote_calls Y W (by omega)
            go_wp2_with fail
            rw [HW3.out]
            refine (CY2.out W3).mono ?_
            rintro e w4 ⟨rfl, hb4⟩
            have HA4 : Hid (RaT w w4 wr.heap.size l (.slice va l.length vc) A ⟨#[]⟩ ⟨#[]⟩) := HA3.out.call hb4
            clear hb4
            go_wp2_with fail
            cases hq : unqd y with
            | none =>
              have HRN2 : Hid (R = none) := by show _ = _; rw [← hE2, hy, attrsF_name m l y (by rw [← hy]; exact e1) hq]
              rw [unqV_none Y (by rw [hYd]; exact hq)] at UY
              clear hq hy hYd hY e0 e1 hE2 hx
              refine (UY.out w4).mono ?_
              rintro e w5 ⟨rfl, hb5⟩
              have HA5 : Hid (RaT w w5 wr.heap.size l (.slice va l.length vc) A ⟨#[]⟩ ⟨#[]⟩) := HA4.out.call hb5
              clear hb5
              have z5 : w5.cell? ⟨wr.heap.size, 0, none⟩ = some (.string ⟨#[]⟩) := cell_at HA5.out.blk
              have f5 : ∀ i, w5.frozen? ⟨wr.heap.size, i, none⟩ = false := fun i => frozen_at HA5.out.blk
              obtain ⟨W6, hW6⟩ : ∃ W6, w5.setCell ⟨wr.heap.size, 0, none⟩ (.string ⟨#[]⟩) = W6 := ⟨_, rfl⟩
              have HA6 : Hid (RaT w W6 wr.heap.size l (.slice va l.length vc) A ⟨#[]⟩ ⟨#[]⟩) := by rw [← hW6]; exact HA5.out.set0 _
              have z0 : W6.cell? ⟨wr.heap.size, 0, none⟩ = some (.string ⟨#[]⟩) := cell_at HA6.out.blk
              have z1 : W6.cell? ⟨wr.heap.size, 1, none⟩ = some (.string ⟨#[]⟩) := cell_at HA6.out.blk
              have y3 : W6.cell? ⟨w.heap.size + 1, 3, none⟩ = some (.slice va l.length vc) := cell_at HA6.out.rd.tok
              have HO8 : Hid (OwnA w.heap.size W6 (.slice va l.length vc) l) := HA6.out.own
              have s8 := HA6.out.rd.size
              go_wp2_with (at_builtin; refine wpList_append_own _ rfl _ _ 24 rfl w.heap.size 36 i0 (.agg #[.string ⟨#[]⟩, .string ⟨#[]⟩]) 2 32 Tryd.underlying24 HI.out.1 HI.out.2.1 HI.out.2.2.1 HI.out.2.2.2 rfl (by decide) _ _ _ rfl (World.ownsRow.alloc HO8.out _) ⟨W6.heap.size, 0, none⟩ 1 1 [.string ⟨#[]⟩, .string ⟨#[]⟩] rfl rfl (cells_two _ ⟨#[]⟩ ⟨#[]⟩ _ _ rfl) (by intro u hu; simp at hu; rcases hu with rfl | rfl <;> rfl) (by unfold maxLen; omega) (by omega) (by simp; omega) ?_; intro v9 w9 ho9 hg9 _; obtain ⟨a9, c9, rfl⟩ := C.owns_slice ho9; have HR9 : Hid (RdT w w9 1 A ⟨#[]⟩ (.slice va l.length vc) false) := HA6.out.app hg9; have y9 : w9.cell? ⟨w.heap.size + 1, 3, none⟩ = some (.slice va l.length vc) := cell_at HR9.out.tok; have f9 : ∀ i, w9.frozen? ⟨w.heap.size + 1, i, none⟩ = false := fun i => frozen_at HR9.out.tok)
              all_goals (
                have HO9 : OwnA w.heap.size w9 (.slice a9 (l.length + 1) c9) (l ++ [(⟨#[]⟩, ⟨#[]⟩)]) := by
                  show World.ownsRow _ _ _ _ _ _ _
                  rw [avs_snoc]
                  simpa using ho9
                have HO10 : Hid (OwnA w.heap.size (w9.setCell ⟨w.heap.size + 1, 3, none⟩ (.slice a9 (l.length + 1) c9)) (.slice a9 (l.length + 1) c9) (l ++ [(⟨#[]⟩, ⟨#[]⟩)])) := OwnA.set HO9 (OwnA.apart HO9 HR9.out.tok (by decide)) 3 _
                have HR10 : Hid (RdT w (w9.setCell ⟨w.heap.size + 1, 3, none⟩ (.slice a9 (l.length + 1) c9)) 1 A ⟨#[]⟩ (.slice a9 (l.length + 1) c9) false) := HR9.out.v _
                clear ho9 hg9 HO9
                first
                  | exact ⟨⟨m, l ++ [(⟨#[]⟩, ⟨#[]⟩)], Y, _, false, rfl, rfl, HR10, HO10, (fun h => by cases h), (fun _ => HRN2.out), (fun h => by cases h)⟩, by simp [mzR, strLenR]; try omega⟩
                  | (go_roundw
                     case rel => exact ⟨m, l ++ [(⟨#[]⟩, ⟨#[]⟩)], Y, _, false, rfl, rfl, HR10, HO10, (fun h => by cases h), (fun _ => HRN2.out), (fun h => by cases h)⟩
                     case measure => simp [mzR, strLenR]; try omega)
                  | trace_state)
            | some ar =>
              obtain ⟨a, r1⟩ := ar
              have hu1 := unqd_len hq
              rw [unqV_some Y a r1 (by rw [hYd]; exact hq)] at UY
              obtain ⟨P, hP⟩ : ∃ P : ByteArray, (⟨a.toArray⟩ : ByteArray) = P := ⟨_, rfl⟩
              obtain ⟨R1, hR1⟩ : ∃ R1 : ByteArray, (⟨r1.toArray⟩ : ByteArray) = R1 := ⟨_, rfl⟩
              have hPz : P.size = a.length := by rw [← hP]; simp [ByteArray.size]
              have hR1d : R1.data.toList = r1 := by rw [← hR1]
              have hR1z : R1.size = r1.length := by rw [← size_data, hR1d]
              have hYy : Y.size = y.length := by rw [← size_data, hYd]
              rw [hP, hR1] at UY
              clear hR1 hY
              refine (UY.out w4).mono ?_
              rintro e w5 ⟨rfl, hb5⟩
              have HA5 : Hid (RaT w w5 wr.heap.size l (.slice va l.length vc) A ⟨#[]⟩ ⟨#[]⟩) := HA4.out.call hb5
              clear hb5
              have z5 : w5.cell? ⟨wr.heap.size, 0, none⟩ = some (.string ⟨#[]⟩) := cell_at HA5.out.blk
              have f5 : ∀ i, w5.frozen? ⟨wr.heap.size, i, none⟩ = false := fun i => frozen_at HA5.out.blk
              obtain ⟨W6, hW6⟩ : ∃ W6, w5.setCell ⟨wr.heap.size, 0, none⟩ (.string P) = W6 := ⟨_, rfl⟩
              have HA6 : Hid (RaT w W6 wr.heap.size l (.slice va l.length vc) A P ⟨#[]⟩) := by rw [← hW6]; exact HA5.out.set0 _
              by_cases h61 : r1.head? = some 61
              · obtain ⟨z, rfl⟩ : ∃ z, r1 = 61 :: z := by
                  cases r1 with
                  | nil => simp at h61
                  | cons c z => simp at h61; exact ⟨z, by rw [h61]⟩
                obtain ⟨Z, hZ0⟩ : ∃ Z : ByteArray, (⟨z.toArray⟩ : ByteArray) = Z := ⟨_, rfl⟩
                have hZd : Z.data.toList = z := by rw [← hZ0]
                have hZz : Z.size = z.length := by rw [← size_data, hZd]
                simp only [List.length_cons] at hu1 hR1z
                have CZ : Hid (∀ W, Calls Tryd.prog 56 #[.string R1, .string ⟨#[61]⟩] W fun e w' => e = .returned (.tuple #[.string Z, .bool true]) ∧ Below W.heap.size W w') := cutyes_calls R1 ⟨#[61]⟩ Z z (by omega) (by decide) hR1d hZ0
                have UZ : Hid (∀ W, Calls Tryd.prog 57 #[.string Z] W fun e w' => e = .returned (unqV Z) ∧ Below W.heap.size W w') := fun W => unquote_calls Z W (by omega)
                clear hZ0 hR1d h61
                go_wp2_with fail
                refine (CZ.out W6).mono ?_
                rintro e w7 ⟨rfl, hb7⟩
                have HA7 : Hid (RaT w w7 wr.heap.size l (.slice va l.length vc) A P ⟨#[]⟩) := HA6.out.call hb7
                clear hb7
                go_wp2_with fail
                cases hqz : unqd z with
                | none =>
                  have HRN2 : Hid (R = none) := by show _ = _; rw [← hE2, hy, attrsF_value m l y a z hq hqz]
                  rw [unqV_none Z (by rw [hZd]; exact hqz)] at UZ
                  clear hq hy hYd e0 e1 hE2 hx hqz hZd hP
                  refine (UZ.out w7).mono ?_
                  rintro e w8 ⟨rfl, hb8⟩
                  have HA8 : Hid (RaT w w8 wr.heap.size l (.slice va l.length vc) A P ⟨#[]⟩) := HA7.out.call hb8
                  clear hb8
                  have z8 : w8.cell? ⟨wr.heap.size, 1, none⟩ = some (.string ⟨#[]⟩) := cell_at HA8.out.blk
                  have f8 : ∀ i, w8.frozen? ⟨wr.heap.size, i, none⟩ = false := fun i => frozen_at HA8.out.blk
                  obtain ⟨W10, hW10⟩ : ∃ W10, w8.setCell ⟨wr.heap.size, 1, none⟩ (.string ⟨#[]⟩) = W10 := ⟨_, rfl⟩
                  have HA10 : Hid (RaT w W10 wr.heap.size l (.slice va l.length vc) A P ⟨#[]⟩) := by rw [← hW10]; exact HA8.out.set1 _
                  have z0 : W10.cell? ⟨wr.heap.size, 0, none⟩ = some (.string P) := cell_at HA10.out.blk
                  have z1 : W10.cell? ⟨wr.heap.size, 1, none⟩ = some (.string ⟨#[]⟩) := cell_at HA10.out.blk
                  have y3 : W10.cell? ⟨w.heap.size + 1, 3, none⟩ = some (.slice va l.length vc) := cell_at HA10.out.rd.tok
                  have HO8 : Hid (OwnA w.heap.size W10 (.slice va l.length vc) l) := HA10.out.own
                  have s8 := HA10.out.rd.size
                  go_wp2_with (at_builtin; refine wpList_append_own _ rfl _ _ 24 rfl w.heap.size 36 i0 (.agg #[.string ⟨#[]⟩, .string ⟨#[]⟩]) 2 32 Tryd.underlying24 HI.out.1 HI.out.2.1 HI.out.2.2.1 HI.out.2.2.2 rfl (by decide) _ _ _ rfl (World.ownsRow.alloc HO8.out _) ⟨W10.heap.size, 0, none⟩ 1 1 [.string P, .string ⟨#[]⟩] rfl rfl (cells_two _ P ⟨#[]⟩ _ _ rfl) (by intro u hu; simp at hu; rcases hu with rfl | rfl <;> rfl) (by unfold maxLen; omega) (by omega) (by simp; omega) ?_; intro v9 w9 ho9 hg9 _; obtain ⟨a9, c9, rfl⟩ := C.owns_slice ho9; have HR9 : Hid (RdT w w9 1 A ⟨#[]⟩ (.slice va l.length vc) false) := HA10.out.app hg9; have y9 : w9.cell? ⟨w.heap.size + 1, 3, none⟩ = some (.slice va l.length vc) := cell_at HR9.out.tok; have f9 : ∀ i, w9.frozen? ⟨w.heap.size + 1, i, none⟩ = false := fun i => frozen_at HR9.out.tok)
                  all_goals (
                    have HO9 : OwnA w.heap.size w9 (.slice a9 (l.length + 1) c9) (l ++ [(P, ⟨#[]⟩)]) := by
                      show World.ownsRow _ _ _ _ _ _ _
                      rw [avs_snoc]
                      simpa using ho9
                    have HO10 : Hid (OwnA w.heap.size (w9.setCell ⟨w.heap.size + 1, 3, none⟩ (.slice a9 (l.length + 1) c9)) (.slice a9 (l.length + 1) c9) (l ++ [(P, ⟨#[]⟩)])) := OwnA.set HO9 (OwnA.apart HO9 HR9.out.tok (by decide)) 3 _
                    have HR10 : Hid (RdT w (w9.setCell ⟨w.heap.size + 1, 3, none⟩ (.slice a9 (l.length + 1) c9)) 1 A ⟨#[]⟩ (.slice a9 (l.length + 1) c9) false) := HR9.out.v _
                    clear ho9 hg9 HO9
                    first
                      | exact ⟨⟨m, l ++ [(P, ⟨#[]⟩)], Z, _, false, rfl, rfl, HR10, HO10, (fun h => by cases h), (fun _ => HRN2.out), (fun h => by cases h)⟩, by simp [mzR, strLenR]; try omega⟩
                      | (go_roundw
                         case rel => exact ⟨m, l ++ [(P, ⟨#[]⟩)], Z, _, false, rfl, rfl, HR10, HO10, (fun h => by cases h), (fun _ => HRN2.out), (fun h => by cases h)⟩
                         case measure => simp [mzR, strLenR]; try omega)
                      | trace_state)
                | some br =>
                  obtain ⟨b2, r2⟩ := br
                  have hu2 := unqd_len hqz
                  rw [unqV_some Z b2 r2 (by rw [hZd]; exact hqz)] at UZ
                  obtain ⟨Q, hQ⟩ : ∃ Q : ByteArray, (⟨b2.toArray⟩ : ByteArray) = Q := ⟨_, rfl⟩
                  obtain ⟨R2, hR2⟩ : ∃ R2 : ByteArray, (⟨r2.toArray⟩ : ByteArray) = R2 := ⟨_, rfl⟩
                  have hQz : Q.size = b2.length := by rw [← hQ]; simp [ByteArray.size]
                  have hR2d : R2.data.toList = r2 := by rw [← hR2]
                  have hR2z : R2.size = r2.length := by rw [← size_data, hR2d]
                  have HE2 : Hid (R2.size < m ∧ attrsF m (l ++ [(P, Q)]) R2.data.toList = R) := by
                    refine ⟨by omega, ?_⟩
                    rw [hR2d, ← hP, ← hQ, ← attrsF_step m l y a z b2 r2 hq hqz, ← hy]
                    exact hE2
                  have HZ3 : Hid ((l ++ [(P, Q)]).length + sumA (l ++ [(P, Q)]) + R2.size ≤ s.size) := by
                    show _ ≤ _
                    rw [sumA_snoc]
                    simp only [List.length_append, List.length_cons, List.length_nil]
                    omega
                  rw [hQ, hR2] at UZ
                  clear hq hy hYd e0 e1 hE2 hx hqz hZd hP hQ hR2 hR2d
                  refine (UZ.out w7).mono ?_
                  rintro e w8 ⟨rfl, hb8⟩
                  have HA8 : Hid (RaT w w8 wr.heap.size l (.slice va l.length vc) A P ⟨#[]⟩) := HA7.out.call hb8
                  clear hb8
                  have z8 : w8.cell? ⟨wr.heap.size, 1, none⟩ = some (.string ⟨#[]⟩) := cell_at HA8.out.blk
                  have f8 : ∀ i, w8.frozen? ⟨wr.heap.size, i, none⟩ = false := fun i => frozen_at HA8.out.blk
                  obtain ⟨W10, hW10⟩ : ∃ W10, w8.setCell ⟨wr.heap.size, 1, none⟩ (.string Q) = W10 := ⟨_, rfl⟩
                  have HA10 : Hid (RaT w W10 wr.heap.size l (.slice va l.length vc) A P Q) := by rw [← hW10]; exact HA8.out.set1 _
                  have z0 : W10.cell? ⟨wr.heap.size, 0, none⟩ = some (.string P) := cell_at HA10.out.blk
                  have z1 : W10.cell? ⟨wr.heap.size, 1, none⟩ = some (.string Q) := cell_at HA10.out.blk
                  have y3 : W10.cell? ⟨w.heap.size + 1, 3, none⟩ = some (.slice va l.length vc) := cell_at HA10.out.rd.tok
                  have HO8 : Hid (OwnA w.heap.size W10 (.slice va l.length vc) l) := HA10.out.own
                  have s8 := HA10.out.rd.size
                  go_wp2_with (at_builtin; refine wpList_append_own _ rfl _ _ 24 rfl w.heap.size 36 i0 (.agg #[.string ⟨#[]⟩, .string ⟨#[]⟩]) 2 32 Tryd.underlying24 HI.out.1 HI.out.2.1 HI.out.2.2.1 HI.out.2.2.2 rfl (by decide) _ _ _ rfl (World.ownsRow.alloc HO8.out _) ⟨W10.heap.size, 0, none⟩ 1 1 [.string P, .string Q] rfl rfl (cells_two _ P Q _ _ rfl) (by intro u hu; simp at hu; rcases hu with rfl | rfl <;> rfl) (by unfold maxLen; omega) (by omega) (by simp; omega) ?_; intro v9 w9 ho9 hg9 _; obtain ⟨a9, c9, rfl⟩ := C.owns_slice ho9; have HR9 : Hid (RdT w w9 1 A ⟨#[]⟩ (.slice va l.length vc) false) := HA10.out.app hg9; have y9 : w9.cell? ⟨w.heap.size + 1, 3, none⟩ = some (.slice va l.length vc) := cell_at HR9.out.tok; have f9 : ∀ i, w9.frozen? ⟨w.heap.size + 1, i, none⟩ = false := fun i => frozen_at HR9.out.tok)
                  all_goals (
                    have HO9 : OwnA w.heap.size w9 (.slice a9 (l.length + 1) c9) (l ++ [(P, Q)]) := by
                      show World.ownsRow _ _ _ _ _ _ _
                      rw [avs_snoc]
                      simpa using ho9
                    have HO10 : Hid (OwnA w.heap.size (w9.setCell ⟨w.heap.size + 1, 3, none⟩ (.slice a9 (l.length + 1) c9)) (.slice a9 (l.length + 1) c9) (l ++ [(P, Q)])) := OwnA.set HO9 (OwnA.apart HO9 HR9.out.tok (by decide)) 3 _
                    have HR10 : Hid (RdT w (w9.setCell ⟨w.heap.size + 1, 3, none⟩ (.slice a9 (l.length + 1) c9)) 1 A ⟨#[]⟩ (.slice a9 (l.length + 1) c9) false) := HR9.out.v _
                    clear ho9 hg9 HO9
                    first
                      | exact ⟨⟨m, l ++ [(P, Q)], R2, _, true, rfl, rfl, HR10, HO10, (fun _ => HE2.out), (fun h => by cases h), (fun _ => HZ3.out)⟩, by simp [mzR, strLenR]; try omega⟩
                      | (go_roundw
                         case rel => exact ⟨m, l ++ [(P, Q)], R2, _, true, rfl, rfl, HR10, HO10, (fun _ => HE2.out), (fun h => by cases h), (fun _ => HZ3.out)⟩
                         case measure => simp [mzR, strLenR]; try omega)
                      | trace_state)
              · have HRN2 : Hid (R = none) := by show _ = _; rw [← hE2, hy, attrsF_eq m l y a r1 hq h61]
                have CZ : Hid (∀ W, Calls Tryd.prog 56 #[.string R1, .string ⟨#[61]⟩] W fun e w' => e = .returned (.tuple #[.string R1, .bool false]) ∧ Below W.heap.size W w') := cutno_calls R1 ⟨#[61]⟩ (by omega) (by decide) (by rw [hR1d]; exact pre_one _ _ h61)
                clear hq hy hYd e0 e1 hE2 hx hP h61 hR1d
                go_wp2_with fail
                refine (CZ.out W6).mono ?_
                rintro e w7 ⟨rfl, hb7⟩
                have HA7 : Hid (RaT w w7 wr.heap.size l (.slice va l.length vc) A P ⟨#[]⟩) := HA6.out.call hb7
                clear hb7
                have z0 : w7.cell? ⟨wr.heap.size, 0, none⟩ = some (.string P) := cell_at HA7.out.blk
                have z1 : w7.cell? ⟨wr.heap.size, 1, none⟩ = some (.string ⟨#[]⟩) := cell_at HA7.out.blk
                have y3 : w7.cell? ⟨w.heap.size + 1, 3, none⟩ = some (.slice va l.length vc) := cell_at HA7.out.rd.tok
                have HO8 : Hid (OwnA w.heap.size w7 (.slice va l.length vc) l) := HA7.out.own
                have s8 := HA7.out.rd.size
                go_wp2_with (at_builtin; refine wpList_append_own _ rfl _ _ 24 rfl w.heap.size 36 i0 (.agg #[.string ⟨#[]⟩, .string ⟨#[]⟩]) 2 32 Tryd.underlying24 HI.out.1 HI.out.2.1 HI.out.2.2.1 HI.out.2.2.2 rfl (by decide) _ _ _ rfl (World.ownsRow.alloc HO8.out _) ⟨w7.heap.size, 0, none⟩ 1 1 [.string P, .string ⟨#[]⟩] rfl rfl (cells_two _ P ⟨#[]⟩ _ _ rfl) (by intro u hu; simp at hu; rcases hu with rfl | rfl <;> rfl) (by unfold maxLen; omega) (by omega) (by simp; omega) ?_; intro v9 w9 ho9 hg9 _; obtain ⟨a9, c9, rfl⟩ := C.owns_slice ho9; have HR9 : Hid (RdT w w9 1 A ⟨#[]⟩ (.slice va l.length vc) false) := HA7.out.app hg9; have y9 : w9.cell? ⟨w.heap.size + 1, 3, none⟩ = some (.slice va l.length vc) := cell_at HR9.out.tok; have f9 : ∀ i, w9.frozen? ⟨w.heap.size + 1, i, none⟩ = false := fun i => frozen_at HR9.out.tok)
                all_goals (
                  have HO9 : OwnA w.heap.size w9 (.slice a9 (l.length + 1) c9) (l ++ [(P, ⟨#[]⟩)]) := by
                    show World.ownsRow _ _ _ _ _ _ _
                    rw [avs_snoc]
                    simpa using ho9
                  have HO10 : Hid (OwnA w.heap.size (w9.setCell ⟨w.heap.size + 1, 3, none⟩ (.slice a9 (l.length + 1) c9)) (.slice a9 (l.length + 1) c9) (l ++ [(P, ⟨#[]⟩)])) := OwnA.set HO9 (OwnA.apart HO9 HR9.out.tok (by decide)) 3 _
                  have HR10 : Hid (RdT w (w9.setCell ⟨w.heap.size + 1, 3, none⟩ (.slice a9 (l.length + 1) c9)) 1 A ⟨#[]⟩ (.slice a9 (l.length + 1) c9) false) := HR9.out.v _
                  clear ho9 hg9 HO9
                  first
                    | exact ⟨⟨m, l ++ [(P, ⟨#[]⟩)], R1, _, false, rfl, rfl, HR10, HO10, (fun h => by cases h), (fun _ => HRN2.out), (fun h => by cases h)⟩, by simp [mzR, strLenR]; try omega⟩
                    | (go_roundw
                       case rel => exact ⟨m, l ++ [(P, ⟨#[]⟩)], R1, _, false, rfl, rfl, HR10, HO10, (fun h => by cases h), (fun _ => HRN2.out), (fun h => by cases h)⟩
                       case measure => simp [mzR, strLenR]; try omega)
                    | trace_state)
          · have HRN2 : Hid (R = none) := by show _ = _; rw [← hE2, attrsF_head m l _ e0 hx]
            have CN2 : Hid (∀ W, Calls Tryd.prog 56 #[.string S, .string ⟨#[32]⟩] W fun e w' => e = .returned (.tuple #[.string S, .bool false]) ∧ Below W.heap.size W w') := cutno_calls S ⟨#[32]⟩ (by omega) (by decide) (pre_one _ _ hx)
            clear e0 e1 hE2 hx
            go_wp2_with fail
            rw [HW3.out]
            refine (CN2.out W3).mono ?_
            rintro e w4 ⟨rfl, hb4⟩
            have HA4 : Hid (RaT w w4 wr.heap.size l (.slice va l.length vc) A ⟨#[]⟩ ⟨#[]⟩) := HA3.out.call hb4
            clear hb4
            have z0 : w4.cell? ⟨wr.heap.size, 0, none⟩ = some (.string ⟨#[]⟩) := cell_at HA4.out.blk
            have z1 : w4.cell? ⟨wr.heap.size, 1, none⟩ = some (.string ⟨#[]⟩) := cell_at HA4.out.blk
            have y3 : w4.cell? ⟨w.heap.size + 1, 3, none⟩ = some (.slice va l.length vc) := cell_at HA4.out.rd.tok
            have HO8 : Hid (OwnA w.heap.size w4 (.slice va l.length vc) l) := HA4.out.own
            have s8 := HA4.out.rd.size
            go_wp2_with (at_builtin; refine wpList_append_own _ rfl _ _ 24 rfl w.heap.size 36 i0 (.agg #[.string ⟨#[]⟩, .string ⟨#[]⟩]) 2 32 Tryd.underlying24 HI.out.1 HI.out.2.1 HI.out.2.2.1 HI.out.2.2.2 rfl (by decide) _ _ _ rfl (World.ownsRow.alloc HO8.out _) ⟨w4.heap.size, 0, none⟩ 1 1 [.string ⟨#[]⟩, .string ⟨#[]⟩] rfl rfl (cells_two _ ⟨#[]⟩ ⟨#[]⟩ _ _ rfl) (by intro u hu; simp at hu; rcases hu with rfl | rfl <;> rfl) (by unfold maxLen; omega) (by omega) (by simp; omega) ?_; intro v9 w9 ho9 hg9 _; obtain ⟨a9, c9, rfl⟩ := C.owns_slice ho9; have HR9 : Hid (RdT w w9 1 A ⟨#[]⟩ (.slice va l.length vc) false) := HA4.out.app hg9; have y9 : w9.cell? ⟨w.heap.size + 1, 3, none⟩ = some (.slice va l.length vc) := cell_at HR9.out.tok; have f9 : ∀ i, w9.frozen? ⟨w.heap.size + 1, i, none⟩ = false := fun i => frozen_at HR9.out.tok)
            all_goals (
              have HO9 : OwnA w.heap.size w9 (.slice a9 (l.length + 1) c9) (l ++ [(⟨#[]⟩, ⟨#[]⟩)]) := by
                show World.ownsRow _ _ _ _ _ _ _
                rw [avs_snoc]
                simpa using ho9
              have HO10 : Hid (OwnA w.heap.size (w9.setCell ⟨w.heap.size + 1, 3, none⟩ (.slice a9 (l.length + 1) c9)) (.slice a9 (l.length + 1) c9) (l ++ [(⟨#[]⟩, ⟨#[]⟩)])) := OwnA.set HO9 (OwnA.apart HO9 HR9.out.tok (by decide)) 3 _
              have HR10 : Hid (RdT w (w9.setCell ⟨w.heap.size + 1, 3, none⟩ (.slice a9 (l.length + 1) c9)) 1 A ⟨#[]⟩ (.slice a9 (l.length + 1) c9) false) := HR9.out.v _
              clear ho9 hg9 HO9
              first
                | exact ⟨⟨m, l ++ [(⟨#[]⟩, ⟨#[]⟩)], S, _, false, rfl, rfl, HR10, HO10, (fun h => by cases h), (fun _ => HRN2.out), (fun h => by cases h)⟩, by simp [mzR, strLenR]; try omega⟩
                | (go_roundw
                   case rel => exact ⟨m, l ++ [(⟨#[]⟩, ⟨#[]⟩)], S, _, false, rfl, rfl, HR10, HO10, (fun h => by cases h), (fun _ => HRN2.out), (fun h => by cases h)⟩
                   case measure => simp [mzR, strLenR]; try omega)
                | trace_state)
    have hn1 : ((wordS 1).data.toList ++ [32]).isPrefixOf s.data.toList = false := by rwa [Bool.not_eq_true] at hp
    have HNO1 : Hid (∀ W, Calls Tryd.prog 56 #[.string s, .string ⟨#[115, 116, 97, 114, 116, 32]⟩] W fun e w' => e = .returned (.tuple #[.string s, .bool false]) ∧ Below W.heap.size W w') := cutno_calls s ⟨#[115, 116, 97, 114, 116, 32]⟩ hs (by decide) hn1
    clear hp
    have HN : Hid (readP s.data.toList = none) := readP_else _ hd (fun k hk => by
      obtain rfl | rfl | rfl | rfl : k = 0 ∨ k = 1 ∨ k = 2 ∨ k = 3 := by omega
      · exact hn0
      · exact hn1
      · exact hn2
      · exact hn3)
    have HO2 : Hid (OwnA w.heap.size W2 (.slice none 0 0) []) := World.ownsRow_nil _ _ _ _
    clear hn0 hn1 hn2 hn3 hd
    refine (HNO0.out W2).mono ?_
    rintro e u0 ⟨rfl, hbu0⟩
    have HRu0 : Hid (RdT w u0 0 ⟨#[]⟩ ⟨#[]⟩ (.slice none 0 0) false) := HR2.out.call hbu0
    clear hbu0
    go_wp2_with fail
    refine (HNO3.out u0).mono ?_
    rintro e u1 ⟨rfl, hbu1⟩
    have HRu1 : Hid (RdT w u1 0 ⟨#[]⟩ ⟨#[]⟩ (.slice none 0 0) false) := HRu0.out.call hbu1
    clear hbu1
    go_wp2_with fail
    refine (HNO2.out u1).mono ?_
    rintro e u2 ⟨rfl, hbu2⟩
    have HRu2 : Hid (RdT w u2 0 ⟨#[]⟩ ⟨#[]⟩ (.slice none 0 0) false) := HRu1.out.call hbu2
    clear hbu2
    go_wp2_with fail
    refine (HNO1.out u2).mono ?_
    rintro e u3 ⟨rfl, hbu3⟩
    have HRu3 : Hid (RdT w u3 0 ⟨#[]⟩ ⟨#[]⟩ (.slice none 0 0) false) := HRu2.out.call hbu3
    clear hbu3
    have HO9 : Hid (OwnA w.heap.size u3 (.slice none 0 0) []) := World.ownsRow_nil _ _ _ _
    have HFIN : Hid (FinR s (⟨0, ⟨#[]⟩, ⟨#[]⟩, false, 0, 0, 0⟩ : T.Tok) [] false) := ⟨(fun h => by cases h), fun _ => HN.out⟩
    have y0 : u3.cell? ⟨w.heap.size + 1, 0, none⟩ = some (.int .i64 0) := cell_at HRu3.out.tok
    have y1 : u3.cell? ⟨w.heap.size + 1, 1, none⟩ = some (.string ⟨#[]⟩) := cell_at HRu3.out.tok
    have y2 : u3.cell? ⟨w.heap.size + 1, 2, none⟩ = some (.string ⟨#[]⟩) := cell_at HRu3.out.tok
    have y3 : u3.cell? ⟨w.heap.size + 1, 3, none⟩ = some (.slice none 0 0) := cell_at HRu3.out.tok
    have y4 : u3.cell? ⟨w.heap.size + 1, 4, none⟩ = some (.bool false) := cell_at HRu3.out.tok
    have y5 : u3.cell? ⟨w.heap.size + 1, 5, none⟩ = some (.int .i64 0) := cell_at HRu3.out.tok
    have y6 : u3.cell? ⟨w.heap.size + 1, 6, none⟩ = some (.int .i64 0) := cell_at HRu3.out.tok
    have y7 : u3.cell? ⟨w.heap.size + 1, 7, none⟩ = some (.int .i64 0) := cell_at HRu3.out.tok
    have r0 : u3.cell? ⟨w.heap.size, 0, none⟩ = some (.int .i64 0) := cell_at HRu3.out.res
    have r1 : u3.cell? ⟨w.heap.size, 1, none⟩ = some (.string ⟨#[]⟩) := cell_at HRu3.out.res
    have r2 : u3.cell? ⟨w.heap.size, 2, none⟩ = some (.string ⟨#[]⟩) := cell_at HRu3.out.res
    have r3 : u3.cell? ⟨w.heap.size, 3, none⟩ = some (.slice none 0 0) := cell_at HRu3.out.res
    have r4 : u3.cell? ⟨w.heap.size, 4, none⟩ = some (.bool false) := cell_at HRu3.out.res
    have r5 : u3.cell? ⟨w.heap.size, 5, none⟩ = some (.int .i64 0) := cell_at HRu3.out.res
    have r6 : u3.cell? ⟨w.heap.size, 6, none⟩ = some (.int .i64 0) := cell_at HRu3.out.res
    have r7 : u3.cell? ⟨w.heap.size, 7, none⟩ = some (.int .i64 0) := cell_at HRu3.out.res
    have fr : ∀ i, u3.frozen? ⟨w.heap.size, i, none⟩ = false := fun i => frozen_at HRu3.out.res
    go_wp2_with fail
    go_region
    obtain ⟨WX, hWX⟩ : ∃ WX, ((((((((u3.setCell ⟨w.heap.size, 0, none⟩ (.int .i64 0)).setCell ⟨w.heap.size, 1, none⟩ (.string ⟨#[]⟩)).setCell ⟨w.heap.size, 2, none⟩ (.string ⟨#[]⟩)).setCell ⟨w.heap.size, 3, none⟩ (.slice none 0 0)).setCell ⟨w.heap.size, 4, none⟩ (.bool false)).setCell ⟨w.heap.size, 5, none⟩ (.int .i64 0)).setCell ⟨w.heap.size, 6, none⟩ (.int .i64 0)).setCell ⟨w.heap.size, 7, none⟩ (.int .i64 0)).drew = WX := ⟨_, rfl⟩
    rw [hWX]
    have HX1 : Hid (WX.heap[w.heap.size]? = some (.cells #[.int .i64 0, .string ⟨#[]⟩, .string ⟨#[]⟩, .slice none 0 0, .bool false, .int .i64 0, .int .i64 0, .int .i64 0] 28 (0, 0))) := by rw [← hWX]; exact drew_at (put8_at HRu3.out.res _ _ _ _ _ _ _ _)
    have HX2 : Hid (OwnA w.heap.size WX (.slice none 0 0) []) := by rw [← hWX]; exact ownA_drew (OwnA.put8 HO9.out (OwnA.apart HO9.out HRu3.out.res (by decide)) _ _ _ _ _ _ _ _)
    have HX3 : Hid (Below w.heap.size w WX) := by rw [← hWX]; exact (put8_belowR HRu3.out.below (by have := HRu3.out.size; omega) _ _ _ _ _ _ _ _).drew
    clear hWX r0 r1 r2 r3 r4 r5 r6 r7 fr y0 y1 y2 y3 y4 y5 y6 y7 
    go_wp2
    all_goals exact bodyPost_ret (results_rread rfl rfl HX1.out) rfl ⟨(⟨0, ⟨#[]⟩, ⟨#[]⟩, false, 0, 0, 0⟩ : T.Tok), [], .slice none 0 0, false, rfl, HX2.out, HX3.out, HFIN.out⟩
end Go.Proofs.YtelfejbhlolppaaDoor.T
