/- What is proved here: a scanner of package raw in memory: what telling, holding and releasing runes do to it. -/
import Derived.ScopeJumps
import Derived.WalkMore
import Derived.Deep.RegionHeld3
import Derived.Lib.OthersKept
import Derived.Lib.RuneBytes
import Derived.Test.YtegkdgmpkfpjmaaDoorRMach
import Derived.Test.YtegkdgmpkfpjmaaDoorRShelf
import Derived.Test.YtegkdgmpkfpjmaaDoorMathB
namespace Go.Proofs.YtegkdgmpkfpjmaaDoor.R
open Go.RowKit Go.Shelf Go.Proofs.YtegkdgmpkfpjmaaDoor.U Go.Proofs.YtegkdgmpkfpjmaaDoor.N

theorem infoByte : (Tryd.prog.info? 5).map (fun i => (i.zero, i.size, i.bytes)) = some (some (.int .u8 0), 1, 1) := by kernel_rfl
/-- The model's bytes of a rune and the shelf's cells are one. -/
theorem cells_enc (r : Int) : Lib.runeCells r = bvs (enc r) := by
  unfold Lib.runeCells bvs
  by_cases hv : 0 ≤ r ∧ r ≤ 1114111 ∧ ¬ (55296 ≤ r ∧ r ≤ 57343)
  · have hv' : Utf8.valid r = true := (valid_iff r).2 hv
    obtain ⟨h0, h1, h2⟩ := hv
    obtain ⟨n, rfl⟩ : ∃ n : Nat, r = (n : Int) := ⟨r.toNat, by omega⟩
    have ea : ∀ (x : Int) (m : Nat), x = (m : Int) → m < 256 → Value.int .u8 x = Value.int .u8 ((UInt8.ofNat m).toNat : Int) := fun x m e h => by subst e; simp; omega
    by_cases c1 : n < 128
    · rw [enc_one (by omega) (by omega), Lib.encodeRuneZ_one (by omega) (by omega)]
      simp only [List.map_cons, List.map_nil, Int.toNat_natCast]
      rw [ea _ n rfl (by omega)]
    · by_cases c2 : n < 2048
      · rw [enc_two (by omega) (by omega), Lib.encodeRuneZ_two (by omega) (by omega)]
        simp only [List.map_cons, List.map_nil, Int.toNat_natCast]
        rw [ea (192 + (n : Int) / 64) (192 + n / 64) (by omega) (by omega), ea (128 + (n : Int) % 64) (128 + n % 64) (by omega) (by omega)]
      · by_cases c3 : n < 65536
        · rw [enc_three hv' (by omega) (by omega), Lib.encodeRuneZ_three (by omega)]
          simp only [List.map_cons, List.map_nil, Int.toNat_natCast]
          rw [ea (224 + (n : Int) / 4096) (224 + n / 4096) (by omega) (by omega), ea (128 + (n : Int) / 64 % 64) (128 + n / 64 % 64) (by omega) (by omega), ea (128 + (n : Int) % 64) (128 + n % 64) (by omega) (by omega)]
        · rw [enc_four (by omega) (by omega), Lib.encodeRuneZ_four (by omega) (by omega)]
          simp only [List.map_cons, List.map_nil, Int.toNat_natCast]
          rw [ea (240 + (n : Int) / 262144) (240 + n / 262144) (by omega) (by omega), ea (128 + (n : Int) / 4096 % 64) (128 + n / 4096 % 64) (by omega) (by omega), ea (128 + (n : Int) / 64 % 64) (128 + n / 64 % 64) (by omega) (by omega), ea (128 + (n : Int) % 64) (128 + n % 64) (by omega) (by omega)]
  · have hf : Utf8.valid r = false := by
      cases h : Utf8.valid r with
      | false => rfl
      | true => exact absurd ((valid_iff r).1 h) hv
    rw [enc_wrong hf, Lib.encodeRuneZ_bad (by omega)]
    rfl
theorem bvs_length (bs : List UInt8) : (bvs bs).length = bs.length := by simp [bvs]
/-- utf8.AppendRune onto a row of one's own. -/
theorem arune_calls (B : Nat) (v : Value) (bs : List UInt8) (r : Int) (hr0 : -2147483648 ≤ r) (hr1 : r ≤ 2147483647) (w : World) (hown : w.ownsRow B 5 1 v bs.length (bvs bs)) (hlen : bs.length + 4 ≤ 140737488355328) (hBw : B ≤ w.heap.size) :
    Calls Tryd.prog 62 #[v, .int .i32 r] w fun e w' => ∃ v', e = .returned v' ∧ w'.ownsRow B 5 1 v' (bs ++ enc r).length (bvs (bs ++ enc r)) ∧ ∃ o, (w.alloc o).grownBy w' v.ownBlock := by
  have h := Any.utf8_AppendRune_plain Tryd.lays242 infoByte B v bs.length (bvs bs) r hr0 hr1 w hown hlen hBw
  rw [cells_enc, bvs_length, ← bvs_append] at h
  rw [List.length_append]
  exact h

theorem lt_of_blk {w : World} {g : Nat} {o : Obj} (h : w.heap[g]? = some o) : g < w.heap.size := (Array.getElem?_eq_some_iff.1 h).1
theorem row_kind {w : World} {B : Nat} {e : TypeId} {v : Value} {n : Nat} {xs : List Value} (h : w.ownsRow B e 1 v n xs) : ∀ g, v.ownBlock = some g → ∃ c fz, w.heap[g]? = some (.cells c e fz) := by
  intro g hg
  rcases h.2 with ⟨rfl, _⟩ | ⟨g', cap, cur, rfl, _, hgg, _⟩
  · simp [Value.ownBlock] at hg
  · simp [Value.ownBlock] at hg
    subst hg
    exact ⟨cur, _, hgg⟩
theorem row_ge {w : World} {B : Nat} {e : TypeId} {v : Value} {n : Nat} {xs : List Value} (h : w.ownsRow B e 1 v n xs) : ∀ g, v.ownBlock = some g → B ≤ g := fun g hg => (h.lt g hg).1
theorem cell_blk {W : World} {d : Nat} {c : Array Value} {t : TypeId} {f : Nat × Nat} (h : W.heap[d]? = some (.cells c t f)) (j : Nat) : W.cell? ⟨d, j, none⟩ = c[j]? := by simp [World.cell?, h]
theorem frozen_blk {W : World} {d : Nat} {c : Array Value} {t : TypeId} (h : W.heap[d]? = some (.cells c t (0, 0))) (j : Nat) : W.frozen? ⟨d, j, none⟩ = false := by simp [World.frozen?, h]
theorem set_blk {W : World} {d : Nat} {c : Array Value} {t : TypeId} (h : W.heap[d]? = some (.cells c t (0, 0))) (j : Nat) (v : Value) : (W.setCell ⟨d, j, none⟩ v).heap[d]? = some (.cells (c.setIfInBounds j v) t (0, 0)) := by
  rw [setCell_eq_setRow W d j c t (0, 0) _ h]
  exact setRow_heap W d c _ t (0, 0) h
theorem grown_set (w : World) (d j : Nat) (v : Value) : w.grownBy (w.setCell ⟨d, j, none⟩ v) (some d) := ⟨rfl, rfl, rfl, by simp [World.setCell], fun k _ hk => Below.heap_setCell _ _ _ k (fun e => hk (by rw [e]))⟩

/-- Blocks that are neither the scanner's own nor rows of bytes or runes are kept. -/
def Kept (a : Nat) (w w' : World) : Prop := ∀ j o, w.heap[j]? = some o → j ≠ a → (∀ c fz, o ≠ .cells c 5 fz) → (∀ c fz, o ≠ .cells c 21 fz) → w'.heap[j]? = some o
theorem Kept.refl (a : Nat) (w : World) : Kept a w w := fun _ _ h _ _ _ => h
theorem Kept.trans {a : Nat} {w w1 w2 : World} (h : Kept a w w1) (k : Kept a w1 w2) : Kept a w w2 := fun j o h0 h1 h2 h3 => k j o (h j o h0 h1 h2 h3) h1 h2 h3
theorem Kept.alloc {a : Nat} {w w1 : World} (h : Kept a w w1) (o : Obj) : Kept a w (w1.alloc o) := fun j x h0 h1 h2 h3 => by
  have := h j x h0 h1 h2 h3
  rw [Lib.alloc_old w1 o j (lt_of_blk this)]; exact this
theorem Kept.drew {a : Nat} {w w1 : World} (h : Kept a w w1) : Kept a w w1.drew := h
theorem Kept.setCell {a : Nat} {w w1 : World} (h : Kept a w w1) (j : Nat) (v : Value) : Kept a w (w1.setCell ⟨a, j, none⟩ v) := fun k x h0 h1 h2 h3 => by
  have := h k x h0 h1 h2 h3
  rw [Below.heap_setCell _ _ _ k (fun e => h1 e)]; exact this
theorem Kept.grown {a : Nat} {w w1 w2 : World} {row : Option Nat} {e : TypeId} (h : Kept a w w1) (hg : w1.grownBy w2 row) (he : e = 5 ∨ e = 21) (hr : ∀ g, row = some g → ∃ c fz, w1.heap[g]? = some (.cells c e fz)) : Kept a w w2 := fun k x h0 h1 h2 h3 => by
  have hk := h k x h0 h1 h2 h3
  rw [hg.block k (lt_of_blk hk) (fun e' => by
    obtain ⟨c, fz, hc⟩ := hr k e'.symm
    have := Option.some.inj (hk.symm.trans hc)
    rcases he with rfl | rfl
    · exact h2 c fz this
    · exact h3 c fz this)]
  exact hk
theorem infoRune : (Tryd.prog.info? 21).map (fun i => (i.zero, i.size, i.bytes)) = some (some (.int .i32 0), 1, 4) := by kernel_rfl
theorem apart_rows {w : World} {B B' : Nat} {v v' : Value} {n n' : Nat} {xs xs' : List Value} (h : w.ownsRow B 5 1 v n xs) (h' : w.ownsRow B' 21 1 v' n' xs') : ∀ g, v.ownBlock = some g → v'.ownBlock ≠ some g := by
  intro g hg hg'
  obtain ⟨c, fz, hc⟩ := row_kind h g hg
  obtain ⟨c', fz', hc'⟩ := row_kind h' g hg'
  rw [hc] at hc'
  injection hc' with e
  injection e with _ e
  exact absurd e (by decide)
abbrev rvs (zs : List Int) : List Value := zs.map (Value.int .i32)
abbrev InR (z : Int) : Prop := -2147483648 ≤ z ∧ z ≤ 2147483647
/-- The cells of a scanner. -/
abbrev scells (g cap : Nat) (nm : List Int) (s : St) (vs vh : Value) : Array Value := #[.int .i64 s.p, .int .i64 s.b, .slice (some ⟨g, 0, none⟩) nm.length cap, .int .i64 s.n, vs, vh, .int .i32 s.e]
/-- A scanner in memory: its name's runes lie in the block ahead of its own. -/
def ScV (W : World) (g cap : Nat) (nm : List Int) (s : St) (vs vh : Value) : Prop :=
  (∃ cells fz, W.heap[g]? = some (.cells cells 21 fz) ∧ ∀ k, k < nm.length → cells[k]? = some (.int .i32 (nm.getD k 0))) ∧
  W.heap[g + 1]? = some (.cells (scells g cap nm s vs vh) 54 (0, 0)) ∧
  W.ownsRow (g + 2) 5 1 vs (encs s.o).length (bvs (encs s.o)) ∧ W.ownsRow (g + 2) 21 1 vh s.h.length (rvs s.h) ∧ ∀ z ∈ s.h, InR z
def ScAt (W : World) (g cap : Nat) (nm : List Int) (s : St) : Prop := ∃ vs vh, ScV W g cap nm s vs vh
theorem ScV.lt {W : World} {g cap : Nat} {nm : List Int} {s : St} {vs vh : Value} (h : ScV W g cap nm s vs vh) : g + 1 < W.heap.size := lt_of_blk h.2.1
theorem ScAt.lt {W : World} {g cap : Nat} {nm : List Int} {s : St} (h : ScAt W g cap nm s) : g + 1 < W.heap.size := by obtain ⟨_, _, h⟩ := h; exact h.lt
/-- Where nothing of it turns. -/
theorem ScV.below {W W' : World} {g cap : Nat} {nm : List Int} {s : St} {vs vh : Value} (h : ScV W g cap nm s vs vh) (hb : Below W.heap.size W W') : ScV W' g cap nm s vs vh := by
  obtain ⟨⟨c, fz, h0, h1⟩, h2, h3, h4, h5⟩ := h
  exact ⟨⟨c, fz, (hb.block g (lt_of_blk h0)).trans h0, h1⟩, (hb.block _ (lt_of_blk h2)).trans h2, owns_below h3 hb, owns_below h4 hb, h5⟩
theorem ScAt.below {W W' : World} {g cap : Nat} {nm : List Int} {s : St} (h : ScAt W g cap nm s) (hb : Below W.heap.size W W') : ScAt W' g cap nm s := by
  obtain ⟨vs, vh, h⟩ := h; exact ⟨vs, vh, h.below hb⟩
/-- Storing into one of its cells. -/
theorem ScV.store {W : World} {g cap : Nat} {nm : List Int} {s : St} {vs vh : Value} (h : ScV W g cap nm s vs vh) (j : Nat) (v : Value) (s' : St) (vs' vh' : Value) (hc : (scells g cap nm s vs vh).setIfInBounds j v = scells g cap nm s' vs' vh')
    (h3 : W.ownsRow (g + 2) 5 1 vs' (encs s'.o).length (bvs (encs s'.o))) (h4 : W.ownsRow (g + 2) 21 1 vh' s'.h.length (rvs s'.h)) (h5 : ∀ z ∈ s'.h, InR z) : ScV (W.setCell ⟨g + 1, j, none⟩ v) g cap nm s' vs' vh' := by
  obtain ⟨⟨c, fz, h0, h1⟩, h2, _, _⟩ := h
  have hg := grown_set W (g + 1) j v
  refine ⟨⟨c, fz, (hg.block g (lt_of_blk h0) (fun e => by simp at e)).trans h0, h1⟩, ?_, ?_, ?_, h5⟩
  · rw [set_blk h2, hc]
  · refine h3.kept hg ?_
    cases hv : vs'.ownBlock with
    | none => exact .inl rfl
    | some b => exact .inr (fun e => by cases e; have := row_ge h3 _ hv; omega)
  · refine h4.kept hg ?_
    cases hv : vh'.ownBlock with
    | none => exact .inl rfl
    | some b => exact .inr (fun e => by cases e; have := row_ge h4 _ hv; omega)
theorem ScV.cell {W : World} {g cap : Nat} {nm : List Int} {s : St} {vs vh : Value} (h : ScV W g cap nm s vs vh) (j : Nat) : W.cell? ⟨g + 1, j, none⟩ = (scells g cap nm s vs vh)[j]? := cell_blk h.2.1 j
theorem ScV.frozen {W : World} {g cap : Nat} {nm : List Int} {s : St} {vs vh : Value} (h : ScV W g cap nm s vs vh) (j : Nat) : W.frozen? ⟨g + 1, j, none⟩ = false := frozen_blk h.2.1 j
/-- What a call on a scanner leaves of all else. -/
abbrev Leaves (g : Nat) (w W' : World) : Prop := Below (g + 1) w W' ∧ Kept (g + 1) w W'
theorem leaves_refl (g : Nat) (w : World) : Leaves g w w := ⟨Below.refl _ _, Kept.refl _ _⟩
theorem leaves_trans {g : Nat} {w w1 w2 : World} (h : Leaves g w w1) (k : Leaves g w1 w2) : Leaves g w w2 := ⟨h.1.trans k.1, h.2.trans k.2⟩
theorem leaves_set {g : Nat} {w w1 : World} (h : Leaves g w w1) (j : Nat) (v : Value) : Leaves g w (w1.setCell ⟨g + 1, j, none⟩ v) := ⟨h.1.setCell (p := ⟨g + 1, j, none⟩) (Nat.le_refl _) _, h.2.setCell j v⟩
end Go.Proofs.YtegkdgmpkfpjmaaDoor.R
