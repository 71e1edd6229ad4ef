/- What is proved here: a scanner of package markup in memory: what saying runes, looking whether it may be fed, its Text, its End and New do. -/
import Derived.ScopeJumps
import Derived.WalkMore
import Derived.Deep.RegionHeld3
import Derived.Lib.OthersKept
import Derived.Lib.RuneBytes
import Derived.Test.YtckhnkkmcgbabaaDoorKAuto
import Derived.Test.YtckhnkkmcgbabaaDoorKShelf
import Derived.Test.YtckhnkkmcgbabaaDoorMathB
namespace Go.Proofs.YtckhnkkmcgbabaaDoor.K
open Go.RowKit Go.Shelf Go.Proofs.YtckhnkkmcgbabaaDoor.U

theorem infoByte : (Tryd.prog.info? 5).map (fun i => (i.zero, i.size, i.bytes)) = some (some (.int .u8 0), 1, 1) := by kernel_rfl
/-- The model's bytes of a rune and the shelf's cells are one. -/
theorem cells_enc (r : Int) : Lib.runeCells r = bvs (enc r) := by
  unfold Lib.runeCells bvs
  by_cases hv : 0 ≤ r ∧ r ≤ 1114111 ∧ ¬ (55296 ≤ r ∧ r ≤ 57343)
  · have hv' : Utf8.valid r = true := (valid_iff r).2 hv
    obtain ⟨h0, h1, h2⟩ := hv
    obtain ⟨n, rfl⟩ : ∃ n : Nat, r = (n : Int) := ⟨r.toNat, by omega⟩
    have ea : ∀ (x : Int) (m : Nat), x = (m : Int) → m < 256 → Value.int .u8 x = Value.int .u8 ((UInt8.ofNat m).toNat : Int) := fun x m e h => by subst e; simp; omega
    by_cases c1 : n < 128
    · rw [enc_one (by omega) (by omega), Lib.encodeRuneZ_one (by omega) (by omega)]
      simp only [List.map_cons, List.map_nil, Int.toNat_natCast]
      rw [ea _ n rfl (by omega)]
    · by_cases c2 : n < 2048
      · rw [enc_two (by omega) (by omega), Lib.encodeRuneZ_two (by omega) (by omega)]
        simp only [List.map_cons, List.map_nil, Int.toNat_natCast]
        rw [ea (192 + (n : Int) / 64) (192 + n / 64) (by omega) (by omega), ea (128 + (n : Int) % 64) (128 + n % 64) (by omega) (by omega)]
      · by_cases c3 : n < 65536
        · rw [enc_three hv' (by omega) (by omega), Lib.encodeRuneZ_three (by omega)]
          simp only [List.map_cons, List.map_nil, Int.toNat_natCast]
          rw [ea (224 + (n : Int) / 4096) (224 + n / 4096) (by omega) (by omega), ea (128 + (n : Int) / 64 % 64) (128 + n / 64 % 64) (by omega) (by omega), ea (128 + (n : Int) % 64) (128 + n % 64) (by omega) (by omega)]
        · rw [enc_four (by omega) (by omega), Lib.encodeRuneZ_four (by omega) (by omega)]
          simp only [List.map_cons, List.map_nil, Int.toNat_natCast]
          rw [ea (240 + (n : Int) / 262144) (240 + n / 262144) (by omega) (by omega), ea (128 + (n : Int) / 4096 % 64) (128 + n / 4096 % 64) (by omega) (by omega), ea (128 + (n : Int) / 64 % 64) (128 + n / 64 % 64) (by omega) (by omega), ea (128 + (n : Int) % 64) (128 + n % 64) (by omega) (by omega)]
  · have hf : Utf8.valid r = false := by
      cases h : Utf8.valid r with
      | false => rfl
      | true => exact absurd ((valid_iff r).1 h) hv
    rw [enc_wrong hf, Lib.encodeRuneZ_bad (by omega)]
    rfl
theorem bvs_length (bs : List UInt8) : (bvs bs).length = bs.length := by simp [bvs]
/-- utf8.AppendRune onto a row of one's own. -/
theorem arune_calls (B : Nat) (v : Value) (bs : List UInt8) (r : Int) (hr0 : -2147483648 ≤ r) (hr1 : r ≤ 2147483647) (w : World) (hown : w.ownsRow B 5 1 v bs.length (bvs bs)) (hlen : bs.length + 4 ≤ 140737488355328) (hBw : B ≤ w.heap.size) :
    Calls Tryd.prog 48 #[v, .int .i32 r] w fun e w' => ∃ v', e = .returned v' ∧ w'.ownsRow B 5 1 v' (bs ++ enc r).length (bvs (bs ++ enc r)) ∧ ∃ o, (w.alloc o).grownBy w' v.ownBlock := by
  have h := Any.utf8_AppendRune_plain Tryd.lays242 infoByte B v bs.length (bvs bs) r hr0 hr1 w hown hlen hBw
  rw [cells_enc, bvs_length, ← bvs_append] at h
  rw [List.length_append]
  exact h

/-- A scanner in memory: its state, and what it says so far. -/
def ScAt (W : World) (a : Nat) (q : Int) (bs : List UInt8) : Prop :=
  ∃ v, W.heap[a]? = some (.cells #[.int .i64 q, v] 45 (0, 0)) ∧ W.ownsRow (a + 1) 5 1 v bs.length (bvs bs)
abbrev Kept (a : Nat) (w w' : World) : Prop := Lib.OthersKept 5 (some a) w w'
theorem lt_of_blk {w : World} {g : Nat} {o : Obj} (h : w.heap[g]? = some o) : g < w.heap.size := (Array.getElem?_eq_some_iff.1 h).1
theorem ScAt.lt {W : World} {a : Nat} {q : Int} {bs : List UInt8} (h : ScAt W a q bs) : a < W.heap.size := by obtain ⟨v, h, _⟩ := h; exact lt_of_blk h
theorem row_kind {w : World} {B : Nat} {e : TypeId} {v : Value} {n : Nat} {xs : List Value} (h : w.ownsRow B e 1 v n xs) : ∀ g, v.ownBlock = some g → ∃ c fz, w.heap[g]? = some (.cells c e fz) := by
  intro g hg
  rcases h.2 with ⟨rfl, _⟩ | ⟨g', cap, cur, rfl, _, hgg, _⟩
  · simp [Value.ownBlock] at hg
  · simp [Value.ownBlock] at hg
    subst hg
    exact ⟨cur, _, hgg⟩
theorem row_ge {w : World} {B : Nat} {e : TypeId} {v : Value} {n : Nat} {xs : List Value} (h : w.ownsRow B e 1 v n xs) : ∀ g, v.ownBlock = some g → B ≤ g := fun g hg => (h.lt g hg).1
theorem cell_blk {W : World} {d : Nat} {c : Array Value} {t : TypeId} {f : Nat × Nat} (h : W.heap[d]? = some (.cells c t f)) (j : Nat) : W.cell? ⟨d, j, none⟩ = c[j]? := by simp [World.cell?, h]
theorem frozen_blk {W : World} {d : Nat} {c : Array Value} {t : TypeId} (h : W.heap[d]? = some (.cells c t (0, 0))) (j : Nat) : W.frozen? ⟨d, j, none⟩ = false := by simp [World.frozen?, h]
theorem set_blk {W : World} {d : Nat} {c : Array Value} {t : TypeId} (h : W.heap[d]? = some (.cells c t (0, 0))) (j : Nat) (v : Value) : (W.setCell ⟨d, j, none⟩ v).heap[d]? = some (.cells (c.setIfInBounds j v) t (0, 0)) := by
  rw [setCell_eq_setRow W d j c t (0, 0) _ h]
  exact setRow_heap W d c _ t (0, 0) h
theorem grown_set (w : World) (d j : Nat) (v : Value) : w.grownBy (w.setCell ⟨d, j, none⟩ v) (some d) := ⟨rfl, rfl, rfl, by simp [World.setCell], fun k _ hk => Below.heap_setCell _ _ _ k (fun e => hk (by rw [e]))⟩
/-- Storing the state. -/
theorem ScAt.state {W : World} {a : Nat} {q : Int} {bs : List UInt8} (h : ScAt W a q bs) (p : Int) : ScAt (W.setCell ⟨a, 0, none⟩ (.int .i64 p)) a p bs := by
  obtain ⟨v, hb, ho⟩ := h
  refine ⟨v, by rw [set_blk hb]; simp, ho.kept (grown_set W a 0 _) ?_⟩
  cases hv : v.ownBlock with
  | none => exact .inl rfl
  | some g => exact .inr (fun e => by cases e; have := row_ge ho a hv; omega)
/-- Where nothing of it turns. -/
theorem ScAt.below {W W' : World} {a : Nat} {q : Int} {bs : List UInt8} (h : ScAt W a q bs) (hb : Below W.heap.size W W') : ScAt W' a q bs := by
  obtain ⟨v, hg, ho⟩ := h
  exact ⟨v, (hb.block a (lt_of_blk hg)).trans hg, owns_below ho hb⟩

set_option maxRecDepth 100000 in
set_option maxHeartbeats 2000000 in
/-- **say**: runes more. -/
theorem say_calls (a g : Nat) (q : Int) (bs : List UInt8) (zs : List Int) (w : World) (hS : ScAt w a q bs) (hz : ∀ z ∈ zs, -2147483648 ≤ z ∧ z ≤ 2147483647) (hg : w.heap[g]? = some (.cells (zs.map (Value.int .i32)).toArray 21 (0, 0))) (hl : zs.length ≤ 1000) (hb : bs.length ≤ 70368744177664) :
    Calls Tryd.prog 40 #[.pointer (some ⟨a, 0, none⟩), .slice (some ⟨g, 0, none⟩) zs.length zs.length] w fun e W' => e = .returned (.tuple #[]) ∧ ScAt W' a q (bs ++ encs zs) ∧ Below a w W' ∧ Kept a w W' := by
  go_enter Tryd.func40, Tryd.ntmps40
  go_wp2
  go_loopw [8] (fun i wr => ∃ k : Nat, k ≤ zs.length ∧ i = .int .i64 k ∧ ScAt wr a q (bs ++ encs (zs.take k)) ∧ Below a w wr ∧ Kept a w wr) (fun i _ => zs.length - (intOf i).toNat)
  case atStart => exact ⟨0, by omega, rfl, by simpa [encs] using hS, Below.refl _ _, Lib.OthersKept.refl _ _ _⟩
  case round =>
    obtain ⟨k, hk, rfl, hR, hB, hK⟩ := hrel
    by_cases hlt : k < zs.length
    · have hgr : wr.heap[g]? = some (.cells (zs.map (Value.int .i32)).toArray 21 (0, 0)) := hK g _ hg (fun e => by
        obtain ⟨v, hh, _⟩ := hS
        cases e
        have h2 := Option.some.inj (hh.symm.trans hg)
        injection h2 with _ h3
        exact absurd h3 (by decide)) (fun c fz e => by injection e with _ e; exact absurd e (by decide))
      have cg : wr.cell? ⟨g, k, none⟩ = some (.int .i32 zs[k]) := by rw [cell_blk hgr]; simp [hlt]
      obtain ⟨v, hbk, hown⟩ := hR
      have c1 : wr.cell? ⟨a, 1, none⟩ = some v := by rw [cell_blk hbk]; rfl
      have hzk := hz zs[k] (List.getElem_mem hlt)
      have hen : (encs (zs.take k)).length ≤ 4 * k := by have := encs_length (zs.take k); simp at this; omega
      have ha := lt_of_blk hbk
      obtain ⟨bb, hbb⟩ : ∃ bb, bs ++ encs (zs.take k) = bb := ⟨_, rfl⟩
      have hbl : bb.length + 4 ≤ 140737488355328 := by rw [← hbb]; simp; omega
      rw [hbb] at hown
      have HE : Hid (bs ++ encs (zs.take (k + 1)) = bb ++ enc zs[k]) := by
        show bs ++ encs (zs.take (k + 1)) = bb ++ enc zs[k]
        rw [← hbb, encs_take zs k hlt, List.append_assoc]
        simp [zAt, hlt]
      have HA : Hid (∀ W, W.ownsRow (a + 1) 5 1 v bb.length (bvs bb) → a + 1 ≤ W.heap.size → Calls Tryd.prog 48 #[v, .int .i32 zs[k]] W fun e w' => ∃ v', e = .returned v' ∧ w'.ownsRow (a + 1) 5 1 v' (bb ++ enc zs[k]).length (bvs (bb ++ enc zs[k])) ∧ ∃ o, (W.alloc o).grownBy w' v.ownBlock) := fun W h h' => arune_calls (a + 1) v bb zs[k] hzk.1 hzk.2 W h hbl h'
      clear hbb
      have HB : Hid (wr.heap[a]? = some (.cells #[.int .i64 q, v] 45 (0, 0))) := hbk
      clear hbk
      go_wp2_with (
        go_at_call 48
        refine (HA.out _ hown (by omega)).mono ?_
        rintro e w1 ⟨v1, rfl, hown1, o1, hgrow1⟩
        have hb1 : w1.heap[a]? = some (.cells #[.int .i64 q, v] 45 (0, 0)) := by
          rw [hgrow1.block a (by simp; omega) (fun e => by have := row_ge hown a e.symm; omega), Lib.alloc_old wr _ a ha]
          exact HB.out
        have f1 : w1.frozen? ⟨a, 1, none⟩ = false := frozen_blk hb1 1
        have d1 : w1.cell? ⟨a, 1, none⟩ = some v := by rw [cell_blk hb1]; rfl
        have HB1 : Hid (w1.heap[a]? = some (.cells #[.int .i64 q, v] 45 (0, 0))) := hb1
        clear hb1
        obtain ⟨ga, gc, rfl⟩ := owns_slice hown1)
      go_roundw
      case rel =>
        refine ⟨k + 1, by omega, by go_num, ⟨_, set_blk HB1.out 1 _, ?_⟩, ?_, ?_⟩
        · rw [HE.out]
          rw [← List.length_append]
          refine hown1.kept (grown_set w1 a 1 _) ?_
          cases hv : Value.ownBlock _ with
          | none => exact .inl rfl
          | some g => exact .inr (fun e => by cases e; have := row_ge hown1 a hv; omega)
        · exact ((hB.alloc (by omega) _).grown hgrow1 (by simp; omega) (fun j hj => by have := row_ge hown j hj; omega)).setCell (p := ⟨a, 1, none⟩) (Nat.le_refl _) _
        · exact ((hK.alloc o1).grown hgrow1 (row_kind (hown.alloc o1))).setCell ⟨a, 1, none⟩ rfl _
      case measure => simp [intOf]; omega
    · obtain rfl : k = zs.length := by omega
      rw [List.take_length] at hR
      go_wp2
      go_end0
      exact ⟨rfl, hR, hB, hK⟩
end Go.Proofs.YtckhnkkmcgbabaaDoor.K
