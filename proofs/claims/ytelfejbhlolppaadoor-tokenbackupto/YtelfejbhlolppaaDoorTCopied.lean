/- What is proved here: the contract of copied of sievelaw07: tokens in new memory. -/
import Derived.Test.YtelfejbhlolppaaDoorTMerge
namespace Go.Proofs.YtelfejbhlolppaaDoor.T
open Go.RowKit N

set_option maxRecDepth 100000 in
set_option maxHeartbeats 4000000 in
theorem copied_calls (L : TL) (v : Value) (w : World) (hH : HasT w v L) (hbk : bulkL L ≤ 1048576) :
    Calls Tryd.prog 15 #[v] w fun e w' => ∃ v', e = .returned v' ∧ OwnT w.heap.size w' v' L ∧ Below w.heap.size w w' := by
  obtain ⟨va, vc, rfl⟩ := hH.slice
  have HS : Hid (HasT w (.slice va L.length vc) L) := hH
  have hLn := bulkL_len L
  have hll : (L.length : Int) ≤ 1048576 := by omega
  obtain ⟨i0, hi, hz0, hz1, hz2⟩ := info_parts infoTok
  have HI : Hid (Tryd.prog.info? 28 = some i0 ∧ i0.zero = some (.agg #[.int .i64 0, .string ⟨#[]⟩, .string ⟨#[]⟩, .slice none 0 0, .bool false, .int .i64 0, .int .i64 0, .int .i64 0]) ∧ i0.size = 8 ∧ i0.bytes = 96) := ⟨hi, hz0, hz1, hz2⟩
  clear hH hi hz0 hz1 hz2
  go_enter Tryd.func15, Tryd.ntmps15
  go_wp2
  go_loopw [3, 5, 8] (fun v3 _ i wr => ∃ k : Nat, k ≤ L.length ∧ i = .int .i64 k ∧ Hid (OwnT w.heap.size wr v3 (L.take k)) ∧ Hid (Below w.heap.size w wr)) (fun _ _ i _ => L.length - (intOf i).toNat)
  case atStart => exact ⟨0, by omega, rfl, by show OwnT _ _ _ _; simpa using OwnT.nil _ _, Below.refl _ _⟩
  case round =>
    obtain ⟨k, hk, rfl, hO, hB⟩ := hrel
    have hzr := hB.out.size
    by_cases hlt : k < L.length
    · obtain ⟨tb, off, rfl, av, d0, d1, d2, d3, d4, d5, d6, d7, hA⟩ := HS.out.at k hlt
      have hbt := bulkL_at L k hlt
      have hM : L.take (k + 1) = L.take k ++ [L[k]] := List.take_succ_eq_append_getElem hlt
      have hlk : (L.take k).length = k := by simp; omega
      rcases hx : L[k] with ⟨t, l⟩
      rw [hx] at d0 d1 d2 d4 d5 d6 d7 hA hbt hM
      simp only at d0 d1 d2 d4 d5 d6 d7 hA
      unfold bulkT at hbt
      simp only at hbt
      clear hx
      obtain ⟨aa, ac, rfl⟩ := hA.slice
      have HM : Hid (L.take (k + 1) = L.take k ++ [(t, l)]) := hM
      have e0 := (hB.out.cell (p := ⟨tb, off + k * 8, none⟩) (C.cell_lt d0)).trans d0
      have e1 := (hB.out.cell (p := ⟨tb, off + k * 8 + 1, none⟩) (C.cell_lt d1)).trans d1
      have e2 := (hB.out.cell (p := ⟨tb, off + k * 8 + 2, none⟩) (C.cell_lt d2)).trans d2
      have e3 := (hB.out.cell (p := ⟨tb, off + k * 8 + 3, none⟩) (C.cell_lt d3)).trans d3
      have e4 := (hB.out.cell (p := ⟨tb, off + k * 8 + 4, none⟩) (C.cell_lt d4)).trans d4
      have e5 := (hB.out.cell (p := ⟨tb, off + k * 8 + 5, none⟩) (C.cell_lt d5)).trans d5
      have e6 := (hB.out.cell (p := ⟨tb, off + k * 8 + 6, none⟩) (C.cell_lt d6)).trans d6
      have e7 := (hB.out.cell (p := ⟨tb, off + k * 8 + 7, none⟩) (C.cell_lt d7)).trans d7
      obtain ⟨xs, x1, x2, x3⟩ := hO.out
      obtain ⟨va3, vc3, rfl⟩ := C.owns_slice x2
      rw [hlk] at x2
      obtain ⟨W1, hW1⟩ : ∃ W1, wr.alloc (.cells #[.int .i64 t.kind, .string t.name, .string t.text, .slice aa l.length ac, .bool t.self, .int .i64 t.p0, .int .i64 t.p1, .int .i64 t.p2] 28) = W1 := ⟨_, rfl⟩
      have hT1 : W1.heap[wr.heap.size]? = some (.cells #[.int .i64 t.kind, .string t.name, .string t.text, .slice aa l.length ac, .bool t.self, .int .i64 t.p0, .int .i64 t.p1, .int .i64 t.p2] 28 (0, 0)) := by rw [← hW1]; exact new_at _ _ _
      have b1 : Below wr.heap.size wr W1 := by rw [← hW1]; exact (Below.refl _ wr).alloc (Nat.le_refl _) _
      have hz1 : W1.heap.size = wr.heap.size + 1 := by rw [← hW1]; simp
      obtain ⟨W2, hW2⟩ : ∃ W2, W1.alloc (.cells #[] 36) = W2 := ⟨_, rfl⟩
      have b2 : Below W1.heap.size W1 W2 := by rw [← hW2]; exact (Below.refl _ W1).alloc (Nat.le_refl _) _
      have hz2 : W2.heap.size = wr.heap.size + 2 := by rw [← hW2]; simp; omega
      have hE : W2.ownsRow w.heap.size 36 2 (.slice (some ⟨wr.heap.size + 1, 0, none⟩) 0 0) 0 [] := by rw [← hW2, ← hz1]; exact C.owns_mono (C.owns_empty W1 36 2) (by omega)
      have hT2 := (b2.block wr.heap.size (by omega)).trans hT1
      have y3 : W2.cell? ⟨wr.heap.size, 3, none⟩ = some (.slice aa l.length ac) := cell_at hT2
      have hB2 : Below w.heap.size w W2 := (hB.out.trans (b1.mono hzr)).trans (b2.mono (by omega))
      have b12 : Below wr.heap.size wr W2 := b1.trans (b2.mono (by omega))
      have HE : Hid (W2.ownsRow w.heap.size 36 2 (.slice (some ⟨wr.heap.size + 1, 0, none⟩) 0 0) 0 []) := hE
      have HA2 : Hid (HasA W2 (.slice aa l.length ac) l) := hA.below hB2
      have HB2 : Hid (Below w.heap.size w W2) := hB2
      have HT2 : Hid (W2.heap[wr.heap.size]? = some (.cells #[.int .i64 t.kind, .string t.name, .string t.text, .slice aa l.length ac, .bool t.self, .int .i64 t.p0, .int .i64 t.p1, .int .i64 t.p2] 28 (0, 0))) := hT2
      have HX1 : Hid (xs.map Prod.snd = L.take k) := x1
      have HX2 : Hid (W2.ownsRow w.heap.size 28 8 (.slice va3 k vc3) k (xs.flatMap fun x => tvs x.2.1 x.1)) := C.owns_below x2 b12
      have HX3 : Hid (∀ x ∈ xs, OwnA w.heap.size W2 x.1 x.2.2 ∧ x.1.ownBlock ≠ some (wr.heap.size + 1)) := fun x hx => ⟨C.owns_below (x3 x hx) b12, fun e => by have := (World.ownsRow.lt (x3 x hx) _ e).2; omega⟩
      have HXN : Hid ((Value.slice va3 k vc3).ownBlock ≠ some (wr.heap.size + 1) ∧ (Value.slice va3 k vc3).ownBlock ≠ some wr.heap.size) := ⟨fun e => by have := (x2.lt _ e).2; omega, fun e => by have := (x2.lt _ e).2; omega⟩
      have HXM : Hid (∀ x ∈ xs, x.1.ownBlock ≠ some wr.heap.size) := fun x hx e => by have := (World.ownsRow.lt (x3 x hx) _ e).2; omega
      clear d0 d1 d2 d3 d4 d5 d6 d7 hA hM x1 x2 x3 hO b1 b2 b12 hE hT1 hT2 hB2
      go_wp2_with (first
        | (at_builtin; refine append_attrs rfl _ _ rfl w.heap.size (.slice (some ⟨wr.heap.size + 1, 0, none⟩) 0 0) rfl HE.out (.slice aa l.length ac) l rfl HA2.out (by omega) (by omega) ?_; intro v3 w3 ho3 hg3; obtain ⟨a3, c3, rfl⟩ := C.owns_slice ho3; have hT3 : w3.heap[wr.heap.size]? = some (.cells #[.int .i64 t.kind, .string t.name, .string t.text, .slice aa l.length ac, .bool t.self, .int .i64 t.p0, .int .i64 t.p1, .int .i64 t.p2] 28 (0, 0)) := (hg3.block _ (by omega) (by simp [Value.ownBlock])).trans HT2.out; have z3 : w3.cell? ⟨wr.heap.size, 3, none⟩ = some (.slice aa l.length ac) := cell_at hT3; have f3 : w3.frozen? ⟨wr.heap.size, 3, none⟩ = false := frozen_at hT3; have hz3 := hg3.size; obtain ⟨W4, hW4⟩ : ∃ W4, w3.setCell ⟨wr.heap.size, 3, none⟩ (.slice a3 l.length c3) = W4 := ⟨_, rfl⟩; have hT4 : W4.heap[wr.heap.size]? = some (.cells #[.int .i64 t.kind, .string t.name, .string t.text, .slice a3 l.length c3, .bool t.self, .int .i64 t.p0, .int .i64 t.p1, .int .i64 t.p2] 28 (0, 0)) := (by rw [← hW4]; simp [World.setCell, Array.getElem?_modify, hT3]); have hz4 : W4.heap.size = w3.heap.size := (by rw [← hW4]; simp [World.setCell]); have HX4r : Hid (W4.ownsRow w.heap.size 28 8 (.slice va3 k vc3) k (xs.flatMap fun x => tvs x.2.1 x.1)) := (by rw [← hW4]; exact World.ownsRow.kept (World.ownsRow.kept HX2.out hg3 (.inr HXN.out.1)) (grown_set _ _ _ _) (.inr HXN.out.2)); have HX4 : Hid (∀ x ∈ xs, OwnA w.heap.size W4 x.1 x.2.2) := (fun x hx => by rw [← hW4]; exact World.ownsRow.kept (World.ownsRow.kept (HX3.out x hx).1 hg3 (.inr (HX3.out x hx).2)) (grown_set _ _ _ _) (.inr (HXM.out x hx))); have HO4 : Hid (OwnA w.heap.size W4 (.slice a3 l.length c3) l) := (by rw [← hW4]; exact OwnA.set ho3 (OwnA.apart ho3 hT3 (by decide)) _ _); have HB4 : Hid (Below w.heap.size w W4) := (by rw [← hW4]; exact (HB2.out.grown hg3 (by omega) (fun j e => by simp [Value.ownBlock] at e; omega)).setCell (p := ⟨wr.heap.size, 3, none⟩) hzr _); have u0 : W4.cell? ⟨wr.heap.size, 0, none⟩ = some (.int .i64 t.kind) := cell_at hT4; have u1 : W4.cell? ⟨wr.heap.size, 1, none⟩ = some (.string t.name) := cell_at hT4; have u2 : W4.cell? ⟨wr.heap.size, 2, none⟩ = some (.string t.text) := cell_at hT4; have u3 : W4.cell? ⟨wr.heap.size, 3, none⟩ = some (.slice a3 l.length c3) := cell_at hT4; have u4 : W4.cell? ⟨wr.heap.size, 4, none⟩ = some (.bool t.self) := cell_at hT4; have u5 : W4.cell? ⟨wr.heap.size, 5, none⟩ = some (.int .i64 t.p0) := cell_at hT4; have u6 : W4.cell? ⟨wr.heap.size, 6, none⟩ = some (.int .i64 t.p1) := cell_at hT4; have u7 : W4.cell? ⟨wr.heap.size, 7, none⟩ = some (.int .i64 t.p2) := cell_at hT4; clear ho3 hg3 hT3 hT4)
        | (at_builtin; refine wpList_append_own _ rfl _ _ 38 rfl w.heap.size 28 i0 (.agg #[.int .i64 0, .string ⟨#[]⟩, .string ⟨#[]⟩, .slice none 0 0, .bool false, .int .i64 0, .int .i64 0, .int .i64 0]) 8 96 Tryd.underlying38 HI.out.1 HI.out.2.1 HI.out.2.2.1 HI.out.2.2.2 rfl (by decide) _ _ _ rfl (HX4r.out.alloc _) ⟨w3.heap.size, 0, none⟩ 1 1 (tvs t (.slice a3 l.length c3)) rfl rfl (cells_eight _ t _ _ _ hz4.symm) (tvs_one _ _ _ _) (by unfold maxLen; omega) (by omega) (by simp; omega) ?_; intro v6 w6 ho6 hg6 _; obtain ⟨a6, c6, rfl⟩ := C.owns_slice ho6; have hz6 := hg6.size))
      have HO6 : Hid (OwnT w.heap.size w6 (.slice a6 (k + 1) c6) (L.take (k + 1))) := by
        rw [HM.out]
        exact OwnT.snoc HX1.out (by rw [hlk]; exact HX4r.out) HX4.out HO4.out (by rw [hlk]; exact ho6) hg6
      have HB6 : Hid (Below w.heap.size w w6) := (HB4.out.alloc (by omega) _).grown hg6 (by simp; omega) (fun k e => (HX4r.out.lt k e).1)
      clear ho6 hg6
      all_goals first
        | exact ⟨⟨k + 1, by omega, by go_num, HO6, HB6⟩, by simp [intOf]; omega⟩
        | (go_roundw
           case rel => exact ⟨k + 1, by omega, by go_num, HO6, HB6⟩
           case measure => simp [intOf]; omega)
    · obtain rfl : k = L.length := by omega
      rw [List.take_length] at hO
      go_wp2
      go_ret
      exact ⟨_, rfl, hO.out, hB.out⟩
end Go.Proofs.YtelfejbhlolppaaDoor.T
