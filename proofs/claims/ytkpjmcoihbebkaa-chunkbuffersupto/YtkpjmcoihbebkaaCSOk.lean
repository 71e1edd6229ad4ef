/- What is proved here: the contract of Read of a chunk.Source that tells bytes. -/
import Derived.Test.YtkpjmcoihbebkaaBun4
namespace Go.Proofs.Ytkpjmcoihbebkaa.C
open Go.RowKit

theorem gset {w w' : World} {g : Nat} (h : w.grownBy w' (some g)) (j : Nat) (u : Value) : w.grownBy (w'.setCell ⟨g, j, none⟩ u) (some g) :=
  ⟨h.1, h.2, h.3, by have := h.size; simpa [World.setCell] using this, fun k hk hne => (Below.heap_setCell _ _ _ k (fun e => hne (by rw [e]))).trans (h.block k hk hne)⟩
theorem gdrew {w w' : World} {r : Option Nat} (h : w.grownBy w' r) : w.grownBy w'.drew r := ⟨h.1, h.2, h.3, h.size, h.block⟩
theorem owns_set {base : Nat} {e : TypeId} {size n : Nat} {w : World} {v : Value} {ys : List Value} (h : w.ownsRow base e size v n ys) (g j : Nat) (u : Value) (hg : g < base) : (w.setCell ⟨g, j, none⟩ u).ownsRow base e size v n ys := by
  have gr : w.grownBy (w.setCell ⟨g, j, none⟩ u) (some g) := ⟨rfl, rfl, rfl, by simp [World.setCell], fun k _ hk => Below.heap_setCell _ _ _ k (fun e => hk (by rw [e]))⟩
  refine h.kept gr ?_
  cases e : v.ownBlock with
  | none => exact .inl rfl
  | some k => exact .inr (fun h' => by have := (h.lt k e).1; simp at h'; omega)
/-- Where a source stands behind K bytes more of the step at hand. -/
def nxt (x : List UInt8 × Bool) (i part K : Nat) : Nat × Nat := if part + K = x.1.length ∧ x.2 = false then (i + 1, 0) else (i, part + K)

set_option maxRecDepth 100000 in
set_option maxHeartbeats 4000000 in
theorem read_ok {base : Nat} (w : World) (g : Nat) (l : List (List UInt8 × Bool)) (i part told : Nat) (n : Nat) (h : Src base w g l i part told) (hn : 1 ≤ n) (hlt : i < l.length) (hf : (l[i].2 && decide (part = l[i].1.length)) = false)
    (hp : part ≤ l[i].1.length) (hd : l[i].1.length ≤ 100000000000000) (ht : told ≤ 100000000000000) (hl : l.length ≤ 1000000000000) (hn' : n ≤ 9223372036854775807) :
    Calls Try.prog 57 #[.pointer (some ⟨g, 0, none⟩), .int .i64 n] w fun e W' => ∃ d K, e = .returned (.tuple #[d, .int .i64 0]) ∧ K = min n (l[i].1.length - part) ∧ W'.ownsRow w.heap.size 5 1 d K (bvs ((l[i].1.drop part).take K)) ∧ Src base W' g l (nxt l[i] i part K).1 (nxt l[i] i part K).2 (told + K) ∧ w.grownBy W' (some g) := by
  have HSr : Hid (Src base w g l i part told) := h
  have HF : Hid ((l[i].2 && decide (part = l[i].1.length)) = false) := hf
  clear hf
  obtain ⟨v, hB, hO⟩ := h
  have hS := hasS_owns hO.own
  obtain ⟨va, vc, rfl⟩ := hS.slice
  have h1 : w.cell? ⟨g, 1, none⟩ = some (.slice va l.length vc) := hB.cell 1
  have h2 : w.cell? ⟨g, 2, none⟩ = some (.int .i64 i) := hB.cell 2
  have h3 : w.cell? ⟨g, 3, none⟩ = some (.int .i64 part) := hB.cell 3
  have h4 : w.cell? ⟨g, 4, none⟩ = some (.int .i64 told) := hB.cell 4
  have hgl := hB.lt
  have hne : ¬ (i : Int) = l.length := by omega
  have hne' : ((i : Int) == (l.length : Int)) = false := by simp; omega
  have hn1 : ¬ (n : Int) < 1 := by omega
  have HB : Hid (Blk w g #[.bool true, .slice va l.length vc, .int .i64 i, .int .i64 part, .int .i64 told] 52) := hB
  have HO : Hid (OwnU base g 55 w (.slice va l.length vc) l) := hO
  clear hB hO
  obtain ⟨b, off, a, c, rfl, d0, hby, d1⟩ := hS.at i hlt
  have HBy : Hid (Byt w (.slice a l[i].1.length c) l[i].1) := hby
  clear hS hby
  rcases hkind : l[i] with ⟨dk, fk⟩
  rw [hkind] at d0 d1 hd hp HBy
  simp only at d0 d1 hd hp HBy
  have hi0 : (0 : Int) ≤ (i : Int) := by omega
  have hil : (i : Int) < l.length := by omega
  go_enter Try.func57, Try.ntmps57
  go_wp2_with (go_at_call 17; refine (isMade_calls _ _ _ _ _ _ HSr.out).mono ?_; rintro e w1 ⟨rfl, hw1⟩; obtain rfl := hw1.symm)
  go_region_held3 (fun w' => w'.cell? ⟨g, 1, none⟩ = some (.slice (some ⟨b, off, none⟩) l.length vc) ∧ w'.cell? ⟨g, 2, none⟩ = some (.int .i64 i)) (go_keep) (fail)
  all_goals go_wp2_with (go_at_call 58; refine (failed_calls _ _ l i part told (HSr.out.below (Below.refl _ _).drew) hlt).mono ?_; rintro e w2 ⟨rfl, hb1⟩; rw [HF.out])
  have bb : Below w.heap.size w w2 := (Below.refl _ w).drew.trans hb1
  have HB2 : Hid (Blk w2 g #[.bool true, .slice (some ⟨b, off, none⟩) l.length vc, .int .i64 i, .int .i64 part, .int .i64 told] 52) := HB.out.below bb
  have HO2 : Hid (OwnU base g 55 w2 (.slice (some ⟨b, off, none⟩) l.length vc) l) := HO.out.below bb
  have HBy2 : Hid (Byt w2 (.slice a dk.length c) dk) := HBy.out.below bb
  have s2 := bb.size
  have d0' : w2.cell? ⟨b, off + i * 2, none⟩ = some (.slice a dk.length c) := (bb.cell (p := ⟨b, off + i * 2, none⟩) (cell_lt d0)).trans d0
  have d1' : w2.cell? ⟨b, off + i * 2 + 1, none⟩ = some (.bool fk) := (bb.cell (p := ⟨b, off + i * 2 + 1, none⟩) (cell_lt d1)).trans d1
  clear d0 d1 h1 h2 h3 h4
  have h1 : w2.cell? ⟨g, 1, none⟩ = some (.slice (some ⟨b, off, none⟩) l.length vc) := HB2.out.cell 1
  have h2 : w2.cell? ⟨g, 2, none⟩ = some (.int .i64 i) := HB2.out.cell 2
  have h3 : w2.cell? ⟨g, 3, none⟩ = some (.int .i64 part) := HB2.out.cell 3
  have h4 : w2.cell? ⟨g, 4, none⟩ = some (.int .i64 told) := HB2.out.cell 4
  have n1 := World.new_ne w2 _ h1
  have n2 := World.new_ne w2 _ h2
  have n4 := World.new_ne w2 _ d0'
  have n5 := World.new_ne w2 _ d1'
  go_region_held3 (fun w' => w'.cell? ⟨g, 1, none⟩ = some (.slice (some ⟨b, off, none⟩) l.length vc) ∧ w'.cell? ⟨g, 2, none⟩ = some (.int .i64 i) ∧ w'.cell? ⟨b, off + i * 2, none⟩ = some (.slice a dk.length c) ∧ w'.cell? ⟨b, off + i * 2 + 1, none⟩ = some (.bool fk)) (go_keep) (fail)
  go_wp2
  obtain ⟨W3, hW3⟩ : ∃ W3, (w2.alloc (.cells #[.slice a dk.length c, .bool fk] 55)).drew = W3 := ⟨_, rfl⟩
  have b3 : Below w2.heap.size w2 W3 := by rw [← hW3]; exact ((Below.refl _ w2).alloc (Nat.le_refl _) _).drew
  have z3 : W3.heap.size = w2.heap.size + 1 := by rw [← hW3]; show (w2.alloc _).heap.size = _; simp
  have e0 : W3.cell? ⟨w2.heap.size, 0, none⟩ = some (.slice a dk.length c) := by rw [← hW3]; exact (cell_new w2 _ _ _ _).trans rfl
  have e1 : W3.cell? ⟨w2.heap.size, 1, none⟩ = some (.bool fk) := by rw [← hW3]; exact (cell_new w2 _ _ _ _).trans rfl
  have HB3 : Hid (Blk W3 g #[.bool true, .slice (some ⟨b, off, none⟩) l.length vc, .int .i64 i, .int .i64 part, .int .i64 told] 52) := HB2.out.below b3
  have HO3 : Hid (OwnU base g 55 W3 (.slice (some ⟨b, off, none⟩) l.length vc) l) := HO2.out.below b3
  have HBy3 : Hid (Byt W3 (.slice a dk.length c) dk) := HBy2.out.below b3
  have f3 : W3.cell? ⟨g, 3, none⟩ = some (.int .i64 part) := HB3.out.cell 3
  rw [hW3]
  clear hW3 h1 h2 h3 h4 n1 n2 n4 n5 d0' d1' HB2 HO2 HBy2 HB HO HBy
  have hp0 : (0 : Int) ≤ (part : Int) := by omega
  have hpl : (part : Int) ≤ (dk.length : Int) := by omega
  have hcap : dk.length ≤ c := by
    rcases HBy3.out.1 with ⟨rfl, _⟩ | ⟨_, b', off', cap', e, hc, _⟩
    · simp
    · simp at e; omega
  have hcap' : (dk.length : Int) ≤ (c : Int) := by omega
  have hpc : (part : Int) ≤ (c : Int) := by omega
  go_region_held3 (fun w' => w'.cell? ⟨w2.heap.size, 0, none⟩ = some (.slice a dk.length c) ∧ w'.cell? ⟨g, 3, none⟩ = some (.int .i64 part)) (go_keep) (fail)
  obtain ⟨K, HK⟩ : ∃ K, Hid (K = min n (dk.length - part)) := ⟨_, rfl⟩
  obtain ⟨ab, ao, HA, HX⟩ : ∃ ab ao, Hid (0 < dk.length → a = some ⟨ab, ao, none⟩) ∧ Hid (∀ j, j < dk.length → W3.cell? ⟨ab, ao + j, none⟩ = some (.int .u8 (byteAt dk j))) := by
    rcases HBy3.out.1 with ⟨rfl, _⟩ | ⟨_, b', off', cap', e, hc, _, hx⟩
    · exact ⟨0, 0, fun h => by simp at h, fun j hj => by simp at hj⟩
    · simp at e
      exact ⟨b', off', fun _ => e.1, hx⟩
  have hKb : (K : Int) ≤ 100000000000000 := by have := HK.out; omega
  have hpb : (part : Int) ≤ 100000000000000 := by omega
  have htb : (told : Int) ≤ 100000000000000 := by omega
  have HL : Hid (((dk.drop part).take (part + K - part)).length = K) := by have hK := HK.out; show ((dk.drop part).take (part + K - part)).length = K; simp; omega
  all_goals go_wp2_with (go_at_call 29; refine (clone_calls _ ((dk.drop part).take (part + K - part)) W3.heap.size _ (by have := HL.out; have hK := HK.out; omega) (by have := HL.out; have hK := HK.out; first | exact part_zero (by omega) (by omega) | exact part_pos HA.out (fun h => cell_lt (HX.out 0 h)) (by omega) HX.out _ _ _ (by omega) (by omega) (by omega))).mono ?_; rintro e w4 ⟨d, rfl, ho, hb4⟩; rw [HL.out] at ho; obtain ⟨da, dc, rfl⟩ := owns_slice ho; have HB4 : Hid (Blk w4 g #[.bool true, .slice (some ⟨b, off, none⟩) l.length vc, .int .i64 i, .int .i64 part, .int .i64 told] 52) := HB3.out.drew.below hb4; have f42 : w4.cell? ⟨g, 2, none⟩ = some (.int .i64 i) := HB4.out.cell 2; have f43 : w4.cell? ⟨g, 3, none⟩ = some (.int .i64 part) := HB4.out.cell 3; have f44 : w4.cell? ⟨g, 4, none⟩ = some (.int .i64 told) := HB4.out.cell 4; have z42 : w4.frozen? ⟨g, 2, none⟩ = false := HB4.out.frozen 2; have z43 : w4.frozen? ⟨g, 3, none⟩ = false := HB4.out.frozen 3; have z44 : w4.frozen? ⟨g, 4, none⟩ = false := HB4.out.frozen 4; have p0 : w4.cell? ⟨w2.heap.size, 0, none⟩ = some (.slice a dk.length c) := (hb4.cell (p := ⟨w2.heap.size, 0, none⟩) (by show w2.heap.size < W3.heap.size; omega)).trans e0; have p1 : w4.cell? ⟨w2.heap.size, 1, none⟩ = some (.bool fk) := (hb4.cell (p := ⟨w2.heap.size, 1, none⟩) (by show w2.heap.size < W3.heap.size; omega)).trans e1)
  all_goals
    obtain ⟨W5, hW5⟩ : ∃ W5, (w4.setCell ⟨g, 4, none⟩ (.int .i64 ((told : Int) + K))).setCell ⟨g, 3, none⟩ (.int .i64 ((part : Int) + K)) = W5 := ⟨_, rfl⟩
    have HB5 : Hid (Blk W5 g #[.bool true, .slice (some ⟨b, off, none⟩) l.length vc, .int .i64 i, .int .i64 ((part : Int) + K), .int .i64 ((told : Int) + K)] 52) := by rw [← hW5]; exact (HB4.out.set 4 _).set 3 _
    have y0 : W5.cell? ⟨w2.heap.size, 0, none⟩ = some (.slice a dk.length c) := by rw [← hW5]; exact ((World.cell?_setCell_far _ _ _ _ (by show g ≠ w2.heap.size; omega)).trans (World.cell?_setCell_far _ _ _ _ (by show g ≠ w2.heap.size; omega))).trans p0
    have y1 : W5.cell? ⟨w2.heap.size, 1, none⟩ = some (.bool fk) := by rw [← hW5]; exact ((World.cell?_setCell_far _ _ _ _ (by show g ≠ w2.heap.size; omega)).trans (World.cell?_setCell_far _ _ _ _ (by show g ≠ w2.heap.size; omega))).trans p1
    have y3 : W5.cell? ⟨g, 3, none⟩ = some (.int .i64 ((part : Int) + K)) := HB5.out.cell 3
    have y2 : W5.cell? ⟨g, 2, none⟩ = some (.int .i64 i) := HB5.out.cell 2
    have x2 : W5.frozen? ⟨g, 2, none⟩ = false := HB5.out.frozen 2
    have x3 : W5.frozen? ⟨g, 3, none⟩ = false := HB5.out.frozen 3
    have HW : Hid (W5.ownsRow w.heap.size 5 1 (.slice da K dc) K (bvs ((dk.drop part).take K)) ∧ OwnU base g 55 W5 (.slice (some ⟨b, off, none⟩) l.length vc) l ∧ w.grownBy W5 (some g)) := by
      have hz : W3.drew.heap.size = W3.heap.size := rfl
      rw [Nat.add_sub_cancel_left] at ho
      have bw : Below w.heap.size w w4 := (bb.trans (b3.mono s2)).drew.trans (hb4.mono (by omega))
      rw [← hW5]
      exact ⟨owns_mono (owns_set (owns_set ho g 4 _ (by omega)) g 3 _ (by omega)) (by omega), (((HO3.out.below (Below.refl _ _).drew).below hb4).set g 4 _ (Nat.le_refl _)).set g 3 _ (Nat.le_refl _), gset (gset ⟨bw.os, bw.tape, bw.output, bw.size, fun k hk _ => bw.block k hk⟩ 4 _) 3 _⟩
    rw [hW5]
    by_cases hend : part + K = dk.length
    · have hend' : (part : Int) + K = dk.length := by omega
      have hendb : ((part : Int) + K == (dk.length : Int)) = true := by simp [hend']
      cases fk
      all_goals first
        | (go_region_held3 (fun w' => w'.cell? ⟨g, 3, none⟩ = some (.int .i64 ((part : Int) + K)) ∧ w'.cell? ⟨w2.heap.size, 0, none⟩ = some (.slice a dk.length c) ∧ w'.cell? ⟨w2.heap.size, 1, none⟩ = some (.bool _)) (go_keep) (fail))
        | go_region
      all_goals go_wp2
      all_goals go_ret2
      all_goals first
        | exact ⟨_, K, rfl, HK.out, HW.out.1, by simp only [nxt, hend, reduceCtorEq, and_false, if_false]; rw [← hend]; exact ⟨_, HB5.out, HW.out.2.1⟩, gdrew HW.out.2.2⟩
        | exact ⟨_, K, rfl, HK.out, owns_set (owns_set (w := W5.drew) HW.out.1 g 2 _ hgl) g 3 _ hgl, by simp only [nxt, hend, and_self, if_true]; exact ⟨_, (HB5.out.drew.set 2 _).set 3 _, ((HW.out.2.1.below (Below.refl _ _).drew).set g 2 _ (Nat.le_refl _)).set g 3 _ (Nat.le_refl _)⟩, gset (gset (gdrew HW.out.2.2) 2 _) 3 _⟩
    · have hend' : ¬ (part : Int) + K = dk.length := by omega
      have hendb : ((part : Int) + K == (dk.length : Int)) = false := by simp; omega
      cases fk
      all_goals go_region
      all_goals go_wp2
      all_goals go_ret2
      all_goals exact ⟨_, K, rfl, HK.out, HW.out.1, by simp only [nxt, hend, false_and, if_false]; exact ⟨_, HB5.out, HW.out.2.1⟩, gdrew HW.out.2.2⟩
end Go.Proofs.Ytkpjmcoihbebkaa.C
