/- What is proved here: the contract of chunk.reached. -/
import Derived.Test.YtkpjmcoihbebkaaCLarge
namespace Go.Proofs.Ytkpjmcoihbebkaa.C
open Go.RowKit

/-- The steps that reads can reach. -/
def reach : List (List UInt8 × Bool) → List (List UInt8 × Bool)
  | [] => []
  | x :: t => if x.2 then [x] else x :: reach t
theorem reach_all : ∀ (l : List (List UInt8 × Bool)), (∀ x ∈ l, x.2 = false) → reach l = l
  | [], _ => rfl
  | x :: t, h => by
    have h1 := h x (List.mem_cons_self ..)
    rw [reach, h1, reach_all t (fun y hy => h y (List.mem_cons_of_mem _ hy))]; simp
theorem reach_at : ∀ (l : List (List UInt8 × Bool)) (k : Nat) (hk : k < l.length), (∀ x ∈ l.take k, x.2 = false) → l[k].2 = true → reach l = l.take (k + 1)
  | [], k, hk, _, _ => by simp at hk
  | x :: t, 0, _, _, h => by
    have h : x.2 = true := h
    simp [reach, h]
  | x :: t, k + 1, hk, h, h' => by
    have h1 := h x (by simp)
    have h2 := reach_at t k (by simpa using hk) (fun y hy => h y (by simp [hy])) (by simpa using h')
    rw [reach, h1, h2]; simp

set_option maxRecDepth 100000 in
set_option maxHeartbeats 2000000 in
/-- **reached of any script.** -/
theorem reached_calls (l : List (List UInt8 × Bool)) (r : Value) (w : World) (hS : HasS w r l) (hl : (l.length : Int) ≤ 1000000000000) (hn : ∀ x ∈ l, x.1.length ≤ 100000000000000) :
    Calls Try.prog 16 #[r] w fun e W' => ∃ v, e = .returned v ∧ OwnS w.heap.size 55 W' v (reach l) ∧ Below w.heap.size w W' := by
  obtain ⟨i0, hi, hz0, hz1, hz2⟩ := info_parts infoStep
  obtain ⟨ra, rc, rfl⟩ := hS.slice
  have HS : Hid (HasS w (.slice ra l.length rc) l) := hS
  have HN : Hid (∀ x ∈ l, x.1.length ≤ 100000000000000) := hn
  clear hS hn
  go_enter Try.func16, Try.ntmps16
  go_wp2
  go_loopw [3, 5, 8] (fun v _ i wr => ∃ k : Nat, k ≤ l.length ∧ i = .int .i64 k ∧ Hid (∀ x ∈ l.take k, x.2 = false) ∧ OwnS w.heap.size 55 wr v (l.take k) ∧ Below w.heap.size w wr) (fun _ _ i _ => l.length - (intOf i).toNat)
  case atStart => exact ⟨0, by omega, rfl, fun x hx => by simp at hx, ⟨[], by simp, World.ownsRow_nil _ _ _ _, (fun x hx => by cases hx), List.Pairwise.nil⟩, Below.refl _ w⟩
  case round =>
    obtain ⟨k, hk, rfl, hno, hO, hB⟩ := hrel
    by_cases hlt : k < l.length
    · obtain ⟨b, off, a, c, rfl, d0, hd, d1⟩ := (HS.out.below hB).at k hlt
      have s1 := hB.size
      obtain ⟨xs, x1, x2, x3, x4⟩ := hO
      have htk : (l.take k).length = k := by rw [List.length_take]; omega
      rw [htk] at x2
      have HX : Hid (xs.map Prod.snd = l.take k ∧ (∀ x ∈ xs, wr.ownsRow w.heap.size 5 1 x.1 x.2.1.length (bvs x.2.1)) ∧ xs.Pairwise (fun x y => ∀ k, x.1.ownBlock = some k → y.1.ownBlock ≠ some k)) := ⟨x1, x3, x4⟩
      have HT : Hid (l.take (k + 1) = l.take k ++ [l[k]]) := List.take_succ_eq_append_getElem hlt
      have HR : Hid (l[k].2 = true → reach l = l.take (k + 1)) := fun h => reach_at l k hlt hno.out h
      have HNX : Hid (l[k].2 = false → ∀ x ∈ l.take (k + 1), x.2 = false) := fun h x hx => by
        rw [List.take_succ_eq_append_getElem hlt] at hx
        rcases List.mem_append.1 hx with hx | hx
        · exact hno.out x hx
        · simp at hx; subst hx; exact h
      have hdl := HN.out l[k] (List.getElem_mem _)
      rcases hkind : l[k] with ⟨dk, fk⟩
      rw [hkind] at HT hd d0 d1 hdl HR HNX
      simp only at hd d0 d1 hdl HR HNX
      have HD : Hid (Byt wr (.slice a dk.length c) dk) := hd
      clear hkind hd x1 x3 x4 hno
      have hU3 : Hid (∀ j, u3.ownBlock = some j → w.heap.size ≤ j ∧ j < wr.heap.size) := x2.lt
      obtain ⟨W0, hW0⟩ : ∃ W0, wr.alloc (.cells #[.slice a dk.length c, .bool fk] 55) = W0 := ⟨_, rfl⟩
      have z0 : W0.heap.size = wr.heap.size + 1 := by rw [← hW0]; simp
      have b0 : Below wr.heap.size wr W0 := by rw [← hW0]; exact (Below.refl _ wr).alloc (Nat.le_refl _) _
      have e0 : W0.cell? ⟨wr.heap.size, 0, none⟩ = some (.slice a dk.length c) := by rw [← hW0, cell_new]; rfl
      have e1 : W0.cell? ⟨wr.heap.size, 1, none⟩ = some (.bool fk) := by rw [← hW0, cell_new]; rfl
      have HX2 : Hid (wr.ownsRow w.heap.size 55 2 u3 k (xs.flatMap fun x => [x.1, Value.bool x.2.2])) := x2
      clear x2
      go_wp2_with fail
      try rw [hW0]
      clear hW0
      go_region_law (first
        | (go_simp; go_at_call 29; refine (clone_calls _ dk W0.heap.size _ (by omega) ((HD.out.below b0.drew).1.mono (by show W0.drew.heap.size ≤ _; exact Nat.le_refl _))).mono ?_; rintro e w4 ⟨d, rfl, hown', hb1⟩; obtain ⟨na, nc, rfl⟩ := owns_slice hown'; have hq : w4.cell? ⟨wr.heap.size, 1, none⟩ = some (.bool fk) := (hb1.cell (p := ⟨wr.heap.size, 1, none⟩) (by show wr.heap.size < W0.heap.size; omega)).trans e1; have bw4 : Below wr.heap.size wr w4 := b0.drew.trans (hb1.mono (by show wr.heap.size ≤ W0.heap.size; omega)))
        | (refine step_own rfl _ _ 28 rfl w.heap.size 55 i0 (.agg #[.slice none 0 0, .bool false]) 2 32 Try.underlying28 hi hz0 hz1 hz2 rfl (by decide) u3 k (xs.flatMap fun x => [x.1, Value.bool x.2.2]) (by simp [Act.eval]) ((owns_below HX2.out bw4).alloc _) ⟨w4.heap.size, 0, none⟩ 1 1 [.slice na dk.length nc, .bool fk] (by simp [Act.eval]) rfl (cells_two _ _ _ _ _ rfl) (by simp [Value.oneCell']) (by unfold maxLen; omega) (by omega) (by have := bw4.size; simp; omega) ?_; intro v5 w5 hown5 hgrow5; have hq5 : w5.cell? ⟨wr.heap.size, 1, none⟩ = some (.bool fk) := hgrow5.cell ((cell_under _ _ _ (by show wr.heap.size < w4.heap.size; have := hb1.size; have z : W0.drew.heap.size = W0.heap.size := rfl; omega)).trans hq) (by intro e; have := (hU3.out _ e.symm).2; simp at this)))
      all_goals
        have z4 := bw4.size
        have HO : Hid (OwnS w.heap.size 55 w5 v5 (l.take (k + 1)) ∧ Below w.heap.size w w5) := by
          refine ⟨?_, ((hB.trans (bw4.mono s1)).alloc (by omega) _).grown hgrow5 (by simp; omega) (fun j hj => (hU3.out j hj).1)⟩
          rw [HT.out]
          have zd : W0.drew.heap.size = W0.heap.size := rfl
          exact OwnS.snoc (w := w4.alloc _) (by decide) HX.out.1 (by rw [htk]; exact (owns_below HX2.out bw4).alloc _) (fun x hx => (owns_below (HX.out.2.1 x hx) bw4).alloc _) ((owns_mono hown' (by omega)).alloc _) (by rw [htk]; exact hown5) hgrow5 HX.out.2.2 (fun x hx j e e' => by have := ((HX.out.2.1 x hx).lt j e).2; have := (hown'.lt j e').1; omega)
        cases fk with
        | false =>
          go_wp2
          go_roundw
          case rel => exact ⟨k + 1, by omega, by go_num, HNX.out (by simp), HO.out.1, HO.out.2⟩
          case measure => simp [intOf]; omega
        | true =>
          go_wp2
          go_ret
          exact ⟨_, rfl, by rw [HR.out (by simp)]; exact HO.out.1, HO.out.2⟩
    · obtain rfl : k = l.length := by omega
      have HE : Hid (reach l = l) := reach_all l (by have := hno.out; rwa [List.take_length] at this)
      rw [List.take_length] at hO
      go_wp2
      go_ret
      exact ⟨_, rfl, by rw [HE.out]; exact hO, hB⟩
end Go.Proofs.Ytkpjmcoihbebkaa.C
