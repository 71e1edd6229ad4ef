/- What is proved here: the contract of same of sievelaw02: whether two scripts in memory are the same. -/
import Derived.Test.YtanfnalapablfaaCSteps
namespace Go.Proofs.Ytanfnalapablfaa.C
open Go.RowKit

theorem list_ext_pairs {l l' : List (List UInt8 × Bool)} (hl : l.length = l'.length) (h : ∀ j (h : j < l.length), l[j] = l'[j]'(by omega)) : l = l' := List.ext_getElem hl (fun i h1 _ => h i h1)

set_option maxRecDepth 100000 in
set_option maxHeartbeats 1000000 in
theorem lsame_ne (a a' : Option Addr) (n n' cap cap' : Nat) (w : World) (h : n ≠ n') :
    Calls Try.prog 11 #[.slice a n cap, .slice a' n' cap'] w fun e w' => e = .returned (.bool false) ∧ Below w.heap.size w w' := by
  have hne : ((n : Int) != (n' : Int)) = true := by rw [bne_iff_ne]; omega
  go_enter Try.func11, Try.ntmps11
  go_wp2
  go_ret
  exact ⟨rfl, Below.refl _ _⟩

set_option maxRecDepth 100000 in
set_option maxHeartbeats 2000000 in
theorem lsame_eq (l l' : List (List UInt8 × Bool)) (n : Nat) (a a' : Option Addr) (cap cap' : Nat) (w : World) (hll : l.length = n) (hl' : l'.length = n) (hn : (n : Int) ≤ 1000000000000) (h : HasS w (.slice a n cap) l) (h' : HasS w (.slice a' n cap') l') :
    Calls Try.prog 11 #[.slice a n cap, .slice a' n cap'] w fun e w' => e = .returned (.bool (decide (l = l'))) ∧ Below w.heap.size w w' := by
  have HS : Hid (HasS w (.slice a n cap) l) := h
  have HS' : Hid (HasS w (.slice a' n cap') l') := h'
  have HL : Hid (l.length = n ∧ l'.length = n) := ⟨hll, hl'⟩
  clear h h' hll hl'
  go_enter Try.func11, Try.ntmps11
  go_wp2
  go_loopw [5, 6, 14] (fun _ _ i wr => ∃ k : Nat, k ≤ n ∧ i = .int .i64 k ∧ Below w.heap.size w wr ∧ Hid (∀ j (h : j < l.length) (h' : j < l'.length), j < k → l[j] = l'[j])) (fun _ _ i _ => n - (intOf i).toNat)
  case atStart => exact ⟨0, by omega, rfl, Below.refl _ _, fun j _ _ hj => by omega⟩
  case round =>
    obtain ⟨k, hk, rfl, hB, hs⟩ := hrel
    have s1 := hB.size
    by_cases hlt : k < n
    · have k1 : k < l.length := by have := HL.out.1; omega
      have k2 : k < l'.length := by have := HL.out.2; omega
      obtain ⟨b, off, v, c, rfl, d0, hd, d1⟩ := (HS.out.below hB).at k k1
      obtain ⟨b', off', v', c', rfl, e0, he, e1⟩ := (HS'.out.below hB).at k k2
      have HD : Hid (Byt wr (.slice v l[k].1.length c) l[k].1) := hd
      have HE : Hid (Byt wr (.slice v' l'[k].1.length c') l'[k].1) := he
      clear hd he
      rcases hx : l[k] with ⟨x, f⟩
      rcases hy : l'[k] with ⟨y, g⟩
      have HXY : Hid (l[k] = (x, f) ∧ l'[k] = (y, g)) := ⟨hx, hy⟩
      rw [hx] at d0 d1 HD
      rw [hy] at e0 e1 HE
      simp only at d0 d1 e0 e1 HD HE
      clear hx hy
      obtain ⟨W0, hW0⟩ : ∃ W0, wr.alloc (.cells #[.slice v x.length c, .bool f] 58) = W0 := ⟨_, rfl⟩
      have b0 : Below wr.heap.size wr W0 := by rw [← hW0]; exact (Below.refl _ wr).alloc (Nat.le_refl _) _
      have t0 : W0.cell? ⟨wr.heap.size, 0, none⟩ = some (.slice v x.length c) := by rw [← hW0, cell_new]; rfl
      have t1 : W0.cell? ⟨wr.heap.size, 1, none⟩ = some (.bool f) := by rw [← hW0, cell_new]; rfl
      have u0 := (b0.cell (p := ⟨b', off' + k * 2, none⟩) (cell_lt e0)).trans e0
      have u1 := (b0.cell (p := ⟨b', off' + k * 2 + 1, none⟩) (cell_lt e1)).trans e1
      have q1 : ∀ n, (convert 37 9 (.slice v x.length c)).run Try.prog (W0.drewN n) = .ok (.string ⟨x.toArray⟩) (W0.drewN n) := fun n => conv_bytes (HD.out.below (below_drewN b0 n)).1
      have q2 : ∀ n, (convert 37 9 (.slice v' y.length c')).run Try.prog (W0.drewN n) = .ok (.string ⟨y.toArray⟩) (W0.drewN n) := fun n => conv_bytes (HE.out.below (below_drewN b0 n)).1
      by_cases hxy : x = y
      · subst hxy
        by_cases hfg : f = g
        · subst hfg
          have hn2 : Hid (∀ j (h : j < l.length) (h' : j < l'.length), j < k + 1 → l[j] = l'[j]) := fun j h h' hj => by
            by_cases e : j = k
            · subst e; rw [HXY.out.1, HXY.out.2]
            · exact hs.out j h h' (by omega)
          go_wp2
          go_quiet (fail)
          go_wp2
          all_goals first
            | exact ⟨⟨k + 1, by omega, by go_num, below_drewN (hB.trans (b0.mono s1)) _, hn2⟩, by simp [intOf]; omega⟩
            | (go_roundw
               case rel => exact ⟨k + 1, by omega, by go_num, below_drewN (hB.trans (b0.mono s1)) _, hn2⟩
               case measure => simp [intOf]; omega)
        · have HNE : Hid (decide (l = l') = false) := by
            show decide (l = l') = false
            rw [decide_eq_false_iff_not]
            intro e
            have := HXY.out.1; have h2 := HXY.out.2
            subst e
            rw [this] at h2; simp at h2; exact hfg h2
          have hc : (f = true ∧ g = false) ∨ (f = false ∧ g = true) := by cases f <;> cases g <;> simp_all
          have HCC : Hid ((f = true ∧ g = false) ∨ (f = false ∧ g = true)) := hc
          clear HXY hc hfg
          go_wp2
          go_quiet (fail)
          rcases HCC.out with ⟨rfl, rfl⟩ | ⟨rfl, rfl⟩
          all_goals
            go_wp2
            go_ret
            exact ⟨by rw [HNE.out]; rfl, below_drewN (hB.trans (b0.mono s1)) _⟩
      · have hb : (x == y) = false := by rw [beq_eq_false_iff_ne]; exact hxy
        have HNE : Hid (decide (l = l') = false) := by
          show decide (l = l') = false
          rw [decide_eq_false_iff_not]
          intro e
          have := HXY.out.1; have h2 := HXY.out.2
          subst e
          rw [this] at h2; simp at h2; exact hxy h2.1
        go_wp2
        go_quiet (fail)
        go_wp2
        go_ret
        exact ⟨by rw [HNE.out]; rfl, below_drewN (hB.trans (b0.mono s1)) _⟩
    · obtain rfl : k = n := by omega
      have HEQ : Hid (decide (l = l') = true) := by
        show decide (l = l') = true
        rw [decide_eq_true_eq]
        obtain ⟨g1, g2⟩ := HL.out
        exact list_ext_pairs (by omega) (fun j hj => hs.out j hj (by omega) (by omega))
      go_wp2
      go_ret
      exact ⟨by rw [HEQ.out]; rfl, hB⟩

/-- **same of any two scripts.** -/
theorem lsame_calls (l l' : List (List UInt8 × Bool)) (r r' : Value) (w : World) (hn : l.length ≤ 1000000000000) (h : HasS w r l) (h' : HasS w r' l') :
    Calls Try.prog 11 #[r, r'] w fun e w' => e = .returned (.bool (decide (l = l'))) ∧ Below w.heap.size w w' := by
  obtain ⟨a, c, rfl⟩ := h.slice
  obtain ⟨a', c', rfl⟩ := h'.slice
  by_cases e : l.length = l'.length
  · rw [← e] at h' ⊢
    exact lsame_eq l l' l.length a a' c c' w rfl e.symm (by omega) h h'
  · rw [show decide (l = l') = false by rw [decide_eq_false_iff_not]; intro h; exact e (by rw [h])]
    exact lsame_ne a a' _ _ c c' w e
end Go.Proofs.Ytanfnalapablfaa.C
