/- What is proved here: two links of the document are the same where all their parts are; how the last slash is found from the front. -/
import Derived.Test.YtnnajpdliokodaaDoorBun10
import Derived.Test.YtnnajpdliokodaaDoorBun9
namespace Go.Proofs.YtnnajpdliokodaaDoor.L
open Go.RowKit Go.Shelf Go.Proofs.YtnnajpdliokodaaDoor.N Go.Proofs.YtnnajpdliokodaaDoor.U

/-- One byte more: the last slash is that one, or the one of before. -/
theorem folderN_step (p : List UInt8) (k : Nat) (hk : k < p.length) : folderN (p.take (k + 1)) = if p.getD k 0 == 47 then k + 1 else folderN (p.take k) := by
  have hl : (p.take (k + 1)).length = k + 1 := by simp; omega
  have hl2 : (p.take k).length = k := by simp; omega
  have g1 : ∀ j, j < k + 1 → (p.take (k + 1)).getD j 0 = p.getD j 0 := fun j hj => by simp [hj]
  have g2 : ∀ j, j < k → (p.take k).getD j 0 = p.getD j 0 := fun j hj => by simp [hj]
  obtain ⟨i1, i2, i3⟩ := folderN_cases (p.take k)
  cases hc : (p.getD k 0 == 47) with
  | true =>
    rw [if_pos rfl]
    exact folderN_at _ (k + 1) (by omega) (fun j h1 h2 => by omega) (.inr (by rw [show k + 1 - 1 = k by omega, g1 k (by omega)]; exact hc))
  | false =>
    rw [if_neg (by decide)]
    refine folderN_at _ _ (by omega) (fun j h1 h2 => ?_) ?_
    · rw [g1 j (by omega)]
      by_cases e : j = k
      · rw [e]; exact hc
      · rw [← g2 j (by omega)]; exact i3 j h1 (by omega)
    · rcases i1 with h | h
      · exact .inl h
      · by_cases e : folderN (p.take k) = 0
        · exact .inl e
        · right; rw [g1 _ (by omega), ← g2 _ (by omega)]; exact h
set_option maxRecDepth 100000 in
set_option maxHeartbeats 1000000 in
theorem equalIn_rlinks (l m : Lk) (w : World) : (Op.equalIn 10000 23 l.v m.v).run Tryd.prog w = .ok (sameK l m) w := by
  obtain ⟨sc, ho, pa, qu, fr, h1, h2, h3, h4⟩ := l
  obtain ⟨sc', ho', pa', qu', fr', h1', h2', h3', h4'⟩ := m
  unfold Lk.v sameK
  simp only
  rw [run_equalIn_struct w 9999 23 _ _ (by kernel_rfl) (by kernel_rfl)]
  simp [go_sem]
  by_cases hx : sc = sc'
  case neg => simp [hx]
  subst hx
  simp only [if_true, beq_self_eq_true, Bool.true_and]
  by_cases hx : ho = ho'
  case neg => simp [hx]
  subst hx
  simp only [if_true, beq_self_eq_true, Bool.true_and]
  by_cases hx : pa = pa'
  case neg => simp [hx]
  subst hx
  simp only [if_true, beq_self_eq_true, Bool.true_and]
  by_cases hx : qu = qu'
  case neg => simp [hx]
  subst hx
  simp only [if_true, beq_self_eq_true, Bool.true_and]
  by_cases hx : fr = fr'
  case neg => simp [hx]
  subst hx
  simp only [if_true, beq_self_eq_true, Bool.true_and]
  by_cases hx : h1 = h1'
  case neg => simp [hx]
  subst hx
  simp only [if_true, beq_self_eq_true, Bool.true_and]
  by_cases hx : h2 = h2'
  case neg => simp [hx]
  subst hx
  simp only [if_true, beq_self_eq_true, Bool.true_and]
  by_cases hx : h3 = h3'
  case neg => simp [hx]
  subst hx
  simp only [if_true, beq_self_eq_true, Bool.true_and]
  by_cases hx : h4 = h4'
  case neg => simp [hx]
  subst hx
  simp
/-- '==' of two links. -/
theorem eql_rlinks (l m : Lk) (w : World) : (binOp .eql 23 l.v m.v).run Tryd.prog w = .ok (.bool (sameK l m)) w := by
  have h := equalIn_rlinks l m w
  unfold Lk.v at h ⊢
  rw [run_eql_struct, h]
  rfl
theorem eql_rguard (l m : Lk) (x y : Operand) (w : World) : (eqGuard .eql 23 x y l.v m.v).run Tryd.prog w = .ok () w := by
  unfold Lk.v
  exact run_eqGuard_agg w .eql 23 x y _ _ (by kernel_rfl)
end Go.Proofs.YtnnajpdliokodaaDoor.L
