/- What is proved here: plain facts on bytes: their pieces by number (each begins where the one ahead ends), the piece that ends at a place, the greatest place that parts no rune, and the runes on both sides of it. -/
import Derived.Test.YtlihfamkngahaaaDoorMathU
namespace Go.Proofs.YtlihfamkngahaaaDoor.U

theorem scan_mono (X Y : List UInt8) : ∀ f k, k ≤ X.length → scan X f k ≤ scan (X ++ Y) f k
  | 0, k, _ => Nat.le_refl _
  | f + 1, k, hk => by
    by_cases h : k < X.length ∧ okAt X k = true
    · have e1 : scan X (f + 1) k = scan X f (k + 1) := by conv => lhs; unfold scan
                                                          rw [if_pos h]
      have e2 : scan (X ++ Y) (f + 1) k = scan (X ++ Y) f (k + 1) := by conv => lhs; unfold scan
                                                                        rw [if_pos ⟨by simp; omega, by rw [okAt_left X Y k h.1]; exact h.2⟩]
      rw [e1, e2]
      exact scan_mono X Y f (k + 1) (by omega)
    · have e1 : scan X (f + 1) k = k := by conv => lhs; unfold scan
                                           rw [if_neg h]
      rw [e1]
      exact scan_ge _ _ _
theorem nextN_mono (X Y : List UInt8) (h0 : 0 < X.length) : nextN X ≤ nextN (X ++ Y) := by
  have hb := byteAt_left X Y 0 h0
  by_cases hz : lead (byteAt X 0) = 0
  · rw [nextN_zero X hz]; exact nextN_pos _
  · rw [nextN_scan X hz, nextN_scan _ (by rw [hb]; exact hz), hb]
    exact scan_mono X Y _ 1 h0
/-- A piece is read so too, where the bytes end behind it. -/
theorem nextN_take (X : List UInt8) (m : Nat) (h0 : 0 < X.length) (hm : nextN X ≤ m) : nextN (X.take m) = nextN X := by
  have hp := nextN_pos X
  have hl := nextN_len X h0
  have hz : 0 < (X.take m).length := by simp; omega
  have hle := nextN_len (X.take m) hz
  have hmo := nextN_mono (X.take m) (X.drop m) hz
  rw [List.take_append_drop] at hmo
  by_cases h : nextN (X.take m) < (X.take m).length
  · have hno : nextOpen (X.take m) = false := by
      unfold nextOpen
      rw [show decide (nextN (X.take m) = (X.take m).length) = false by simp only [decide_eq_false_iff_not]; omega, Bool.and_false]
    have := nextN_agree (X.take m) (X.drop m) hz (.inl hno)
    rw [List.take_append_drop] at this
    exact this.symm
  · simp only [List.length_take] at h hle
    omega
theorem nextR_take (X : List UInt8) (m : Nat) (h0 : 0 < X.length) (hm : nextN X ≤ m) : nextR (X.take m) = nextR X := by
  have hn := nextN_take X m h0 hm
  have hp := nextN_pos X
  have hz : 0 < (X.take m).length := by simp; omega
  have hb : byteAt (X.take m) 0 = byteAt X 0 := byteAt_take0 X m (by omega)
  have ha : nextAll (X.take m) = nextAll X := by unfold nextAll; rw [hn, hb]
  cases hall : nextAll X with
  | true =>
    have hl : nextN X = lead (byteAt X 0) := by simpa [nextAll] using hall
    have hno : nextOpen (X.take m) = false := by
      unfold nextOpen
      rw [hn, hb, show decide (nextN X < lead (byteAt X 0)) = false by simp only [decide_eq_false_iff_not]; omega, Bool.false_and]
    have := nextR_agree (X.take m) (X.drop m) hz (.inl hno)
    rw [List.take_append_drop] at this
    exact this.symm
  | false =>
    unfold nextR
    rw [ha, hall]
    rfl

/-- The pieces from a place on, by number. -/
theorem pcs_idx (bs : List UInt8) : ∀ f k0, k0 ≤ bs.length → bs.length ≤ k0 + f →
    (((pcsF bs.length k0 (bs.drop k0))[0]?).map Pc.pos).getD bs.length = k0 ∧
    ∀ i p, (pcsF bs.length k0 (bs.drop k0))[i]? = some p → p.pos < bs.length ∧ p.sz = nextN (bs.drop p.pos) ∧ p.r = nextR (bs.drop p.pos) ∧ (((pcsF bs.length k0 (bs.drop k0))[i + 1]?).map Pc.pos).getD bs.length = p.pos + p.sz
  | 0, k0, h, h' => by
    rw [pcs_end bs k0 (by omega)]
    exact ⟨by simp; omega, fun i p hi => by simp at hi⟩
  | f + 1, k0, h, h' => by
    by_cases hlt : k0 < bs.length
    · have hp := nextN_pos (bs.drop k0)
      have hl := nextN_len (bs.drop k0) (by simp; omega)
      simp only [List.length_drop] at hl
      obtain ⟨i1, i2⟩ := pcs_idx bs f (k0 + nextN (bs.drop k0)) (by omega) (by omega)
      rw [pcs_step bs k0 hlt]
      refine ⟨by simp, fun i p hi => ?_⟩
      cases i with
      | zero =>
        simp only [List.getElem?_cons_zero, Option.some.injEq] at hi
        subst hi
        exact ⟨hlt, rfl, rfl, by rw [List.getElem?_cons_succ]; exact i1⟩
      | succ i =>
        rw [List.getElem?_cons_succ] at hi ⊢
        exact i2 i p hi
    · rw [pcs_end bs k0 (by omega)]
      exact ⟨by simp; omega, fun i p hi => by simp at hi⟩

/-- Where the i-th piece begins; behind the last one, where the bytes end. -/
def pla (bs : List UInt8) (i : Nat) : Nat := (((pcs bs)[i]?).map Pc.pos).getD bs.length
theorem pla_zero (bs : List UInt8) : pla bs 0 = 0 := by
  have := (pcs_idx bs bs.length 0 (by omega) (by omega)).1
  rw [List.drop_zero] at this
  exact this
theorem pla_at (bs : List UInt8) (i : Nat) (h : i < (pcs bs).length) : pla bs i = (pcs bs)[i].pos := by simp [pla, h]
theorem pla_end (bs : List UInt8) (i : Nat) (h : (pcs bs).length ≤ i) : pla bs i = bs.length := by simp [pla, h]
theorem pla_facts (bs : List UInt8) (i : Nat) (h : i < (pcs bs).length) :
    pla bs i < bs.length ∧ pla bs (i + 1) = pla bs i + nextN (bs.drop (pla bs i)) ∧ (pcs bs)[i].r = nextR (bs.drop (pla bs i)) := by
  have := (pcs_idx bs bs.length 0 (by omega) (by omega)).2 i (pcs bs)[i] (by rw [List.drop_zero]; exact List.getElem?_eq_getElem h)
  rw [List.drop_zero] at this
  obtain ⟨h1, h2, h3, h4⟩ := this
  rw [pla_at bs i h]
  exact ⟨h1, by rw [← h2]; exact h4, h3⟩
theorem pla_le (bs : List UInt8) (i : Nat) : pla bs i ≤ bs.length := by
  by_cases h : i < (pcs bs).length
  · have := (pla_facts bs i h).1; omega
  · rw [pla_end bs i (by omega)]; omega
theorem pla_mono (bs : List UInt8) (i : Nat) : ∀ d, pla bs i ≤ pla bs (i + d)
  | 0 => Nat.le_refl _
  | d + 1 => by
    have ih := pla_mono bs i d
    by_cases h : i + d < (pcs bs).length
    · have := (pla_facts bs _ h).2.1
      rw [show i + (d + 1) = i + d + 1 by omega]; omega
    · rw [pla_end bs (i + (d + 1)) (by omega)]; exact pla_le bs i
theorem pla_lt (bs : List UInt8) (i j : Nat) (hi : i < (pcs bs).length) (h : i < j) : pla bs i + nextN (bs.drop (pla bs i)) ≤ pla bs j := by
  rw [← (pla_facts bs i hi).2.1, show j = i + 1 + (j - (i + 1)) by omega]
  exact pla_mono bs (i + 1) _
/-- Every place lies in a piece. -/
theorem pla_cover (bs : List UInt8) (x : Nat) : ∀ n, n ≤ (pcs bs).length → x < pla bs n → ∃ i, i < n ∧ pla bs i ≤ x ∧ x < pla bs (i + 1)
  | 0, _, h => by rw [pla_zero] at h; omega
  | n + 1, hn, h => by
    by_cases hx : x < pla bs n
    · obtain ⟨i, h1, h2⟩ := pla_cover bs x n (by omega) hx
      exact ⟨i, by omega, h2⟩
    · exact ⟨n, by omega, by omega, h⟩
theorem pla_in (bs : List UInt8) (x : Nat) (h : x < bs.length) : ∃ i, i < (pcs bs).length ∧ pla bs i ≤ x ∧ x < pla bs i + nextN (bs.drop (pla bs i)) := by
  obtain ⟨i, h1, h2, h3⟩ := pla_cover bs x _ (Nat.le_refl _) (by rw [pla_end bs _ (Nat.le_refl _)]; exact h)
  exact ⟨i, h1, h2, by rw [← (pla_facts bs i h1).2.1]; exact h3⟩
/-- A first byte begins a piece. -/
theorem pla_lead (bs : List UInt8) (x : Nat) (h : x < bs.length) (hl : lead (byteAt bs x) ≠ 0) : ∃ i, i < (pcs bs).length ∧ pla bs i = x := by
  obtain ⟨i, h1, h2, h3⟩ := pla_in bs x h
  refine ⟨i, h1, Classical.byContradiction fun hne => hl ?_⟩
  have := inside_zero (bs.drop (pla bs i)) (x - pla bs i) (by omega) (by omega)
  rw [byteAt_drop, show pla bs i + (x - pla bs i) = x by omega] at this
  exact this
/-- Only a piece has more than one byte. -/
theorem pla_long (bs : List UInt8) (x : Nat) (h : x < bs.length) (hl : 1 < nextN (bs.drop x)) : ∃ i, i < (pcs bs).length ∧ pla bs i = x := by
  refine pla_lead bs x h fun hz => ?_
  rw [nextN_zero (bs.drop x) (by rw [byteAt_drop, Nat.add_zero]; exact hz)] at hl
  omega

/-- The bytes from a place up to another one. -/
def mid (bs : List UInt8) (k e : Nat) : List UInt8 := (bs.drop k).take (e - k)
theorem mid_length (bs : List UInt8) (k e : Nat) (he : e ≤ bs.length) : (mid bs k e).length = e - k := by simp [mid]; omega
/-- Ahead of the last piece none ends where it does. -/
theorem mid_not (bs : List UInt8) (i k : Nat) (hi : i < (pcs bs).length) (hk : k < pla bs i) : k + nextN (mid bs k (pla bs (i + 1))) ≠ pla bs (i + 1) := by
  intro he
  obtain ⟨h1, h2, _⟩ := pla_facts bs i hi
  have hp := nextN_pos (bs.drop (pla bs i))
  have hle := pla_le bs (i + 1)
  have hz : 0 < (mid bs k (pla bs (i + 1))).length := by rw [mid_length bs k _ hle]; omega
  have hmo := nextN_mono (mid bs k (pla bs (i + 1))) ((bs.drop k).drop (pla bs (i + 1) - k)) hz
  have hX : mid bs k (pla bs (i + 1)) ++ (bs.drop k).drop (pla bs (i + 1) - k) = bs.drop k := List.take_append_drop _ _
  rw [hX] at hmo
  obtain ⟨j, hj, ej⟩ := pla_long bs k (by omega) (by omega)
  have hji : j < i := Classical.byContradiction fun hn => by
    have := pla_mono bs i (j - i)
    rw [show i + (j - i) = j by omega] at this
    omega
  have := pla_lt bs j i hj hji
  rw [ej] at this
  omega
theorem mid_yes (bs : List UInt8) (i : Nat) (hi : i < (pcs bs).length) : nextN (mid bs (pla bs i) (pla bs (i + 1))) = nextN (bs.drop (pla bs i)) ∧ nextR (mid bs (pla bs i) (pla bs (i + 1))) = (pcs bs)[i].r := by
  obtain ⟨h1, h2, h3⟩ := pla_facts bs i hi
  have hz : 0 < (bs.drop (pla bs i)).length := by simp; omega
  unfold mid
  rw [h2, Nat.add_sub_cancel_left, h3]
  exact ⟨nextN_take _ _ hz (Nat.le_refl _), nextR_take _ _ hz (Nat.le_refl _)⟩

/-- The greatest place up to n among the first k. -/
def bestTo (bs : List UInt8) (n : Int) : Nat → Nat
  | 0 => 0
  | k + 1 => if (pla bs k : Int) ≤ n then pla bs k else bestTo bs n k
/-- The greatest place up to n that parts no rune. -/
def cutN (bs : List UInt8) (n : Int) : Nat := if (bs.length : Int) ≤ n then bs.length else bestTo bs n (pcs bs).length
theorem bestTo_neg (bs : List UInt8) (n : Int) (h : n < 0) : ∀ k, bestTo bs n k = 0
  | 0 => rfl
  | k + 1 => by unfold bestTo; rw [if_neg (by omega), bestTo_neg bs n h k]
theorem bestTo_in (bs : List UInt8) (n : Int) (i : Nat) (hi : i < (pcs bs).length) (h1 : (pla bs i : Int) ≤ n) (h2 : n < (pla bs i + nextN (bs.drop (pla bs i)) : Nat)) : ∀ k, i < k → bestTo bs n k = pla bs i
  | 0, h => by omega
  | k + 1, h => by
    unfold bestTo
    by_cases e : k = i
    · subst e; rw [if_pos h1]
    · have := pla_lt bs i k hi (by omega)
      rw [if_neg (by omega)]
      exact bestTo_in bs n i hi h1 h2 k (by omega)
theorem cutN_in (bs : List UInt8) (n i : Nat) (hi : i < (pcs bs).length) (h1 : pla bs i ≤ n) (h2 : n < pla bs i + nextN (bs.drop (pla bs i))) (hn : n < bs.length) : cutN bs n = pla bs i := by
  unfold cutN
  rw [if_neg (by omega)]
  exact bestTo_in bs n i hi (by omega) (by omega) _ hi
/-- A piece that goes beyond n. -/
theorem cutN_yes (bs : List UInt8) (n k : Nat) (hn : n < bs.length) (hk : k < n) (h : n < k + nextN (bs.drop k)) : cutN bs n = k := by
  obtain ⟨i, hi, e⟩ := pla_long bs k (by omega) (by omega)
  subst e
  exact cutN_in bs n i hi (by omega) h hn
theorem cutN_self (bs : List UInt8) (n : Nat) (hn : n < bs.length) (h : ∀ k, n ≤ k + 3 → k < n → k + nextN (bs.drop k) ≤ n) : cutN bs n = n := by
  obtain ⟨i, hi, h1, h2⟩ := pla_in bs n hn
  have hle := nextN_lead (bs.drop (pla bs i))
  by_cases e : pla bs i = n
  · rw [cutN_in bs n i hi h1 h2 hn, e]
  · have := h (pla bs i) (by omega) (by omega)
    omega
theorem cutN_le (bs : List UInt8) (n : Int) : cutN bs n ≤ bs.length ∧ ∃ i, i ≤ (pcs bs).length ∧ cutN bs n = pla bs i := by
  unfold cutN
  split
  · exact ⟨Nat.le_refl _, (pcs bs).length, Nat.le_refl _, (pla_end bs _ (Nat.le_refl _)).symm⟩
  · by_cases h0 : n < 0
    · rw [bestTo_neg bs n h0]
      exact ⟨by omega, 0, by omega, (pla_zero bs).symm⟩
    · obtain ⟨i, hi, h1, h2⟩ := pla_in bs n.toNat (by omega)
      rw [bestTo_in bs n i hi (by omega) (by omega) _ hi]
      exact ⟨pla_le bs i, i, by omega, rfl⟩
theorem cutN_cut (bs : List UInt8) (n : Int) : cutN bs (cutN bs n : Nat) = cutN bs n := by
  obtain ⟨h1, i, hi, e⟩ := cutN_le bs n
  by_cases hlt : cutN bs n < bs.length
  · have hi' : i < (pcs bs).length := Classical.byContradiction fun hn => by rw [e, pla_end bs i (by omega)] at hlt; omega
    have hp := nextN_pos (bs.drop (pla bs i))
    rw [e] at hlt ⊢
    exact cutN_in bs _ i hi' (Nat.le_refl _) (by omega) hlt
  · generalize cutN bs n = c at *
    unfold cutN
    rw [if_pos (by omega)]
    omega

/-- The runes on both sides of a piece's place. -/
theorem runes_pla (bs : List UInt8) (i : Nat) (hi : i ≤ (pcs bs).length) : ∀ d, d ≤ i → runes (bs.drop (pla bs (i - d))) = runes (mid bs (pla bs (i - d)) (pla bs i)) ++ runes (bs.drop (pla bs i))
  | 0, _ => by
    have : mid bs (pla bs (i - 0)) (pla bs i) = [] := by unfold mid; simp
    rw [this]; rfl
  | d + 1, hd => by
    have ih := runes_pla bs i hi d (by omega)
    have hj : i - (d + 1) < (pcs bs).length := by omega
    obtain ⟨h1, h2, _⟩ := pla_facts bs (i - (d + 1)) hj
    rw [show i - (d + 1) + 1 = i - d by omega] at h2
    have hm := pla_mono bs (i - d) d
    rw [show i - d + d = i by omega] at hm
    have hp := nextN_pos (bs.drop (pla bs (i - (d + 1))))
    have hle := pla_le bs i
    generalize pla bs (i - (d + 1)) = q at *
    generalize pla bs (i - d) = p at *
    have hq : 0 < (bs.drop q).length := by simp; omega
    have hq' : 0 < (mid bs q (pla bs i)).length := by rw [mid_length bs q _ hle]; omega
    rw [runes_cons (bs.drop q) hq, runes_cons (mid bs q (pla bs i)) hq']
    have e1 : nextN (mid bs q (pla bs i)) = nextN (bs.drop q) := nextN_take _ _ hq (by omega)
    have e2 : nextR (mid bs q (pla bs i)) = nextR (bs.drop q) := nextR_take _ _ hq (by omega)
    have e3 : (mid bs q (pla bs i)).drop (nextN (bs.drop q)) = mid bs p (pla bs i) := by
      unfold mid
      rw [List.drop_take, List.drop_drop, h2]
      congr 1
      omega
    rw [e1, e2, e3, List.drop_drop, ← h2, ih]
    rfl
/-- **The runes on both sides of a cut are all.** -/
theorem runes_cut (bs : List UInt8) (n : Int) : runes (bs.take (cutN bs n)) ++ runes (bs.drop (cutN bs n)) = runes bs := by
  obtain ⟨_, i, hi, e⟩ := cutN_le bs n
  have h := runes_pla bs i hi i (Nat.le_refl _)
  rw [Nat.sub_self, pla_zero, List.drop_zero] at h
  rw [e, h]
  unfold mid
  simp

end Go.Proofs.YtlihfamkngahaaaDoor.U
