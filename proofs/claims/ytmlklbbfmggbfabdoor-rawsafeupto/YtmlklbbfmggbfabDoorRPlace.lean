/- What is proved here: the document's Place of layer 8, as layer 10 asks for it: where the rune of a number begins; and that it is where a piece ends that a sign of ASCII ends. -/
import Derived.Test.YtmlklbbfmggbfabDoorRRefM
import Derived.Test.YtmlklbbfmggbfabDoorREndM
import Derived.Test.YtmlklbbfmggbfabDoorRef
namespace Go.Proofs.YtmlklbbfmggbfabDoor.R
open Go.RowKit Go.Shelf Go.Proofs.YtmlklbbfmggbfabDoor.U Go.Proofs.YtmlklbbfmggbfabDoor.N

/-- Where the piece of a number begins. -/
def plN : Nat → List UInt8 → Nat
  | 0, _ => 0
  | j + 1, bs => if bs.length = 0 then 0 else nextN bs + plN j (bs.drop (nextN bs))
theorem pcs_pos (bs : List UInt8) : ∀ (j k : Nat), k ≤ bs.length → (hj : j < (pcsF bs.length k (bs.drop k)).length) → ((pcsF bs.length k (bs.drop k))[j]).pos = k + plN j (bs.drop k)
  | 0, k, hk, hj => by
    by_cases h : k < bs.length
    · have := pcs_step bs k h
      simp only [this, List.getElem_cons_zero, plN, Nat.add_zero]
    · obtain rfl : k = bs.length := by omega
      have : (pcsF bs.length bs.length (bs.drop bs.length)).length = 0 := by rw [List.drop_length]; cases bs.length <;> rfl
      omega
  | j + 1, k, hk, hj => by
    by_cases h : k < bs.length
    · have hs := pcs_step bs k h
      have hp := nextN_pos (bs.drop k)
      have hl := nextN_len (bs.drop k) (by simp; omega)
      simp only [List.length_drop] at hl
      rw [hs] at hj
      simp only [List.length_cons] at hj
      have ih := pcs_pos bs j (k + nextN (bs.drop k)) (by omega) (by omega)
      simp only [hs, List.getElem_cons_succ]
      rw [ih, plN, if_neg (by simp; omega), List.drop_drop]
      omega
    · obtain rfl : k = bs.length := by omega
      have : (pcsF bs.length bs.length (bs.drop bs.length)).length = 0 := by rw [List.drop_length]; cases bs.length <;> rfl
      omega
theorem pcs_pos0 (bs : List UInt8) (j : Nat) (hj : j < (pcs bs).length) : ((pcs bs)[j]).pos = plN j bs := by
  have h := pcs_pos bs j 0 (by omega) (by simpa [pcs] using hj)
  simpa [pcs] using h
theorem plN_ascii (c : UInt8) (hc : c.toNat < 128) (Y : List UInt8) : ∀ n (X : List UInt8), X.length ≤ n → plN (runesI X).length (X ++ c :: Y) = X.length
  | 0, X, h => by
    obtain rfl : X = [] := List.length_eq_zero_iff.1 (by omega)
    rfl
  | n + 1, X, h => by
    by_cases h0 : X.length = 0
    · obtain rfl : X = [] := List.length_eq_zero_iff.1 h0
      rfl
    · have hp := nextN_pos X
      have hlen := nextN_len X (by omega)
      have hcc : nextOpen X = false ∨ (c :: Y) = [] ∨ lead (byteAt (c :: Y) 0) ≠ 0 := .inr (.inr (by rw [show byteAt (c :: Y) 0 = c.toNat from rfl, lead_is1 hc]; decide))
      rw [runesI_cons X (by omega), List.length_cons, plN, if_neg (by simp), nextN_agree X (c :: Y) (by omega) hcc, List.drop_append_of_le_length hlen, plN_ascii c hc Y n (X.drop (nextN X)) (by simp; omega)]
      simp; omega
theorem plN_succ : ∀ (j : Nat) (bs : List UInt8), plN j bs < bs.length → plN (j + 1) bs = plN j bs + nextN (bs.drop (plN j bs))
  | 0, bs, h => by
    simp only [plN] at h ⊢
    rw [if_neg (by omega)]; simp
  | j + 1, bs, h => by
    rw [plN] at h ⊢
    by_cases h0 : bs.length = 0
    · rw [if_pos h0] at h; omega
    · rw [if_neg h0] at h ⊢
      rw [plN_succ j (bs.drop (nextN bs)) (by simp; omega)]
      conv => rhs; rw [plN, if_neg h0]
      rw [List.drop_drop]
      omega
/-- What Place tells. -/
def placeV (bs : List UInt8) (n : Nat) : Nat := if n < (pcs bs).length then plN n bs else bs.length
theorem place_right (bs X : List UInt8) (c : UInt8) (m : Nat) (hc : c.toNat < 128) (hX : bs.take m = X ++ [c]) (hm : m ≤ bs.length) : placeV bs (runesI (bs.take m)).length = m := by
  have hml : m = X.length + 1 := by
    have := congrArg List.length hX
    simp at this; omega
  have hb : bs = X ++ c :: bs.drop m := by
    have := List.take_append_drop m bs
    rw [hX, List.append_assoc] at this
    exact this.symm
  have hr : (runesI (bs.take m)).length = (runesI X).length + 1 := by rw [hX, runesI_append X [c] (.inr (by simpa [byteAt] using hc)), runesI_ascii c [] hc]; simp [runesI_nil]
  rw [hr]
  unfold placeV
  have hp : plN (runesI X).length bs = X.length := by
    have := plN_ascii c hc (bs.drop m) X.length X (Nat.le_refl _)
    rwa [← hb] at this
  split
  · rw [plN_succ _ _ (by rw [hp]; omega), hp]
    have hd : bs.drop X.length = c :: bs.drop m := by
      conv => lhs; rw [hb]
      simp
    have h1 := nextN_pos (bs.drop X.length)
    have h2 := nextN_le_lead (bs.drop X.length) (by rw [hd, show byteAt (c :: bs.drop m) 0 = c.toNat from rfl, lead_is1 hc]; omega)
    rw [hd, show byteAt (c :: bs.drop m) 0 = c.toNat from rfl, lead_is1 hc, ← hd] at h2
    omega
  · rename_i hn
    have hl : (runesI bs).length = (pcs bs).length := runesI_length bs
    have hr2 : (runesI bs).length = (runesI X).length + 1 + (runesI (bs.drop m)).length := by
      conv => lhs; rw [hb]
      rw [runesI_append X (c :: bs.drop m) (.inr (by simpa [byteAt] using hc)), runesI_ascii c _ hc]
      simp; omega
    have h0 : (runesI (bs.drop m)).length = 0 := by omega
    rw [runesI_length] at h0
    have h4 := pcs_four (bs.drop m)
    simp at h4
    omega
theorem place_all (bs : List UInt8) : placeV bs (runesI bs).length = bs.length := by unfold placeV; rw [if_neg (by rw [runesI_length]; omega)]
/-- The last rune of bytes, where it is of ASCII, is their last byte. -/
theorem last_ascii (r : Int) (h0 : 0 ≤ r) (h1 : r < 128) : ∀ n (Z : List UInt8) (l : List Int), Z.length ≤ n → runesI Z = l ++ [r] → ∃ X c, Z = X ++ [c] ∧ c.toNat < 128
  | 0, Z, l, hn, h => by
    obtain rfl : Z = [] := List.length_eq_zero_iff.1 (by omega)
    rw [runesI_nil] at h
    exact absurd (congrArg List.length h) (by simp)
  | n + 1, Z, l, hn, h => by
    by_cases hz : 0 < Z.length
    · have hp := nextN_pos Z
      have hln := nextN_len Z hz
      rw [runesI_cons Z hz] at h
      by_cases hd : (Z.drop (nextN Z)).length = 0
      · have hd' : Z.drop (nextN Z) = [] := List.length_eq_zero_iff.1 hd
        rw [hd', runesI_nil] at h
        have hl : l = [] := by
          have := congrArg List.length h
          simp at this
          exact this
        subst hl
        have hr : (nextR Z : Int) = r := by simpa using h
        rcases Nat.lt_or_ge (byteAt Z 0) 128 with hb | hb
        · have h2 := nextN_le_lead Z (by rw [lead_is1 hb]; omega)
          rw [lead_is1 hb] at h2
          have hlen : Z.length = 1 := by simp at hd; omega
          obtain ⟨c, rfl⟩ := List.length_eq_one_iff.1 hlen
          exact ⟨[], c, rfl, by simpa [byteAt] using hb⟩
        · have := (next_high Z hz hb).1
          omega
      · obtain ⟨q, l', rfl⟩ : ∃ q l', l = q :: l' := by
          cases l with
          | nil =>
            exfalso
            have := congrArg List.length h
            simp at this
            have h5 : (runesI (Z.drop (nextN Z))).length = 0 := by rw [this]; rfl
            rw [runesI_length] at h5
            have h4 := pcs_four (Z.drop (nextN Z))
            omega
          | cons q l' => exact ⟨q, l', rfl⟩
        rw [List.cons_append] at h
        injection h with _ h
        obtain ⟨X, c, e, hc⟩ := last_ascii r h0 h1 n (Z.drop (nextN Z)) l' (by simp; omega) h
        exact ⟨Z.take (nextN Z) ++ X, c, by rw [List.append_assoc, ← e, List.take_append_drop], hc⟩
    · obtain rfl : Z = [] := List.length_eq_zero_iff.1 (by omega)
      rw [runesI_nil] at h
      exact absurd (congrArg List.length h) (by simp)
/-- **Where Whole's end is, in bytes.** -/
theorem whole_place {nm : List Int} {p : Nat} (h1 : 1 ≤ p) (h5 : p ≤ 5) {bs t : List UInt8} {n : Nat} (hW : WholeIs nm p bs t n true) : placeV bs (runesI (bs.take n)).length = n := by
  rcases hW with ⟨_, w2, w3, m1, q, w4, w5, w6, w7⟩ | ⟨w1, _⟩
  · have hk : Ok nm ((s0 p).run nm m1) := by
      rcases run_keeps nm m1 (s0 p) (s0_ok nm h1 h5) with h | h
      · exact absurd h w5
      · exact h.1
    have hst : stopZ q = true := by
      rw [run_snoc, next_ok hk] at w6
      rcases step_keeps nm _ q hk with ⟨_, h, _⟩ | ⟨h, _⟩
      · exact h
      · exact absurd w6 (ok_ne h)
    have hq := stop_low hst
    obtain ⟨X, c, hX, hc⟩ := last_ascii q hq.1 hq.2 _ (bs.take n) m1 (Nat.le_refl _) w4
    exact place_right bs X c n hc hX w2
  · cases w1
end Go.Proofs.YtmlklbbfmggbfabDoor.R
