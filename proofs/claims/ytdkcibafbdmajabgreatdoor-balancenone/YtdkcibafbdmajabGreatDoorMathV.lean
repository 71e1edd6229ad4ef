/- What is proved here: plain facts on bytes that are read rune by rune as Go's own range over a text does it: up to the first wrong byte the two ways agree. -/
import Derived.Test.YtdkcibafbdmajabGreatDoorMath
namespace Go.Proofs.YtdkcibafbdmajabGreatDoor.U

theorem decodeN_more (n b0 b1 b2 b3 : Nat) (h : lead b0 ≤ n) (h0 : lead b0 ≠ 0) : Lib.decodeN n b0 b1 b2 b3 = Lib.decodeN (lead b0) b0 b1 b2 b3 := by
  rcases lead_cases b0 with ⟨c, e⟩ | ⟨c, c', e⟩ | ⟨c, c', e⟩ | ⟨c, c', e⟩ | ⟨c, c', e⟩ | ⟨c, e⟩
  · unfold Lib.decodeN; rw [if_pos c, if_pos c]
  · exact absurd e h0
  · rw [e] at h ⊢; unfold Lib.decodeN
    have q1 : ¬ (b0 / 16 = 14) := by omega
    have q2 : ¬ (b0 / 8 = 30) := by omega
    simp only [q1, q2, false_and, if_false, show (1 < n) = True by simp; omega, show ((1 : Nat) < 2) = True by simp]
  · rw [e] at h ⊢; unfold Lib.decodeN
    have q1 : ¬ (b0 / 32 = 6) := by omega
    have q2 : ¬ (b0 / 8 = 30) := by omega
    simp only [q1, q2, false_and, if_false, show (1 < n) = True by simp; omega, show ((1 : Nat) < 3) = True by simp, show (2 < n) = True by simp; omega, show ((2 : Nat) < 3) = True by simp]
  · rw [e] at h ⊢; unfold Lib.decodeN
    have q1 : ¬ (b0 / 32 = 6) := by omega
    have q2 : ¬ (b0 / 16 = 14) := by omega
    simp only [q1, q2, false_and, if_false, show (1 < n) = True by simp; omega, show ((1 : Nat) < 4) = True by simp, show (2 < n) = True by simp; omega, show ((2 : Nat) < 4) = True by simp, show (3 < n) = True by simp; omega, show ((3 : Nat) < 4) = True by simp]
  · exact absurd e h0

/-- What reading says of bytes, in the terms of the single bytes. -/
theorem all_iff (bs : List UInt8) (h0 : 0 < bs.length) : nextAll bs = true ↔ lead (byteAt bs 0) ≠ 0 ∧ lead (byteAt bs 0) ≤ bs.length ∧ ∀ j, 1 ≤ j → j < lead (byteAt bs 0) → okAt bs j = true := by
  constructor
  · intro h
    have hn : nextN bs = lead (byteAt bs 0) := by simpa [nextAll] using h
    have hz : lead (byteAt bs 0) ≠ 0 := by have := nextN_pos bs; omega
    have := nextN_len bs h0
    exact ⟨hz, by omega, fun j a b => scan_ok bs (lead (byteAt bs 0) - 1) 1 j a (by rw [← nextN_scan bs hz, hn]; exact b)⟩
  · rintro ⟨hz, hl, hk⟩
    have key : ∀ f k, 1 ≤ k → k + f = lead (byteAt bs 0) → scan bs f k = lead (byteAt bs 0) := by
      intro f
      induction f with
      | zero => intro k _ e; simp [scan]; omega
      | succ f ih => intro k hk1 e; unfold scan; rw [if_pos ⟨by omega, hk k hk1 (by omega)⟩]; exact ih (k + 1) (by omega) (by omega)
    simp only [nextAll, decide_eq_true_eq]
    rw [nextN_scan bs hz]
    exact key _ 1 (by omega) (by omega)

theorem second_not {c d : Nat} (h : 194 ≤ c) (h' : c < 245) (hb : ¬ (lo2 c ≤ d ∧ d ≤ hi2 c)) : d / 64 ≠ 2 ∨ (c = 224 ∧ d < 160) ∨ (c = 237 ∧ 159 < d) ∨ (c = 240 ∧ d < 144) ∨ (c = 244 ∧ 143 < d) := by
  unfold lo2 hi2 at hb
  repeat' split at hb
  all_goals omega

set_option maxRecDepth 100000 in
set_option maxHeartbeats 2000000 in
/-- Bytes that are wrong here are wrong to Go's own decoding: one byte, U+FFFD. -/
theorem decode_wrong (bs : List UInt8) (h0 : 0 < bs.length) (h : nextAll bs = false) : Lib.decodeN bs.length (byteAt bs 0) (byteAt bs 1) (byteAt bs 2) (byteAt bs 3) = (65533, 1) := by
  have hn : ¬ (lead (byteAt bs 0) ≠ 0 ∧ lead (byteAt bs 0) ≤ bs.length ∧ ∀ j, 1 ≤ j → j < lead (byteAt bs 0) → okAt bs j = true) := fun hh => by
    have := (all_iff bs h0).2 hh; rw [h] at this; cases this
  have o1 : okAt bs 1 = true ↔ lo2 (byteAt bs 0) ≤ byteAt bs 1 ∧ byteAt bs 1 ≤ hi2 (byteAt bs 0) := by simp [okAt, loAt, hiAt]
  have o2 : okAt bs 2 = true ↔ 128 ≤ byteAt bs 2 ∧ byteAt bs 2 ≤ 191 := by simp [okAt, loAt, hiAt]
  have o3 : okAt bs 3 = true ↔ 128 ≤ byteAt bs 3 ∧ byteAt bs 3 ≤ 191 := by simp [okAt, loAt, hiAt]
  have l1 := byteAt_lt bs 1
  have l2 := byteAt_lt bs 2
  have l3 := byteAt_lt bs 3
  have l0 := byteAt_lt bs 0
  generalize hb0 : byteAt bs 0 = b0 at *
  generalize hb1 : byteAt bs 1 = b1 at *
  generalize hb2 : byteAt bs 2 = b2 at *
  generalize hb3 : byteAt bs 3 = b3 at *
  generalize bs.length = n at *
  rcases lead_cases b0 with ⟨c, e⟩ | ⟨c, c', e⟩ | ⟨c, c', e⟩ | ⟨c, c', e⟩ | ⟨c, c', e⟩ | ⟨c, e⟩
  · exact absurd ⟨by omega, by omega, fun j a b => by omega⟩ hn
  · unfold Lib.decodeN
    rw [if_neg (by omega)]
    by_cases d : b0 / 32 = 6 ∧ 1 < n ∧ b1 / 64 = 2
    · rw [if_pos d, if_neg (by omega)]
    · rw [if_neg d, if_neg (by omega), if_neg (by omega)]
  · rw [e] at hn
    have hh : ¬ (2 ≤ n ∧ (lo2 b0 ≤ b1 ∧ b1 ≤ hi2 b0)) := fun hh => hn ⟨by omega, hh.1, fun j a b => by
      have : j = 1 := by omega
      subst this
      exact o1.2 hh.2⟩
    clear hn
    by_cases h1 : 2 ≤ n
    · have := second_not c (by omega) (fun x => hh ⟨h1, x⟩)
      unfold Lib.decodeN; rw [if_neg (by omega), if_neg (by omega), if_neg (by omega), if_neg (by omega)]
    · unfold Lib.decodeN; rw [if_neg (by omega), if_neg (by omega), if_neg (by omega), if_neg (by omega)]
  · rw [e] at hn
    have hh : ¬ (3 ≤ n ∧ (lo2 b0 ≤ b1 ∧ b1 ≤ hi2 b0) ∧ (128 ≤ b2 ∧ b2 ≤ 191)) := fun hh => hn ⟨by omega, hh.1, fun j a b => by
      have : j = 1 ∨ j = 2 := by omega
      rcases this with rfl | rfl
      · exact o1.2 hh.2.1
      · exact o2.2 hh.2.2⟩
    clear hn
    unfold Lib.decodeN
    rw [if_neg (by omega), if_neg (by omega)]
    by_cases h1 : 3 ≤ n ∧ 128 ≤ b2 ∧ b2 ≤ 191
    · have := second_not (by omega) (by omega) (fun x => hh ⟨h1.1, x, h1.2⟩)
      by_cases d : b1 / 64 = 2
      · rw [if_pos (by omega), if_neg (by omega)]
      · rw [if_neg (by omega), if_neg (by omega)]
    · rw [if_neg (by omega), if_neg (by omega)]
  · rw [e] at hn
    have hh : ¬ (4 ≤ n ∧ (lo2 b0 ≤ b1 ∧ b1 ≤ hi2 b0) ∧ (128 ≤ b2 ∧ b2 ≤ 191) ∧ (128 ≤ b3 ∧ b3 ≤ 191)) := fun hh => hn ⟨by omega, hh.1, fun j a b => by
      have : j = 1 ∨ j = 2 ∨ j = 3 := by omega
      rcases this with rfl | rfl | rfl
      · exact o1.2 hh.2.1
      · exact o2.2 hh.2.2.1
      · exact o3.2 hh.2.2.2⟩
    clear hn
    unfold Lib.decodeN
    rw [if_neg (by omega), if_neg (by omega), if_neg (by omega)]
    by_cases h1 : 4 ≤ n ∧ (128 ≤ b2 ∧ b2 ≤ 191) ∧ 128 ≤ b3 ∧ b3 ≤ 191
    · have := second_not (by omega) (by omega) (fun x => hh ⟨h1.1, x, h1.2⟩)
      by_cases d : b1 / 64 = 2
      · rw [if_pos (by omega), if_neg (by omega)]
      · rw [if_neg (by omega)]
    · rw [if_neg (by omega)]
  · unfold Lib.decodeN
    rw [if_neg (by omega), if_neg (by omega), if_neg (by omega)]
    by_cases d : b0 / 8 = 30 ∧ (1 < n ∧ b1 / 64 = 2) ∧ (2 < n ∧ b2 / 64 = 2) ∧ 3 < n ∧ b3 / 64 = 2
    · rw [if_pos d, if_neg (by omega)]
    · rw [if_neg d]
/-- Bytes that are right here are so to Go's decoding. -/
theorem decode_right (bs : List UInt8) (h0 : 0 < bs.length) (h : nextAll bs = true) : Lib.decodeN bs.length (byteAt bs 0) (byteAt bs 1) (byteAt bs 2) (byteAt bs 3) = (runeOf bs, nextN bs) := by
  obtain ⟨hz, hl, _⟩ := (all_iff bs h0).1 h
  rw [decodeN_more _ _ _ _ _ hl hz, decode_all h]
  have : nextN bs = lead (byteAt bs 0) := by simpa [nextAll] using h
  rw [this]

/-- U+FFFD by its own bytes, and only so. -/
theorem right_fffd (bs : List UInt8) (h0 : 0 < bs.length) (h : nextAll bs = true) (hr : runeOf bs = 65533) : byteAt bs 0 = 239 ∧ byteAt bs 1 = 191 ∧ byteAt bs 2 = 189 ∧ 3 ≤ bs.length := by
  obtain ⟨hz, hl, hk⟩ := (all_iff bs h0).1 h
  have l0 := byteAt_lt bs 0
  have l1 := byteAt_lt bs 1
  have l2 := byteAt_lt bs 2
  have k1 : 1 < lead (byteAt bs 0) → lo2 (byteAt bs 0) ≤ byteAt bs 1 ∧ byteAt bs 1 ≤ hi2 (byteAt bs 0) := fun b => by simpa [okAt, loAt, hiAt] using hk 1 (by omega) b
  have k2 : 2 < lead (byteAt bs 0) → 128 ≤ byteAt bs 2 ∧ byteAt bs 2 ≤ 191 := fun b => by simpa [okAt, loAt, hiAt] using hk 2 (by omega) b
  have k3 : 3 < lead (byteAt bs 0) → 128 ≤ byteAt bs 3 ∧ byteAt bs 3 ≤ 191 := fun b => by simpa [okAt, loAt, hiAt] using hk 3 (by omega) b
  unfold runeOf at hr
  clear hk
  generalize byteAt bs 0 = b0 at *
  generalize byteAt bs 1 = b1 at *
  generalize byteAt bs 2 = b2 at *
  generalize byteAt bs 3 = b3 at *
  rcases lead_cases b0 with ⟨c, e⟩ | ⟨c, c', e⟩ | ⟨c, c', e⟩ | ⟨c, c', e⟩ | ⟨c, c', e⟩ | ⟨c, e⟩
  · rw [e, if_pos rfl] at hr; omega
  · exact absurd e hz
  · rw [e, if_neg (by omega), if_pos rfl] at hr; omega
  · rw [e] at k1 k2 hl
    rw [e, if_neg (by omega), if_neg (by omega), if_pos rfl] at hr
    have s := second_ok (by omega) (by omega) (k1 (by omega)).1 (k1 (by omega)).2
    have t := k2 (by omega)
    omega
  · rw [e] at k1 k2 k3
    rw [e, if_neg (by omega), if_neg (by omega), if_neg (by omega)] at hr
    have s := second_ok (by omega) (by omega) (k1 (by omega)).1 (k1 (by omega)).2
    omega
  · exact absurd e hz
theorem fffd_right (bs : List UInt8) (h3 : 3 ≤ bs.length) (a : byteAt bs 0 = 239) (b : byteAt bs 1 = 191) (c : byteAt bs 2 = 189) : nextAll bs = true := by
  rw [all_iff bs (by omega)]
  have e : lead (byteAt bs 0) = 3 := by rw [a]; rfl
  refine ⟨by omega, by omega, fun j h1 h2 => ?_⟩
  have : j = 1 ∨ j = 2 := by omega
  rcases this with rfl | rfl <;> simp [okAt, loAt, hiAt, a, b, c, lo2, hi2]

/-- The first wrong byte, looked for from a place on. -/
def fwF (bs : List UInt8) : Nat → Nat → Nat
  | 0, _ => bs.length
  | f + 1, k => if k < bs.length then (if nextAll (bs.drop k) = true then fwF bs f (k + nextN (bs.drop k)) else k) else bs.length
def fw (bs : List UInt8) : Nat := fwF bs (bs.length + 1) 0
theorem fwF_on {bs : List UInt8} {f k : Nat} (h : k < bs.length) (ha : nextAll (bs.drop k) = true) : fwF bs (f + 1) k = fwF bs f (k + nextN (bs.drop k)) := by
  conv => lhs; unfold fwF
  rw [if_pos h, if_pos ha]
theorem fwF_hit {bs : List UInt8} {f k : Nat} (h : k < bs.length) (ha : nextAll (bs.drop k) = false) : fwF bs (f + 1) k = k := by
  unfold fwF; rw [if_pos h, if_neg (by simp [ha])]
theorem fwF_end {bs : List UInt8} {f k : Nat} (h : ¬ k < bs.length) : fwF bs f k = bs.length := by
  cases f with
  | zero => rfl
  | succ f => unfold fwF; rw [if_neg h]
theorem fwF_le (bs : List UInt8) : ∀ f k, fwF bs f k ≤ bs.length
  | 0, _ => Nat.le_refl _
  | f + 1, k => by
    unfold fwF; split
    · split
      · exact fwF_le bs f _
      · omega
    · exact Nat.le_refl _
/-- Nothing is wrong just if no piece is. -/
theorem fwF_all (bs : List UInt8) : ∀ f k, k ≤ bs.length → bs.length < k + f → (decide (fwF bs f k = bs.length)) = (pcsF bs.length k (bs.drop k)).all Pc.ok
  | 0, k, h, h' => by omega
  | f + 1, k, h, h' => by
    by_cases hk : k < bs.length
    · rw [pcs_step bs k hk]
      have hp := nextN_pos (bs.drop k)
      have hl := nextN_len (bs.drop k) (by simp; omega)
      simp at hl
      cases ha : nextAll (bs.drop k) with
      | true => rw [fwF_on hk ha, List.all_cons]; simp only [Bool.true_and]; exact fwF_all bs f _ (by omega) (by omega)
      | false => rw [fwF_hit hk ha, List.all_cons]; simp; omega
    · rw [fwF_end hk, pcs_end bs k (by omega)]; simp
theorem fw_all (bs : List UInt8) : decide (fw bs = bs.length) = (pcs bs).all Pc.ok := by
  have := fwF_all bs (bs.length + 1) 0 (by omega) (by omega)
  rw [List.drop_zero] at this
  exact this

end Go.Proofs.YtdkcibafbdmajabGreatDoor.U
