/- What is proved here: plain facts on the lines of a text of bytes: cutting it at each newline. -/
import Derived.Test.YtpljklemkapnmaaDoorMathP
namespace Go.Proofs.YtpljklemkapnmaaDoor.U

/-- The bytes from a up to b. -/
def seg (s : List UInt8) (a b : Nat) : List UInt8 := (s.drop a).take (b - a)
/-- The lines that end ahead of k, and where the next begins. -/
def cuts (s : List UInt8) : Nat → List (List UInt8) × Nat
  | 0 => ([], 0)
  | k + 1 => if byteAt s k = 10 then ((cuts s k).1 ++ [seg s (cuts s k).2 k], k + 1) else cuts s k
def linesOf (s : List UInt8) : List (List UInt8) := if (cuts s s.length).2 < s.length then (cuts s s.length).1 ++ [seg s (cuts s s.length).2 s.length] else (cuts s s.length).1
theorem cuts_le (s : List UInt8) : ∀ k, (cuts s k).2 ≤ k
  | 0 => Nat.le_refl _
  | k + 1 => by
    have := cuts_le s k
    unfold cuts; split
    · exact Nat.le_refl _
    · omega
theorem cuts_length (s : List UInt8) : ∀ k, (cuts s k).1.length ≤ k
  | 0 => Nat.le_refl _
  | k + 1 => by
    have := cuts_length s k
    unfold cuts; split
    · simp; omega
    · omega
theorem lines_length (s : List UInt8) : (linesOf s).length ≤ s.length + 1 := by
  have := cuts_length s s.length
  unfold linesOf; split
  · simp; omega
  · omega
theorem cuts_on (s : List UInt8) (k : Nat) (h : byteAt s k ≠ 10) : cuts s (k + 1) = cuts s k := by rw [cuts, if_neg h]
theorem cuts_at (s : List UInt8) (k : Nat) (h : byteAt s k = 10) : cuts s (k + 1) = ((cuts s k).1 ++ [seg s (cuts s k).2 k], k + 1) := by rw [cuts, if_pos h]
theorem cuts_past (s : List UInt8) (k : Nat) : ∀ n, (∀ j, j < n → byteAt s (k + j) ≠ 10) → cuts s (k + n) = cuts s k
  | 0, _ => rfl
  | n + 1, h => by
    rw [← Nat.add_assoc, cuts_on _ _ (h n (by omega))]
    exact cuts_past s k n (fun j hj => h j (by omega))
theorem extract_seg (s : List UInt8) (a b : Nat) : (⟨s.toArray⟩ : ByteArray).extract a b = ⟨(seg s a b).toArray⟩ := bytes_ext (by
  rw [ByteArray.data_extract, Array.toList_extract]; simp [seg])
theorem seg_length (s : List UInt8) (a b : Nat) : (seg s a b).length ≤ s.length := by unfold seg; simp; omega

/-- One step of a right text: a newline is a byte of its own. -/
theorem step_ten (ms : List UInt8) (k : Nat) (hk : k < ms.length) (ha : nextAll (ms.drop k) = true) : (runeOf (ms.drop k) = 10 → nextN (ms.drop k) = 1 ∧ byteAt ms k = 10) ∧ (runeOf (ms.drop k) ≠ 10 → ∀ j, j < nextN (ms.drop k) → byteAt ms (k + j) ≠ 10) := by
  have hb : ∀ j, byteAt (ms.drop k) j = byteAt ms (k + j) := fun j => by rw [byteAt_drop]
  have h0 : 0 < (ms.drop k).length := by simp; omega
  obtain ⟨bs, hbs⟩ : ∃ bs, ms.drop k = bs := ⟨_, rfl⟩
  rw [hbs] at ha hb h0 ⊢
  clear hbs
  have hn : nextN bs = lead (byteAt bs 0) := by simpa [nextAll] using ha
  obtain ⟨hz, hl, hok⟩ := (all_iff bs h0).1 ha
  have e0 : byteAt ms k = byteAt bs 0 := (hb 0).symm
  have l0 := byteAt_lt bs 0
  have k1 : 1 < lead (byteAt bs 0) → lo2 (byteAt bs 0) ≤ byteAt bs 1 ∧ byteAt bs 1 ≤ hi2 (byteAt bs 0) := fun b => by simpa [okAt, loAt, hiAt] using hok 1 (by omega) b
  have k2 : ∀ j, 2 ≤ j → j < lead (byteAt bs 0) → 128 ≤ byteAt bs j := fun j h2 hj => by
    have := hok j (by omega) hj
    simp [okAt, loAt, show j ≠ 1 by omega] at this
    omega
  have hfst : byteAt bs 0 < 128 ∨ 128 ≤ byteAt bs 0 := by omega
  rcases hfst with h | h
  · have l1 : lead (byteAt bs 0) = 1 := by unfold lead; rw [if_pos h]
    have hr : runeOf bs = byteAt bs 0 := by unfold runeOf; rw [if_pos l1]
    rw [hr, hn, l1]
    refine ⟨fun e => ⟨rfl, by omega⟩, fun e j hj => ?_⟩
    obtain rfl : j = 0 := by omega
    show byteAt ms k ≠ 10
    omega
  · have hlo : 1 < lead (byteAt bs 0) → 128 ≤ byteAt bs 1 := fun hle => by
      have a := (k1 hle).1
      unfold lo2 at a
      unfold lead at hle
      repeat' split at a
      all_goals (repeat' split at hle)
      all_goals omega
    have hall : ∀ j, j < nextN bs → byteAt ms (k + j) ≠ 10 := fun j hj => by
      rw [← hb j]
      rw [hn] at hj
      by_cases e : j = 0
      · subst e; omega
      · by_cases e' : j = 1
        · subst e'; have := hlo (by omega); omega
        · have := k2 j (by omega) hj; omega
    refine ⟨fun e => ?_, fun _ => hall⟩
    exfalso
    clear hall hok k2 hb e0
    unfold runeOf at e
    generalize byteAt bs 0 = b0 at *
    generalize byteAt bs 1 = b1 at *
    generalize byteAt bs 2 = b2 at *
    generalize byteAt bs 3 = b3 at *
    rcases lead_cases b0 with ⟨c, q⟩ | ⟨c, c', q⟩ | ⟨c, c', q⟩ | ⟨c, c', q⟩ | ⟨c, c', q⟩ | ⟨c, q⟩
    · omega
    · exact absurd q hz
    · rw [q, if_neg (by omega), if_pos rfl] at e; omega
    · rw [q, if_neg (by omega), if_neg (by omega), if_pos rfl] at e
      rw [q] at k1
      have a := (k1 (by omega)).1
      have a' := (k1 (by omega)).2
      unfold lo2 at a
      unfold hi2 at a'
      repeat' split at a
      all_goals (repeat' split at a')
      all_goals omega
    · rw [q, if_neg (by omega), if_neg (by omega), if_neg (by omega)] at e
      rw [q] at k1
      have a := (k1 (by omega)).1
      have a' := (k1 (by omega)).2
      unfold lo2 at a
      unfold hi2 at a'
      repeat' split at a
      all_goals (repeat' split at a')
      all_goals omega
    · exact absurd q hz

end Go.Proofs.YtpljklemkapnmaaDoor.U
