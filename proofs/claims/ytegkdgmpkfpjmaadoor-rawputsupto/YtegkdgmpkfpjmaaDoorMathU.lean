/- What is proved here: plain facts on bytes that are read in pieces: where nothing is left open, or a first byte stands behind, the runes of two pieces are those of both; what is left open at the end of both is left open at the end of the second. -/
import Derived.Test.YtegkdgmpkfpjmaaDoorBun6
namespace Go.Proofs.YtegkdgmpkfpjmaaDoor.U

theorem byteAt_left (X Y : List UInt8) (j : Nat) (h : j < X.length) : byteAt (X ++ Y) j = byteAt X j := by simp [byteAt, List.getElem?_append_left h]
theorem byteAt_right (X Y : List UInt8) : byteAt (X ++ Y) X.length = byteAt Y 0 := by simp [byteAt, List.getElem?_append]
theorem okAt_left (X Y : List UInt8) (j : Nat) (h : j < X.length) : okAt (X ++ Y) j = okAt X j := by
  have h0 : byteAt (X ++ Y) 0 = byteAt X 0 := byteAt_left X Y 0 (by omega)
  unfold okAt loAt hiAt
  rw [byteAt_left X Y j h, h0]
/-- Is nothing left open, wherever one reads? -/
def noOpen (X : List UInt8) : Prop := ∀ k, k < X.length → nextOpen (X.drop k) = false

theorem scan_agree (X Y : List UInt8) (h0 : 0 < X.length) (hl : 1 < lead (byteAt X 0)) : ∀ f k, 1 ≤ k → k ≤ X.length →
    (scan X f k < X.length ∨ scan X f k = k + f ∨ Y = [] ∨ lead (byteAt Y 0) ≠ 0) → scan (X ++ Y) f k = scan X f k
  | 0, _, _, _, _ => rfl
  | f + 1, k, h1, hk, h => by
    by_cases hlt : k < X.length
    · by_cases ho : okAt X k = true
      · have e1 : scan X (f + 1) k = scan X f (k + 1) := by conv => lhs; unfold scan
                                                            rw [if_pos ⟨hlt, ho⟩]
        have e2 : scan (X ++ Y) (f + 1) k = scan (X ++ Y) f (k + 1) := by conv => lhs; unfold scan
                                                                          rw [if_pos ⟨by simp; omega, by rw [okAt_left X Y k hlt]; exact ho⟩]
        rw [e1] at h ⊢
        rw [e2]
        refine scan_agree X Y h0 hl f (k + 1) (by omega) (by omega) ?_
        rcases h with h | h | h
        · exact .inl h
        · exact .inr (.inl (by omega))
        · exact .inr (.inr h)
      · have e1 : scan X (f + 1) k = k := by conv => lhs; unfold scan
                                             rw [if_neg (fun h => ho h.2)]
        have e2 : scan (X ++ Y) (f + 1) k = k := by conv => lhs; unfold scan
                                                    rw [if_neg (fun h => ho (by rw [← okAt_left X Y k hlt]; exact h.2))]
        rw [e1, e2]
    · obtain rfl : k = X.length := by omega
      have e1 : scan X (f + 1) X.length = X.length := by conv => lhs; unfold scan
                                                         rw [if_neg (fun h => hlt h.1)]
      rw [e1] at h ⊢
      have hY : Y = [] ∨ lead (byteAt Y 0) ≠ 0 := by
        rcases h with h | h | h
        · omega
        · omega
        · exact h
      rcases hY with rfl | hY
      · rw [List.append_nil]; exact e1
      · unfold scan
        rw [if_neg]
        rintro ⟨_, ho⟩
        refine hY ?_
        rw [← byteAt_right X Y]
        exact ok_cont h1 (by rw [byteAt_left X Y 0 h0]; exact hl) ho
theorem nextN_agree (X Y : List UInt8) (h0 : 0 < X.length) (h : nextOpen X = false ∨ Y = [] ∨ lead (byteAt Y 0) ≠ 0) : nextN (X ++ Y) = nextN X := by
  have hb := byteAt_left X Y 0 h0
  by_cases hz : lead (byteAt X 0) = 0
  · rw [nextN_zero X hz, nextN_zero _ (by rw [hb]; exact hz)]
  · rw [nextN_scan X hz, nextN_scan _ (by rw [hb]; exact hz), hb]
    by_cases h1 : lead (byteAt X 0) = 1
    · rw [h1]; rfl
    · refine scan_agree X Y h0 (by omega) _ 1 (Nat.le_refl _) h0 ?_
      rcases h with h | h
      · have hn := nextN_scan X hz
        have hle := nextN_le_lead X hz
        have hlen := nextN_len X h0
        rw [← hn]
        simp only [nextOpen, Bool.and_eq_false_iff, decide_eq_false_iff_not] at h
        omega
      · exact .inr (.inr h)
theorem nextAll_agree (X Y : List UInt8) (h0 : 0 < X.length) (h : nextOpen X = false ∨ Y = [] ∨ lead (byteAt Y 0) ≠ 0) : nextAll (X ++ Y) = nextAll X := by
  unfold nextAll
  rw [nextN_agree X Y h0 h, byteAt_left X Y 0 h0]
theorem nextR_agree (X Y : List UInt8) (h0 : 0 < X.length) (h : nextOpen X = false ∨ Y = [] ∨ lead (byteAt Y 0) ≠ 0) : nextR (X ++ Y) = nextR X := by
  unfold nextR
  rw [nextAll_agree X Y h0 h]
  split
  · rename_i ha
    have hn : nextN X = lead (byteAt X 0) := by simpa [nextAll] using ha
    have hlen := nextN_len X h0
    have hL := lead_le (byteAt X 0)
    unfold runeOf
    rw [byteAt_left X Y 0 h0]
    by_cases e1 : lead (byteAt X 0) = 1
    · rw [if_pos e1, if_pos e1]
    · rw [if_neg e1, if_neg e1]
      have hp := nextN_pos X
      rw [byteAt_left X Y 1 (by omega)]
      by_cases e2 : lead (byteAt X 0) = 2
      · rw [if_pos e2, if_pos e2]
      · rw [if_neg e2, if_neg e2, byteAt_left X Y 2 (by omega)]
        by_cases e3 : lead (byteAt X 0) = 3
        · rw [if_pos e3, if_pos e3]
        · rw [if_neg e3, if_neg e3, byteAt_left X Y 3 (by omega)]
  · rfl

theorem toksF_snd : ∀ f a b (bs : List UInt8), (toksF f a bs).map Prod.snd = (toksF f b bs).map Prod.snd
  | 0, _, _, _ => rfl
  | f + 1, a, b, bs => by
    unfold toksF
    split
    · rfl
    · simp only [List.map_cons]
      rw [toksF_snd f (a + nextN bs) (b + nextN bs)]
theorem runes_nil : runes [] = [] := rfl
theorem runes_cons (bs : List UInt8) (h : 0 < bs.length) : runes bs = nextR bs :: runes (bs.drop (nextN bs)) := by
  have h1 := toks_step bs 0 h
  rw [List.drop_zero, Nat.zero_add] at h1
  unfold runes toks
  rw [h1, List.map_cons, toksF_fuel bs.length (bs.drop (nextN bs)).length _ _ (by simp) (Nat.le_refl _), toksF_snd _ _ 0]
/-- **Where nothing is left open, or a first byte stands behind: the runes of both.** -/
theorem runes_append (Y : List UInt8) : ∀ n (X : List UInt8), X.length ≤ n → (noOpen X ∨ Y = [] ∨ lead (byteAt Y 0) ≠ 0) → runes (X ++ Y) = runes X ++ runes Y
  | 0, X, hn, _ => by
    obtain rfl : X = [] := List.length_eq_zero_iff.1 (by omega)
    simp [runes_nil]
  | n + 1, X, hn, h => by
    by_cases h0 : X.length = 0
    · obtain rfl : X = [] := List.length_eq_zero_iff.1 h0
      simp [runes_nil]
    · have hp := nextN_pos X
      have hlen := nextN_len X (by omega)
      have hc : nextOpen X = false ∨ Y = [] ∨ lead (byteAt Y 0) ≠ 0 := by
        rcases h with h | h
        · exact .inl (by simpa using h 0 (by omega))
        · exact .inr h
      rw [runes_cons (X ++ Y) (by simp; omega), runes_cons X (by omega), nextN_agree X Y (by omega) hc, nextR_agree X Y (by omega) hc, List.drop_append_of_le_length hlen]
      rw [runes_append Y n (X.drop (nextN X)) (by simp; omega)]
      · rfl
      · rcases h with h | h
        · left
          intro k hk
          rw [List.drop_drop]
          exact h _ (by simp at hk; omega)
        · exact .inr h

theorem tail_open (bs : List UInt8) (k : Nat) (hk : k < bs.length) (ho : nextOpen (bs.drop k) = true) : tailN bs = bs.length - k := by
  have huniq : ∀ j, j < bs.length → nextOpen (bs.drop j) = true → j = k := fun j hj hoj => by
    have h1 := open_last bs j hj hoj bs.length 0 (by omega) (by omega)
    have h2 := open_last bs k hk ho bs.length 0 (by omega) (by omega)
    rw [h1] at h2
    simpa using h2
  obtain ⟨o1, o2⟩ := open_facts ho
  have hL := lead_le (byteAt (bs.drop k) 0)
  simp only [List.length_drop] at o2
  unfold tailN
  rw [tailF_some hk ho huniq 3 _ (by omega) (by omega)]
  exact o2
theorem tail_zero_iff (bs : List UInt8) : tailN bs = 0 ↔ noOpen bs := by
  constructor
  · intro h k hk
    cases hh : nextOpen (bs.drop k) with
    | false => rfl
    | true => rw [tail_open bs k hk hh] at h; omega
  · intro h
    unfold tailN
    exact tailF_none h _ _
/-- What is left open: where it begins. -/
theorem tail_some (bs : List UInt8) (h : tailN bs ≠ 0) : tailN bs < bs.length + 1 ∧ tailN bs ≤ 3 ∧ nextOpen (bs.drop (bs.length - tailN bs)) = true ∧ bs.length - tailN bs < bs.length := by
  have hne : ¬ noOpen bs := fun h' => h ((tail_zero_iff bs).2 h')
  obtain ⟨k, hk, ho⟩ : ∃ k, k < bs.length ∧ nextOpen (bs.drop k) = true := by
    refine Classical.byContradiction fun hn => hne fun k hk => ?_
    cases hh : nextOpen (bs.drop k) with
    | false => rfl
    | true => exact absurd ⟨k, hk, hh⟩ hn
  have e := tail_open bs k hk ho
  obtain ⟨o1, o2⟩ := open_facts ho
  have hL := lead_le (byteAt (bs.drop k) 0)
  simp only [List.length_drop] at o2
  refine ⟨by omega, by omega, ?_, by omega⟩
  rw [show bs.length - tailN bs = k by omega]
  exact ho
theorem tail_le (bs : List UInt8) : tailN bs ≤ bs.length ∧ tailN bs ≤ 3 := by
  by_cases h : tailN bs = 0
  · omega
  · have := tail_some bs h; omega
/-- What is left open begins with a first byte. -/
theorem tail_lead (bs : List UInt8) (h : tailN bs ≠ 0) : lead (byteAt (bs.drop (bs.length - tailN bs)) 0) ≠ 0 := by
  obtain ⟨_, _, ho, _⟩ := tail_some bs h
  have := (open_facts ho).1
  omega
/-- **What is left open at the end of both is left open at the end of the second.** -/
theorem tail_append (X Y : List UInt8) (hY : Y ≠ []) (h : noOpen X ∨ lead (byteAt Y 0) ≠ 0) : tailN (X ++ Y) = tailN Y := by
  have hYl : 0 < Y.length := List.length_pos_iff.2 hY
  by_cases ht : tailN Y = 0
  · rw [ht, tail_zero_iff]
    have hn := (tail_zero_iff Y).1 ht
    intro k hk
    by_cases hX : k < X.length
    · rw [List.drop_append_of_le_length (by omega)]
      cases hh : nextOpen (X.drop k ++ Y) with
      | false => rfl
      | true =>
        obtain ⟨o1, o2⟩ := open_facts hh
        simp at o2
        rcases h with h | h
        · have hle := nextN_len (X.drop k) (by simp; omega)
          rw [nextN_agree (X.drop k) Y (by simp; omega) (.inl (h k hX))] at o2
          simp at hle
          omega
        · have := inside_zero (X.drop k ++ Y) (X.drop k).length (by simp; omega) (by rw [o2]; simp; omega)
          rw [byteAt_right] at this
          exact absurd this h
    · rw [List.drop_append, List.drop_eq_nil_of_le (by omega), List.nil_append]
      exact hn _ (by simp at hk; omega)
  · obtain ⟨h1, _, ho, h2⟩ := tail_some Y ht
    have e : (X ++ Y).drop (X.length + (Y.length - tailN Y)) = Y.drop (Y.length - tailN Y) := by rw [List.drop_append]; simp
    rw [tail_open (X ++ Y) (X.length + (Y.length - tailN Y)) (by simp; omega) (by rw [e]; exact ho)]
    simp
    omega
/-- Bytes that are left open are one rune that stands for what is wrong. -/
theorem runes_open (bs : List UInt8) (h0 : 0 < bs.length) (ho : nextOpen bs = true) : runes bs = [65533] := by
  obtain ⟨o1, o2⟩ := open_facts ho
  rw [runes_cons bs h0, o2, List.drop_length, runes_nil]
  unfold nextR
  rw [if_neg (by simp [nextAll]; omega)]

/-- What is told of bytes, and what is held back. -/
def sureOf (P : List UInt8) : List UInt8 := P.take (P.length - tailN P)
def heldOf (P : List UInt8) : List UInt8 := P.drop (P.length - tailN P)
theorem sure_held (P : List UInt8) : sureOf P ++ heldOf P = P := List.take_append_drop _ _
theorem held_length (P : List UInt8) : (heldOf P).length = tailN P := by have := (tail_le P).1; simp [heldOf]; omega
theorem held_cond (P : List UInt8) (c : List UInt8) : noOpen (sureOf P) ∨ heldOf P = [] ∨ lead (byteAt (heldOf P ++ c) 0) ≠ 0 := by
  by_cases h : tailN P = 0
  · left
    unfold sureOf
    rw [h, Nat.sub_zero, List.take_length]
    exact (tail_zero_iff P).1 h
  · right; right
    have h1 := tail_lead P h
    have h2 := held_length P
    rw [byteAt_left _ _ _ (by omega)]
    exact h1
theorem held_none (P : List UInt8) (h : heldOf P = []) : noOpen (sureOf P) := by
  have h2 := held_length P
  rw [h] at h2
  have h3 : tailN P = 0 := h2.symm
  unfold sureOf
  rw [h3, Nat.sub_zero, List.take_length]
  exact (tail_zero_iff P).1 h3
theorem held_ok (P c : List UInt8) : noOpen (sureOf P) ∨ lead (byteAt (heldOf P ++ c) 0) ≠ 0 := by
  rcases held_cond P c with h | h | h
  · exact .inl h
  · exact .inl (held_none P h)
  · exact .inr h
/-- **One piece more: what is held back.** -/
theorem feed_tail (P c : List UInt8) : tailN (P ++ c) = tailN (heldOf P ++ c) := by
  by_cases h : heldOf P ++ c = []
  · obtain ⟨h1, rfl⟩ := List.append_eq_nil_iff.1 h
    rw [List.append_nil, List.append_nil, h1, (tail_zero_iff P).2]
    · rfl
    · have e := sure_held P
      rw [h1, List.append_nil] at e
      rw [← e]
      exact held_none P h1
  · conv => lhs; rw [← sure_held P, List.append_assoc]
    exact tail_append _ _ h (held_ok P c)
theorem drop_end (S A : List UInt8) (t : Nat) (h : t ≤ A.length) : (S ++ A).drop ((S ++ A).length - t) = A.drop (A.length - t) := by
  rw [List.length_append, show S.length + A.length - t = S.length + (A.length - t) by omega, List.drop_append, List.drop_eq_nil_of_le (by omega), List.nil_append]
  congr 1
  omega
theorem take_end (S A : List UInt8) (t : Nat) (h : t ≤ A.length) : (S ++ A).take ((S ++ A).length - t) = S ++ A.take (A.length - t) := by
  rw [List.length_append, show S.length + A.length - t = S.length + (A.length - t) by omega, List.take_append, List.take_of_length_le (by omega)]
  congr 2
  omega
theorem byteAt_take0 (X : List UInt8) (k : Nat) (h : 0 < k) : byteAt (X.take k) 0 = byteAt X 0 := by simp [byteAt, h]
theorem feed_all (P c : List UInt8) : P ++ c = sureOf P ++ (heldOf P ++ c) := by rw [← List.append_assoc, sure_held]
theorem feed_held (P c : List UInt8) : heldOf (P ++ c) = (heldOf P ++ c).drop ((heldOf P ++ c).length - tailN (heldOf P ++ c)) := by
  have h1 := (tail_le (heldOf P ++ c)).1
  have h2 : heldOf (P ++ c) = (P ++ c).drop ((P ++ c).length - tailN (P ++ c)) := rfl
  rw [h2, feed_tail, feed_all]
  exact drop_end _ _ _ h1
/-- **One piece more: what is told.** -/
theorem feed_runes (P c : List UInt8) : runes (sureOf (P ++ c)) = runes (sureOf P) ++ runes ((heldOf P ++ c).take ((heldOf P ++ c).length - tailN (heldOf P ++ c))) := by
  have h1 := (tail_le (heldOf P ++ c)).1
  have e : sureOf (P ++ c) = sureOf P ++ (heldOf P ++ c).take ((heldOf P ++ c).length - tailN (heldOf P ++ c)) := by
    have h2 : sureOf (P ++ c) = (P ++ c).take ((P ++ c).length - tailN (P ++ c)) := rfl
    rw [h2, feed_tail, feed_all]
    exact take_end _ _ _ h1
  rw [e]
  refine runes_append _ _ _ (Nat.le_refl _) ?_
  rcases held_ok P c with h | h
  · exact .inl h
  · by_cases h0 : (heldOf P ++ c).length - tailN (heldOf P ++ c) = 0
    · right; left; rw [h0, List.take_zero]
    · right; right
      rw [byteAt_take0 _ _ (by omega)]
      exact h
/-- **At the end: all.** -/
theorem end_runes (P : List UInt8) : runes P = runes (sureOf P) ++ runes (heldOf P) := by
  conv => lhs; rw [← sure_held P]
  refine runes_append _ _ _ (Nat.le_refl _) ?_
  have := held_ok P []
  rw [List.append_nil] at this
  rcases this with h | h
  · exact .inl h
  · exact .inr (.inr h)
end Go.Proofs.YtegkdgmpkfpjmaaDoor.U
