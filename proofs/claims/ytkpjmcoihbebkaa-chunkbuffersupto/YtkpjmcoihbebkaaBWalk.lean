/- What is proved here: plain facts: the reads of a Rest, whatever their sizes, as a walk through where the source stands and how many reads told nothing; that it ends at one place alone. -/
import Derived.Test.YtkpjmcoihbebkaaBFillR
namespace Go.Proofs.Ytkpjmcoihbebkaa.CInv
open Go.RowKit C

/-- Where the source stands (step, part), how many reads told nothing. -/
abbrev WS := Nat × Nat × Nat
/-- One read more, of n bytes at most. -/
def nextWS (n : Nat) (l : Scr) (s : WS) : WS := ((rdN l s.1 s.2.1 n).1, (rdN l s.1 s.2.1 n).2, if rdK l s.1 s.2.1 n = 0 then s.2.2 + 1 else 0)
/-- May one read more be made? -/
def GoesW (l : Scr) (s : WS) : Prop := s.2.2 ≠ 100 ∧ rdE l s.1 s.2.1 = 0 ∧ ∀ h : s.1 < l.length, s.2.1 ≤ l[s.1].1.length
inductive Walk (l : Scr) (s : WS) : WS → Prop
  | refl : Walk l s s
  | step {a : WS} (n : Nat) : 1 ≤ n → Walk l s a → GoesW l a → Walk l s (nextWS n l a)
inductive Walk1 (l : Scr) (s : WS) : WS → Prop
  | refl : Walk1 l s s
  | step {a : WS} : Walk1 l s a → GoesW l a → Walk1 l s (nextWS 1 l a)
theorem Walk.trans {l : Scr} {a b c : WS} (h : Walk l a b) (h' : Walk l b c) : Walk l a c := by
  induction h' with
  | refl => exact h
  | step n hn _ g ih => exact .step n hn ih g
theorem Walk1.trans {l : Scr} {a b c : WS} (h : Walk1 l a b) (h' : Walk1 l b c) : Walk1 l a c := by
  induction h' with
  | refl => exact h
  | step _ g ih => exact .step ih g
theorem Walk1.head {l : Scr} {a b : WS} (h : Walk1 l a b) : a = b ∨ (GoesW l a ∧ Walk1 l (nextWS 1 l a) b) := by
  induction h with
  | refl => exact .inl rfl
  | step h g ih =>
    rcases ih with rfl | ⟨g', h'⟩
    · exact .inr ⟨g, .refl⟩
    · exact .inr ⟨g', .step h' g⟩
theorem Walk1.both {l : Scr} {s a b : WS} (h : Walk1 l s a) (h' : Walk1 l s b) : Walk1 l a b ∨ Walk1 l b a := by
  induction h with
  | refl => exact .inl h'
  | step h g ih =>
    rcases ih with k | k
    · rcases k.head with e | ⟨_, k'⟩
      · rw [← e]; exact .inr (.step .refl g)
      · exact .inl k'
    · exact .inr (.step k g)
/-- A read of many bytes is reads of one byte each. -/
theorem goes_ones (l : Scr) (a : WS) (g : GoesW l a) : ∀ n, 1 ≤ n → Walk1 l a (nextWS n l a)
  | 0, h => absurd h (by omega)
  | 1, _ => .step .refl g
  | n + 2, _ => by
    have ih := goes_ones l a g (n + 1) (by omega)
    obtain ⟨i, p, em⟩ := a
    obtain ⟨g1, g2, g3⟩ := g
    simp only at g1 g2 g3
    have hi : i < l.length := by
      by_cases h : i < l.length
      · exact h
      · unfold rdE at g2; rw [dif_neg h] at g2; omega
    have hp := g3 hi
    have hf : ¬ (l[i].2 && decide (p = l[i].1.length)) = true := fun h => by
      unfold rdE at g2; rw [dif_pos hi, if_pos h] at g2; omega
    by_cases hd : l[i].1.length - p ≤ n + 1
    · have e : nextWS (n + 2) l (i, p, em) = nextWS (n + 1) l (i, p, em) := by
        unfold nextWS rdN rdK
        simp only [dif_pos hi]
        rw [show min (n + 2) (l[i].1.length - p) = min (n + 1) (l[i].1.length - p) by omega]
      rw [e]; exact ih
    · have e : nextWS (n + 1) l (i, p, em) = (i, p + (n + 1), 0) := by
        unfold nextWS rdN rdK
        simp only [dif_pos hi, if_neg hf]
        rw [show min (n + 1) (l[i].1.length - p) = n + 1 by omega]
        unfold nxt
        rw [if_neg (by omega), if_neg (by omega)]
      rw [e] at ih
      have hne : p + (n + 1) ≠ l[i].1.length := by omega
      have hf2 : ¬ (l[i].2 && decide (p + (n + 1) = l[i].1.length)) = true := fun h => by
        simp only [Bool.and_eq_true, decide_eq_true_eq] at h
        exact hne h.2
      have g' : GoesW l (i, p + (n + 1), 0) := by
        refine ⟨by simp, ?_, fun h => ?_⟩
        · unfold rdE; simp only [dif_pos hi, if_neg hf2]
        · show p + (n + 1) ≤ l[i].1.length; omega
      have e2 : nextWS 1 l (i, p + (n + 1), 0) = nextWS (n + 2) l (i, p, em) := by
        unfold nextWS rdN rdK
        simp only [dif_pos hi, if_neg hf, if_neg hf2]
        rw [show min 1 (l[i].1.length - (p + (n + 1))) = 1 by omega, show min (n + 2) (l[i].1.length - p) = n + 2 by omega]
        unfold nxt
        rw [show p + (n + 1) + 1 = p + (n + 2) by omega, if_neg (show ¬ (1 = 0) by omega), if_neg (show ¬ (n + 2 = 0) by omega)]
      rw [← e2]
      exact .step ih g'
theorem Walk.ones {l : Scr} {a b : WS} (h : Walk l a b) : Walk1 l a b := by
  induction h with
  | refl => exact .refl
  | step n hn _ g ih => exact ih.trans (goes_ones l _ g n hn)
/-- How a Rest's reads end. -/
def FinW (l : Scr) (s : WS) (E : Int) : Prop := (s.2.2 = 100 ∧ E = 22) ∨ (s.2.2 ≠ 100 ∧ rdE l s.1 s.2.1 ≠ 0 ∧ E = rdE l s.1 s.2.1)
theorem FinW.not {l : Scr} {s : WS} {E : Int} (h : FinW l s E) : ¬ GoesW l s := by
  rintro ⟨g1, g2, _⟩
  rcases h with ⟨h, _⟩ | ⟨_, h, _⟩
  · exact g1 h
  · exact h g2
/-- **A Rest's reads end at one place alone, whatever their sizes.** -/
theorem Walk.one {l : Scr} {s a b : WS} {E E' : Int} (h : Walk l s a) (h' : Walk l s b) (f : FinW l a E) (f' : FinW l b E') : a = b ∧ E = E' := by
  have : a = b := by
    rcases h.ones.both h'.ones with k | k
    · rcases k.head with e | ⟨g, _⟩
      · exact e
      · exact absurd g f.not
    · rcases k.head with e | ⟨g, _⟩
      · exact e.symm
      · exact absurd g f'.not
  subst this
  refine ⟨rfl, ?_⟩
  rcases f with ⟨h1, e⟩ | ⟨h1, h2, e⟩ <;> rcases f' with ⟨k1, f⟩ | ⟨k1, k2, f⟩
  · rw [e, f]
  · exact absurd h1 k1
  · exact absurd k1 h1
  · rw [e, f]
theorem Inv.part {l : Scr} {i p t : Nat} (h : Inv l i p t) : ∀ h : i < l.length, p ≤ l[i].1.length := fun h0 => by
  rcases h.cases with ⟨h1, h2, e⟩ | ⟨h1, _⟩
  · rw [e]; exact h.part_le h1
  · omega
/-- A fill's path is a walk. -/
theorem Path.walk {ok : List UInt8 → Bool} {size : Nat} {l : Scr} {s s' : FS} (h : Path ok size l s s') (hI : Inv l s.2.1 s.2.2.1 s.2.2.2.1) (hs : s.1.length ≤ size) : Walk l (s.2.1, s.2.2.1, s.2.2.2.2) (s'.2.1, s'.2.2.1, s'.2.2.2.2) ∧ Inv l s'.2.1 s'.2.2.1 s'.2.2.2.1 ∧ s'.1.length ≤ size := by
  induction h with
  | refl => exact ⟨.refl, hI, hs⟩
  | @step a _ g ih =>
    obtain ⟨w1, w2, w3⟩ := ih
    obtain ⟨g1, g2, g3, g4⟩ := g
    refine ⟨?_, ?_, ?_⟩
    · exact .step (a := (a.2.1, a.2.2.1, a.2.2.2.2)) (size - a.1.length) (by omega) w1 ⟨g3, g4, w2.part⟩
    · exact w2.step (size - a.1.length)
    · unfold nextFS
      simp only [List.length_append, rdX_length]
      have : rdK l a.2.1 a.2.2.1 (size - a.1.length) ≤ size - a.1.length := by unfold rdK; split <;> omega
      omega
/-- A fill that ends full ends with a read that told something. -/
theorem Path.full {ok : List UInt8 → Bool} {size : Nat} {l : Scr} {H : List UInt8} {i p t : Nat} {s : FS} (h : Path ok size l (H, i, p, t, 0) s) (hf : s.1.length = size) : s.2.2.2.2 = 0 := by
  cases h with
  | refl => rfl
  | @step a _ g =>
    unfold nextFS at hf ⊢
    simp only [List.length_append, rdX_length] at hf ⊢
    have := g.2.1
    rw [if_neg (by omega)]
end Go.Proofs.Ytkpjmcoihbebkaa.CInv
