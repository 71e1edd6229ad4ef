/- What is proved here: plain facts: a content has no end tag of its own; no shorter beginning of a text has one; no more is held than an end tag has. -/
import Derived.Test.YtegkdgmpkfpjmaaDoorRPlace
namespace Go.Proofs.YtegkdgmpkfpjmaaDoor.R
open Go.RowKit Go.Shelf Go.Proofs.YtegkdgmpkfpjmaaDoor.U Go.Proofs.YtegkdgmpkfpjmaaDoor.N

theorem not_prefix {nm : List Int} {s : St} {l m : List Int} (h : (s.run nm (l ++ m)).p ≠ 6) : (s.run nm l).p ≠ 6 := fun e => h (over_more e m)
/-- Where the content ends, the content alone does not end. -/
theorem content_open {nm : List Int} (hnm : NmOk nm) {p : Nat} (h1 : 1 ≤ p) (h3 : p ≤ 3) {bs t : List UInt8} {n : Nat} {ok : Bool} (hW : WholeIs nm p bs t n ok) :
    ∃ C : List Int, t = encs C ∧ C.map mendR = C ∧ ((s0 p).run nm C).p ≠ 6 ∧ runesI t = C := by
  have key : ∀ C : List Int, t = encs C → C.map mendR = C → runesI t = C := fun C e h => by rw [e, (runesI_encs C).1, h]
  cases hr : refR nm p (runesI bs) with
  | none =>
    obtain ⟨_, _, h⟩ := whole_none hnm h1 h3 hW hr
    exact ⟨runesI bs, h, runesI_mend bs, ref_none hnm h1 h3 hr, key _ h (runesI_mend bs)⟩
  | some k =>
    obtain ⟨_, h, _⟩ := whole_some hnm h1 h3 hW hr
    have hm : ((runesI bs).take k).map mendR = (runesI bs).take k := by rw [List.map_take, runesI_mend]
    obtain ⟨l1, r, l2, m, i0, i1, i2, i3⟩ := ref_some hnm h1 h3 hr
    refine ⟨(runesI bs).take k, h, hm, ?_, key _ h hm⟩
    have e : l1 = (runesI bs).take k ++ l1.drop k := by
      have : (runesI bs).take k = l1.take k := by rw [i0, List.take_append_of_le_length (by omega)]
      rw [this, List.take_append_drop]
    rw [e] at i1
    exact not_prefix i1
/-- Of the content alone Whole tells the content. -/
theorem content_again {nm : List Int} (hnm : NmOk nm) {p : Nat} (h1 : 1 ≤ p) (h3 : p ≤ 3) {t u : List UInt8} {C : List Int} (ht : t = encs C) (hC : runesI t = C) (h6 : ((s0 p).run nm C).p ≠ 6) {m : Nat} {again : Bool} (hW : WholeIs nm p t u m again) : again = false ∧ m = t.length ∧ u = t := by
  have hr : refR nm p (runesI t) = none := by
    cases e : refR nm p (runesI t) with
    | none => rfl
    | some k =>
      exfalso
      obtain ⟨l1, r, l2, n, i0, i1, i2, i3⟩ := ref_some hnm h1 h3 e
      apply h6
      rw [← hC, i0, show l1 ++ r :: l2 = (l1 ++ [r]) ++ l2 by simp]
      exact over_more (by rw [i2]) _
  obtain ⟨a, b, c⟩ := whole_none hnm h1 h3 hW hr
  exact ⟨a, b, by rw [c, hC, ht]⟩
/-- In RCDATA and raw text no more is held than an end tag has. -/
theorem held_le {nm : List Int} (hnm : NmOk nm) (l : List Int) (h6 : ((s0 2).run nm l).p ≠ 6) : ((s0 2).run nm l).h.length ≤ nm.length + 2 := by
  have hm := main nm hnm l (s0 2) [] [] (s0_pend nm 2 (by omega) (by omega)) rfl
  have hp2 : ∀ s x, Pend nm s x → s.h.length ≤ nm.length + 2 := by
    intro s x h
    cases h with
    | none _ hh _ _ => rw [hh]; simp
    | less _ hh _ _ _ => rw [hh]; simp
    | less5 _ hh _ _ => rw [hh]; simp
    | tag y _ hh hl _ hn _ _ => rw [hh]; simp; omega
    | word4 y _ hh _ _ _ _ _ => rw [hh]; simp
    | word5 y _ hh _ _ _ _ => rw [hh]; simp
    | bang _ hh _ => rw [hh]; simp
    | bangDash _ hh _ => rw [hh]; simp
    | dash _ hh _ _ => rw [hh]; simp
    | twoDashes _ hh _ _ => rw [hh]; simp
  cases hr : refF (decide (2 < (s0 2).p)) nm ((s0 2).p - 3) 0 ([] ++ l) with
  | none =>
    rw [hr] at hm
    obtain ⟨x', base', i1, _⟩ := hm
    exact hp2 _ _ i1
  | some k =>
    rw [hr] at hm
    obtain ⟨l1, r, l2, n, x', base', i0, i1, i2, i3, i4, i5, i6, i7⟩ := hm
    exfalso
    apply h6
    rw [i0, show l1 ++ r :: l2 = (l1 ++ [r]) ++ l2 by simp]
    exact over_more (by rw [i5]) _
/-- No shorter beginning of the text has an end. -/
theorem no_sooner {nm : List Int} {p : Nat} (h1 : 1 ≤ p) (h5 : p ≤ 5) {bs t t' : List UInt8} {n n' k : Nat} {ok' : Bool} (hk : k < n) (hW : WholeIs nm p bs t n true) (hW' : WholeIs nm p (bs.take k) t' n' ok') : ok' = false := by
  cases ok' with
  | false => rfl
  | true =>
    exfalso
    have e1 := whole_place h1 h5 hW
    have hWW := hW
    have hWW' := hW'
    rcases hW with ⟨_, w2, w3, m1, q, w4, w5, w6, _⟩ | ⟨w1, _⟩
    · rcases hW' with ⟨_, v2, v3, l1, r, v4, v5, v6, _⟩ | ⟨v1, _⟩
      · have hn' : n' ≤ k := by simp at v2; omega
        have et : (bs.take k).take n' = bs.take n' := by rw [List.take_take, Nat.min_eq_left hn']
        rw [et] at v3 v4
        have b1 : runesI bs = m1 ++ q :: runesI (bs.drop n) := by
          have := w3 (bs.drop n)
          rw [List.take_append_drop, w4, List.append_assoc] at this
          exact this
        have b2 : runesI bs = l1 ++ r :: runesI (bs.drop n') := by
          have := v3 (bs.drop n')
          rw [List.take_append_drop, v4, List.append_assoc] at this
          exact this
        obtain ⟨rfl, rfl⟩ := first_one b1 b2 w5 w6 v5 v6
        have hW2 : WholeIs nm p bs (encs ((s0 p).run nm (m1 ++ [q])).o) n' true := .inl ⟨rfl, by omega, v3, m1, q, v4, v5, v6, rfl⟩
        have e2 := whole_place h1 h5 hW2
        rw [v4, ← w4, e1] at e2
        omega
      · cases v1
    · cases w1
end Go.Proofs.YtegkdgmpkfpjmaaDoor.R
