/- What is proved here: plain facts: what Whole answers by the machine is what the document's search says; and the examples. -/
import Derived.Test.YtmlklbbfmggbfabDoorBun8
namespace Go.Proofs.YtmlklbbfmggbfabDoor.R
open Go.RowKit Go.Shelf Go.Proofs.YtmlklbbfmggbfabDoor.U Go.Proofs.YtmlklbbfmggbfabDoor.N

theorem s0_pend (nm : List Int) (p : Nat) (h2 : 2 ≤ p) (h3 : p ≤ 3) : Pend nm (s0 p) [] := .none rfl rfl h2 (by simp only [s0]; omega)
/-- The document's search, from the beginning; in plain text nothing ends. -/
def refR (nm : List Int) (p : Nat) (l : List Int) : Option Nat := if p = 1 then none else refF (decide (2 < p)) nm 0 0 l
theorem plain_run (nm : List Int) : ∀ (l : List Int) (s : St), s.p = 1 → s.b = 0 → (s.run nm l).p = 1 ∧ (s.run nm l).b = 0
  | [], s, h1, h2 => ⟨h1, h2⟩
  | r :: l, s, h1, h2 => by
    rw [run_cons]
    have : s.next nm r = { s.tell r 0 with n := 0 } := by
      unfold St.next St.step St.begin
      rw [if_neg (by omega), if_pos h2, if_neg (by omega), if_neg (by omega), if_neg (by omega)]
    rw [this]
    exact plain_run nm l _ h1 rfl
theorem plain_not (nm : List Int) (l : List Int) : ((s0 1).run nm l).p ≠ 6 := by rw [(plain_run nm l (s0 1) rfl rfl).1]; omega
/-- What a search that finds an end says of the machine. -/
theorem ref_some {nm : List Int} (hnm : NmOk nm) {p : Nat} (h1 : 1 ≤ p) (h3 : p ≤ 3) {l : List Int} {k : Nat} (h : refR nm p l = some k) :
    ∃ l1 r l2 n, l = l1 ++ r :: l2 ∧ ((s0 p).run nm l1).p ≠ 6 ∧ (s0 p).run nm (l1 ++ [r]) = ⟨6, 0, n, l.take k, [], r⟩ ∧ l1.length = k + 2 + nm.length := by
  unfold refR at h
  by_cases hp : p = 1
  · rw [if_pos hp] at h; cases h
  · rw [if_neg hp] at h
    have hm := main nm hnm l (s0 p) [] [] (s0_pend nm p (by omega) h3) rfl
    have e0 : (s0 p).p - 3 = 0 := by show p - 3 = 0; omega
    rw [e0, show (s0 p).p = p from rfl, List.nil_append, h] at hm
    obtain ⟨l1, r, l2, n, x', base', i0, i1, i2, i3, i4, i5, i6, i7⟩ := hm
    refine ⟨l1, r, l2, n, i0, pend_ne6 i1, ?_, by simpa using i7⟩
    rw [i5]
    have : base' = l.take k := by
      have hl : base'.length = k := by simpa using i6
      rw [i0, ← hl]
      have : l1 = base' ++ x' := by rw [i3]; simp
      rw [this, List.append_assoc, List.take_left]
    rw [this]
theorem ref_none {nm : List Int} (hnm : NmOk nm) {p : Nat} (h1 : 1 ≤ p) (h3 : p ≤ 3) {l : List Int} (h : refR nm p l = none) : ((s0 p).run nm l).p ≠ 6 := by
  unfold refR at h
  by_cases hp : p = 1
  · subst hp; exact plain_not nm l
  · rw [if_neg hp] at h
    have hm := main nm hnm l (s0 p) [] [] (s0_pend nm p (by omega) h3) rfl
    have e0 : (s0 p).p - 3 = 0 := by show p - 3 = 0; omega
    rw [e0, show (s0 p).p = p from rfl, List.nil_append, h] at hm
    obtain ⟨x', base', i1, _⟩ := hm
    exact pend_ne6 i1
theorem over_more {nm : List Int} {s : St} {a : List Int} (h : (s.run nm a).p = 6) (b : List Int) : (s.run nm (a ++ b)).p = 6 := by rw [run_append, run_over nm _ h]; exact h
/-- Two beginnings with which a content first ends are one. -/
theorem first_one {nm : List Int} {s : St} {l l1 l2 m1 m2 : List Int} {r q : Int} (hl : l = l1 ++ r :: l2) (hm : l = m1 ++ q :: m2) (a1 : (s.run nm l1).p ≠ 6) (a2 : (s.run nm (l1 ++ [r])).p = 6) (b1 : (s.run nm m1).p ≠ 6) (b2 : (s.run nm (m1 ++ [q])).p = 6) : l1 = m1 ∧ r = q := by
  have pl : ∀ n, n ≤ l1.length → l1.take n = l.take n := fun n hn => by rw [hl, List.take_append_of_le_length hn]
  have pm : ∀ n, n ≤ m1.length → m1.take n = l.take n := fun n hn => by rw [hm, List.take_append_of_le_length hn]
  have ql : l1 ++ [r] = l.take (l1.length + 1) := by rw [hl, show l1 ++ r :: l2 = (l1 ++ [r]) ++ l2 by simp, List.take_left' (by simp)]
  have qm : m1 ++ [q] = l.take (m1.length + 1) := by rw [hm, show m1 ++ q :: m2 = (m1 ++ [q]) ++ m2 by simp, List.take_left' (by simp)]
  rcases Nat.lt_trichotomy l1.length m1.length with h | h | h
  · exfalso
    apply b1
    rw [← List.take_append_drop (l1.length + 1) m1, pm _ (by omega), ← ql]
    exact over_more a2 _
  · have : l1 ++ [r] = m1 ++ [q] := by rw [ql, qm, h]
    exact ⟨(List.append_inj' this rfl).1, by simpa using (List.append_inj' this rfl).2⟩
  · exfalso
    apply a1
    rw [← List.take_append_drop (m1.length + 1) l1, pl _ (by omega), ← qm]
    exact over_more b2 _
/-- **Where the document's search finds an end, Whole tells it.** -/
theorem whole_some {nm : List Int} (hnm : NmOk nm) {p : Nat} (h1 : 1 ≤ p) (h3 : p ≤ 3) {bs t : List UInt8} {n : Nat} {ok : Bool} (hW : WholeIs nm p bs t n ok) {k : Nat} (h : refR nm p (runesI bs) = some k) :
    ok = true ∧ t = encs ((runesI bs).take k) ∧ n ≤ bs.length ∧ Cut (bs.take n) ∧ (runesI (bs.take n)).length = k + 3 + nm.length := by
  obtain ⟨l1, r, l2, m, i0, i1, i2, i3⟩ := ref_some hnm h1 h3 h
  rcases hW with ⟨w1, w2, w3, m1, q, w4, w5, w6, w7⟩ | ⟨w1, w2, w3, w4⟩
  · have hb : runesI bs = m1 ++ q :: runesI (bs.drop n) := by
      have := w3 (bs.drop n)
      rw [List.take_append_drop, w4, List.append_assoc] at this
      exact this
    obtain ⟨rfl, rfl⟩ := first_one i0 hb i1 (by rw [i2]) w5 w6
    refine ⟨w1, ?_, w2, w3, by rw [w4]; simp; omega⟩
    rw [w7, i2]
  · exfalso
    apply w3
    have := over_more (nm := nm) (s := s0 p) (a := l1 ++ [r]) (by rw [i2]) l2
    rw [List.append_assoc] at this
    rw [i0]; exact this
/-- **Where it finds none, Whole tells none.** -/
theorem whole_none {nm : List Int} (hnm : NmOk nm) {p : Nat} (h1 : 1 ≤ p) (h3 : p ≤ 3) {bs t : List UInt8} {n : Nat} {ok : Bool} (hW : WholeIs nm p bs t n ok) (h : refR nm p (runesI bs) = none) :
    ok = false ∧ n = bs.length ∧ t = encs (runesI bs) := by
  have hn := ref_none hnm h1 h3 h
  rcases hW with ⟨w1, w2, w3, m1, q, w4, w5, w6, w7⟩ | ⟨w1, w2, w3, w4⟩
  · exfalso
    apply hn
    have := w3 (bs.drop n)
    rw [List.take_append_drop, w4] at this
    rw [this]
    exact over_more w6 _
  · exact ⟨w1, w2, w4⟩
end Go.Proofs.YtmlklbbfmggbfabDoor.R
