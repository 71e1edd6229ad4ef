/- What is proved here: plain facts on cells: their numbers alone, read off runes with their places. -/
import Derived.Test.YtjhoaepokkaoeaaDoorMathI
namespace Go.Proofs.YtjhoaepokkaoeaaDoor.U

/-- The same, with no word on what the numbers are. -/
structure Cn where
  r : Nat
  y : Nat
  l : Nat
  c : Nat
structure Sn where
  last : Nat
  y : Nat
  l : Nat
  c : Nat
  out : List Cn
def Cl.n (x : Cl) : Cn := ⟨x.r, x.y, x.l, x.c⟩
def St.n (s : St) : Sn := ⟨s.last, s.y, s.l, s.c, s.out.map Cl.n⟩
def stepN (fr : Nat) (st : Sn) (x : Nat × Nat) : Sn :=
  if st.last = 13 ∧ x.2 = 10 then { st with last := x.2 }
  else { last := x.2, y := fr + x.1, l := if plainN x.2 = 10 then st.l + 1 else st.l, c := if plainN x.2 = 10 then 1 else st.c + 1,
         out := st.out ++ [⟨plainN x.2, fr + x.1, st.l, st.c⟩] }
def readN (y l c : Nat) (ts : List (Nat × Nat)) : Sn := ts.foldl (stepN y) ⟨0, y, l, c, []⟩
theorem step_n (fr : Nat) (st : St) (x : Tok) : (stepT fr st x).n = stepN fr st.n x.1 := by
  unfold stepT stepN joined
  by_cases h : st.last = 13 ∧ x.1.2 = 10
  · rw [if_pos (by simp only [decide_eq_true_eq]; exact h), if_pos (show st.n.last = 13 ∧ x.1.2 = 10 from h)]; rfl
  · rw [if_neg (by simp only [decide_eq_true_eq]; exact h), if_neg (show ¬ (st.n.last = 13 ∧ x.1.2 = 10) from h)]; simp [St.n, Cl.n]
theorem fold_n (y : Nat) (ts : List Tok) : ∀ s : St, (ts.foldl (stepT y) s).n = (ts.map Subtype.val).foldl (stepN y) s.n := by
  induction ts with
  | nil => intro s; rfl
  | cons x ts ih => intro s; simp only [List.foldl_cons, List.map_cons]; rw [ih, step_n]
theorem readT_n (y l c : Nat) (ts : List Tok) : (readT y l c ts).n = readN y l c (ts.map Subtype.val) := fold_n y ts _
/-- The cells of bytes. -/
def cellsOf (bs : List UInt8) : List Cn := (readN 0 1 1 (toks bs)).out
theorem readT_cells {y l c : Nat} {ts : List Tok} {bs : List UInt8} (h : ts.map Subtype.val = toks bs) : (readT y l c ts).out.map Cl.n = (readN y l c (toks bs)).out := by
  have := readT_n y l c ts
  rw [h] at this
  exact congrArg Sn.out this
theorem readT_l {y l c : Nat} {ts : List Tok} {bs : List UInt8} (h : ts.map Subtype.val = toks bs) : (readT y l c ts).l = (readN y l c (toks bs)).l ∧ (readT y l c ts).c = (readN y l c (toks bs)).c := by
  have := readT_n y l c ts
  rw [h] at this
  exact ⟨congrArg Sn.l this, congrArg Sn.c this⟩

end Go.Proofs.YtjhoaepokkaoeaaDoor.U
