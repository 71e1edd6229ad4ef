/- What is proved here: plain facts on cells: the document's way to read them (looking one rune ahead) and the program's (keeping the last rune) are one. -/
import Derived.Test.YtjhoaepokkaoeaaDoorMathJ
namespace Go.Proofs.YtjhoaepokkaoeaaDoor.U

/-- The document's cells of runes with their places, from a line and a column on. -/
def refN (l c : Nat) : List (Nat × Nat) → List Cn
  | [] => []
  | [(p, r)] => [⟨plainN r, p, l, c⟩]
  | (p, r) :: (q, s) :: ts =>
    if r = 13 ∧ s = 10 then ⟨plainN s, p, l, c⟩ :: refN (l + 1) 1 ts
    else ⟨plainN r, p, l, c⟩ :: refN (if plainN r = 10 then l + 1 else l) (if plainN r = 10 then 1 else c + 1) ((q, s) :: ts)
theorem plain_13 : plainN 13 = 10 := by decide
theorem plain_10 : plainN 10 = 10 := by decide
theorem stepN_not (s : Sn) (x : Nat × Nat) (h : ¬ (s.last = 13 ∧ x.2 = 10)) : stepN 0 s x = ⟨x.2, x.1, if plainN x.2 = 10 then s.l + 1 else s.l, if plainN x.2 = 10 then 1 else s.c + 1, s.out ++ [⟨plainN x.2, x.1, s.l, s.c⟩]⟩ := by
  unfold stepN
  rw [if_neg h]
  simp
theorem fold_ref : ∀ (n : Nat) (ts : List (Nat × Nat)), ts.length ≤ n → ∀ s : Sn, (s.last ≠ 13 ∨ ∀ x, ts.head? = some x → x.2 ≠ 10) → (ts.foldl (stepN 0) s).out = s.out ++ refN s.l s.c ts
  | _, [], _, s, _ => by simp [refN]
  | n + 1, [(p, r)], _, s, h => by
    have hn : ¬ (s.last = 13 ∧ r = 10) := fun ⟨a, b⟩ => h.elim (fun h => h a) (fun h => h (p, r) rfl b)
    simp only [List.foldl_cons, List.foldl_nil]
    rw [stepN_not s (p, r) hn]
    simp [refN]
  | n + 1, (p, r) :: (q, t) :: ts, hl, s, h => by
    have hn : ¬ (s.last = 13 ∧ r = 10) := fun ⟨a, b⟩ => h.elim (fun h => h a) (fun h => h (p, r) rfl b)
    simp only [List.length_cons] at hl
    rw [List.foldl_cons, stepN_not s (p, r) hn]
    by_cases hj : r = 13 ∧ t = 10
    · obtain ⟨rfl, rfl⟩ := hj
      rw [List.foldl_cons]
      have e : stepN 0 ⟨13, p, if plainN 13 = 10 then s.l + 1 else s.l, if plainN 13 = 10 then 1 else s.c + 1, s.out ++ [⟨plainN 13, p, s.l, s.c⟩]⟩ (q, 10) = ⟨10, p, s.l + 1, 1, s.out ++ [⟨plainN 13, p, s.l, s.c⟩]⟩ := by
        unfold stepN
        rw [if_pos ⟨rfl, rfl⟩]
        simp [plain_13]
      rw [e, fold_ref n ts (by omega) _ (.inl (by simp))]
      simp [refN, plain_13, plain_10]
    · rw [fold_ref n ((q, t) :: ts) (by simp only [List.length_cons]; omega) _ (by
        by_cases hr : r = 13
        · exact .inr (fun x hx => by simp at hx; subst hx; exact fun ht => hj ⟨hr, ht⟩)
        · exact .inl hr)]
      simp only [refN, if_neg hj, List.append_assoc, List.singleton_append]
/-- **Both ways are one.** -/
theorem cells_ref (bs : List UInt8) : cellsOf bs = refN 1 1 (toks bs) := by
  have := fold_ref (toks bs).length (toks bs) (Nat.le_refl _) ⟨0, 0, 1, 1, []⟩ (.inl (by simp))
  simpa [cellsOf, readN] using this

end Go.Proofs.YtjhoaepokkaoeaaDoor.U
