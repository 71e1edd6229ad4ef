/- What is proved here: a link's parts as lists of bytes: parted, by the document's words and by the program's, and joined. -/
import Derived.Test.YtkbegfdbfmfedaaGreatDoorBun10
namespace Go.Proofs.YtkbegfdbfmfedaaGreatDoor.L
open Go.RowKit Go.Shelf Go.Proofs.YtkbegfdbfmfedaaGreatDoor.N Go.Proofs.YtkbegfdbfmfedaaGreatDoor.U

theorem upToL_nil (so : List UInt8) : upToL so [] = 0 := rfl
theorem upToL_cons (so : List UInt8) (c : UInt8) (t : List UInt8) : upToL so (c :: t) = if so.contains c then 0 else upToL so t + 1 := by
  unfold upToL
  rw [List.takeWhile_cons]
  cases so.contains c <;> simp
theorem upToL_app (so : List UInt8) : ∀ (X Y : List UInt8), (∀ c ∈ X, so.contains c = false) → upToL so (X ++ Y) = X.length + upToL so Y
  | [], Y, _ => by simp
  | c :: t, Y, h => by
    rw [List.cons_append, upToL_cons, h c (by simp), upToL_app so t Y (fun d hd => h d (by simp [hd]))]
    simp; omega
theorem upToL_all (so X : List UInt8) (h : ∀ c ∈ X, so.contains c = false) : upToL so X = X.length := by
  have := upToL_app so X [] h
  rw [List.append_nil] at this
  rw [this]; rfl
/-- Cut at the first byte of some kind. -/
theorem upToL_cut (so : List UInt8) : ∀ (s : List UInt8), (∀ c ∈ s.take (upToL so s), so.contains c = false) ∧ (s.drop (upToL so s) = [] ∨ ∃ c t, s.drop (upToL so s) = c :: t ∧ so.contains c = true)
  | [] => ⟨by simp, .inl (by simp)⟩
  | c :: t => by
    rw [upToL_cons]
    cases h : so.contains c with
    | true => exact ⟨by simp, .inr ⟨c, t, by simp, h⟩⟩
    | false =>
      obtain ⟨h1, h2⟩ := upToL_cut so t
      refine ⟨fun d hd => ?_, ?_⟩
      · simp only [Bool.false_eq_true, if_false, List.take_succ_cons, List.mem_cons] at hd
        rcases hd with rfl | hd
        · exact h
        · exact h1 d hd
      · simpa using h2
/-- What is left of a stripped text behind its scheme: what stands ahead of the query and the fragment, the query with its mark, the fragment with its. -/
structure Three (r B Q F : List UInt8) : Prop where
  all : r = B ++ (Q ++ F)
  noB : ∀ c ∈ B, ((63 : UInt8) == c) = false ∧ ((35 : UInt8) == c) = false
  noQ : ∀ c ∈ Q, ((35 : UInt8) == c) = false
  isQ : Q = [] ∨ ∃ q, Q = 63 :: q
  isF : F = [] ∨ ∃ f, F = 35 :: f
theorem three (r : List UInt8) : ∃ B Q F, Three r B Q F ∧ B ++ Q = r.take (upToL [35] r) ∧ F = r.drop (upToL [35] r) ∧ B = (B ++ Q).take (upToL [63] (B ++ Q)) ∧ Q = (B ++ Q).drop (upToL [63] (B ++ Q)) := by
  obtain ⟨h1, h2⟩ := upToL_cut [35] r
  obtain ⟨A, hA⟩ : ∃ A, r.take (upToL [35] r) = A := ⟨_, rfl⟩
  obtain ⟨F, hF⟩ : ∃ F, r.drop (upToL [35] r) = F := ⟨_, rfl⟩
  have e : r = A ++ F := by rw [← hA, ← hF, List.take_append_drop]
  rw [hA] at h1
  rw [hF] at h2
  obtain ⟨g1, g2⟩ := upToL_cut [63] A
  obtain ⟨B, hB⟩ : ∃ B, A.take (upToL [63] A) = B := ⟨_, rfl⟩
  obtain ⟨Q, hQ⟩ : ∃ Q, A.drop (upToL [63] A) = Q := ⟨_, rfl⟩
  have e2 : A = B ++ Q := by rw [← hB, ← hQ, List.take_append_drop]
  rw [hB] at g1
  rw [hQ] at g2
  have n35 : ∀ c ∈ A, ((35 : UInt8) == c) = false := fun c hc => by
    have := h1 c hc
    simp at this ⊢
    exact fun e => this e.symm
  have n63 : ∀ c ∈ B, ((63 : UInt8) == c) = false := fun c hc => by
    have := g1 c hc
    simp at this ⊢
    exact fun e => this e.symm
  refine ⟨B, Q, F, ⟨?_, ?_, ?_, ?_, ?_⟩, ?_, ?_, ?_, ?_⟩
  · rw [e, e2, List.append_assoc]
  · exact fun c hc => ⟨n63 c hc, n35 c (by rw [e2]; simp [hc])⟩
  · exact fun c hc => n35 c (by rw [e2]; simp [hc])
  · rcases g2 with h | ⟨c, t, h, hc⟩
    · exact .inl h
    · simp at hc; subst hc; exact .inr ⟨t, h⟩
  · rcases h2 with h | ⟨c, t, h, hc⟩
    · exact .inl h
    · simp at hc; subst hc; exact .inr ⟨t, h⟩
  · rw [hA, e2]
  · exact hF.symm
  · rw [← e2]; exact hB.symm
  · rw [← e2]; exact hQ.symm
/-- A link's parts. -/
structure Lk where
  sc : List UInt8
  ho : List UInt8
  pa : List UInt8
  qu : List UInt8
  fr : List UInt8
  hs : Bool
  hh : Bool
  hq : Bool
  hf : Bool
/-- What is told ahead of the query: is there a host, which, and the path. -/
def hostK : List UInt8 → Bool × List UInt8 × List UInt8
  | c :: d :: C => if c == 47 && d == 47 then (true, C.take (upToL [47] C), C.drop (upToL [47] C)) else (false, [], c :: d :: C)
  | B => (false, [], B)
/-- What stands behind the scheme of a stripped text. -/
def restK (s : List UInt8) : List UInt8 := match colonL s with | some n => s.drop (n + 1) | none => s
def aheadK (r : List UInt8) : List UInt8 := r.take (upToL [35] r)
def splitK (s : List UInt8) : Lk where
  sc := match colonL s with | some n => lower (s.take n) | none => []
  hs := (colonL s).isSome
  fr := (restK s).drop (upToL [35] (restK s) + 1)
  hf := decide (upToL [35] (restK s) < (restK s).length)
  qu := (aheadK (restK s)).drop (upToL [63] (aheadK (restK s)) + 1)
  hq := decide (upToL [63] (aheadK (restK s)) < (aheadK (restK s)).length)
  hh := (hostK ((aheadK (restK s)).take (upToL [63] (aheadK (restK s))))).1
  ho := (hostK ((aheadK (restK s)).take (upToL [63] (aheadK (restK s))))).2.1
  pa := (hostK ((aheadK (restK s)).take (upToL [63] (aheadK (restK s))))).2.2
/-- The parts, by what stands ahead of the query, the query with its mark and the fragment with its. -/
def threeK (s B Q F : List UInt8) : Lk where
  sc := match colonL s with | some n => lower (s.take n) | none => []
  hs := (colonL s).isSome
  fr := F.drop 1
  hf := decide (0 < F.length)
  qu := Q.drop 1
  hq := decide (0 < Q.length)
  hh := (hostK B).1
  ho := (hostK B).2.1
  pa := (hostK B).2.2
theorem split_three (s : List UInt8) : ∃ B Q F, Three (restK s) B Q F ∧ splitK s = threeK s B Q F := by
  obtain ⟨B, Q, F, h, h1, h2, h3, h4⟩ := three (restK s)
  refine ⟨B, Q, F, h, ?_⟩
  have hA : aheadK (restK s) = B ++ Q := h1.symm
  unfold splitK threeK
  rw [hA, ← h3]
  congr 1
  · have : (B ++ Q).drop (upToL [63] (B ++ Q) + 1) = ((B ++ Q).drop (upToL [63] (B ++ Q))).drop 1 := by rw [List.drop_drop]
    rw [this, ← h4]
  · have : (restK s).drop (upToL [35] (restK s) + 1) = ((restK s).drop (upToL [35] (restK s))).drop 1 := by rw [List.drop_drop]
    rw [this, ← h2]
  · have e := congrArg List.length h4
    rw [List.length_drop] at e
    rw [decide_eq_decide]
    omega
  · have e := congrArg List.length h2
    rw [List.length_drop] at e
    rw [decide_eq_decide]
    omega
theorem in63 {so : List UInt8} {c : UInt8} (h : ∀ d ∈ so, (d == c) = false) : so.contains c = false := by
  rw [List.contains_eq_mem, decide_eq_false_iff_not]
  intro hm
  have := h c hm
  simp at this
theorem stop_at (so : List UInt8) (Y : List UInt8) (h : Y = [] ∨ ∃ c t, Y = c :: t ∧ so.contains c = true) : upToL so Y = 0 := by
  rcases h with rfl | ⟨c, t, rfl, h⟩
  · rfl
  · rw [upToL_cons, h]; rfl
theorem Three.tail {r B Q F : List UInt8} (h : Three r B Q F) : Q ++ F = [] ∨ ∃ c t, Q ++ F = c :: t ∧ (c = 63 ∨ c = 35) := by
  rcases h.isQ with e | ⟨q, e⟩ <;> rcases h.isF with e' | ⟨f, e'⟩ <;> subst e <;> subst e'
  · exact .inl rfl
  · exact .inr ⟨35, f, rfl, .inr rfl⟩
  · exact .inr ⟨63, q ++ [], rfl, .inl rfl⟩
  · exact .inr ⟨63, q ++ 35 :: f, rfl, .inl rfl⟩
/-- Where the path ends. -/
theorem Three.path {r B Q F : List UInt8} (h : Three r B Q F) (P : List UInt8) (hP : ∀ c ∈ P, c ∈ B) : upToL [63, 35] (P ++ (Q ++ F)) = P.length := by
  rw [upToL_app _ P _ (fun c hc => in63 (fun d hd => by
    have := h.noB c (hP c hc)
    simp only [List.mem_cons, List.not_mem_nil, or_false] at hd
    rcases hd with rfl | rfl
    · exact this.1
    · exact this.2)), stop_at _ _ (by
    rcases h.tail with e | ⟨c, t, e, hc⟩
    · exact .inl e
    · exact .inr ⟨c, t, e, by rcases hc with rfl | rfl <;> decide⟩)]
  rfl
/-- Where the host ends. -/
theorem Three.host {r B Q F : List UInt8} (h : Three r B Q F) (C : List UInt8) (hC : ∀ c ∈ C, c ∈ B) : upToL [47, 63, 35] (C ++ (Q ++ F)) = upToL [47] C := by
  obtain ⟨h1, h2⟩ := upToL_cut [47] C
  have hle : (C.take (upToL [47] C)).length = upToL [47] C := by have := upToL_le [47] C; rw [List.length_take]; omega
  have e0 : C.take (upToL [47] C) ++ C.drop (upToL [47] C) = C := List.take_append_drop _ _
  rw [← hle]
  generalize C.take (upToL [47] C) = H at *
  generalize C.drop (upToL [47] C) = P at *
  subst e0
  rw [List.append_assoc, upToL_app _ _ _ (fun c hc => in63 (fun d hd => by
    have h0 := h1 c hc
    have := h.noB c (hC c (by simp [hc]))
    simp only [List.mem_cons, List.not_mem_nil, or_false] at hd
    rcases hd with rfl | rfl | rfl
    · simp at h0 ⊢; exact fun e => h0 e.symm
    · exact this.1
    · exact this.2)), stop_at _ _ (by
    rcases h2 with e | ⟨c, t, e, hc⟩
    · rw [e, List.nil_append]
      rcases h.tail with e | ⟨c, t, e, hc⟩
      · exact .inl e
      · exact .inr ⟨c, t, e, by rcases hc with rfl | rfl <;> decide⟩
    · refine .inr ⟨c, t ++ (Q ++ F), by rw [e]; rfl, ?_⟩
      simp at hc; subst hc; decide)]
  rfl
/-- Where the query ends. -/
theorem Three.query {r B F q : List UInt8} (h : Three r B (63 :: q) F) : upToL [35] (63 :: (q ++ F)) = q.length + 1 := by
  have := upToL_app [35] (63 :: q) F (fun c hc => in63 (fun d hd => by
    simp only [List.mem_cons, List.not_mem_nil, or_false] at hd
    subst hd
    exact h.noQ c hc))
  rw [List.cons_append] at this
  rw [this, stop_at _ _ (by
    rcases h.isF with e | ⟨f, e⟩
    · exact .inl e
    · exact .inr ⟨35, f, e, by decide⟩)]
  rfl
/-- Parts joined. -/
def joinK (l : Lk) : List UInt8 := (if l.hs then l.sc ++ [58] else []) ++ ((if l.hh then 47 :: 47 :: l.ho else []) ++ (l.pa ++ ((if l.hq then 63 :: l.qu else []) ++ if l.hf then 35 :: l.fr else [])))
theorem host_join (B : List UInt8) : (if (hostK B).1 then 47 :: 47 :: (hostK B).2.1 else []) ++ (hostK B).2.2 = B := by
  unfold hostK
  split
  · next c d C =>
    cases h : (c == 47 && d == 47) with
    | true =>
      simp at h
      obtain ⟨rfl, rfl⟩ := h
      simp
    | false => simp
  · simp
theorem join_three {s B Q F : List UInt8} (h : Three (restK s) B Q F) : joinK (threeK s B Q F) = (match colonL s with | some n => lower (s.take n) ++ [58] | none => []) ++ restK s := by
  have e := host_join B
  unfold joinK threeK
  simp only
  rw [h.all, ← List.append_assoc (if (hostK B).1 = true then _ else _), e]
  have e1 : (if decide (0 < Q.length) = true then 63 :: Q.drop 1 else []) = Q := by
    rcases h.isQ with e | ⟨q, e⟩ <;> subst e <;> rfl
  have e2 : (if decide (0 < F.length) = true then 35 :: F.drop 1 else []) = F := by
    rcases h.isF with e | ⟨q, e⟩ <;> subst e <;> rfl
  rw [e1, e2]
  cases colonL s <;> rfl

def Lk.v (l : Lk) : Value := .agg #[.string ⟨l.sc.toArray⟩, .string ⟨l.ho.toArray⟩, .string ⟨l.pa.toArray⟩, .string ⟨l.qu.toArray⟩, .string ⟨l.fr.toArray⟩, .bool l.hs, .bool l.hh, .bool l.hq, .bool l.hf]
end Go.Proofs.YtkbegfdbfmfedaaGreatDoor.L
