/- What is proved here: a link with its backslashes turned ahead of its query and its fragment, as lists; escaped once, a text stays. -/
import Derived.Test.YtjhmphokmmmoaaaDoorLkBackM
import Derived.Test.YtjhmphokmmmoaaaDoorLkEncM
namespace Go.Proofs.YtjhmphokmmmoaaaDoor.L
open Go.RowKit Go.Shelf Go.Proofs.YtjhmphokmmmoaaaDoor.N Go.Proofs.YtjhmphokmmmoaaaDoor.U

def slC (c : UInt8) : UInt8 := if c == 92 then 47 else c
/-- Each backslash as a slash, up to the query or the fragment. -/
def slL : List UInt8 → List UInt8
  | [] => []
  | c :: t => if c == 63 || c == 35 then c :: t else slC c :: slL t
theorem slL_length : ∀ s : List UInt8, (slL s).length = s.length
  | [] => rfl
  | c :: t => by
    unfold slL
    split
    · rfl
    · simp [slL_length t]
/-- What is neither ? nor # nor a backslash is passed over. -/
theorem slL_app : ∀ (x r : List UInt8), (∀ c ∈ x, (c == 63) = false ∧ (c == 35) = false ∧ (c == 92) = false) → slL (x ++ r) = x ++ slL r
  | [], _, _ => rfl
  | c :: t, r, h => by
    obtain ⟨h1, h2, h3⟩ := h c (by simp)
    rw [List.cons_append]
    show (if (c == 63 || c == 35) = true then c :: (t ++ r) else slC c :: slL (t ++ r)) = _
    rw [if_neg (by rw [h1, h2]; decide), slL_app t r (fun d hd => h d (by simp [hd]))]
    have e : slC c = c := by unfold slC; rw [if_neg (by rw [h3]; decide)]
    rw [e]
    rfl
theorem slL_eq : ∀ s : List UInt8, slL s = (s.take (upToL [63, 35] s)).map slC ++ s.drop (upToL [63, 35] s)
  | [] => rfl
  | c :: t => by
    rw [upToL_cons]
    unfold slL
    have hc : [63, 35].contains c = (c == 63 || c == 35) := by simp only [List.contains_cons, List.contains_nil, Bool.or_false]
    rw [hc]
    cases h : (c == 63 || c == 35) with
    | true => simp
    | false =>
      simp only [Bool.false_eq_true, if_false, List.take_succ_cons, List.drop_succ_cons, List.map_cons, List.cons_append]
      rw [slL_eq t]
/-- Byte by byte, as the document goes. -/
theorem slL_at : ∀ (s : List UInt8) (i : Nat), i < s.length → (slL s).getD i 0 = if (s.getD i 0 == 92) && decide (i < upToL [63, 35] s) then 47 else s.getD i 0
  | [], _, h => by simp at h
  | c :: t, i, h => by
    rw [upToL_cons]
    have hc : [63, 35].contains c = (c == 63 || c == 35) := by simp only [List.contains_cons, List.contains_nil, Bool.or_false]
    rw [hc]
    unfold slL
    cases hq : (c == 63 || c == 35) with
    | true => simp
    | false =>
      simp only [Bool.false_eq_true, if_false]
      cases i with
      | zero =>
        simp only [List.getD_cons_zero]
        unfold slC
        cases (c == 92) <;> simp
      | succ i =>
        simp only [List.getD_cons_succ]
        rw [slL_at t i (by simpa using h)]
        have : decide (i + 1 < upToL [63, 35] t + 1) = decide (i < upToL [63, 35] t) := by rw [decide_eq_decide]; omega
        rw [this]
theorem inner_turn (c : UInt8) : (!innerC c || (!(c == 63) && !(c == 35) && !(c == 92) && !(lowB c == 63) && !(lowB c == 35) && !(lowB c == 92))) = true :=
  byte_all (fun c => !innerC c || (!(c == 63) && !(c == 35) && !(c == 92) && !(lowB c == 63) && !(lowB c == 35) && !(lowB c == 92))) (by decide +kernel) c
/-- A scheme in small letters ahead of what is turned. -/
theorem slL_scheme {x r : List UInt8} (h : ∀ c ∈ x, innerC c = true) : slL (lower x ++ r) = lower x ++ slL r := by
  refine slL_app _ _ (fun c hc => ?_)
  obtain ⟨d, hd, rfl⟩ := List.mem_map.1 hc
  have := inner_turn d
  rw [h d hd] at this
  simp at this
  obtain ⟨⟨⟨_, h1⟩, h2⟩, h3⟩ := this
  exact ⟨by simpa using h1, by simpa using h2, by simpa using h3⟩
theorem hexD_hex : ∀ n, n < 16 → hexC (hexD n) = true := by decide +kernel
theorem hexL_two (c a b : UInt8) (t : List UInt8) (ha : hexC a = true) (hb : hexC b = true) : hexL (c :: a :: b :: t) 0 = true := by
  unfold hexL
  simp [ha, hb]
theorem hexL_open {c : UInt8} {t : List UInt8} (h : hexL (c :: t) 0 = true) : ∃ a b u, t = a :: b :: u ∧ hexC a = true ∧ hexC b = true := by
  unfold hexL at h
  simp only [Bool.and_eq_true, decide_eq_true_eq] at h
  obtain ⟨⟨h1, h2⟩, h3⟩ := h
  match t, h1 with
  | a :: b :: u, _ => exact ⟨a, b, u, rfl, h2, h3⟩
  | [_], h1 => simp at h1
  | [], h1 => simp at h1
/-- Escaped once, a text stays. -/
theorem enc_again : ∀ s : List UInt8, encS (encS s) = encS s
  | [] => rfl
  | c :: t => by
    have ih := enc_again t
    have hcl := c.toNat_lt
    have e : encS (c :: t) = (if badC (c :: t) 0 c then escC c else [c]) ++ encS t := rfl
    rw [e]
    cases hb : badC (c :: t) 0 c with
    | true =>
      rw [if_pos rfl]
      have h1 := hexD_hex (c.toNat / 16) (by omega)
      have h2 := hexD_hex (c.toNat % 16) (by omega)
      have e2 : escC c ++ encS t = 37 :: hexD (c.toNat / 16) :: hexD (c.toNat % 16) :: encS t := rfl
      rw [e2]
      generalize hexD (c.toNat / 16) = a at h1
      generalize hexD (c.toNat % 16) = b at h2
      have nb : badC (37 :: a :: b :: encS t) 0 37 = false := by
        unfold badC bad0
        rw [hexL_two 37 a b _ h1 h2]
        decide
      have e3 : encS (37 :: a :: b :: encS t) = (if badC (37 :: a :: b :: encS t) 0 37 then escC 37 else [37]) ++ encS (a :: b :: encS t) := rfl
      rw [e3, nb, if_neg (by decide), encS_hex a _ h1, encS_hex b _ h2, ih]
      rfl
    | false =>
      rw [if_neg (by decide)]
      have e2 : [c] ++ encS t = c :: encS t := rfl
      rw [e2]
      have nb : badC (c :: encS t) 0 c = false := by
        unfold badC bad0 at hb ⊢
        simp only [Bool.or_eq_false_iff] at hb ⊢
        obtain ⟨⟨⟨b1, b2⟩, b3⟩, b4⟩ := hb
        refine ⟨⟨⟨b1, b2⟩, ?_⟩, b4⟩
        cases hc : (c == 37) with
        | false => rfl
        | true =>
          rw [hc] at b3
          have hx : hexL (c :: t) 0 = true := by simpa using b3
          obtain ⟨a, b, u, rfl, ha, hbb⟩ := hexL_open hx
          rw [encS_hex a _ ha, encS_hex b _ hbb, hexL_two c a b _ ha hbb]
          rfl
      have e3 : encS (c :: encS t) = (if badC (c :: encS t) 0 c then escC c else [c]) ++ encS (encS t) := rfl
      rw [e3, nb, if_neg (by decide), ih]
      rfl
theorem inner_good (c : UInt8) : (!(innerC c || c == 58) || (!lowC c && !decide (127 ≤ c.toNat) && !(c == 37) && !marks.contains c)) = true :=
  byte_all (fun c => !(innerC c || c == 58) || (!lowC c && !decide (127 ≤ c.toNat) && !(c == 37) && !marks.contains c)) (by decide +kernel) c
/-- What may stand in a scheme, and its colon, is never escaped. -/
theorem good_not {c : UInt8} (h : (innerC c || c == 58) = true) (s : List UInt8) : badC s 0 c = false := by
  have := inner_good c
  rw [h] at this
  simp only [Bool.not_true, Bool.false_or, Bool.and_eq_true, Bool.not_eq_true'] at this
  obtain ⟨⟨⟨h1, h2⟩, h3⟩, h4⟩ := this
  unfold badC bad0
  rw [h1, h2, h3, h4]
  rfl
theorem encS_inner : ∀ (x r : List UInt8), (∀ c ∈ x, (innerC c || c == 58) = true) → encS (x ++ r) = x ++ encS r
  | [], _, _ => rfl
  | c :: t, r, h => by
    have e : encS (c :: (t ++ r)) = (if badC (c :: (t ++ r)) 0 c then escC c else [c]) ++ encS (t ++ r) := rfl
    rw [List.cons_append, e, good_not (h c (by simp)), if_neg (by decide), encS_inner t r (fun d hd => h d (by simp [hd]))]
    rfl
theorem slL_same : ∀ s : List UInt8, (∀ c ∈ s, (c == 92) = false) → slL s = s
  | [], _ => rfl
  | c :: t, h => by
    have hc := h c (by simp)
    show (if (c == 63 || c == 35) = true then c :: t else slC c :: slL t) = _
    split
    · rfl
    · rw [slL_same t (fun d hd => h d (by simp [hd]))]
      unfold slC
      rw [if_neg (by rw [hc]; decide)]
/-- A scheme's signs that come out were there. -/
theorem scheme_back : ∀ (X R s : List UInt8), encS (slL s) = X ++ 58 :: R → (∀ c ∈ X, innerC c = true) → ∃ R', s = X ++ 58 :: R'
  | X, R, [], h, _ => by
    have h' : ([] : List UInt8) = X ++ 58 :: R := h
    cases X <;> simp at h'
  | X, R, c :: t, h, hX => by
    -- what comes out first
    have key : ∀ (d : UInt8) (u : List UInt8), X ++ 58 :: R = d :: u → (innerC d || d == 58) = true := fun d u e => by
      cases X with
      | nil =>
        rw [List.nil_append] at e
        obtain ⟨rfl, _⟩ := List.cons.inj e
        decide
      | cons x X' =>
        rw [List.cons_append] at e
        obtain ⟨rfl, _⟩ := List.cons.inj e
        rw [hX _ (by simp)]; rfl
    have n37 : (innerC 37 || (37 : UInt8) == 58) = false := by decide
    have n63 : ∀ d : UInt8, (d == 63 || d == 35) = true → (innerC d || d == 58) = false := fun d hd => by
      simp at hd
      rcases hd with rfl | rfl <;> decide
    have sl : slL (c :: t) = if (c == 63 || c == 35) = true then c :: t else slC c :: slL t := rfl
    rw [sl] at h
    split at h
    · rename_i hq
      have e : encS (c :: t) = (if badC (c :: t) 0 c then escC c else [c]) ++ encS t := rfl
      rw [e] at h
      split at h
      · have := key 37 _ h.symm
        rw [n37] at this; cases this
      · have := key c _ h.symm
        rw [n63 c hq] at this; cases this
    · have e : encS (slC c :: slL t) = (if badC (slC c :: slL t) 0 (slC c) then escC (slC c) else [slC c]) ++ encS (slL t) := rfl
      rw [e] at h
      split at h
      · have := key 37 _ h.symm
        rw [n37] at this; cases this
      · have hk := key (slC c) _ h.symm
        have hc : slC c = c := by
          unfold slC at hk ⊢
          split
          · rename_i h92
            rw [if_pos h92] at hk
            exact absurd hk (by decide)
          · rfl
        rw [hc] at h
        have h' : c :: encS (slL t) = X ++ 58 :: R := h
        cases X with
        | nil =>
          rw [List.nil_append] at h'
          obtain ⟨rfl, _⟩ := List.cons.inj h'
          exact ⟨t, rfl⟩
        | cons x X' =>
          rw [List.cons_append] at h'
          obtain ⟨rfl, h2⟩ := List.cons.inj h'
          obtain ⟨R', rfl⟩ := scheme_back X' R t h2 (fun d hd => hX d (by simp [hd]))
          exact ⟨R', rfl⟩
/-- Without a scheme it stays without one. -/
theorem colon_stays {s : List UInt8} (h : colonL s = none) : colonL (encS (slL s)) = none := by
  cases hc : colonL (encS (slL s)) with
  | none => rfl
  | some n =>
    obtain ⟨X, R, hS, _⟩ := colon_parts hc
    obtain ⟨R', e⟩ := scheme_back X R s hS.all hS.inner
    have : Sch s X R' := ⟨e, hS.inner, hS.letter⟩
    rw [this.colon] at h
    cases h
end Go.Proofs.YtjhmphokmmmoaaaDoor.L
