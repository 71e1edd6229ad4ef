/- What is proved here: plain facts: the states of a comment, a doctype, a bogus comment as a small machine over signs; that it finds the end that a search through the text finds, and what an open comment leaves out. -/
import Derived.Test.YtckhnkkmcgbabaaDoorMath
namespace Go.Proofs.YtckhnkkmcgbabaaDoor.K
open Go.Proofs.YtckhnkkmcgbabaaDoor.U

/-- A sign's class: 1 a dash, 2 an exclamation mark, 3 the sign that closes, 0 any other. -/
def cl (z : Int) : Nat := if z = 45 then 1 else if z = 33 then 2 else if z = 62 then 3 else 0
/-- Where a sign of a class leads. -/
def dl (q c : Nat) : Nat :=
  if q = 1 then (if c = 3 then 9 else 1)
  else if q = 2 then (if c = 3 then 9 else 2)
  else if q = 3 then (if c = 3 then 9 else if c = 1 then 4 else 5)
  else if q = 4 then (if c = 3 then 9 else if c = 1 then 7 else 5)
  else if q = 5 then (if c = 1 then 6 else 5)
  else if q = 6 then (if c = 1 then 7 else 5)
  else if q = 7 then (if c = 3 then 9 else if c = 2 then 8 else if c = 1 then 7 else 5)
  else if q = 8 then (if c = 3 then 9 else if c = 1 then 6 else 5)
  else 9
/-- How many signs a state stands behind that are not said yet. -/
def pend (q : Nat) : Nat := if q = 4 then 1 else if q = 6 then 1 else if q = 7 then 2 else if q = 8 then 3 else 0
/-- Which. -/
def pb (q : Nat) : List Int := if q = 4 then [45] else if q = 6 then [45] else if q = 7 then [45, 45] else if q = 8 then [45, 45, 33] else []
/-- What a sign makes said. -/
def says (q : Nat) (r : Int) : List Int :=
  if q = 1 then []
  else if q = 2 then (if cl r = 3 then [] else [r])
  else if q = 3 then (if cl r = 3 then [] else if cl r = 1 then [] else [r])
  else if q = 4 then (if cl r = 3 then [] else if cl r = 1 then [] else [45, r])
  else if q = 5 then (if cl r = 1 then [] else [r])
  else if q = 6 then (if cl r = 1 then [] else [45, r])
  else if q = 7 then (if cl r = 3 then [] else if cl r = 2 then [] else if cl r = 1 then [45] else [45, 45, r])
  else if q = 8 then (if cl r = 3 then [] else if cl r = 1 then [45, 45, 33] else [45, 45, 33, r])
  else []
def run (q : Nat) (l : List Int) : Nat := l.foldl (fun q z => dl q (cl z)) q
def start (kind : Int) : Nat := if kind = 0 then 3 else if kind = 1 then 1 else 2
/-- What is said behind signs. -/
def said (q : Nat) (l : List Int) : List Int := if q = 1 then [] else l.take (l.length - pend q)

theorem cl_lt (z : Int) : cl z < 4 := by unfold cl; repeat' split
                                         all_goals omega
theorem cl_cases (z : Int) : (z = 45 ∧ cl z = 1) ∨ (z = 33 ∧ cl z = 2) ∨ (z = 62 ∧ cl z = 3) ∨ (z ≠ 45 ∧ z ≠ 33 ∧ z ≠ 62 ∧ cl z = 0) := by
  unfold cl; repeat' split
  all_goals omega
theorem run_nil (q : Nat) : run q [] = q := rfl
theorem run_cons (q : Nat) (z : Int) (l : List Int) : run q (z :: l) = run (dl q (cl z)) l := rfl
theorem run_append (q : Nat) (l m : List Int) : run q (l ++ m) = run (run q l) m := by simp [run]
theorem run_snoc (q : Nat) (l : List Int) (z : Int) : run q (l ++ [z]) = dl (run q l) (cl z) := by simp [run]
theorem dl_nine (c : Nat) : dl 9 c = 9 := by simp [dl]
theorem run_nine : ∀ l, run 9 l = 9
  | [] => rfl
  | z :: l => by rw [run_cons, dl_nine]; exact run_nine l
/-- The states that there are. -/
def isQ (q : Nat) : Prop := 1 ≤ q ∧ q ≤ 9
theorem dl_isQ (q c : Nat) : isQ (dl q c) := by
  unfold dl isQ; repeat' split
  all_goals omega
theorem run_isQ : ∀ (l : List Int) (q : Nat), isQ q → isQ (run q l)
  | [], _, h => h
  | z :: l, q, _ => by rw [run_cons]; exact run_isQ l _ (dl_isQ _ _)
theorem start_isQ (k : Int) : isQ (start k) := by unfold start isQ; repeat' split
                                                  all_goals omega
theorem isQ_cases {q : Nat} (h : isQ q) : q = 1 ∨ q = 2 ∨ q = 3 ∨ q = 4 ∨ q = 5 ∨ q = 6 ∨ q = 7 ∨ q = 8 ∨ q = 9 := by unfold isQ at h; omega
theorem dl_zero {q : Nat} (h : isQ q) : dl (dl q 0) 0 = dl q 0 := by
  rcases isQ_cases h with rfl | rfl | rfl | rfl | rfl | rfl | rfl | rfl | rfl <;> rfl
/-- Signs of no class, at least one, lead where one leads. -/
theorem run_zero : ∀ (l : List Int) (q : Nat), isQ q → (∀ z ∈ l, cl z = 0) → l ≠ [] → run q l = dl q 0
  | [], _, _, _, h => absurd rfl h
  | [z], q, _, h, _ => by rw [run_cons, h z (by simp)]; rfl
  | z :: y :: l, q, hq, h, _ => by
    rw [run_cons, h z (by simp), run_zero (y :: l) _ (dl_isQ _ _) (fun x hx => h x (by simp [hx])) (by simp), dl_zero hq]
theorem pb_length (q : Nat) : (pb q).length = pend q := by unfold pb pend; repeat' split
                                                           all_goals rfl
/-- A state that closes is left by the closing sign alone. -/
theorem nine_cl {q c : Nat} (hq : isQ q) (h9 : q ≠ 9) (h : dl q c = 9) : c = 3 := by
  rcases isQ_cases hq with rfl | rfl | rfl | rfl | rfl | rfl | rfl | rfl | rfl <;> simp [dl] at h h9 ⊢ <;> (repeat' split at h) <;> simp_all
/-- What a state stands behind has been read. -/
theorem tail_one {q : Nat} {z : Int} (hq : isQ q) (h9 : dl q (cl z) ≠ 9) : pb (dl q (cl z)) <:+ pb q ++ [z] := by
  rcases isQ_cases hq with rfl | rfl | rfl | rfl | rfl | rfl | rfl | rfl | rfl <;> rcases cl_cases z with ⟨e, k⟩ | ⟨e, k⟩ | ⟨e, k⟩ | ⟨_, _, _, k⟩ <;> rw [k] at h9 ⊢
  all_goals first
    | exact List.nil_suffix
    | (subst e; decide)
    | exact absurd rfl h9
theorem tail_step {q : Nat} {z : Int} {l : List Int} (hq : isQ q) (h : pb q <:+ l) (h9 : dl q (cl z) ≠ 9) : pb (dl q (cl z)) <:+ l ++ [z] := by
  obtain ⟨T, rfl⟩ := h
  exact (tail_one hq h9).trans ⟨T, by simp⟩
theorem start_pb (k : Int) : pb (start k) = [] := by unfold start; repeat' split
                                                     all_goals rfl
theorem tail_run {q : Nat} (hq : isQ q) (hp : pb q = []) : ∀ n (l : List Int), l.length = n → run q l ≠ 9 → pb (run q l) <:+ l
  | 0, l, hl, _ => by
    obtain rfl : l = [] := List.length_eq_zero_iff.1 hl
    rw [run_nil, hp]; exact List.nil_suffix
  | n + 1, l, hl, h9 => by
    obtain ⟨m, z, rfl⟩ : ∃ m z, l = m ++ [z] := ⟨l.dropLast, l.getLast (by intro h; rw [h] at hl; cases hl), (List.dropLast_concat_getLast _).symm⟩
    rw [run_snoc] at h9 ⊢
    have hm : run q m ≠ 9 := fun h => h9 (by rw [h, dl_nine])
    exact tail_step (run_isQ _ _ hq) (tail_run hq hp n m (by simpa using hl) hm) h9
/-- What is not said yet is at the end. -/
theorem said_pb {q : Nat} {l : List Int} (h : pb q <:+ l) (h1 : q ≠ 1) : said q l ++ pb q = l := by
  obtain ⟨T, rfl⟩ := h
  unfold said
  rw [if_neg h1, ← pb_length q]
  simp
/-- What is said goes on as the machine says. -/
theorem says_on {q : Nat} {z : Int} {l : List Int} (hq : isQ q) (h : pb q <:+ l) (h9 : dl q (cl z) ≠ 9) : said (dl q (cl z)) (l ++ [z]) = said q l ++ says q z := by
  by_cases h1 : q = 1
  · subst h1
    have : dl 1 (cl z) = 1 := by
      have e : dl 1 (cl z) = if cl z = 3 then 9 else 1 := rfl
      rw [e] at h9 ⊢
      split at h9
      · exact absurd rfl h9
      · rename_i c; rw [if_neg c]
    rw [this]; simp [said, says]
  · have h1' : dl q (cl z) ≠ 1 := by
      rcases isQ_cases hq with rfl | rfl | rfl | rfl | rfl | rfl | rfl | rfl | rfl <;> simp [dl] at h1 ⊢ <;> (repeat' split) <;> omega
    have a := said_pb h h1
    have b := said_pb (tail_step hq h h9) h1'
    have c : says q z ++ pb (dl q (cl z)) = pb q ++ [z] := by
      clear a b h1'
      rcases isQ_cases hq with rfl | rfl | rfl | rfl | rfl | rfl | rfl | rfl | rfl <;> rcases cl_cases z with ⟨e, k⟩ | ⟨e, k⟩ | ⟨e, k⟩ | ⟨_, _, _, k⟩ <;> simp [says, k, dl, pb] at h9 h1 ⊢
      all_goals first | exact e | exact e.symm
    apply List.append_cancel_right (bs := pb (dl q (cl z)))
    rw [b, List.append_assoc, c, ← List.append_assoc, a]
theorem says_nine {q : Nat} {z : Int} (hq : isQ q) (h9 : dl q (cl z) = 9) : says q z = [] := by
  rcases isQ_cases hq with rfl | rfl | rfl | rfl | rfl | rfl | rfl | rfl | rfl <;> rcases cl_cases z with ⟨e, k⟩ | ⟨e, k⟩ | ⟨e, k⟩ | ⟨_, _, _, k⟩ <;> rw [k] at h9 <;> simp [says, k] <;> exact absurd h9 (by decide)

/-- Where the machine first closes: how much is said, and how much is read. -/
def R : Nat → List Int → Nat → Option (Nat × Nat)
  | _, [], _ => none
  | q, c :: m, i => if dl q (cl c) = 9 then some (i - pend q, i + 1) else R (dl q (cl c)) m (i + 1)
theorem R_nil (q i : Nat) : R q [] i = none := rfl
theorem R_cons (q i : Nat) (c : Int) (m : List Int) : R q (c :: m) i = if dl q (cl c) = 9 then some (i - pend q, i + 1) else R (dl q (cl c)) m (i + 1) := rfl
theorem R_append : ∀ (X : List Int) (q i : Nat) (m : List Int), run q X ≠ 9 → R q (X ++ m) i = R (run q X) m (i + X.length)
  | [], _, _, _, _ => rfl
  | x :: X, q, i, m, h => by
    rw [run_cons] at h
    have h' : dl q (cl x) ≠ 9 := fun e => h (by rw [e]; exact run_nine _)
    rw [List.cons_append, R_cons, if_neg h', R_append X _ _ _ h, run_cons]
    simp only [List.length_cons]
    rw [Nat.add_assoc, Nat.add_comm 1]
theorem R_none (X : List Int) (q i : Nat) (h : run q X ≠ 9) : R q X i = none := by
  have := R_append X q i [] h
  rw [List.append_nil] at this
  rw [this]; rfl
theorem R_close (X : List Int) (q i : Nat) (z : Int) (m : List Int) (h : run q X ≠ 9) (h9 : dl (run q X) (cl z) = 9) : R q (X ++ z :: m) i = some (i + X.length - pend (run q X), i + X.length + 1) := by
  rw [R_append X q i _ h, R_cons, if_pos h9]

/-- Bytes as numbers. -/
def zs (bs : List UInt8) : List Int := bs.map fun b => (b.toNat : Int)
theorem zs_cons (b : UInt8) (l : List UInt8) : zs (b :: l) = (b.toNat : Int) :: zs l := rfl
theorem zs_append (a b : List UInt8) : zs (a ++ b) = zs a ++ zs b := by simp [zs]
theorem zs_length (a : List UInt8) : (zs a).length = a.length := by simp [zs]
def pfx (p s : List UInt8) : Bool := p.isPrefixOf s
def scanC : List UInt8 → Nat → Option (Nat × Nat)
  | [], _ => none
  | b :: t, i => if pfx [45, 45, 62] (b :: t) = true then some (i, i + 3) else if pfx [45, 45, 33, 62] (b :: t) = true then some (i, i + 4) else scanC t (i + 1)
def scanB : List UInt8 → Nat → Option (Nat × Nat)
  | [], _ => none
  | b :: t, i => if b = 62 then some (i, i + 1) else scanB t (i + 1)
def endC (bs : List UInt8) : Option (Nat × Nat) := if pfx [62] bs = true then some (0, 1) else if pfx [45, 62] bs = true then some (0, 2) else scanC bs 0
def endK (kind : Int) (bs : List UInt8) : Option (Nat × Nat) := if kind = 0 then endC bs else scanB bs 0
theorem byte_cases (c : UInt8) : (c = 45 ∧ cl (c.toNat : Int) = 1) ∨ (c = 33 ∧ cl (c.toNat : Int) = 2) ∨ (c = 62 ∧ cl (c.toNat : Int) = 3) ∨ (c ≠ 45 ∧ c ≠ 33 ∧ c ≠ 62 ∧ cl (c.toNat : Int) = 0) := by
  by_cases h1 : c = 45
  · subst h1; exact .inl ⟨rfl, rfl⟩
  by_cases h2 : c = 33
  · subst h2; exact .inr (.inl ⟨rfl, rfl⟩)
  by_cases h3 : c = 62
  · subst h3; exact .inr (.inr (.inl ⟨rfl, rfl⟩))
  refine .inr (.inr (.inr ⟨h1, h2, h3, ?_⟩))
  rw [← UInt8.toNat_inj] at h1 h2 h3
  have e1 : (45 : UInt8).toNat = 45 := rfl
  have e2 : (33 : UInt8).toNat = 33 := rfl
  have e3 : (62 : UInt8).toNat = 62 := rfl
  rw [e1] at h1; rw [e2] at h2; rw [e3] at h3
  unfold cl
  rw [if_neg (by omega), if_neg (by omega), if_neg (by omega)]
theorem scanC_other {c : UInt8} (h : c ≠ 45) (m : List UInt8) (i : Nat) : scanC (c :: m) i = scanC m (i + 1) := by
  have h' : ¬ (45 : UInt8) = c := fun e => h e.symm
  have : ((45 : UInt8) == c) = false := by simpa using h'
  simp [scanC, pfx, List.isPrefixOf, this]
theorem scanC_two {c : UInt8} (h : c ≠ 45) (m : List UInt8) (i : Nat) : scanC (45 :: c :: m) i = scanC m (i + 2) := by
  have h' : ¬ (45 : UInt8) = c := fun e => h e.symm
  have : ((45 : UInt8) == c) = false := by simpa using h'
  rw [← scanC_other h]
  conv => lhs; unfold scanC
  simp [pfx, List.isPrefixOf, this]
theorem scanC_three {c : UInt8} (h : c ≠ 33) (h2 : c ≠ 62) (m : List UInt8) (i : Nat) : scanC (45 :: 45 :: c :: m) i = scanC (45 :: c :: m) (i + 1) := by
  have b1 : ((33 : UInt8) == c) = false := by simpa using fun e : (33 : UInt8) = c => h e.symm
  have b2 : ((62 : UInt8) == c) = false := by simpa using fun e : (62 : UInt8) = c => h2 e.symm
  conv => lhs; unfold scanC
  simp [pfx, List.isPrefixOf, b1, b2]
theorem scanC_four {c : UInt8} (h : c ≠ 62) (m : List UInt8) (i : Nat) : scanC (45 :: 45 :: 33 :: c :: m) i = scanC (c :: m) (i + 3) := by
  have b2 : ((62 : UInt8) == c) = false := by simpa using fun e : (62 : UInt8) = c => h e.symm
  have : scanC (45 :: 45 :: 33 :: c :: m) i = scanC (45 :: 33 :: c :: m) (i + 1) := by
    conv => lhs; unfold scanC
    simp [pfx, List.isPrefixOf, b2]
  rw [this, scanC_two (by decide)]
theorem scan_R : ∀ (m : List UInt8) (i : Nat), R 5 (zs m) i = scanC m i ∧ R 6 (zs m) (i + 1) = scanC (45 :: m) i ∧ R 7 (zs m) (i + 2) = scanC (45 :: 45 :: m) i ∧ R 8 (zs m) (i + 3) = scanC (45 :: 45 :: 33 :: m) i
  | [], i => ⟨rfl, rfl, rfl, rfl⟩
  | c :: m, i => by
    rw [zs_cons]
    simp only [R_cons]
    rcases byte_cases c with ⟨rfl, k⟩ | ⟨rfl, k⟩ | ⟨rfl, k⟩ | ⟨h1, h2, h3, k⟩ <;> rw [k]
    · refine ⟨?_, ?_, ?_, ?_⟩
      · exact (scan_R m i).2.1
      · exact (scan_R m i).2.2.1
      · rw [scanC_three (by decide) (by decide)]; exact (scan_R m (i + 1)).2.2.1
      · rw [scanC_four (by decide)]; exact (scan_R m (i + 3)).2.1
    · refine ⟨?_, ?_, ?_, ?_⟩
      · rw [scanC_other (by decide)]; exact (scan_R m (i + 1)).1
      · rw [scanC_two (by decide)]; exact (scan_R m (i + 2)).1
      · exact (scan_R m i).2.2.2
      · rw [scanC_four (by decide), scanC_other (by decide)]; exact (scan_R m (i + 4)).1
    · refine ⟨?_, ?_, ?_, ?_⟩
      · rw [scanC_other (by decide)]; exact (scan_R m (i + 1)).1
      · rw [scanC_two (by decide)]; exact (scan_R m (i + 2)).1
      · rfl
      · rfl
    · refine ⟨?_, ?_, ?_, ?_⟩
      · rw [scanC_other h1]; exact (scan_R m (i + 1)).1
      · rw [scanC_two h1]; exact (scan_R m (i + 2)).1
      · rw [scanC_three h2 h3, scanC_two h1]; exact (scan_R m (i + 3)).1
      · rw [scanC_four h3, scanC_other h1]; exact (scan_R m (i + 4)).1
theorem scanB_R (q : Nat) (hq : q = 1 ∨ q = 2) : ∀ (m : List UInt8) (i : Nat), R q (zs m) i = scanB m i
  | [], _ => rfl
  | c :: m, i => by
    rw [zs_cons, R_cons]
    have ih := scanB_R q hq m (i + 1)
    rcases byte_cases c with ⟨rfl, k⟩ | ⟨rfl, k⟩ | ⟨rfl, k⟩ | ⟨h1, h2, h3, k⟩ <;> rw [k] <;> rcases hq with rfl | rfl
    all_goals first
      | exact ih
      | rfl
      | (rw [scanB, if_neg h3]; exact ih)
theorem pfx_one (b c : UInt8) (m : List UInt8) : pfx [b] (c :: m) = (b == c) := by simp [pfx, List.isPrefixOf]
theorem endC_R (m : List UInt8) : R 3 (zs m) 0 = endC m := by
  cases m with
  | nil => rfl
  | cons c m =>
    rw [zs_cons, R_cons]
    unfold endC
    rcases byte_cases c with ⟨rfl, k⟩ | ⟨rfl, k⟩ | ⟨rfl, k⟩ | ⟨h1, h2, h3, k⟩ <;> rw [k]
    · cases m with
      | nil => rfl
      | cons d m =>
        show R 4 (zs (d :: m)) 1 = _
        rw [zs_cons, R_cons]
        have e0 : pfx [62] (45 :: d :: m) = false := rfl
        have e1 : pfx [45, 62] (45 :: d :: m) = ((62 : UInt8) == d) := by simp [pfx, List.isPrefixOf]
        rw [e0, e1]
        rcases byte_cases d with ⟨rfl, k⟩ | ⟨rfl, k⟩ | ⟨rfl, k⟩ | ⟨h1, h2, h3, k⟩ <;> rw [k]
        · exact (scan_R m 0).2.2.1
        · refine ((scan_R m 2).1).trans ?_
          rw [if_neg (by decide), if_neg (by decide)]
          exact (scanC_two (by decide) m 0).symm
        · rfl
        · have : ((62 : UInt8) == d) = false := by simpa using fun e : (62 : UInt8) = d => h3 e.symm
          rw [this]
          exact ((scan_R m 2).1).trans (scanC_two h1 m 0).symm
    · refine ((scan_R m 1).1).trans ?_
      rw [show pfx [62] (33 :: m) = false from rfl, show pfx [45, 62] (33 :: m) = false from rfl]
      exact (scanC_other (c := 33) (by decide) m 0).symm
    · rfl
    · have e0 : pfx [62] (c :: m) = false := by rw [pfx_one]; simpa using fun e : (62 : UInt8) = c => h3 e.symm
      have e1 : pfx [45, 62] (c :: m) = false := by
        have : ((45 : UInt8) == c) = false := by simpa using fun e : (45 : UInt8) = c => h1 e.symm
        simp [pfx, List.isPrefixOf, this]
      rw [e0, e1]
      exact ((scan_R m 1).1).trans (scanC_other h1 m 0).symm
/-- The machine finds the end that a search finds. -/
theorem endK_R (kind : Int) (m : List UInt8) : R (start kind) (zs m) 0 = endK kind m := by
  unfold endK start
  by_cases h0 : kind = 0
  · rw [if_pos h0, if_pos h0]; exact endC_R m
  · rw [if_neg h0, if_neg h0]
    by_cases h1 : kind = 1
    · rw [if_pos h1]; exact scanB_R 1 (.inl rfl) m 0
    · rw [if_neg h1]; exact scanB_R 2 (.inr rfl) m 0

/-- How much an open comment leaves out at its end; of the signs from behind. -/
def chopN : List UInt8 → Nat
  | 33 :: 45 :: 45 :: _ => 3
  | 45 :: 45 :: _ => 2
  | 45 :: _ => 1
  | _ => 0
end Go.Proofs.YtckhnkkmcgbabaaDoor.K
