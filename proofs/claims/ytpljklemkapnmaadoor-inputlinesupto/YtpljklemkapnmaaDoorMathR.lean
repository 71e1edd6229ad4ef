/- What is proved here: plain facts on the place of a byte among cells: where a loop that leaves early leaves, and where it ends. -/
import Derived.Test.YtpljklemkapnmaaDoorIRWhere
namespace Go.Proofs.YtpljklemkapnmaaDoor.U

def lastP (d : Nat × Nat × Nat) : List Cn → Nat × Nat × Nat
  | [] => d
  | x :: xs => lastP (x.y, x.l, x.c) xs
def nextP (N : Nat) (d : Nat × Nat × Nat) : List Cn → Nat × Nat × Nat
  | [] => d
  | x :: xs => nextP N (if x.r = 10 then (N, x.l + 1, 1) else (N, x.l, x.c + 1)) xs
theorem lastP_snoc (x : Cn) : ∀ (xs : List Cn) (d : Nat × Nat × Nat), lastP d (xs ++ [x]) = (x.y, x.l, x.c)
  | [], _ => rfl
  | _ :: ys, _ => lastP_snoc x ys _
theorem nextP_snoc (N : Nat) (x : Cn) : ∀ (xs : List Cn) (d : Nat × Nat × Nat), nextP N d (xs ++ [x]) = if x.r = 10 then (N, x.l + 1, 1) else (N, x.l, x.c + 1)
  | [], _ => rfl
  | _ :: ys, _ => nextP_snoc N x ys _
theorem whereGo_append (N at0 : Nat) : ∀ (pre rest : List Cn) (last p : Nat × Nat × Nat), (∀ x ∈ pre, x.y ≤ at0) → whereGo N at0 (pre ++ rest) last p = whereGo N at0 rest (lastP last pre) (nextP N p pre)
  | [], _, _, _, _ => rfl
  | x :: xs, rest, last, p, h => by
    have hx := h x (by simp)
    rw [List.cons_append, whereGo, if_neg (by omega), whereGo_append N at0 xs rest _ _ (fun y hy => h y (by simp [hy]))]
    rfl
theorem where_stop (bs : List UInt8) (at0 : Nat) (pre : List Cn) (x : Cn) (hp : pre ++ [x] <+: cellsOf bs) (h : ∀ y ∈ pre, y.y ≤ at0) (hx : at0 < x.y) : whereOf bs at0 = lastP (0, 1, 1) pre := by
  obtain ⟨rest, hr⟩ := hp
  unfold whereOf
  rw [← hr, List.append_assoc, whereGo_append _ _ _ _ _ _ h, List.singleton_append, whereGo, if_pos hx]
theorem where_done (bs : List UInt8) (at0 : Nat) (h : ∀ y ∈ cellsOf bs, y.y ≤ at0) : whereOf bs at0 = if at0 = bs.length then nextP bs.length (0, 1, 1) (cellsOf bs) else lastP (0, 1, 1) (cellsOf bs) := by
  have := whereGo_append bs.length at0 (cellsOf bs) [] (0, 1, 1) (0, 1, 1) h
  rw [List.append_nil] at this
  unfold whereOf
  rw [this]; rfl
theorem fold_prefix (fr : Nat) : ∀ (ts : List (Nat × Nat)) (s : Sn), s.out <+: (ts.foldl (stepN fr) s).out
  | [], s => List.prefix_refl _
  | t :: ts, s => by
    refine List.IsPrefix.trans ?_ (fold_prefix fr ts _)
    unfold stepN; split
    · exact List.prefix_refl _
    · exact List.prefix_append _ _
theorem read_prefix {bs : List UInt8} {ts : List Tok} (h : ts.map Subtype.val <+: toks bs) : (readT 0 1 1 ts).out.map Cl.n <+: cellsOf bs := by
  obtain ⟨r, hr⟩ := h
  have h1 : (readT 0 1 1 ts).out.map Cl.n = (readN 0 1 1 (ts.map Subtype.val)).out := congrArg Sn.out (readT_n 0 1 1 ts)
  rw [h1]
  unfold cellsOf readN
  rw [← hr, List.foldl_append]
  exact fold_prefix _ _ _
theorem fold_next (N : Nat) : ∀ (ts : List (Nat × Nat)) (s : Sn), (N, s.l, s.c) = nextP N (N, 1, 1) s.out → (N, (ts.foldl (stepN 0) s).l, (ts.foldl (stepN 0) s).c) = nextP N (N, 1, 1) (ts.foldl (stepN 0) s).out
  | [], s, h => h
  | t :: ts, s, h => by
    refine fold_next N ts _ ?_
    unfold stepN; split
    · exact h
    · simp only [nextP_snoc]
      split <;> rfl
theorem nextP_any (N : Nat) (d d' : Nat × Nat × Nat) : ∀ xs : List Cn, xs ≠ [] → nextP N d xs = nextP N d' xs
  | [], h => absurd rfl h
  | _ :: _, _ => rfl
/-- Behind all cells stands the spot. -/
theorem spot_next (bs : List UInt8) : nextP bs.length (0, 1, 1) (cellsOf bs) = (bs.length, (readN 0 1 1 (toks bs)).l, (readN 0 1 1 (toks bs)).c) := by
  have h := fold_next bs.length (toks bs) ⟨0, 0, 1, 1, []⟩ rfl
  by_cases h0 : cellsOf bs = []
  · have hb : bs.length = 0 := by
      by_cases hz : bs.length = 0
      · exact hz
      · exfalso
        rw [cells_ref] at h0
        have ht : toks bs = [] ∨ ∃ t ts, toks bs = t :: ts := by
          cases toks bs with
          | nil => exact .inl rfl
          | cons t ts => exact .inr ⟨t, ts, rfl⟩
        rcases ht with ht | ⟨t, ts, ht⟩
        · have hp := pcs_four bs
          have : (toks bs).length = (pcs bs).length := by rw [toks_pcs]; simp
          rw [ht] at this
          simp at this
          omega
        · rw [ht] at h0
          match ts, h0 with
          | [], h0 => simp [refN] at h0
          | t' :: ts, h0 =>
            obtain ⟨p, r⟩ := t
            obtain ⟨q, s⟩ := t'
            rw [refN] at h0
            split at h0 <;> simp at h0
    have hb' : bs = [] := List.length_eq_zero_iff.1 hb
    subst hb'
    rfl
  · rw [nextP_any _ _ (bs.length, 1, 1) _ h0]
    exact h.symm

end Go.Proofs.YtpljklemkapnmaaDoor.U
