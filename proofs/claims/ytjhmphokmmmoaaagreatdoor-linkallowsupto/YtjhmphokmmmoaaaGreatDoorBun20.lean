/- What is proved here: laws and contracts of LkResM, LkRoadM, one behind the other (each says its own). -/
import Derived.Test.YtjhmphokmmmoaaaGreatDoorLkVal
import Derived.Test.YtjhmphokmmmoaaaGreatDoorLkBlk
import Derived.Test.YtjhmphokmmmoaaaGreatDoorLkDotM
import Derived.Test.YtjhmphokmmmoaaaGreatDoorBun15
/- What is proved here: a reference resolved, as lists: what the document says. -/
namespace Go.Proofs.YtjhmphokmmmoaaaGreatDoor.L
open Go.RowKit Go.Shelf Go.Proofs.YtjhmphokmmmoaaaGreatDoor.N Go.Proofs.YtjhmphokmmmoaaaGreatDoor.U

/-- How long a path is up to its last slash, that one too. -/
def folderN (p : List UInt8) : Nat := (p.reverse.dropWhile fun c => !(c == 47)).length
theorem drop_none (q : UInt8 → Bool) : ∀ (a b : List UInt8), (∀ c ∈ a, q c = true) → (a ++ b).dropWhile q = b.dropWhile q
  | [], _, _ => rfl
  | c :: t, b, h => by rw [List.cons_append, List.dropWhile_cons, if_pos (h c (by simp)), drop_none q t b (fun d hd => h d (by simp [hd]))]
theorem folderN_at (p : List UInt8) (k : Nat) (hk : k ≤ p.length) (h1 : ∀ j, k ≤ j → j < p.length → (p.getD j 0 == 47) = false) (h2 : k = 0 ∨ (p.getD (k - 1) 0 == 47) = true) : folderN p = k := by
  have e : p.reverse = (p.drop k).reverse ++ (p.take k).reverse := by rw [← List.reverse_append, List.take_append_drop]
  unfold folderN
  rw [e, drop_none _ _ _ (fun c hc => by
    rw [List.mem_reverse] at hc
    obtain ⟨j, hj, rfl⟩ := List.getElem_of_mem hc
    have hj' : k + j < p.length := by simpa using (by simpa using hj : j < p.length - k) |> fun h => (by omega : k + j < p.length)
    have := h1 (k + j) (by omega) hj'
    have e2 : p.getD (k + j) 0 = (p.drop k)[j] := by simp [hj']
    rw [e2] at this
    rw [this]; rfl)]
  rcases h2 with rfl | h2
  · simp
  · have hk0 : 0 < k := by
      rcases Nat.eq_zero_or_pos k with e | e
      · subst e
        by_cases hl : 0 < p.length
        · have := h1 0 (Nat.le_refl _) hl; rw [Nat.zero_sub] at h2; rw [h2] at this; cases this
        · have : p = [] := List.eq_nil_of_length_eq_zero (by omega)
          subst this; exact absurd h2 (by decide)
      · exact e
    obtain ⟨t, ht⟩ : ∃ t, p.take k = t ++ [47] := by
      refine ⟨p.take (k - 1), ?_⟩
      have h3 : p.getD (k - 1) 0 = 47 := by simpa using h2
      have h4 : k - 1 < p.length := by omega
      have h5 := List.take_succ_eq_append_getElem h4
      rw [show k - 1 + 1 = k by omega] at h5
      rw [h5]
      have e2 : p.getD (k - 1) 0 = p[k - 1] := by simp [h4]
      rw [← e2, h3]
    have hl := congrArg List.length ht
    rw [List.length_take, List.length_append] at hl
    rw [ht, List.reverse_append, List.reverse_cons, List.reverse_nil, List.nil_append, List.cons_append, List.dropWhile_cons, if_neg (by decide)]
    simp at hl ⊢
    omega
theorem folderN_cases (p : List UInt8) : (folderN p = 0 ∨ (p.getD (folderN p - 1) 0 == 47) = true) ∧ folderN p ≤ p.length ∧ ∀ j, folderN p ≤ j → j < p.length → (p.getD j 0 == 47) = false := by
  induction hn : p.length generalizing p with
  | zero =>
    have : p = [] := List.eq_nil_of_length_eq_zero hn
    subst this
    exact ⟨.inl rfl, by simp [folderN], fun j _ hj => by omega⟩
  | succ n ih =>
    have h4 : n < p.length := by omega
    have e2 : p.getD n 0 = p[n] := by simp [h4]
    have hp : p = p.take n ++ [p[n]] := by
      have := List.take_succ_eq_append_getElem h4
      rw [show n + 1 = p.length by omega, List.take_length] at this
      exact this
    cases hc : (p.getD n 0 == 47) with
    | true =>
      have : folderN p = n + 1 := folderN_at p (n + 1) (by omega) (fun j h1 h2 => by omega) (.inr (by simpa using hc))
      rw [this]
      exact ⟨.inr (by simpa using hc), by omega, fun j h1 h2 => by omega⟩
    | false =>
      have ht : (p.take n).length = n := by simp; omega
      obtain ⟨i1, i2, i3⟩ := ih (p.take n) ht
      have g : ∀ j, j < n → (p.take n).getD j 0 = p.getD j 0 := fun j hj => by simp [hj]
      have hF : folderN p = folderN (p.take n) := by
        refine folderN_at p _ (by omega) (fun j h1 h2 => ?_) ?_
        · by_cases e : j = n
          · rw [e]; exact hc
          · rw [← g j (by omega)]; exact i3 j h1 (by omega)
        · rcases i1 with h | h
          · exact .inl h
          · by_cases e : folderN (p.take n) = 0
            · exact .inl e
            · right; rw [← g _ (by omega)]; exact h
      rw [hF]
      refine ⟨?_, by omega, fun j h1 h2 => ?_⟩
      · rcases i1 with h | h
        · exact .inl h
        · by_cases e : folderN (p.take n) = 0
          · exact .inl e
          · right; rw [← g _ (by omega)]; exact h
      · by_cases e : j = n
        · rw [e]; exact hc
        · rw [← g j (by omega)]; exact i3 j h1 (by omega)
def folderK (b : Lk) : List UInt8 := if b.hh && (b.pa == []) then [47] else b.pa.take (folderN b.pa)
/-- What a reference says in a place that a base names. -/
def resolveK (b r : Lk) : Lk :=
  if r.hs then { r with pa := dotsM r.pa }
  else if r.hh then { r with pa := dotsM r.pa, sc := b.sc, hs := b.hs }
  else if r.pa == [] then { r with pa := b.pa, qu := if r.hq then r.qu else b.qu, hq := if r.hq then r.hq else b.hq, sc := b.sc, hs := b.hs, ho := b.ho, hh := b.hh }
  else if r.pa.getD 0 0 == 47 then { r with pa := dotsM r.pa, sc := b.sc, hs := b.hs, ho := b.ho, hh := b.hh }
  else { r with pa := dotsM (folderK b ++ r.pa), sc := b.sc, hs := b.hs, ho := b.ho, hh := b.hh }
theorem val_folder {b : Lk} (h : Val b.pa) : Val (folderK b) := by
  unfold folderK
  split
  · exact val_one 47 (by decide)
  · obtain ⟨h1, h2, _⟩ := folderN_cases b.pa
    rcases h1 with e | e
    · rw [e]; exact val_nil
    · by_cases e0 : folderN b.pa = 0
      · rw [e0]; exact val_nil
      · have h4 : folderN b.pa - 1 < b.pa.length := by omega
        have h5 := List.take_succ_eq_append_getElem h4
        rw [show folderN b.pa - 1 + 1 = folderN b.pa by omega] at h5
        have e2 : b.pa.getD (folderN b.pa - 1) 0 = b.pa[folderN b.pa - 1] := by simp [h4]
        have e3 : b.pa[folderN b.pa - 1] = 47 := by rw [← e2]; simpa using e
        rw [h5, e3]
        have h6 : b.pa = b.pa.take (folderN b.pa - 1) ++ 47 :: b.pa.drop (folderN b.pa) := by
          have h7 := List.take_append_drop (folderN b.pa) b.pa
          rw [h5, e3] at h7
          rw [List.append_assoc] at h7
          exact h7.symm
        rw [h6] at h
        exact (h.cut (by decide)).1.app (val_one 47 (by decide))
theorem folder_le (b : Lk) : (folderK b).length ≤ b.pa.length + 1 := by
  unfold folderK
  split
  · simp
  · simp; omega
end Go.Proofs.YtjhmphokmmmoaaaGreatDoor.L

/- What is proved here: a text of runes without its dot segments is a text of runes. -/
namespace Go.Proofs.YtjhmphokmmmoaaaGreatDoor.L
open Go.RowKit Go.Shelf Go.Proofs.YtjhmphokmmmoaaaGreatDoor.N Go.Proofs.YtjhmphokmmmoaaaGreatDoor.U

theorem Val.drop {i : List UInt8} (h : Val i) : ∀ (k : Nat), (∀ c ∈ i.take k, c.toNat < 128) → Val (i.drop k) := fun k => by
  induction k generalizing i with
  | zero => intro _; exact h
  | succ k ih =>
    intro hk
    cases i with
    | nil => exact val_nil
    | cons c t =>
      have hc := hk c (by simp)
      have ht : Val t := (Val.cut (x := []) (y := t) (c := c) h hc).2
      exact ih ht (fun d hd => hk d (by simp [hd]))
theorem pre_take {p i : List UInt8} (h : p.isPrefixOf i = true) : i.take p.length = p := by
  obtain ⟨t, rfl⟩ := List.isPrefixOf_iff_prefix.1 h
  simp
theorem head_of (q : UInt8 → Bool) (l : List UInt8) : l.dropWhile q = [] ∨ ∃ c t, l.dropWhile q = c :: t ∧ q c = false := by
  induction l with
  | nil => exact .inl rfl
  | cons c t ih =>
    rw [List.dropWhile_cons]
    cases h : q c with
    | true => simpa using ih
    | false => exact .inr ⟨c, t, by simp, h⟩
theorem val_cutLast {o : List UInt8} (h : Val o) : Val (cutLast o) := by
  unfold cutLast
  rcases head_of (fun c => !(c == 47)) o.reverse with e | ⟨c, t, e, hc⟩
  · rw [e]; exact val_nil
  · have hc' : c = 47 := by simpa using hc
    subst hc'
    obtain ⟨x, hx⟩ := List.dropWhile_suffix (fun c => !(c == 47)) (l := o.reverse)
    rw [e] at hx ⊢
    have ho := congrArg List.reverse hx
    rw [List.reverse_reverse] at ho
    have ho2 : o = t.reverse ++ 47 :: x.reverse := by rw [← ho]; simp
    rw [ho2] at h
    show Val t.reverse
    exact (h.cut (by decide)).1
theorem dotStep_val {i o : List UInt8} (hi : Val i) (ho : Val o) (h0 : i ≠ []) : Val (dotStep i o).1 ∧ Val (dotStep i o).2 := by
  have asc : ∀ (p : List UInt8) (k : Nat), p.isPrefixOf i = true → k ≤ p.length → (∀ c ∈ p, c.toNat < 128) → Val (i.drop k) := fun p k hp hk ha => hi.drop k (fun c hc => ha c (by
    rw [← pre_take hp]
    have : i.take k = (i.take p.length).take k := by rw [List.take_take, Nat.min_eq_left hk]
    rw [this] at hc
    exact List.mem_of_mem_take hc))
  unfold dotStep
  split
  · rename_i h; exact ⟨asc _ 3 h (by decide) (by decide), ho⟩
  split
  · rename_i h; exact ⟨asc _ 2 h (by decide) (by decide), ho⟩
  split
  · rename_i h; exact ⟨asc _ 2 h (by decide) (by decide), ho⟩
  split
  · exact ⟨val_one 47 (by decide), ho⟩
  split
  · rename_i h; exact ⟨asc _ 3 h (by decide) (by decide), val_cutLast ho⟩
  split
  · exact ⟨val_one 47 (by decide), val_cutLast ho⟩
  split
  · exact ⟨val_nil, ho⟩
  · cases i with
    | nil => exact absurd rfl h0
    | cons c t =>
      have e1 : segN (c :: t) = upToL [47] t + 1 := by unfold segN; simp; omega
      rw [e1]
      simp only [List.drop_succ_cons, List.take_succ_cons]
      obtain ⟨_, g2⟩ := upToL_cut [47] t
      have e0 : t.take (upToL [47] t) ++ t.drop (upToL [47] t) = t := List.take_append_drop _ _
      rcases g2 with e | ⟨d, u, e, hd⟩
      · rw [e, List.append_nil] at e0
        rw [e, e0]
        exact ⟨val_nil, ho.app hi⟩
      · simp at hd
        subst hd
        rw [e] at e0 ⊢
        rw [← e0] at hi
        obtain ⟨v1, v2⟩ := Val.cut (x := c :: t.take (upToL [47] t)) (y := u) (c := 47) hi (by decide)
        exact ⟨v2.cons (by decide), ho.app v1⟩
theorem dotsF_val : ∀ (f : Nat) (i o : List UInt8), Val i → Val o → Val (dotsF f i o)
  | 0, _, _, _, ho => ho
  | f + 1, i, o, hi, ho => by
    unfold dotsF
    split
    · exact ho
    · rename_i h
      have h0 : i ≠ [] := by simpa using h
      obtain ⟨v1, v2⟩ := dotStep_val hi ho h0
      exact dotsF_val f _ _ v1 v2
theorem dotsM_val {i : List UInt8} (h : Val i) : Val (dotsM i) := dotsF_val _ _ _ h val_nil
/-- The parts of a text of runes. -/
theorem split_vals {s : List UInt8} (h : Val s) : Val (splitK s).sc ∧ Val (splitK s).ho ∧ Val (splitK s).pa ∧ Val (splitK s).qu ∧ Val (splitK s).fr := by
  have e := split_val h
  refine ⟨?_, ?_, ?_, ?_, ?_⟩
  · rw [← e]; exact val_mend _
  · rw [← e]; exact val_mend _
  · rw [← e]; exact val_mend _
  · rw [← e]; exact val_mend _
  · rw [← e]; exact val_mend _
/-- A resolved path stays without dot segments. -/
theorem resolve_dots {b r : Lk} (hb : Val b.pa) (hr : Val r.pa) (h0 : (r.pa == []) = false) : dotsM (mendL (resolveK b r).pa) = (resolveK b r).pa := by
  have key : ∀ x, Val x → dotsM (mendL (dotsM x)) = dotsM x := fun x hx => by rw [(dotsM_val hx).mend, dotsM_again]
  unfold resolveK
  split
  · exact key _ hr
  split
  · exact key _ hr
  rw [if_neg (by rw [h0]; decide)]
  split
  · exact key _ hr
  · exact key _ ((val_folder hb).app hr)
end Go.Proofs.YtjhmphokmmmoaaaGreatDoor.L
