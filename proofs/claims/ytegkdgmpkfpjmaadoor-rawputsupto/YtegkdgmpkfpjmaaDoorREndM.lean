/- What is proved here: plain facts: one round of the document's End, and that its rounds are its search. -/
import Derived.Test.YtegkdgmpkfpjmaaDoorRWord
namespace Go.Proofs.YtegkdgmpkfpjmaaDoor.R
open Go.RowKit Go.Shelf Go.Proofs.YtegkdgmpkfpjmaaDoor.U Go.Proofs.YtegkdgmpkfpjmaaDoor.N

theorem drop_at (zs : List Int) (k : Nat) (hk : k < zs.length) : zs.drop k = zAt zs k :: zs.drop (k + 1) := by
  rw [List.drop_eq_getElem_cons hk]; simp [zAt, hk]
theorem isEnd_no (nm zs : List Int) (k : Nat) (h : ¬ k + 1 < zs.length ∨ zAt zs (k + 1) ≠ 47) : isEnd nm (zs.drop (k + 1)) = false := by
  by_cases h1 : k + 1 < zs.length
  · rw [drop_at zs _ h1, isEnd_cons]
    rcases h with h | h
    · exact absurd h1 h
    · simp [h]
  · rw [List.drop_eq_nil_of_le (by omega)]; rfl
theorem isEnd_yes (nm zs : List Int) (k : Nat) (h1 : k + 1 < zs.length) (h : zAt zs (k + 1) = 47) : isEnd nm (zs.drop (k + 1)) = wordR nm (zs.drop (k + 2)) := by
  rw [drop_at zs _ h1, isEnd_cons, h]; simp
theorem text_bang (zs : List Int) (k : Nat) (hk : k < zs.length) (h : zAt zs k = 60) : textR zs k [60, 33, 45, 45] = ([33, 45, 45] : List Int).isPrefixOf (zs.drop (k + 1)) := by
  unfold textR
  rw [drop_at zs k hk, h]
  rfl
theorem text_dash (zs : List Int) (k : Nat) (h2 : 2 ≤ k) (hk : k < zs.length) : textR zs (k - 2) [45, 45] = (decide (zAt zs (k - 1) = 45) && decide (zAt zs (k - 2) = 45)) := by
  unfold textR
  rw [drop_at zs (k - 2) (by omega), show k - 2 + 1 = k - 1 by omega, drop_at zs (k - 1) (by omega)]
  simp only [R.zs, List.map_cons, List.map_nil, List.isPrefixOf, Bool.and_true]
  rw [Bool.eq_iff_iff]
  simp only [Bool.and_eq_true, beq_iff_eq, decide_eq_true_eq]
  constructor
  · rintro ⟨h, h'⟩; exact ⟨h'.symm, h.symm⟩
  · rintro ⟨h, h'⟩; exact ⟨h'.symm, h.symm⟩
/-- One round: the end is here, or how it goes on. -/
def rnd (sc : Bool) (nm zs : List Int) (k esc fr : Nat) : Option (Nat × Nat) :=
  if 0 < esc ∧ zAt zs k = 62 ∧ fr + 2 ≤ k ∧ zAt zs (k - 1) = 45 ∧ zAt zs (k - 2) = 45 then some (0, fr)
  else if zAt zs k ≠ 60 then some (esc, fr)
  else if sc = false then if isEnd nm (zs.drop (k + 1)) = true then none else some (esc, fr)
  else if esc = 0 ∧ ([33, 45, 45] : List Int).isPrefixOf (zs.drop (k + 1)) = true then some (1, k + 2)
  else if esc < 2 ∧ isEnd nm (zs.drop (k + 1)) = true then none
  else if esc = 1 ∧ wordR nm (zs.drop (k + 1)) = true then some (2, fr)
  else if esc = 2 ∧ isEnd nm (zs.drop (k + 1)) = true then some (1, fr)
  else some (esc, fr)
/-- How many dashes there are, as the document looks back for them. -/
def Dsh (zs : List Int) (k fr d : Nat) : Prop := 2 ≤ fr ∧ fr ≤ k + 1 ∧ (k < fr → zAt zs k = 33) ∧ (1 ≤ d ↔ (fr + 1 ≤ k ∧ zAt zs (k - 1) = 45)) ∧ (2 ≤ d ↔ (fr + 2 ≤ k ∧ zAt zs (k - 1) = 45 ∧ zAt zs (k - 2) = 45))
/-- What the rounds keep. -/
def Rel (sc : Bool) (nm zs : List Int) (k esc fr : Nat) : Prop :=
  k ≤ zs.length ∧ esc ≤ 2 ∧ (esc = 0 ∨ sc = true) ∧ fr ≤ zs.length + 2 ∧ ∃ d, refF sc nm 0 0 zs = (refF sc nm esc d (zs.drop k)).map (· + k) ∧ (esc = 0 ∨ Dsh zs k fr d)
theorem rel_start (sc : Bool) (nm zs : List Int) : Rel sc nm zs 0 0 0 := ⟨by omega, by omega, .inl rfl, by omega, 0, by rw [List.drop_zero, map0], .inl rfl⟩
theorem rel_end {sc : Bool} {nm zs : List Int} {esc fr : Nat} (h : Rel sc nm zs zs.length esc fr) : refF sc nm 0 0 zs = none := by
  obtain ⟨_, _, _, _, d, h, _⟩ := h
  rw [h, List.drop_length]; rfl
theorem dsh_step {zs : List Int} {k fr d : Nat} (h : Dsh zs k fr d) (h45 : zAt zs k = 45) : Dsh zs (k + 1) fr (if d = 0 then 1 else 2) := by
  obtain ⟨a1, a2, a3, a4, a5⟩ := h
  have hkf : fr ≤ k := by
    rcases Nat.lt_or_ge k fr with hlt | hge
    · have := a3 hlt; omega
    · exact hge
  refine ⟨a1, by omega, fun hx => by omega, ?_, ?_⟩
  · rw [Nat.add_sub_cancel]
    constructor
    · intro _; exact ⟨by omega, h45⟩
    · intro _; split <;> omega
  · rw [Nat.add_sub_cancel, show k + 1 - 2 = k - 1 by omega]
    constructor
    · intro hx
      have hd : d ≠ 0 := by intro e; rw [if_pos e] at hx; omega
      obtain ⟨b1, b2⟩ := a4.1 (by omega)
      exact ⟨by omega, h45, b2⟩
    · rintro ⟨b1, _, b2⟩
      have := a4.2 ⟨by omega, b2⟩
      rw [if_neg (by omega)]; omega
theorem dsh_zero {zs : List Int} {k fr d : Nat} (h : Dsh zs k fr d) (h45 : zAt zs k ≠ 45) : Dsh zs (k + 1) fr 0 := by
  obtain ⟨a1, a2, a3, a4, a5⟩ := h
  refine ⟨a1, by omega, fun hx => by omega, ?_, ?_⟩
  · rw [Nat.add_sub_cancel]
    constructor
    · intro h; omega
    · rintro ⟨_, b⟩; exact absurd b h45
  · rw [Nat.add_sub_cancel]
    constructor
    · intro h; omega
    · rintro ⟨_, b, _⟩; exact absurd b h45
theorem map_some0 {x : Option Nat} {k : Nat} (h : x = some 0) : x.map (· + k) = some k := by rw [h]; simp
theorem map_succ (x : Option Nat) (k : Nat) : (x.map (· + 1)).map (· + k) = x.map (· + (k + 1)) := by rw [mapmap, Nat.add_comm]
/-- **A round.** -/
theorem round_ok {sc : Bool} {nm zs : List Int} {k esc fr : Nat} (h : Rel sc nm zs k esc fr) (hk : k < zs.length) :
    match rnd sc nm zs k esc fr with
    | none => refF sc nm 0 0 zs = some k
    | some (e', f') => Rel sc nm zs (k + 1) e' f' := by
  obtain ⟨_, h2, hs, hf, d, hr, hd⟩ := h
  rw [drop_at zs k hk, refF] at hr
  unfold rnd
  by_cases c1 : 0 < esc ∧ zAt zs k = 62 ∧ fr + 2 ≤ k ∧ zAt zs (k - 1) = 45 ∧ zAt zs (k - 2) = 45
  · rw [if_pos c1]
    rcases hd with hd | hd
    · omega
    · rw [if_pos ⟨c1.1, c1.2.1, hd.2.2.2.2.2 ⟨c1.2.2.1, c1.2.2.2.1, c1.2.2.2.2⟩⟩, map_succ] at hr
      exact ⟨by omega, by omega, .inl rfl, hf, 0, hr, .inl rfl⟩
  · rw [if_neg c1]
    have n1 : ¬ (0 < esc ∧ zAt zs k = 62 ∧ 2 ≤ d) := by
      rintro ⟨b1, b2, b3⟩
      rcases hd with hd | hd
      · omega
      · obtain ⟨x1, x2, x3⟩ := hd.2.2.2.2.1 b3
        exact c1 ⟨b1, b2, x1, x2, x3⟩
    rw [if_neg n1] at hr
    by_cases c2 : zAt zs k ≠ 60
    · rw [if_pos c2] at hr ⊢
      rw [map_succ] at hr
      refine ⟨by omega, h2, hs, hf, _, hr, ?_⟩
      rcases hd with hd | hd
      · exact .inl hd
      · right
        by_cases c : zAt zs k = 45
        · rw [if_pos c]; exact dsh_step hd c
        · rw [if_neg c]; exact dsh_zero hd c
    · rw [if_neg c2] at hr ⊢
      have hz : zAt zs k = 60 := by omega
      have hd0 : esc = 0 ∨ Dsh zs (k + 1) fr 0 := by
        rcases hd with hd | hd
        · exact .inl hd
        · exact .inr (dsh_zero hd (by omega))
      by_cases c3 : sc = false
      · rw [if_pos c3] at hr ⊢
        by_cases c4 : isEnd nm (zs.drop (k + 1)) = true
        · rw [if_pos c4] at hr ⊢
          simpa using hr
        · rw [if_neg c4] at hr ⊢
          rw [map_succ] at hr
          exact ⟨by omega, h2, hs, hf, _, hr, hd0⟩
      · rw [if_neg c3] at hr ⊢
        have hst : sc = true := by cases sc <;> simp_all
        by_cases c4 : esc = 0 ∧ ([33, 45, 45] : List Int).isPrefixOf (zs.drop (k + 1)) = true
        · rw [if_pos c4] at hr ⊢
          rw [map_succ] at hr
          have hp := c4.2
          rw [List.isPrefixOf_iff_prefix] at hp
          have hl := hp.length_le
          simp at hl
          have h33 : zAt zs (k + 1) = 33 := by
            rw [drop_at zs (k + 1) (by omega)] at hp
            exact (List.cons_prefix_cons.1 hp).1.symm
          refine ⟨by omega, by omega, .inr hst, by omega, 0, hr, .inr ⟨by omega, by omega, fun _ => h33, ⟨fun h => by omega, fun h => by omega⟩, ⟨fun h => by omega, fun h => by omega⟩⟩⟩
        · rw [if_neg c4] at hr ⊢
          by_cases c5 : esc < 2 ∧ isEnd nm (zs.drop (k + 1)) = true
          · rw [if_pos c5] at hr ⊢
            simpa using hr
          · rw [if_neg c5] at hr ⊢
            by_cases c6 : esc = 1 ∧ wordR nm (zs.drop (k + 1)) = true
            · rw [if_pos c6] at hr ⊢
              rw [map_succ] at hr
              exact ⟨by omega, by omega, .inr hst, hf, _, hr, by rcases hd0 with h | h; omega; exact .inr h⟩
            · rw [if_neg c6] at hr ⊢
              by_cases c7 : esc = 2 ∧ isEnd nm (zs.drop (k + 1)) = true
              · rw [if_pos c7] at hr ⊢
                rw [map_succ] at hr
                exact ⟨by omega, by omega, .inr hst, hf, _, hr, by rcases hd0 with h | h; omega; exact .inr h⟩
              · rw [if_neg c7] at hr ⊢
                rw [map_succ] at hr
                exact ⟨by omega, h2, hs, hf, _, hr, hd0⟩
theorem round_none {sc : Bool} {nm zs : List Int} {k esc fr : Nat} (h : Rel sc nm zs k esc fr) (hk : k < zs.length) (hr : rnd sc nm zs k esc fr = none) : refF sc nm 0 0 zs = some k := by
  have := round_ok h hk; rw [hr] at this; exact this
theorem round_some {sc : Bool} {nm zs : List Int} {k esc fr e' f' : Nat} (h : Rel sc nm zs k esc fr) (hk : k < zs.length) (hr : rnd sc nm zs k esc fr = some (e', f')) : Rel sc nm zs (k + 1) e' f' := by
  have := round_ok h hk; rw [hr] at this; exact this
theorem rnd_plain {sc : Bool} {nm zs : List Int} {k esc fr : Nat} (h60 : zAt zs k ≠ 60) (hn : ¬ (0 < esc ∧ zAt zs k = 62 ∧ fr + 2 ≤ k ∧ zAt zs (k - 1) = 45 ∧ zAt zs (k - 2) = 45)) : rnd sc nm zs k esc fr = some (esc, fr) := by unfold rnd; rw [if_neg hn, if_pos h60]
theorem rnd_close {sc : Bool} {nm zs : List Int} {k esc fr : Nat} (h : 0 < esc ∧ zAt zs k = 62 ∧ fr + 2 ≤ k ∧ zAt zs (k - 1) = 45 ∧ zAt zs (k - 2) = 45) : rnd sc nm zs k esc fr = some (0, fr) := by unfold rnd; rw [if_pos h]
theorem rnd_text {nm zs : List Int} {k esc fr : Nat} {b : Bool} (h60 : zAt zs k = 60) (hb : isEnd nm (zs.drop (k + 1)) = b) : rnd false nm zs k esc fr = if b then none else some (esc, fr) := by
  unfold rnd
  rw [if_neg (by omega), if_neg (by omega), if_pos rfl, hb]
theorem rnd_bang {nm zs : List Int} {k fr : Nat} (h60 : zAt zs k = 60) (hb : ([33, 45, 45] : List Int).isPrefixOf (zs.drop (k + 1)) = true) : rnd true nm zs k 0 fr = some (1, k + 2) := by
  unfold rnd
  rw [if_neg (by omega), if_neg (by omega), if_neg (by simp), if_pos ⟨rfl, hb⟩]
theorem rnd_zero {nm zs : List Int} {k fr : Nat} {b : Bool} (h60 : zAt zs k = 60) (hp : ([33, 45, 45] : List Int).isPrefixOf (zs.drop (k + 1)) = false) (hb : isEnd nm (zs.drop (k + 1)) = b) : rnd true nm zs k 0 fr = if b then none else some (0, fr) := by
  unfold rnd
  rw [if_neg (by omega), if_neg (by omega), if_neg (by simp), if_neg (by rw [hp]; simp), hb]
  cases b <;> simp
theorem rnd_one {nm zs : List Int} {k fr : Nat} {b c : Bool} (h60 : zAt zs k = 60) (hb : isEnd nm (zs.drop (k + 1)) = b) (hc : wordR nm (zs.drop (k + 1)) = c) : rnd true nm zs k 1 fr = if b then none else if c then some (2, fr) else some (1, fr) := by
  unfold rnd
  rw [if_neg (by omega), if_neg (by omega), if_neg (by simp), if_neg (by omega), hb, hc]
  cases b <;> cases c <;> simp
theorem rnd_two {nm zs : List Int} {k fr : Nat} {b : Bool} (h60 : zAt zs k = 60) (hb : isEnd nm (zs.drop (k + 1)) = b) : rnd true nm zs k 2 fr = if b then some (1, fr) else some (2, fr) := by
  unfold rnd
  rw [if_neg (by omega), if_neg (by omega), if_neg (by simp), if_neg (by omega), if_neg (by omega), if_neg (by omega), hb]
  cases b <;> simp
end Go.Proofs.YtegkdgmpkfpjmaaDoor.R
