/- What is proved here: plain facts for the document's Sure: what is held is just what may begin the end tag; no other place is found. -/
import Derived.Test.YtegkdgmpkfpjmaaDoorBun13
namespace Go.Proofs.YtegkdgmpkfpjmaaDoor.R
open Go.RowKit Go.Shelf Go.Proofs.YtegkdgmpkfpjmaaDoor.U Go.Proofs.YtegkdgmpkfpjmaaDoor.N

/-- The end tag's runes. -/
abbrev tagZ (nm : List Int) : List Int := 60 :: 47 :: (nm ++ [62])
theorem pre_o (nm : List Int) : ∀ (l : List Int) (s : St), Ok nm s → ∃ t, (s.run nm l).o = s.o ++ t := by
  have hb : ∀ (s : St) (r : Int), ∃ t, (s.begin r).o = s.o ++ t := by
    intro s r
    unfold St.begin St.tell St.hold
    split
    · exact ⟨_, List.append_assoc _ _ _⟩
    · split
      · exact ⟨_, List.append_assoc _ _ _⟩
      · split
        · exact ⟨[], by simp⟩
        · exact ⟨_, List.append_assoc _ _ _⟩
  have ht : ∀ (s : St) (r : Int) (b : Nat), ∃ t, (s.tell r b).o = s.o ++ t := fun s r b => ⟨s.h ++ [r], List.append_assoc _ _ _⟩
  have ha : ∀ (s : St) (r : Int), ∃ t, (s.again r).o = s.o ++ t := by
    intro s r
    obtain ⟨t, h⟩ := hb s.freed r
    exact ⟨s.h ++ t, by rw [St.again, h]; simp [St.freed]⟩
  have hw : ∀ (s : St) (r : Int), ∃ t, (s.word nm r).o = s.o ++ t := by
    intro s r
    unfold St.word
    split
    · exact ht s r 3
    · split
      · exact ht s r 0
      · exact ha s r
  have hd : ∀ (s : St) (r : Int), ∃ t, (s.dash r).o = s.o ++ t := by
    intro s r
    unfold St.dash
    split
    · exact ht s r 7
    · exact ha s r
  have hs : ∀ (s : St) (r : Int), ∃ t, (s.step nm r).o = s.o ++ t := by
    intro s r
    unfold St.step
    split
    · exact hb s r
    · split
      · split
        · exact ⟨[], by simp [St.hold]⟩
        · split
          · exact ⟨[], by simp⟩
          · exact ha s r
      · split
        · split
          · exact ht s r 3
          · split
            · exact ⟨[], by simp [St.hold]⟩
            · split
              · exact ht s r 4
              · split
                · exact hw s r
                · exact ha s r
        · split
          · exact hw s r
          · split
            · split
              · exact ht s r 5
              · exact ha s r
            · split
              · split
                · exact ht s r 7
                · exact ha s r
              · split
                · split
                  · exact ht s r 0
                  · exact hd s r
                · exact hd s r
  intro l
  induction l with
  | nil => exact fun s _ => ⟨[], by simp [run_nil]⟩
  | cons r l ih =>
    intro s hk
    rw [run_cons, next_ok hk]
    obtain ⟨t, h⟩ := hs s r
    rcases step_keeps nm s r hk with ⟨e, _⟩ | ⟨k1, _, _⟩
    · exact ⟨t, by rw [run_over nm _ e]; exact h⟩
    · obtain ⟨t2, h2⟩ := ih _ k1
      exact ⟨t ++ t2, by rw [h2, h, List.append_assoc]⟩
/-- What is held, where the content has not ended. -/
theorem held_is {nm : List Int} (hnm : NmOk nm) {p : Nat} (h2 : 2 ≤ p) (h3 : p ≤ 3) (l : List Int) (h6 : ((s0 p).run nm l).p ≠ 6) :
    ((s0 p).run nm l).o ++ ((s0 p).run nm l).h = l ∧ (((s0 p).run nm l).h = [] ∨ ∃ j, 1 ≤ j ∧ j ≤ nm.length + 2 ∧ ((s0 p).run nm l).h.length = j ∧ ((s0 p).run nm l).h.map lowZ = (tagZ nm).take j ∧ ∃ y, ((s0 p).run nm l).h = 60 :: y ∧ (∀ c ∈ y, c ≠ 60) ∧ Pend nm ((s0 p).run nm l) ((s0 p).run nm l).h) := by
  have hm := main nm hnm l (s0 p) [] [] (s0_pend nm p h2 h3) rfl
  cases hr : refF (decide (2 < (s0 p).p)) nm ((s0 p).p - 3) 0 ([] ++ l) with
  | some k =>
    rw [hr] at hm
    obtain ⟨l1, r, l2, n, x', base', i0, i1, i2, i3, i4, i5, i6, i7⟩ := hm
    exfalso
    apply h6
    rw [i0, show l1 ++ r :: l2 = (l1 ++ [r]) ++ l2 by simp]
    exact over_more (by rw [i5]) _
  | none =>
    rw [hr] at hm
    obtain ⟨x', base', i1, i2, i3, _, _⟩ := hm
    obtain ⟨s, hs⟩ : ∃ s, (s0 p).run nm l = s := ⟨_, rfl⟩
    rw [hs] at i1 i2 ⊢
    refine ⟨by rw [i2, i3]; simp, ?_⟩
    cases i1 with
    | none _ hh _ _ => exact .inl hh
    | less hb hh hn a2 a4 =>
      right
      refine ⟨1, by omega, by omega, by rw [hh]; rfl, by rw [hh]; rfl, [], hh, by simp, ?_⟩
      rw [hh]
      exact .less hb hh hn a2 a4
    | less5 _ hh _ _ => exact .inl hh
    | tag y hb hh hl hy hn a2 a4 =>
      right
      have hmem := mem_low hnm hy
      refine ⟨s.n + 2, by omega, by omega, by rw [hh]; simp [hl], ?_, 47 :: y, hh, ?_, ?_⟩
      · rw [hh]
        show (60 : Int) :: 47 :: y.map lowZ = (tagZ nm).take (s.n + 2)
        rw [hy]
        show _ = 60 :: 47 :: (nm ++ [62]).take s.n
        rw [List.take_append_of_le_length hn]
      · intro c hc
        rcases List.mem_cons.1 hc with rfl | hc
        · decide
        · exact (hmem c hc).1
      · rw [hh]
        exact .tag y hb hh hl hy hn a2 a4
    | word4 y _ hh _ _ _ _ _ => exact .inl hh
    | word5 y _ hh _ _ _ _ => exact .inl hh
    | bang _ hh _ => exact .inl hh
    | bangDash _ hh _ => exact .inl hh
    | dash _ hh _ _ => exact .inl hh
    | twoDashes _ hh _ _ => exact .inl hh
/-- A place that the document's Sure finds is where what is held begins. -/
theorem sure_only {nm : List Int} (hnm : NmOk nm) {p : Nat} (h2 : 2 ≤ p) (h3 : p ≤ 3) (l W : List Int) (h6 : ((s0 p).run nm l).p ≠ 6) (k : Nat) (hk : k < l.length) (h60 : l.getD k 0 = 60) (hr : refR nm p (l ++ W) = some k) : k + ((s0 p).run nm l).h.length = l.length ∧ ((s0 p).run nm l).h ≠ [] := by
  obtain ⟨l1, r, l2, n, i0, i1, i2, i3⟩ := ref_some hnm (by omega) h3 hr
  obtain ⟨e1, e2⟩ := held_is hnm h2 h3 l h6
  have hlen := congrArg List.length e1
  rw [List.length_append] at hlen
  -- all of l comes ahead of the end
  have hle : l.length ≤ l1.length := by
    rcases Nat.lt_or_ge l1.length l.length with hlt | hge
    · exfalso
      apply h6
      have hp : l = (l1 ++ [r]) ++ l.drop (l1.length + 1) := by
        have h7 : l.take (l1.length + 1) = l1 ++ [r] := by
          have h8 : (l ++ W).take (l1.length + 1) = l.take (l1.length + 1) := by rw [List.take_append_of_le_length (by omega)]
          rw [← h8, i0, show l1 ++ r :: l2 = (l1 ++ [r]) ++ l2 by simp, List.take_left' (by simp)]
        rw [← h7, List.take_append_drop]
      rw [hp]
      exact over_more (by rw [i2]) _
    · exact hge
  have hl1 : l1 = l ++ l1.drop l.length := by
    have h7 : l1.take l.length = l := by
      have h8 : (l ++ W).take l.length = l1.take l.length := by rw [i0, List.take_append_of_le_length hle]
      rw [← h8, List.take_left]
    conv => lhs; rw [← List.take_append_drop l.length l1, h7]
  have hok : Ok nm ((s0 p).run nm l) := by
    rcases run_keeps nm l (s0 p) (s0_ok nm (by omega) (by omega)) with h | h
    · exact absurd h h6
    · exact h.1
  have hge : ((s0 p).run nm l).o.length ≤ k := by
    obtain ⟨t, ht⟩ := pre_o nm (l1.drop l.length ++ [r]) _ hok
    rw [← run_append, ← List.append_assoc, ← hl1, i2] at ht
    have := congrArg List.length ht
    simp only [List.length_append, List.length_take] at this
    omega
  rcases e2 with e2 | ⟨j, j1, j2, j3, _, y, e3, e4, _⟩
  · rw [e2] at hlen; simp at hlen; omega
  · refine ⟨?_, by rw [e3]; simp⟩
    rcases Nat.lt_or_ge ((s0 p).run nm l).o.length k with hlt | hle2
    · exfalso
      have : l.getD k 0 = ((s0 p).run nm l).h.getD (k - ((s0 p).run nm l).o.length) 0 := by
        conv => lhs; rw [← e1]
        simp only [List.getD_eq_getElem?_getD]
        rw [List.getElem?_append_right (by omega)]
      rw [h60, e3] at this
      obtain ⟨m, hm⟩ : ∃ m, k - ((s0 p).run nm l).o.length = m + 1 := ⟨k - ((s0 p).run nm l).o.length - 1, by omega⟩
      rw [hm] at this
      have hyl : m < y.length := by
        have := congrArg List.length e3
        simp at this
        omega
      have hmem : (60 : Int) ∈ y := by
        have h9 : y.getD m 0 = 60 := by simpa using this.symm
        rw [← h9]
        simp [hyl]
      exact e4 60 hmem rfl
    · omega
theorem tag_low {nm : List Int} (hnm : NmOk nm) : (tagZ nm).map lowZ = tagZ nm := by
  have h : nm.map lowZ = nm := by
    conv => rhs; rw [← List.map_id nm]
    apply List.map_congr_left
    intro c hc
    have := hnm.2 c hc
    show lowZ c = c
    unfold lowZ
    rw [if_neg (by omega)]
  simp only [tagZ, List.map_cons, List.map_append, List.map_nil, h]
  rfl
theorem low_sign {a b : Int} (h : lowZ a = b) (hb : b < 65) : a = b := by
  unfold lowZ at h
  split at h <;> omega
/-- Runes that are the end tag in any capitals. -/
theorem tag_is {nm h : List Int} (e : h.map lowZ = tagZ nm) : ∃ y, h = 60 :: 47 :: (y ++ [62]) ∧ y.map lowZ = nm := by
  cases h with
  | nil => simp at e
  | cons a h1 =>
    cases h1 with
    | nil => simp at e
    | cons b h2 =>
      simp only [tagZ, List.map_cons, List.cons.injEq] at e
      obtain ⟨ea, eb, er⟩ := e
      have hne : h2 ≠ [] := by intro e2; rw [e2] at er; simp at er
      obtain ⟨y, z, rfl⟩ : ∃ y z, h2 = y ++ [z] := ⟨h2.dropLast, h2.getLast hne, (List.dropLast_concat_getLast _).symm⟩
      rw [List.map_append] at er
      have e3 := List.append_inj' er rfl
      have ez : lowZ z = 62 := by simpa using e3.2
      exact ⟨y, by rw [low_sign ea (by decide), low_sign eb (by decide), low_sign ez (by decide)], e3.1⟩
/-- Where something is held, the end tag's rest ends the content there. -/
theorem sure_yes {nm : List Int} (hnm : NmOk nm) {p : Nat} (h2 : 2 ≤ p) (h3 : p ≤ 3) (l : List Int) (h6 : ((s0 p).run nm l).p ≠ 6) (hne : ((s0 p).run nm l).h ≠ []) : refR nm p (l ++ (tagZ nm).drop ((s0 p).run nm l).h.length) = some (l.length - ((s0 p).run nm l).h.length) := by
  obtain ⟨e1, e2⟩ := held_is hnm h2 h3 l h6
  rcases e2 with e2 | ⟨j, j1, j2, j3, j4, y, e3, e4, hP⟩
  · exact absurd e2 hne
  · obtain ⟨s, hs⟩ : ∃ s, (s0 p).run nm l = s := ⟨_, rfl⟩
    rw [hs] at e1 j3 j4 e3 hP hne ⊢
    rw [j3]
    obtain ⟨W, hW⟩ : ∃ W, (tagZ nm).drop j = W := ⟨_, rfl⟩
    rw [hW]
    have hlow : (s.h ++ W).map lowZ = tagZ nm := by
      rw [List.map_append, j4, ← hW, List.map_drop, tag_low hnm, List.take_append_drop]
    obtain ⟨y', ey, em⟩ := tag_is hlow
    have hp4' : ∀ x, Pend nm s x → 2 ≤ s.p ∧ s.p ≤ 4 := by
      intro x hQ
      cases hQ with
      | none _ hh _ _ => exact absurd hh hne
      | less _ _ _ a b => exact ⟨a, b⟩
      | less5 _ hh _ _ => exact absurd hh hne
      | tag _ _ _ _ _ _ a b => exact ⟨a, b⟩
      | word4 _ _ hh _ _ _ _ _ => exact absurd hh hne
      | word5 _ _ hh _ _ _ _ => exact absurd hh hne
      | bang _ hh _ => exact absurd hh hne
      | bangDash _ hh _ => exact absurd hh hne
      | dash _ hh _ _ => exact absurd hh hne
      | twoDashes _ hh _ _ => exact absurd hh hne
    have hp4 := hp4' _ hP
    have hend : isEnd nm (47 :: (y' ++ [62])) = true := by rw [isEnd_cons, wordR_full em (by decide)]; rfl
    have hrf : refF (decide (2 < s.p)) nm (s.p - 3) 0 (s.h ++ W) = some 0 := by
      rw [ey, refF, if_neg (by omega), if_neg (by omega), hend]
      by_cases hp2 : s.p = 2
      · rw [hp2]; simp
      · have : decide (2 < s.p) = true := by simp; omega
        rw [this, if_neg (by simp), if_neg (by simp [List.isPrefixOf]), if_pos ⟨by omega, rfl⟩]
    have hm := main nm hnm W s s.h s.o hP rfl
    rw [hrf] at hm
    obtain ⟨l1, r, l2, n, x', base', i0, i1, i2, i3, i4, i5, i6, i7⟩ := hm
    have hrl : (s0 p).run nm (l ++ l1) = s.run nm l1 := by rw [run_append, hs]
    have hrr : (s0 p).run nm (l ++ l1 ++ [r]) = ⟨6, 0, n, base', [], r⟩ := by rw [List.append_assoc, run_append, hs, i5]
    have hlW : l ++ W = (l ++ l1) ++ r :: l2 := by rw [i0]; simp
    have hol : s.o.length = l.length - j := by
      have := congrArg List.length e1
      rw [List.length_append, j3] at this
      omega
    cases hr : refR nm p (l ++ W) with
    | none =>
      exfalso
      apply ref_none hnm (by omega) h3 hr
      rw [hlW, show l ++ l1 ++ r :: l2 = (l ++ l1 ++ [r]) ++ l2 by simp]
      exact over_more (by rw [hrr]) _
    | some k =>
      obtain ⟨L1, R, L2, m, q0, q1, q2, q3⟩ := ref_some hnm (by omega) h3 hr
      obtain ⟨rfl, rfl⟩ := first_one hlW q0 (by rw [hrl]; exact pend_ne6 i1) (by rw [hrr]) q1 (by rw [q2])
      rw [hrr] at q2
      have hb : base' = (l ++ W).take k := by injection q2
      have hbl := congrArg List.length hb
      rw [List.length_take, i6, Nat.add_zero] at hbl
      have hkl : k ≤ (l ++ W).length := by rw [q0]; simp at q3 ⊢; omega
      congr 1
      omega
end Go.Proofs.YtegkdgmpkfpjmaaDoor.R
