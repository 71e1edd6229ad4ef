/- What is proved here: plain facts: the scanner of package raw as a machine over runes, and that it ends where the document's search ends. -/
import Derived.Test.YtegkdgmpkfpjmaaDoorBun1
namespace Go.Proofs.YtegkdgmpkfpjmaaDoor.R
open Go.RowKit Go.Proofs.YtegkdgmpkfpjmaaDoor.N

/-- A scanner's state: its part, what is begun, how many letters of the name have come, what is sure, what is held, the end tag's end. -/
structure St where
  p : Nat
  b : Nat
  n : Nat
  o : List Int
  h : List Int
  e : Int

def stopZ (r : Int) : Bool := blankZ r || r == 47 || r == 62
def spellZ (nm : List Int) (n : Nat) (r : Int) : Bool := decide (n < nm.length) && (lowZ r == nm.getD n 0)
def closeZ (nm : List Int) (n : Nat) (r : Int) : Bool := decide (n = nm.length) && stopZ r
def St.tell (s : St) (r : Int) (b : Nat) : St := { s with o := s.o ++ s.h ++ [r], h := [], b := b }
def St.hold (s : St) (r : Int) (b : Nat) : St := { s with h := s.h ++ [r], b := b }
def St.begin (s : St) (r : Int) : St :=
  if s.p = 5 ∧ r = 60 then { s.tell r 1 with n := 0 }
  else if (s.p = 5 ∨ s.p = 4) ∧ r = 45 then { s.tell r 6 with n := 0 }
  else if (s.p = 4 ∨ s.p = 3 ∨ s.p = 2) ∧ r = 60 then { s.hold r 1 with n := 0 }
  else { s.tell r 0 with n := 0 }
def St.freed (s : St) : St := { s with o := s.o ++ s.h, h := [], b := 0 }
def St.again (s : St) (r : Int) : St := s.freed.begin r
def St.word (nm : List Int) (s : St) (r : Int) : St :=
  if spellZ nm s.n r then { s.tell r 3 with n := s.n + 1 }
  else if closeZ nm s.n r then { s.tell r 0 with p := if s.p = 4 then 5 else 4 }
  else s.again r
def St.dash (s : St) (r : Int) : St := if r = 45 then s.tell r 7 else s.again r
def St.step (nm : List Int) (s : St) (r : Int) : St :=
  if s.b = 0 then s.begin r
  else if s.b = 2 then
    if spellZ nm s.n r then { s.hold r 2 with n := s.n + 1 }
    else if closeZ nm s.n r then { s with h := [], e := r, p := 6, b := 0 }
    else s.again r
  else if s.b = 1 then
    if r = 47 ∧ s.p = 5 then s.tell r 3
    else if r = 47 then s.hold r 2
    else if r = 33 ∧ s.p = 3 then s.tell r 4
    else if s.p = 4 then s.word nm r
    else s.again r
  else if s.b = 3 then s.word nm r
  else if s.b = 4 then if r = 45 then s.tell r 5 else s.again r
  else if s.b = 5 then if r = 45 then { s.tell r 7 with p := 4 } else s.again r
  else if s.b = 7 then if r = 62 then { s.tell r 0 with p := 3 } else s.dash r
  else s.dash r
/-- Behind the end nothing turns. -/
def St.next (nm : List Int) (s : St) (r : Int) : St := if s.p = 6 then s else s.step nm r
def St.run (nm : List Int) (s : St) (l : List Int) : St := l.foldl (St.next nm) s
theorem run_nil (nm : List Int) (s : St) : s.run nm [] = s := rfl
theorem run_cons (nm : List Int) (s : St) (r : Int) (l : List Int) : s.run nm (r :: l) = (s.next nm r).run nm l := rfl
theorem run_append (nm : List Int) (s : St) (l m : List Int) : s.run nm (l ++ m) = (s.run nm l).run nm m := by simp [St.run]
theorem run_snoc (nm : List Int) (s : St) (l : List Int) (r : Int) : s.run nm (l ++ [r]) = (s.run nm l).next nm r := by simp [St.run]
theorem run_over (nm : List Int) (s : St) (h : s.p = 6) : ∀ l, s.run nm l = s
  | [] => rfl
  | r :: l => by rw [run_cons, show s.next nm r = s by unfold St.next; rw [if_pos h]]; exact run_over nm s h l

/-- What has been read, and is not yet resolved. -/
inductive Pend (nm : List Int) (s : St) : List Int → Prop
  | none : s.b = 0 → s.h = [] → 2 ≤ s.p → s.p ≤ 5 → Pend nm s []
  | less : s.b = 1 → s.h = [60] → s.n = 0 → 2 ≤ s.p → s.p ≤ 4 → Pend nm s [60]
  | less5 : s.b = 1 → s.h = [] → s.n = 0 → s.p = 5 → Pend nm s [60]
  | tag (y : List Int) : s.b = 2 → s.h = 60 :: 47 :: y → y.length = s.n → y.map lowZ = nm.take s.n → s.n ≤ nm.length → 2 ≤ s.p → s.p ≤ 4 → Pend nm s (60 :: 47 :: y)
  | word4 (y : List Int) : s.b = 3 → s.h = [] → y.length = s.n → y.map lowZ = nm.take s.n → s.n ≤ nm.length → 1 ≤ s.n → s.p = 4 → Pend nm s (60 :: y)
  | word5 (y : List Int) : s.b = 3 → s.h = [] → y.length = s.n → y.map lowZ = nm.take s.n → s.n ≤ nm.length → s.p = 5 → Pend nm s (60 :: 47 :: y)
  | bang : s.b = 4 → s.h = [] → s.p = 3 → Pend nm s [60, 33]
  | bangDash : s.b = 5 → s.h = [] → s.p = 3 → Pend nm s [60, 33, 45]
  | dash : s.b = 6 → s.h = [] → 4 ≤ s.p → s.p ≤ 5 → Pend nm s [45]
  | twoDashes : s.b = 7 → s.h = [] → 4 ≤ s.p → s.p ≤ 5 → Pend nm s [45, 45]

/-- A word in any capitals, and a sign behind it that may end a tag. -/
def wordR (w l : List Int) : Bool := decide (w.length < l.length) && ((l.take w.length).map lowZ == w) && stopZ (l.getD w.length 0)
def isEnd (nm : List Int) : List Int → Bool
  | [] => false
  | c :: t => c == 47 && wordR nm t
/-- The document's search: is it script data, how deep escaped, how many dashes stand ahead. -/
def refF (sc : Bool) (nm : List Int) : Nat → Nat → List Int → Option Nat
  | _, _, [] => none
  | esc, d, c :: t =>
    if 0 < esc ∧ c = 62 ∧ 2 ≤ d then (refF sc nm 0 0 t).map (· + 1)
    else if c ≠ 60 then (refF sc nm esc (if c = 45 then (if d = 0 then 1 else 2) else 0) t).map (· + 1)
    else if sc = false then if isEnd nm t then some 0 else (refF sc nm esc 0 t).map (· + 1)
    else if esc = 0 ∧ [33, 45, 45].isPrefixOf t = true then (refF sc nm 1 0 t).map (· + 1)
    else if esc < 2 ∧ isEnd nm t = true then some 0
    else if esc = 1 ∧ wordR nm t = true then (refF sc nm 2 0 t).map (· + 1)
    else if esc = 2 ∧ isEnd nm t = true then (refF sc nm 1 0 t).map (· + 1)
    else (refF sc nm esc 0 t).map (· + 1)

/-- A name: small letters, at least one. -/
def NmOk (nm : List Int) : Prop := nm ≠ [] ∧ ∀ c ∈ nm, 97 ≤ c ∧ c ≤ 122
theorem NmOk.pos {nm : List Int} (h : NmOk nm) : 0 < nm.length := List.length_pos_iff.2 h.1
theorem NmOk.at {nm : List Int} (h : NmOk nm) {n : Nat} (hn : n < nm.length) : 97 ≤ nm.getD n 0 ∧ nm.getD n 0 ≤ 122 := by
  have e : nm.getD n 0 = nm[n] := by simp [hn]
  rw [e]; exact h.2 _ (List.getElem_mem hn)
theorem low_letter {c : Int} (h : 97 ≤ lowZ c ∧ lowZ c ≤ 122) : c ≠ 60 ∧ c ≠ 45 ∧ c ≠ 62 ∧ c ≠ 47 ∧ c ≠ 33 := by
  unfold lowZ at h
  split at h <;> omega
theorem mem_low {nm y : List Int} (h : NmOk nm) {n : Nat} (hy : y.map lowZ = nm.take n) : ∀ c ∈ y, c ≠ 60 ∧ c ≠ 45 ∧ c ≠ 62 ∧ c ≠ 47 ∧ c ≠ 33 := by
  intro c hc
  have h1 : lowZ c ∈ nm.take n := by rw [← hy]; exact List.mem_map_of_mem hc
  exact low_letter (h.2 _ (List.mem_of_mem_take h1))
theorem spell_letter {nm : List Int} (h : NmOk nm) {n : Nat} {r : Int} (hs : spellZ nm n r = true) : n < nm.length ∧ lowZ r = nm.getD n 0 ∧ r ≠ 60 ∧ r ≠ 45 ∧ r ≠ 62 ∧ r ≠ 47 ∧ r ≠ 33 := by
  unfold spellZ at hs
  simp only [Bool.and_eq_true, decide_eq_true_eq, beq_iff_eq] at hs
  exact ⟨hs.1, hs.2, low_letter (by rw [hs.2]; exact h.at hs.1)⟩
theorem stop_not {r : Int} (h : stopZ r = true) : r ≠ 60 ∧ r ≠ 45 ∧ r ≠ 33 := by
  unfold stopZ blankZ at h
  simp only [Bool.or_eq_true, decide_eq_true_eq, beq_iff_eq] at h
  omega
theorem map_snoc {nm y : List Int} {n : Nat} {r : Int} (hy : y.map lowZ = nm.take n) (hn : n < nm.length) (hr : lowZ r = nm.getD n 0) : (y ++ [r]).map lowZ = nm.take (n + 1) := by
  rw [List.map_append, hy, List.take_succ_eq_append_getElem hn, List.map_cons, List.map_nil, hr]
  simp [hn]
theorem wordR_full {nm y : List Int} {r : Int} (hy : y.map lowZ = nm) (hr : stopZ r = true) (t : List Int) : wordR nm (y ++ r :: t) = true := by
  have hl : nm.length = y.length := by rw [← hy]; simp
  unfold wordR
  rw [hl]
  simp [hy, hr]
theorem wordR_no {nm y : List Int} {n : Nat} {r : Int} (hl : y.length = n) (hy : y.map lowZ = nm.take n) (hn : n ≤ nm.length) (h1 : spellZ nm n r = false) (h2 : closeZ nm n r = false) (t : List Int) : wordR nm (y ++ r :: t) = false := by
  by_cases hlt : n < nm.length
  · have hne : lowZ r ≠ nm.getD n 0 := by
      intro e; unfold spellZ at h1; rw [e] at h1; simp [hlt] at h1
    have : (((y ++ r :: t).take nm.length).map lowZ == nm) = false := by
      rw [beq_eq_false_iff_ne]
      intro e
      have h3 := congrArg (fun l => l[n]?) e
      rw [List.getElem?_map, List.getElem?_take, if_pos hlt, List.getElem?_append_right (by omega), show n - y.length = 0 by omega] at h3
      simp only [List.getElem?_cons_zero, Option.map_some, List.getElem?_eq_getElem hlt] at h3
      apply hne
      have h4 := Option.some.inj h3
      rw [h4, List.getD_eq_getElem?_getD, List.getElem?_eq_getElem hlt]; rfl
    unfold wordR
    rw [this]; simp
  · obtain rfl : n = nm.length := by omega
    have : stopZ r = false := by unfold closeZ at h2; simpa using h2
    unfold wordR
    rw [← hl]
    simp [this]
theorem pass (sc : Bool) (nm : List Int) (esc : Nat) (t : List Int) : ∀ y : List Int, (∀ c ∈ y, c ≠ 60 ∧ c ≠ 45 ∧ c ≠ 62) → refF sc nm esc 0 (y ++ t) = (refF sc nm esc 0 t).map (· + y.length)
  | [], _ => by simp
  | c :: y, h => by
    have hc := h c (by simp)
    rw [List.cons_append, refF, if_neg (by omega), if_pos hc.1, if_neg hc.2.1, pass sc nm esc t y (fun c hc => h c (by simp [hc])), Option.map_map]
    congr 1
/-- Outside of an escaped part dashes say nothing. -/
theorem dashes0 (sc : Bool) (nm : List Int) : ∀ (l : List Int) (d d' : Nat), refF sc nm 0 d l = refF sc nm 0 d' l
  | [], _, _ => by rw [refF, refF]
  | c :: t, d, d' => by
    have e : ∀ d, refF sc nm 0 d (c :: t) = if c ≠ 60 then (refF sc nm 0 (if c = 45 then (if d = 0 then 1 else 2) else 0) t).map (· + 1) else refF sc nm 0 0 (c :: t) := fun d => by
      by_cases h : c ≠ 60
      · rw [if_pos h, refF, if_neg (by omega), if_pos h]
      · simp only [refF, h, if_false, Nat.lt_irrefl, false_and]
    rw [e d, e d']
    split
    · rw [dashes0 sc nm t]
    · rfl
theorem map0 (x : Option Nat) : x.map (· + 0) = x := by cases x <;> simp
theorem mapmap (x : Option Nat) (i j : Nat) : (x.map (· + i)).map (· + j) = x.map (· + (i + j)) := by cases x <;> simp [Nat.add_assoc]

/-- What a step leaves that does not end the content. -/
def Goes (nm : List Int) (s : St) (x base : List Int) (r : Int) (s' : St) : Prop :=
  ∃ (j : Nat) (x' base' : List Int), Pend nm s' x' ∧ s'.o ++ s'.h = base' ++ x' ∧ base' ++ x' = base ++ x ++ [r] ∧ base'.length = base.length + j ∧ (decide (2 < s'.p) = decide (2 < s.p)) ∧ s'.e = s.e ∧
    ∀ t, refF (decide (2 < s.p)) nm (s.p - 3) 0 (x ++ r :: t) = (refF (decide (2 < s.p)) nm (s'.p - 3) 0 (x' ++ t)).map (· + j)
theorem begin_goes (nm : List Int) (s : St) (base : List Int) (r : Int) (hh : s.h = []) (h2 : 2 ≤ s.p) (h5 : s.p ≤ 5) (ho : s.o = base) : Goes nm s [] base r (s.begin r) := by
  obtain ⟨p, b, n, o, h, e⟩ := s
  simp only at hh h2 h5 ho
  subst hh ho
  by_cases c1 : p = 5 ∧ r = 60
  · obtain ⟨rfl, rfl⟩ := c1
    exact ⟨0, [60], o, .less5 rfl rfl rfl rfl, by simp [St.begin, St.tell], by simp, by simp, rfl, rfl, fun t => by rw [map0]; rfl⟩
  · by_cases c2 : (p = 5 ∨ p = 4) ∧ r = 45
    · obtain ⟨c2, rfl⟩ := c2
      have hs : St.begin ⟨p, b, n, o, [], e⟩ 45 = ⟨p, 6, 0, o ++ [45], [], e⟩ := by rcases c2 with rfl | rfl <;> simp [St.begin, St.tell]
      rw [hs]
      exact ⟨0, [45], o, .dash rfl rfl (by simp only; omega) (by simp only; omega), by simp, by simp, by simp, rfl, rfl, fun t => by rw [map0]; rfl⟩
    · by_cases c3 : (p = 4 ∨ p = 3 ∨ p = 2) ∧ r = 60
      · obtain ⟨c3, rfl⟩ := c3
        have hs : St.begin ⟨p, b, n, o, [], e⟩ 60 = ⟨p, 1, 0, o, [60], e⟩ := by rcases c3 with rfl | rfl | rfl <;> simp [St.begin, St.hold]
        rw [hs]
        exact ⟨0, [60], o, .less rfl rfl rfl (by simp only; omega) (by simp only; omega), by simp, by simp, by simp, rfl, rfl, fun t => by rw [map0]; rfl⟩
      · have hs : St.begin ⟨p, b, n, o, [], e⟩ r = ⟨p, 0, 0, o ++ [r], [], e⟩ := by unfold St.begin; rw [if_neg c1, if_neg c2, if_neg c3]; simp [St.tell]
        rw [hs]
        refine ⟨1, [], o ++ [r], .none rfl rfl h2 h5, by simp, by simp, by simp, rfl, rfl, fun t => ?_⟩
        have hr : r ≠ 60 := by omega
        simp only [List.nil_append]
        rw [refF, if_neg (by omega), if_pos hr]
        by_cases hd : r = 45
        · rw [if_pos hd]
          have : p - 3 = 0 := by omega
          rw [this]
          simp only [if_true]
          rw [dashes0 _ nm t 1 0]
        · rw [if_neg hd]
theorem again_goes (nm : List Int) (s : St) (x base : List Int) (r : Int) (h2 : 2 ≤ s.p) (h5 : s.p ≤ 5) (ho : s.o ++ s.h = base ++ x)
    (hr : ∀ t, refF (decide (2 < s.p)) nm (s.p - 3) 0 (x ++ r :: t) = (refF (decide (2 < s.p)) nm (s.p - 3) 0 (r :: t)).map (· + x.length)) : Goes nm s x base r (s.again r) := by
  obtain ⟨j, x', base', g1, g2, g3, g4, g5, g6, g7⟩ := begin_goes nm s.freed (base ++ x) r rfl h2 h5 ho
  refine ⟨x.length + j, x', base', g1, g2, by rw [g3]; simp, by rw [g4]; simp; omega, g5, g6, fun t => ?_⟩
  have this : refF (decide (2 < s.p)) nm (s.p - 3) 0 (r :: t) = (refF (decide (2 < s.p)) nm ((s.again r).p - 3) 0 (x' ++ t)).map (· + j) := g7 t
  rw [hr t, this, mapmap, Nat.add_comm]
/-- A step that goes on with what is begun. -/
theorem goes_on {nm : List Int} {s s' : St} {x base : List Int} {r : Int} (hp : s'.p = s.p) (he : s'.e = s.e) (ho : s.o ++ s.h = base ++ x) (ho' : s'.o ++ s'.h = s.o ++ s.h ++ [r]) (h : Pend nm s' (x ++ [r])) : Goes nm s x base r s' :=
  ⟨0, x ++ [r], base, h, by rw [ho', ho, List.append_assoc], by simp, by simp, by rw [hp], he, fun t => by rw [map0, hp]; simp⟩

theorem isEnd_cons (nm : List Int) (c : Int) (t : List Int) : isEnd nm (c :: t) = (c == 47 && wordR nm t) := rfl
/-- What ends the content. -/
def Ends (nm : List Int) (s : St) (x base : List Int) (r : Int) (s' : St) : Prop :=
  s' = ⟨6, 0, s.n, base, [], r⟩ ∧ x.length = 2 + nm.length ∧ ∀ t, refF (decide (2 < s.p)) nm (s.p - 3) 0 (x ++ r :: t) = some 0
theorem close_at {nm : List Int} {n : Nat} {r : Int} (h : closeZ nm n r = true) : n = nm.length ∧ stopZ r = true := by
  unfold closeZ at h; simpa using h
theorem word_goes (nm : List Int) (hnm : NmOk nm) (s : St) (x base y : List Int) (r : Int) (hh : s.h = []) (hl : y.length = s.n) (hy : y.map lowZ = nm.take s.n) (hn : s.n ≤ nm.length) (ho : s.o ++ s.h = base ++ x)
    (hx : (s.p = 4 ∧ x = 60 :: y) ∨ (s.p = 5 ∧ x = 60 :: 47 :: y)) (hr : s.p = 4 → s.n = 0 → r ≠ 47) : Goes nm s x base r (s.word nm r) := by
  unfold St.word
  have hmem := mem_low hnm hy
  have hw : ∀ t, wordR nm (y ++ r :: t) = true ∨ True := fun _ => .inr trivial
  clear hw
  -- what no word is at the sign behind '<'
  have hne : s.p = 4 → ∀ t, isEnd nm (y ++ r :: t) = false := fun hp t => by
    cases y with
    | nil =>
      have h0 : r ≠ 47 := hr hp (by simpa using hl.symm)
      simp [isEnd, h0]
    | cons c y' => have := (hmem c (by simp)).2.2.2.1; simp [isEnd, this]
  cases h1 : spellZ nm s.n r with
  | true =>
    simp only [if_true]
    obtain ⟨a1, a2, a3⟩ := spell_letter hnm h1
    refine goes_on rfl rfl ho (by simp [St.tell]) ?_
    have hm := map_snoc hy a1 a2
    rcases hx with ⟨hp, rfl⟩ | ⟨hp, rfl⟩
    · exact .word4 (y ++ [r]) rfl rfl (by simp [hl]) hm a1 (Nat.succ_le_succ (Nat.zero_le _)) hp
    · exact .word5 (y ++ [r]) rfl rfl (by simp [hl]) hm a1 hp
  | false =>
    cases h2 : closeZ nm s.n r with
    | true =>
      obtain ⟨c1, c2⟩ := close_at h2
      have hyf : y.map lowZ = nm := by rw [hy, c1, List.take_length]
      have hst := stop_not c2
      have hpass : ∀ esc t, refF true nm esc 0 (y ++ r :: t) = (refF true nm esc 0 t).map (· + (y.length + 1)) := fun esc t => by
        rw [pass true nm esc (r :: t) y (fun c hc => ⟨(hmem c hc).1, (hmem c hc).2.1, (hmem c hc).2.2.1⟩), refF, if_neg (by omega), if_pos hst.1, if_neg hst.2.1, mapmap, Nat.add_comm]
      simp only [if_true, Bool.false_eq_true, if_false]
      rcases hx with ⟨hp, rfl⟩ | ⟨hp, rfl⟩
      · refine ⟨y.length + 2, [], base ++ 60 :: y ++ [r], .none rfl rfl (by simp [hp]) (by simp [hp]), by simp only [St.tell, hh, List.append_nil, List.append_assoc] at ho ⊢; rw [ho]; simp, by simp, by simp, by simp [hp], rfl, fun t => ?_⟩
        simp only [hp, if_true]
        rw [List.cons_append, refF, if_neg (by omega), if_neg (by omega)]
        simp only [show decide (2 < 4) = true from rfl, Bool.true_eq_false, if_false, hne hp t]
        rw [if_neg (by omega), if_neg (by simp), if_pos (by simp [wordR_full hyf c2 t]), hpass, mapmap]
        simp [Nat.add_assoc]
      · refine ⟨y.length + 3, [], base ++ 60 :: 47 :: y ++ [r], .none rfl rfl (by simp [hp]) (by simp [hp]), by simp only [St.tell, hh, List.append_nil, List.append_assoc] at ho ⊢; rw [ho]; simp, by simp, by simp, by simp [hp], rfl, fun t => ?_⟩
        simp only [hp, show ¬ (5 = 4) by omega, if_false]
        rw [List.cons_append, refF, if_neg (by omega), if_neg (by omega)]
        simp only [show decide (2 < 5) = true from rfl, Bool.true_eq_false, if_false, List.cons_append, isEnd_cons, wordR_full hyf c2 t]
        rw [if_neg (by omega), if_neg (by omega), if_neg (by omega), if_pos (by simp), refF, if_neg (by omega), if_pos (by omega), if_neg (by omega), hpass, mapmap, mapmap]
        simp [Nat.add_assoc]
    | false =>
      simp only [Bool.false_eq_true, if_false]
      have hwn := wordR_no hl hy hn h1 h2
      rcases hx with ⟨hp, rfl⟩ | ⟨hp, rfl⟩
      · refine again_goes nm s _ base r (by omega) (by omega) ho fun t => ?_
        rw [hp, List.cons_append, refF, if_neg (by omega), if_neg (by omega)]
        simp only [show decide (2 < 4) = true from rfl, Bool.true_eq_false, if_false, hne hp t, hwn t, Bool.false_eq_true, and_false]
        rw [if_neg (by omega), pass true nm 1 (r :: t) y (fun c hc => ⟨(hmem c hc).1, (hmem c hc).2.1, (hmem c hc).2.2.1⟩), mapmap]
        rfl
      · refine again_goes nm s _ base r (by omega) (by omega) ho fun t => ?_
        rw [hp, List.cons_append, refF, if_neg (by omega), if_neg (by omega)]
        simp only [show decide (2 < 5) = true from rfl, Bool.true_eq_false, if_false, List.cons_append, isEnd_cons, hwn t, Bool.and_false, Bool.false_eq_true, and_false]
        rw [if_neg (by omega), if_neg (by omega), refF, if_neg (by omega), if_pos (by omega), if_neg (by omega), pass true nm 2 (r :: t) y (fun c hc => ⟨(hmem c hc).1, (hmem c hc).2.1, (hmem c hc).2.2.1⟩), mapmap, mapmap]
        rfl

/-- **A step, whatever is begun.** -/
theorem step_goes (nm : List Int) (hnm : NmOk nm) (s : St) (x base : List Int) (r : Int) (hP : Pend nm s x) (ho : s.o ++ s.h = base ++ x) : Ends nm s x base r (s.step nm r) ∨ Goes nm s x base r (s.step nm r) := by
  cases hP with
  | none hb hh h2 h5 =>
    right
    unfold St.step
    rw [if_pos hb]
    exact begin_goes nm s base r hh h2 h5 (by simpa [hh] using ho)
  | less hb hh hn h2 h4 =>
    right
    unfold St.step
    rw [if_neg (by omega), if_neg (by omega), if_pos hb, if_neg (by omega)]
    by_cases c1 : r = 47
    · subst c1
      rw [if_pos rfl]
      exact goes_on rfl rfl ho (by simp [St.hold]) (.tag [] rfl (by simp [St.hold, hh]) (by simp [St.hold, hn]) (by simp [St.hold, hn]) (by simp [St.hold, hn]) h2 h4)
    · rw [if_neg c1]
      by_cases c2 : r = 33 ∧ s.p = 3
      · obtain ⟨rfl, hp⟩ := c2
        rw [if_pos ⟨rfl, hp⟩]
        exact goes_on rfl rfl ho (by simp [St.tell]) (.bang rfl rfl hp)
      · rw [if_neg c2]
        by_cases c3 : s.p = 4
        · rw [if_pos c3]
          have h := word_goes nm hnm { s with o := s.o ++ s.h, h := [] } [60] base [] r rfl (by simp [hn]) (by simp [hn]) (by simp [hn]) (by simpa using ho) (.inl ⟨c3, rfl⟩) (fun _ _ => c1)
          have e : St.word nm { s with o := s.o ++ s.h, h := [] } r = s.word nm r := by
            unfold St.word St.again St.freed St.tell
            simp
          rw [e] at h
          exact h
        · rw [if_neg c3]
          refine again_goes nm s [60] base r h2 (by omega) ho fun t => ?_
          rw [List.singleton_append, refF, if_neg (by omega), if_neg (by omega)]
          have hi : isEnd nm (r :: t) = false := by simp [isEnd, c1]
          rw [hi]
          by_cases hp2 : s.p = 2
          · rw [hp2]; simp
          · have hp3 : s.p = 3 := by omega
            have : ([33, 45, 45] : List Int).isPrefixOf (r :: t) = false := by
              have hr : ¬ r = 33 := fun e => c2 ⟨e, hp3⟩
              simp [List.isPrefixOf]; intro e; exact absurd e.symm hr
            rw [hp3, this]; simp
  | less5 hb hh hn hp =>
    right
    unfold St.step
    rw [if_neg (by omega), if_neg (by omega), if_pos hb]
    by_cases c1 : r = 47
    · subst c1
      rw [if_pos ⟨rfl, hp⟩]
      exact goes_on rfl rfl ho (by simp [St.tell]) (.word5 [] rfl rfl (by simp [St.tell, hn]) (by simp [St.tell, hn]) (by simp [St.tell, hn]) hp)
    · rw [if_neg (by omega), if_neg c1, if_neg (by omega), if_neg (by omega)]
      refine again_goes nm s [60] base r (by omega) (by omega) ho fun t => ?_
      have hi : isEnd nm (r :: t) = false := by simp [isEnd, c1]
      rw [List.singleton_append, refF, if_neg (by omega), if_neg (by omega), hi, hp]
      simp
  | tag y hb hh hl hy hn h2 h4 =>
    unfold St.step
    rw [if_neg (by omega), if_pos hb]
    have hmem := mem_low hnm hy
    cases h1 : spellZ nm s.n r with
    | true =>
      right
      simp only [if_true]
      obtain ⟨a1, a2, a3⟩ := spell_letter hnm h1
      exact goes_on rfl rfl ho (by simp [St.hold]) (.tag (y ++ [r]) rfl (by simp [St.hold, hh]) (by simp [hl]) (map_snoc hy a1 a2) a1 h2 h4)
    | false =>
      simp only [Bool.false_eq_true, if_false]
      cases h3 : closeZ nm s.n r with
      | true =>
        left
        obtain ⟨c1, c2⟩ := close_at h3
        have hyf : y.map lowZ = nm := by rw [hy, c1, List.take_length]
        refine ⟨?_, by simp only [List.length_cons, hl, c1]; omega, fun t => ?_⟩
        · rw [hh] at ho
          rw [← List.append_cancel_right ho]
          simp
        · rw [List.cons_append, refF, if_neg (by omega), if_neg (by omega)]
          simp only [List.cons_append, isEnd_cons, wordR_full hyf c2 t, List.isPrefixOf]
          by_cases hp2 : s.p = 2
          · rw [hp2]; simp
          · have : decide (2 < s.p) = true := by simp; omega
            rw [this, if_neg (by simp), if_neg (by simp), if_pos ⟨by omega, by simp⟩]
      | false =>
        right
        simp only [Bool.false_eq_true, if_false]
        refine again_goes nm s _ base r h2 (by omega) ho fun t => ?_
        have hwn := wordR_no hl hy hn h1 h3
        rw [List.cons_append, refF, if_neg (by omega), if_neg (by omega)]
        have hi : isEnd nm (47 :: y ++ r :: t) = false := by rw [List.cons_append, isEnd_cons, hwn]; simp
        have hp3 : ([33, 45, 45] : List Int).isPrefixOf (47 :: y ++ r :: t) = false := by simp [List.isPrefixOf]
        have hw0 : wordR nm (47 :: y ++ r :: t) = false := by
          have h0 := hnm.at hnm.pos
          exact wordR_no (y := []) (n := 0) rfl (by simp) (by omega) (by
            unfold spellZ
            have : lowZ 47 = 47 := by decide
            rw [this, show ((47 : Int) == nm.getD 0 0) = false by simp only [beq_eq_false_iff_ne]; omega]
            simp) (by unfold closeZ; have := hnm.pos; simp; omega) (y ++ r :: t)
        rw [hi, hp3, hw0]
        have hpass : ∀ sc esc, refF sc nm esc 0 (47 :: y ++ r :: t) = (refF sc nm esc 0 (r :: t)).map (· + (y.length + 1)) := fun sc esc => by
          rw [pass sc nm esc (r :: t) (47 :: y) (fun c hc => by
            rcases List.mem_cons.1 hc with rfl | hc
            · decide
            · exact ⟨(hmem c hc).1, (hmem c hc).2.1, (hmem c hc).2.2.1⟩)]
          rfl
        simp only [Bool.false_eq_true, and_false, if_false, hpass, mapmap]
        split <;> rfl
  | word4 y hb hh hl hy hn h1 hp =>
    right
    unfold St.step
    rw [if_neg (by omega), if_neg (by omega), if_neg (by omega), if_pos hb]
    exact word_goes nm hnm s _ base y r hh hl hy hn ho (.inl ⟨hp, rfl⟩) (fun _ h => by omega)
  | word5 y hb hh hl hy hn hp =>
    right
    unfold St.step
    rw [if_neg (by omega), if_neg (by omega), if_neg (by omega), if_pos hb]
    exact word_goes nm hnm s _ base y r hh hl hy hn ho (.inr ⟨hp, rfl⟩) (fun h _ => by omega)
  | bang hb hh hp =>
    right
    unfold St.step
    rw [if_neg (by omega), if_neg (by omega), if_neg (by omega), if_neg (by omega), if_pos hb]
    by_cases c1 : r = 45
    · subst c1
      rw [if_pos rfl]
      exact goes_on rfl rfl ho (by simp [St.tell]) (.bangDash rfl rfl hp)
    · rw [if_neg c1]
      refine again_goes nm s _ base r (by omega) (by omega) ho fun t => ?_
      have c1' : ¬ 45 = r := fun e => c1 e.symm
      rw [hp]
      simp [refF, isEnd, List.isPrefixOf, c1']
      rfl
  | bangDash hb hh hp =>
    right
    unfold St.step
    rw [if_neg (by omega), if_neg (by omega), if_neg (by omega), if_neg (by omega), if_neg (by omega), if_pos hb]
    by_cases c1 : r = 45
    · subst c1
      rw [if_pos rfl]
      refine ⟨2, [45, 45], base ++ [60, 33], .twoDashes rfl rfl (by simp) (by simp), by simp only [St.tell, hh, List.append_nil] at ho ⊢; rw [ho]; simp, by simp, by simp, by simp [hp], rfl, fun t => ?_⟩
      rw [hp]
      simp [refF, List.isPrefixOf]
      rfl
    · rw [if_neg c1]
      refine again_goes nm s _ base r (by omega) (by omega) ho fun t => ?_
      have c1' : ¬ 45 = r := fun e => c1 e.symm
      rw [hp]
      simp [refF, isEnd, List.isPrefixOf, c1, c1']
      rfl
  | dash hb hh h4 h5 =>
    right
    unfold St.step St.dash
    rw [if_neg (by omega), if_neg (by omega), if_neg (by omega), if_neg (by omega), if_neg (by omega), if_neg (by omega), if_neg (by omega)]
    by_cases c1 : r = 45
    · subst c1
      rw [if_pos rfl]
      exact goes_on rfl rfl ho (by simp [St.tell]) (.twoDashes rfl rfl h4 h5)
    · rw [if_neg c1]
      refine again_goes nm s _ base r (by omega) (by omega) ho fun t => ?_
      simp [refF, c1]
  | twoDashes hb hh h4 h5 =>
    right
    unfold St.step St.dash
    rw [if_neg (by omega), if_neg (by omega), if_neg (by omega), if_neg (by omega), if_neg (by omega), if_neg (by omega), if_pos hb]
    have hsc : decide (2 < s.p) = true := by simp; omega
    by_cases c0 : r = 62
    · subst c0
      rw [if_pos rfl]
      refine ⟨3, [], base ++ [45, 45, 62], .none rfl rfl (by simp) (by simp), by simp only [St.tell, hh, List.append_nil] at ho ⊢; rw [ho]; simp, by simp, by simp, by simp; omega, rfl, fun t => ?_⟩
      have : 0 < s.p - 3 := by omega
      simp [refF, this]
      rfl
    · rw [if_neg c0]
      by_cases c1 : r = 45
      · subst c1
        rw [if_pos rfl]
        refine ⟨1, [45, 45], base ++ [45], .twoDashes rfl rfl h4 h5, by simp only [St.tell, hh, List.append_nil] at ho ⊢; rw [ho]; simp, by simp, by simp, rfl, rfl, fun t => ?_⟩
        simp [refF, St.tell]
      · rw [if_neg c1]
        refine again_goes nm s _ base r (by omega) (by omega) ho fun t => ?_
        simp [refF, c1, c0]
        rfl

theorem pend_ne6 {nm : List Int} {s : St} {x : List Int} (h : Pend nm s x) : s.p ≠ 6 := by cases h <;> omega
theorem pend_p {nm : List Int} {s : St} {x : List Int} (h : Pend nm s x) : 2 ≤ s.p ∧ s.p ≤ 5 := by cases h <;> omega
theorem pend_b {nm : List Int} {s : St} {x : List Int} (h : Pend nm s x) : s.b ≤ 7 := by cases h <;> omega
/-- What runes lead to, by the document's search. -/
def Res (nm : List Int) (s : St) (x base l : List Int) : Option Nat → Prop
  | none => ∃ x' base', Pend nm (s.run nm l) x' ∧ (s.run nm l).o ++ (s.run nm l).h = base' ++ x' ∧ base' ++ x' = base ++ x ++ l ∧ (s.run nm l).e = s.e ∧ base.length ≤ base'.length
  | some k => ∃ l1 r l2 n x' base', l = l1 ++ r :: l2 ∧ Pend nm (s.run nm l1) x' ∧ (s.run nm l1).o ++ (s.run nm l1).h = base' ++ x' ∧ base' ++ x' = base ++ x ++ l1 ∧ (s.run nm l1).e = s.e ∧ s.run nm (l1 ++ [r]) = ⟨6, 0, n, base', [], r⟩ ∧ base'.length = base.length + k ∧ x.length + l1.length = k + 2 + nm.length
theorem next_step {nm : List Int} {s : St} {x : List Int} (h : Pend nm s x) (r : Int) : s.next nm r = s.step nm r := by unfold St.next; rw [if_neg (pend_ne6 h)]
/-- **The machine and the document's search.** -/
theorem main (nm : List Int) (hnm : NmOk nm) : ∀ (l : List Int) (s : St) (x base : List Int), Pend nm s x → s.o ++ s.h = base ++ x → Res nm s x base l (refF (decide (2 < s.p)) nm (s.p - 3) 0 (x ++ l))
  | [], s, x, base, hP, ho => by
    have hn : refF (decide (2 < s.p)) nm (s.p - 3) 0 (x ++ []) = none := by
      rw [List.append_nil]
      cases hP with
      | none => rfl
      | less hb hh hn h2 h4 => simp [refF, isEnd, wordR]
      | less5 hb hh hn hp => simp [refF, isEnd, wordR]
      | tag y hb hh hl hy hn h2 h4 =>
        have hmem := mem_low hnm hy
        have hw : wordR nm y = false := by unfold wordR; rw [show decide (nm.length < y.length) = false by simp; omega]; simp
        have hw0 : wordR nm (47 :: y) = false := by
          exact wordR_no (y := []) (n := 0) rfl (by simp) (by omega) (by
            have h0 := hnm.at hnm.pos
            unfold spellZ
            have : lowZ 47 = 47 := by decide
            rw [this, show ((47 : Int) == nm.getD 0 0) = false by simp only [beq_eq_false_iff_ne]; omega]
            simp) (by unfold closeZ; have := hnm.pos; simp; omega) y
        have hpass : ∀ sc esc, refF sc nm esc 0 (47 :: y) = none := fun sc esc => by
          have := pass sc nm esc [] (47 :: y) (fun c hc => by
            rcases List.mem_cons.1 hc with rfl | hc
            · decide
            · exact ⟨(hmem c hc).1, (hmem c hc).2.1, (hmem c hc).2.2.1⟩)
          rw [List.append_nil] at this
          rw [this]; rfl
        rw [refF, if_neg (by omega), if_neg (by omega), isEnd_cons, hw, hw0]
        simp [List.isPrefixOf, hpass]
      | word4 y hb hh hl hy hn h1 hp =>
        have hmem := mem_low hnm hy
        have hw : wordR nm y = false := by unfold wordR; rw [show decide (nm.length < y.length) = false by simp; omega]; simp
        have hi : isEnd nm y = false := by
          cases y with
          | nil => rfl
          | cons c y' => have := (hmem c (by simp)).2.2.2.1; simp [isEnd, this]
        have hpass : ∀ sc esc, refF sc nm esc 0 y = none := fun sc esc => by
          have := pass sc nm esc [] y (fun c hc => ⟨(hmem c hc).1, (hmem c hc).2.1, (hmem c hc).2.2.1⟩)
          rw [List.append_nil] at this
          rw [this]; rfl
        rw [hp, refF, if_neg (by omega), if_neg (by omega), hw, hi]
        simp [hpass]
      | word5 y hb hh hl hy hn hp =>
        have hmem := mem_low hnm hy
        have hw : wordR nm y = false := by unfold wordR; rw [show decide (nm.length < y.length) = false by simp; omega]; simp
        have hpass : ∀ sc esc, refF sc nm esc 0 (47 :: y) = none := fun sc esc => by
          have := pass sc nm esc [] (47 :: y) (fun c hc => by
            rcases List.mem_cons.1 hc with rfl | hc
            · decide
            · exact ⟨(hmem c hc).1, (hmem c hc).2.1, (hmem c hc).2.2.1⟩)
          rw [List.append_nil] at this
          rw [this]; rfl
        rw [hp, refF, if_neg (by omega), if_neg (by omega), isEnd_cons, hw]
        simp [hpass]
      | bang hb hh hp => rw [hp]; simp [refF, isEnd, List.isPrefixOf]
      | bangDash hb hh hp => rw [hp]; simp [refF, isEnd, List.isPrefixOf]
      | dash hb hh h4 h5 => simp [refF]
      | twoDashes hb hh h4 h5 => simp [refF]
    rw [hn]
    exact ⟨x, base, hP, ho, by simp, rfl, Nat.le_refl _⟩
  | r :: l, s, x, base, hP, ho => by
    rcases step_goes nm hnm s x base r hP ho with ⟨e1, e2, e3⟩ | ⟨j, x', base', g1, g2, g3, g4, g5, g6, g7⟩
    · rw [e3 l]
      exact ⟨[], r, l, s.n, x, base, rfl, hP, ho, by simp, rfl, by rw [List.nil_append, run_cons, run_nil, next_step hP, e1], by simp, by simp [e2]⟩
    · have ih := main nm hnm l (s.step nm r) x' base' g1 g2
      rw [g7 l]
      rw [g5] at ih
      have hx : base'.length + x'.length = base.length + x.length + 1 := by have := congrArg List.length g3; simp at this; omega
      cases hr : refF (decide (2 < s.p)) nm ((s.step nm r).p - 3) 0 (x' ++ l) with
      | none =>
        rw [hr] at ih
        obtain ⟨x2, b2, i1, i2, i3, i4, i5⟩ := ih
        refine ⟨x2, b2, ?_, ?_, ?_, ?_, by omega⟩ <;> try rw [run_cons, next_step hP]
        · exact i1
        · exact i2
        · rw [i3, g3]; simp
        · rw [i4, g6]
      | some k =>
        rw [hr] at ih
        obtain ⟨l1, q, l2, n, x2, b2, i0, i1, i2, i3, i4, i5, i6, i7⟩ := ih
        refine ⟨r :: l1, q, l2, n, x2, b2, by rw [i0]; rfl, ?_, ?_, ?_, ?_, ?_, ?_, ?_⟩
        · rw [run_cons, next_step hP]; exact i1
        · rw [run_cons, next_step hP]; exact i2
        · rw [i3, g3]; simp
        · rw [run_cons, next_step hP, i4, g6]
        · rw [List.cons_append, run_cons, next_step hP]; exact i5
        · show b2.length = base.length + (k + j); omega
        · show x.length + (l1.length + 1) = k + j + 2 + nm.length; omega

/-- Runes told ahead. -/
def St.pre (T : List Int) (s : St) : St := { s with o := T ++ s.o }
theorem pre_begin (T : List Int) (s : St) (r : Int) : (s.pre T).begin r = (s.begin r).pre T := by
  unfold St.begin St.pre St.tell St.hold
  simp only [List.append_assoc]
  split
  · rfl
  · split
    · rfl
    · split <;> rfl
theorem pre_again (T : List Int) (s : St) (r : Int) : (s.pre T).again r = (s.again r).pre T := by
  unfold St.again
  rw [← pre_begin]
  unfold St.freed St.pre
  simp only [List.append_assoc]
theorem pre_tell (T : List Int) (s : St) (r : Int) (b : Nat) : (s.pre T).tell r b = (s.tell r b).pre T := by
  unfold St.pre St.tell
  simp only [List.append_assoc]
theorem pre_ite (T : List Int) (c : Prop) [Decidable c] (a b : St) : (if c then a else b).pre T = if c then a.pre T else b.pre T := by split <;> rfl
theorem pre_word (nm T : List Int) (s : St) (r : Int) : (s.pre T).word nm r = (s.word nm r).pre T := by
  unfold St.word
  rw [pre_again, pre_tell, pre_tell, pre_ite, pre_ite]
  rfl
theorem pre_dash (T : List Int) (s : St) (r : Int) : (s.pre T).dash r = (s.dash r).pre T := by
  unfold St.dash
  rw [pre_again, pre_tell, pre_ite]
theorem pre_step (nm T : List Int) (s : St) (r : Int) : (s.pre T).step nm r = (s.step nm r).pre T := by
  unfold St.step
  simp only [pre_begin, pre_again, pre_tell, pre_word, pre_dash, pre_ite]
  rfl
theorem pre_next (nm T : List Int) (s : St) (r : Int) : (s.pre T).next nm r = (s.next nm r).pre T := by
  unfold St.next
  rw [pre_step, pre_ite]
  rfl
theorem pre_run (nm T : List Int) : ∀ (l : List Int) (s : St), (s.pre T).run nm l = (s.run nm l).pre T
  | [], _ => rfl
  | r :: l, s => by rw [run_cons, run_cons, pre_next, pre_run nm T l]
end Go.Proofs.YtegkdgmpkfpjmaaDoor.R
