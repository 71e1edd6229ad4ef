/- What is proved here: plain facts on texts as lists of bytes, for layer 12: what is stripped, the scheme, the kind of a link. -/
import Derived.Test.YtfbfigjjnpamiaaGreatDoorBun3
namespace Go.Proofs.YtfbfigjjnpamiaaGreatDoor.L
open Go.RowKit Go.Proofs.YtfbfigjjnpamiaaGreatDoor.N

/-- Bytes up to 0x20. -/
def lowC (c : UInt8) : Bool := decide (c.toNat ≤ 32)
/-- A tab, a line feed, a carriage return. -/
def gapC (c : UInt8) : Bool := c == 9 || c == 10 || c == 13
/-- What is stripped, of a mended text. -/
def stripM (l : List UInt8) : List UInt8 := ((l.dropWhile lowC).reverse.dropWhile lowC).reverse.filter (fun c => !gapC c)
theorem low_front (t : List UInt8) (c : UInt8) (h : 0 < t.length) (hc : t.getD 0 0 = c) (hb : lowC c = true) : (t.drop 1).dropWhile lowC = t.dropWhile lowC := by
  conv => rhs; rw [head_get t c h hc]
  rw [List.dropWhile_cons, if_pos hb]
theorem low_stay (t : List UInt8) (c : UInt8) (h : 0 < t.length) (hc : t.getD 0 0 = c) (hb : lowC c = false) : t.dropWhile lowC = t := by
  conv => lhs; rw [head_get t c h hc]
  rw [List.dropWhile_cons, if_neg (by rw [hb]; decide), ← head_get t c h hc]
theorem low_back (t : List UInt8) (c : UInt8) (h : 0 < t.length) (hc : t.getD (t.length - 1) 0 = c) (hb : lowC c = true) : (t.take (t.length - 1)).reverse.dropWhile lowC = t.reverse.dropWhile lowC := by
  conv => rhs; rw [last_get t c h hc]
  rw [List.reverse_append, List.reverse_singleton, List.singleton_append, List.dropWhile_cons, if_pos hb]
theorem low_end (t : List UInt8) (c : UInt8) (h : 0 < t.length) (hc : t.getD (t.length - 1) 0 = c) (hb : lowC c = false) : (t.reverse.dropWhile lowC).reverse = t := by
  have e : t.reverse = c :: (t.take (t.length - 1)).reverse := by
    conv => lhs; rw [last_get t c h hc]
    rw [List.reverse_append, List.reverse_singleton, List.singleton_append]
  rw [e, List.dropWhile_cons, if_neg (by rw [hb]; decide), ← e, List.reverse_reverse]
/-- May it stand in a scheme? -/
def innerC (c : UInt8) : Bool := letterZ c.toNat || digitZ c.toNat || c == 43 || c == 45 || c == 46
/-- Where the : of the scheme stands. -/
def colonF : List UInt8 → Option Nat
  | [] => none
  | c :: t => if c == 58 then some 0 else if innerC c then (colonF t).map (· + 1) else none
def colonL (l : List UInt8) : Option Nat := if letterZ ((l.getD 0 0).toNat : Int) then colonF l else none
theorem colonF_lt : ∀ (l : List UInt8) (n : Nat), colonF l = some n → n < l.length
  | [], _, h => by simp [colonF] at h
  | c :: t, n, h => by
    unfold colonF at h
    split at h
    · cases h; simp
    · split at h
      · cases e : colonF t with
        | none => rw [e] at h; simp at h
        | some m => rw [e] at h; simp at h; have := colonF_lt t m e; simp; omega
      · cases h
theorem colonL_lt {l : List UInt8} {n : Nat} (h : colonL l = some n) : n < l.length := by
  unfold colonL at h
  split at h
  · exact colonF_lt l n h
  · cases h
/-- What has been passed over without finding one. -/
theorem colonF_step (l : List UInt8) (k : Nat) (hk : k < l.length) (hp : ∀ j, j < k → (l.getD j 0 == 58) = false ∧ innerC (l.getD j 0) = true) : colonF l = (colonF (l.drop k)).map (· + k) := by
  induction k generalizing l with
  | zero => simp
  | succ k ih =>
    cases l with
    | nil => simp at hk
    | cons c t =>
      have h0 := hp 0 (by omega)
      simp only [List.getD_cons_zero] at h0
      have h1 := ih t (by simpa using hk) (fun j hj => by have := hp (j + 1) (by omega); simpa using this)
      have e : colonF (c :: t) = (colonF t).map (· + 1) := by
        conv => lhs; unfold colonF
        rw [if_neg (by rw [h0.1]; decide), if_pos h0.2]
      rw [e, h1, List.drop_succ_cons]
      cases colonF (t.drop k) <;> simp [Nat.add_assoc]
theorem colonF_all (l : List UInt8) (hp : ∀ j, j < l.length → (l.getD j 0 == 58) = false ∧ innerC (l.getD j 0) = true) : colonF l = none := by
  induction l with
  | nil => rfl
  | cons c t ih =>
    have h0 := hp 0 (by simp)
    simp only [List.getD_cons_zero] at h0
    unfold colonF
    rw [if_neg (by rw [h0.1]; decide), if_pos h0.2, ih (fun j hj => by have := hp (j + 1) (by simpa using hj); simpa using this)]
    rfl
theorem colonF_at (l : List UInt8) (k : Nat) (hk : k < l.length) (hp : ∀ j, j < k → (l.getD j 0 == 58) = false ∧ innerC (l.getD j 0) = true) (hc : (l.getD k 0 == 58) = true) : colonF l = some k := by
  rw [colonF_step l k hk hp]
  have e : l.drop k = l.getD k 0 :: l.drop (k + 1) := by rw [List.drop_eq_getElem_cons hk]; simp [hk]
  rw [e]
  unfold colonF
  rw [if_pos hc]
  simp
theorem colonF_no (l : List UInt8) (k : Nat) (hk : k < l.length) (hp : ∀ j, j < k → (l.getD j 0 == 58) = false ∧ innerC (l.getD j 0) = true) (hc : (l.getD k 0 == 58) = false) (hi : innerC (l.getD k 0) = false) : colonF l = none := by
  rw [colonF_step l k hk hp]
  have e : l.drop k = l.getD k 0 :: l.drop (k + 1) := by rw [List.drop_eq_getElem_cons hk]; simp [hk]
  rw [e]
  unfold colonF
  rw [if_neg (by rw [hc]; decide), if_neg (by rw [hi]; decide)]
  rfl
/-- Its scheme, of a stripped text. -/
def schemeL (l : List UInt8) : Option (List UInt8) := (colonL l).map fun n => lower (l.take n)
def slashC (c : UInt8) : Bool := c == 47 || c == 92
/-- Its kind, of a stripped text. -/
def kindL (l : List UInt8) : Nat :=
  if (colonL l).isSome then 1 else if l.length = 0 then 0 else if 1 < l.length ∧ slashC (l.getD 0 0) = true ∧ slashC (l.getD 1 0) = true then 2 else if slashC (l.getD 0 0) = true then 3 else if (l.getD 0 0 == 63) = true then 4 else if (l.getD 0 0 == 35) = true then 5 else 6
end Go.Proofs.YtfbfigjjnpamiaaGreatDoor.L
