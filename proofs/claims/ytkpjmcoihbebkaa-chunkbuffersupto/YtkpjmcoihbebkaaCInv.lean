/- What is proved here: where sources may stand, what a read tells, and the contracts of Read of both sources whatever it tells. -/
import Derived.Test.YtkpjmcoihbebkaaBun1
import Derived.Test.YtkpjmcoihbebkaaCOpen
import Derived.Test.YtkpjmcoihbebkaaBun3
import Derived.Test.YtkpjmcoihbebkaaCSpoil
import Derived.Test.YtkpjmcoihbebkaaCMore
import Derived.Test.YtkpjmcoihbebkaaCRRead
namespace Go.Proofs.Ytkpjmcoihbebkaa.CInv
open Go.ChangeShapes Go.WideShapes Go.ChangeAt Go.RowKit C

abbrev Scr := List (List UInt8 × Bool)
theorem reach_get : ∀ (l : Scr) (k : Nat) (h : k < (reach l).length), ∃ h' : k < l.length, l[k] = (reach l)[k]
  | [], k, h => by simp [reach] at h
  | x :: t, 0, h => by
    refine ⟨by simp, ?_⟩
    cases hx : x.2 <;> simp [reach, hx]
  | x :: t, k + 1, h => by
    cases hx : x.2 with
    | true => simp [reach, hx] at h
    | false =>
      simp [reach, hx] at h
      obtain ⟨h', e⟩ := reach_get t k h
      refine ⟨by simp; omega, ?_⟩
      simp [reach, hx, e]
theorem reach_end : ∀ (l : Scr), (∀ (k : Nat) (h : k < (reach l).length), (reach l)[k].2 = false) → reach l = l
  | [], _ => rfl
  | x :: t, h => by
    cases hx : x.2 with
    | true =>
      have := h 0 (by simp [reach, hx])
      simp [reach, hx] at this
    | false =>
      have h2 := reach_end t (fun k hk => by
        have := h (k + 1) (by simp [reach, hx]; omega)
        simpa [reach, hx] using this)
      simp [reach, hx, h2]
theorem reach_size (l : Scr) : ∀ k, k ≤ (reach l).length → sizeS (reach l) k = sizeS l k
  | 0, _ => by simp [sizeS]
  | k + 1, h => by
    obtain ⟨h', e⟩ := reach_get l k (by omega)
    rw [sizeS_succ _ k (by omega), sizeS_succ l k h', reach_size l k (by omega), e]

/-- What a read tells: its bytes, its error, and where the source stands then. -/
def rdK (l : Scr) (i part n : Nat) : Nat := if h : i < l.length then min n (l[i].1.length - part) else 0
def rdX (l : Scr) (i part n : Nat) : List UInt8 := if h : i < l.length then (l[i].1.drop part).take (min n (l[i].1.length - part)) else []
def rdE (l : Scr) (i part : Nat) : Int := if h : i < l.length then (if (l[i].2 && decide (part = l[i].1.length)) = true then 20 else 0) else 21
def rdN (l : Scr) (i part n : Nat) : Nat × Nat := if h : i < l.length then (if (l[i].2 && decide (part = l[i].1.length)) = true then (i, part) else nxt l[i] i part (min n (l[i].1.length - part))) else (i, part)
theorem rdX_length (l : Scr) (i part n : Nat) : (rdX l i part n).length = rdK l i part n := by
  unfold rdX rdK
  split
  · simp
  · rfl
/-- Where a source may stand. -/
structure Inv (l : Scr) (i part told : Nat) : Prop where
  le : i ≤ (reach l).length
  part_le : ∀ h : i < (reach l).length, part ≤ (reach l)[i].1.length
  good : ∀ (k : Nat) (h : k < (reach l).length), k < i → (reach l)[k].2 = false
  told : told = sizeS l i + part
  over : i = (reach l).length → part = 0
theorem Inv.start (l : Scr) : Inv l 0 0 0 := ⟨by omega, fun _ => by omega, fun _ _ h => by omega, by simp [sizeS], fun _ => rfl⟩
theorem Inv.cases {l : Scr} {i part told : Nat} (h : Inv l i part told) : (∃ (h1 : i < (reach l).length) (h2 : i < l.length), l[i] = (reach l)[i]) ∨ (i = l.length ∧ reach l = l) := by
  by_cases h1 : i < (reach l).length
  · obtain ⟨h2, e⟩ := reach_get l i h1
    exact .inl ⟨h1, h2, e⟩
  · have e := reach_end l (fun k hk => h.good k hk (by have := h.le; omega))
    have := h.le
    rw [e] at h1 this
    exact .inr ⟨by omega, e⟩
theorem Inv.le_l {l : Scr} {i part told : Nat} (h : Inv l i part told) : i ≤ l.length := by
  rcases h.cases with ⟨_, h2, _⟩ | ⟨h1, _⟩ <;> omega
theorem Inv.same {l : Scr} {i part told : Nat} (h : Inv l i part told) (n : Nat) : rdK (reach l) i part n = rdK l i part n ∧ rdX (reach l) i part n = rdX l i part n ∧ rdE (reach l) i part = rdE l i part ∧ rdN (reach l) i part n = rdN l i part n ∧ C.over (reach l) i part = C.over l i part := by
  rcases h.cases with ⟨h1, h2, e⟩ | ⟨_, e⟩
  · simp only [rdK, rdX, rdE, rdN, C.over, dif_pos h1, dif_pos h2, e, and_self]
  · rw [e]; exact ⟨rfl, rfl, rfl, rfl, rfl⟩
theorem Inv.bound {l : Scr} {i part told : Nat} (h : Inv l i part told) : told ≤ sizeS l l.length := by
  have ht := h.told
  rcases h.cases with ⟨h1, h2, e⟩ | ⟨h1, e⟩
  · have hp := h.part_le h1
    have h3 := sizeS_succ l i h2
    have h4 := sizeS_mono l (i + 1) (l.length - (i + 1))
    rw [show i + 1 + (l.length - (i + 1)) = l.length by omega] at h4
    rw [← e] at hp
    omega
  · have := h.over (by rw [e]; exact h1)
    rw [ht, h1, this]; omega
theorem Inv.step {l : Scr} {i part told : Nat} (h : Inv l i part told) (n : Nat) : Inv l (rdN l i part n).1 (rdN l i part n).2 (told + rdK l i part n) := by
  rcases h.cases with ⟨h1, h2, e⟩ | ⟨h1, e⟩
  · have hp := h.part_le h1
    have ht := h.told
    simp only [rdK, rdN, dif_pos h2]
    rw [← e] at hp
    have h3 := sizeS_succ l i h2
    by_cases hf : (l[i].2 && decide (part = l[i].1.length)) = true
    · rw [if_pos hf]
      simp only [Bool.and_eq_true, decide_eq_true_eq] at hf
      have h0 : min n (l[i].1.length - part) = 0 := by omega
      rw [h0, Nat.add_zero]
      exact h
    · rw [if_neg hf]
      unfold nxt
      split
      · rename_i hx
        refine ⟨by have := h.le; show i + 1 ≤ _; omega, fun _ => Nat.zero_le _, fun k hk hki => ?_, by show _ = sizeS l (i + 1) + 0; omega, fun _ => rfl⟩
        by_cases hk2 : k = i
        · subst hk2; rw [← e]; exact hx.2
        · exact h.good k hk (by show k < i; have : k < i + 1 := hki; omega)
      · refine ⟨h.le, fun _ => by rw [← e]; show part + _ ≤ _; omega, h.good, by show _ = sizeS l i + (part + _); omega, fun h' => by have : i = _ := h'; omega⟩
  · have h4 : ¬ i < l.length := by omega
    simp only [rdK, rdN, dif_neg h4, Nat.add_zero]
    exact h

/-- **Read of a source, whatever it tells.** -/
theorem cread_calls {base : Nat} (w : World) (g : Nat) (l : Scr) (i part told : Nat) (n : Nat) (h : Src base w g l i part told) (hn : 1 ≤ n) (hi : i ≤ l.length) (hp : ∀ h : i < l.length, part ≤ l[i].1.length) (hd : ∀ x ∈ l, x.1.length ≤ 100000000000000) (ht : told ≤ 100000000000000) (hl : l.length ≤ 1000000000000) (hn' : n ≤ 9223372036854775807) :
    Calls Try.prog 57 #[.pointer (some ⟨g, 0, none⟩), .int .i64 n] w fun e W' => ∃ d, e = .returned (.tuple #[d, .int .i64 (rdE l i part)]) ∧ W'.ownsRow w.heap.size 5 1 d (rdX l i part n).length (bvs (rdX l i part n)) ∧ Src base W' g l (rdN l i part n).1 (rdN l i part n).2 (told + rdK l i part n) ∧ w.grownBy W' (some g) := by
  by_cases hlt : i < l.length
  · by_cases hf : (l[i].2 && decide (part = l[i].1.length)) = true
    · refine (read_fail w g l i part told n h (by omega) hlt hf).mono fun e W' ⟨he, hb⟩ => ?_
      have h0 : min n (l[i].1.length - part) = 0 := by simp only [Bool.and_eq_true, decide_eq_true_eq] at hf; omega
      simp only [rdE, rdX, rdN, rdK, dif_pos hlt, if_pos hf, h0, List.take_zero, Nat.add_zero]
      exact ⟨_, he, World.ownsRow_nil _ _ _ _, h.below hb, grown_below hb⟩
    · refine (read_ok w g l i part told n h hn hlt (by simpa using hf) (hp hlt) (hd _ (List.getElem_mem _)) ht hl hn').mono fun e W' ⟨d, K, he, hK, ho, hs, hg⟩ => ?_
      subst hK
      have e1 := rdX_length l i part n
      have e2 : rdK l i part n = min n (l[i].1.length - part) := by simp only [rdK, dif_pos hlt]
      rw [e1, e2]
      simp only [rdE, rdX, rdN, dif_pos hlt, if_neg hf]
      exact ⟨d, he, ho, hs, hg⟩
  · obtain rfl : i = l.length := by omega
    refine (read_end w g l part told n h (by omega)).mono fun e W' ⟨he, hb⟩ => ?_
    simp only [rdE, rdX, rdN, rdK, dif_neg hlt, Nat.add_zero]
    exact ⟨_, he, World.ownsRow_nil _ _ _ _, h.below hb, grown_below hb⟩
/-- **Read of the document's source, whatever it tells.** -/
theorem rdread_calls {v : Value} {base : Nat} (w : World) (g : Nat) (l : Scr) (i part told : Nat) (n : Nat) (h : RSv v base w g l i part told) (hn : 1 ≤ n) (hi : i ≤ l.length) (hp : ∀ h : i < l.length, part ≤ l[i].1.length) (hd : ∀ x ∈ l, x.1.length ≤ 100000000000000) (ht : told ≤ 100000000000000) (hl : l.length ≤ 1000000000000) (hn' : n ≤ 9223372036854775807) :
    Calls Try.prog 39 #[.pointer (some ⟨g, 0, none⟩), .int .i64 n] w fun e W' => ∃ d, e = .returned (.tuple #[d, .int .i64 (rdE l i part)]) ∧ W'.ownsRow w.heap.size 5 1 d (rdX l i part n).length (bvs (rdX l i part n)) ∧ RSv v base W' g l (rdN l i part n).1 (rdN l i part n).2 (told + rdK l i part n) ∧ w.grownBy W' (some g) := by
  by_cases hlt : i < l.length
  · have hpl := hp hlt
    have hdl := hd _ (List.getElem_mem hlt)
    by_cases hz : part = l[i].1.length
    · have h0 : min n (l[i].1.length - part) = 0 := by omega
      cases hf : l[i].2 with
      | true =>
        refine (rread_fail w g l i part told n h.src hlt hf hz hpl hdl).mono fun e W' ⟨he, hb⟩ => ?_
        have hf' : (l[i].2 && decide (part = l[i].1.length)) = true := by rw [hf, decide_eq_true hz]; rfl
        simp only [rdE, rdX, rdN, rdK, dif_pos hlt, if_pos hf', h0, List.take_zero, Nat.add_zero]
        exact ⟨_, he, World.ownsRow_nil _ _ _ _, h.below hb, grown_below hb⟩
      | false =>
        refine (rread_skip w g l i part told n h hlt hf hz hpl hdl hl).mono fun e W' ⟨he, hs, hg⟩ => ?_
        have hf' : ¬ (l[i].2 && decide (part = l[i].1.length)) = true := by rw [hf]; simp
        have hx : part + 0 = l[i].1.length ∧ l[i].2 = false := ⟨by omega, hf⟩
        simp only [rdE, rdX, rdN, rdK, dif_pos hlt, if_neg hf', h0, List.take_zero, Nat.add_zero, nxt]
        rw [if_pos ⟨by omega, hf⟩]
        exact ⟨_, he, World.ownsRow_nil _ _ _ _, hs, hg⟩
    · refine (rread_ok w g l i part told n h hn hlt (by omega) hpl hdl ht hl hn').mono fun e W' ⟨d, K, he, hK, ho, hs, hg⟩ => ?_
      subst hK
      have hf : ¬ (l[i].2 && decide (part = l[i].1.length)) = true := by simp [hz]
      have e1 := rdX_length l i part n
      have e2 : rdK l i part n = min n (l[i].1.length - part) := by simp only [rdK, dif_pos hlt]
      rw [e1, e2]
      simp only [rdE, rdX, rdN, dif_pos hlt, if_neg hf]
      exact ⟨d, he, ho, hs, hg⟩
  · obtain rfl : i = l.length := by omega
    refine (rread_end w g l part told n h.src).mono fun e W' ⟨he, hb⟩ => ?_
    simp only [rdE, rdX, rdN, rdK, dif_neg hlt, Nat.add_zero]
    exact ⟨_, he, World.ownsRow_nil _ _ _ _, h.below hb, grown_below hb⟩

theorem le_sum (l : Scr) : ∀ x ∈ l, x.1.length ≤ (l.map fun x => x.1.length).sum := by
  induction l with
  | nil => intro x hx; cases hx
  | cons y t ih =>
    intro x hx
    simp only [List.map_cons, List.sum_cons]
    rcases List.mem_cons.1 hx with rfl | hx
    · omega
    · have := ih x hx; omega
theorem OwnU.kept {base top : Nat} {e : TypeId} {A B : World} {r : Value} {l : Scr} {row : Option Nat} (h : OwnU base top e A r l) (hg : A.grownBy B row) (hr : ∀ k, row = some k → k < base ∨ top ≤ k) : OwnU base top e B r l := by
  obtain ⟨xs, x1, x2, x3, x4, x5, x6⟩ := h
  have ap : ∀ {e' : TypeId} {size n : Nat} {v : Value} {ys : List Value}, A.ownsRow base e' size v n ys → (∀ k, v.ownBlock = some k → k < top) → v.ownBlock = none ∨ v.ownBlock ≠ row := fun {e' size n v ys} h ht => by
    cases e'' : v.ownBlock with
    | none => exact .inl rfl
    | some j => exact .inr (fun e3 => by have h1 := (h.lt j e'').1; have h2 := ht j e''; have h3 := hr j e3.symm; omega)
  exact ⟨xs, x1, x2.kept hg (ap x2 x5), fun x hx => (x3 x hx).kept hg (ap (x3 x hx) (x6 x hx)), x4, x5, x6⟩
theorem Src.kept {base : Nat} {A B : World} {g : Nat} {l : Scr} {i part told : Nat} {row : Option Nat} (h : Src base A g l i part told) (hg : A.grownBy B row) (hr : ∀ k, row = some k → k ≠ g ∧ (k < base ∨ g ≤ k)) : Src base B g l i part told := by
  obtain ⟨v, hB, hO⟩ := h
  exact ⟨v, hB.grown hg (fun e => (hr g e.symm).1 rfl), OwnU.kept hO hg (fun k e => (hr k e).2)⟩
/-- The document's source, its script below a block. -/
def RSu (v : Value) (base top : Nat) (w : World) (g : Nat) (l : Scr) (i part told : Nat) : Prop := RSv v base w g l i part told ∧ OwnU base top 54 w v l
theorem RSu.kept {v : Value} {base top : Nat} {A B : World} {g : Nat} {l : Scr} {i part told : Nat} {row : Option Nat} (h : RSu v base top A g l i part told) (hg : A.grownBy B row) (hr : ∀ k, row = some k → k ≠ g ∧ (k < base ∨ top ≤ k)) : RSu v base top B g l i part told := by
  have hU := OwnU.kept h.2 hg (fun k e => (hr k e).2)
  exact ⟨⟨h.1.1.grown hg (fun e => (hr g e.symm).1 rfl), h.1.2.1, hU.own⟩, hU⟩
theorem RSu.read {v : Value} {base top : Nat} {A B : World} {g : Nat} {l : Scr} {i part told i' part' told' : Nat} (h : RSu v base top A g l i part told) (hB : RSv v base B g l i' part' told') (hg : A.grownBy B (some g)) : RSu v base top B g l i' part' told' :=
  ⟨hB, OwnU.kept h.2 hg (fun k e => by cases e; exact .inl h.1.2.1)⟩
theorem Src.keepP {P : Nat → Prop} {base : Nat} {A B : World} {g : Nat} {l : Scr} {i part told : Nat} (h : Src base A g l i part told) (hg : base ≤ g) (hk : KeepP P A B) (hp : ∀ k, base ≤ k → ¬ P k) : Src base B g l i part told := by
  obtain ⟨v, hB, xs, x1, x2, x3, x4, x5, x6⟩ := h
  exact ⟨v, (hk.block g hB.lt (hp g hg)).trans hB, xs, x1, hk.owns x2 (fun k e => hp k (x2.lt k e).1), fun x hx => hk.owns (x3 x hx) (fun k e => hp k ((x3 x hx).lt k e).1), x4, x5, x6⟩
theorem left_of_u {base top : Nat} {w : World} {r : Value} {l : Scr} (h : OwnU base top 55 w r l) : ∃ (g cap : Nat) (xs : List (Value × List UInt8 × Bool)), xs.map Prod.snd = l ∧ xs.length = l.length ∧ (l.length = 0 ∨ r = .slice (some ⟨g, 0, none⟩) l.length cap ∧ C.Left base g l.length cap xs 0 w) ∧ (l.length ≠ 0 → base ≤ g ∧ g < top) ∧ ∀ x ∈ xs, ∀ k, x.1.ownBlock = some k → base ≤ k ∧ k < top := by
  obtain ⟨xs, h1, h2, h3, _, h5, h6⟩ := h
  have hl : xs.length = l.length := by rw [← h1]; simp
  have h2' := h2
  have hb6 : ∀ x ∈ xs, ∀ k, x.1.ownBlock = some k → base ≤ k ∧ k < top := fun x hx k e => ⟨((h3 x hx).lt k e).1, h6 x hx k e⟩
  rcases h2.2 with ⟨_, e0⟩ | ⟨g, cap, cur, rfl, hb, hg, hcap, _⟩
  · exact ⟨0, 0, xs, h1, hl, .inl e0, fun h => absurd e0 h, hb6⟩
  · refine ⟨g, cap, xs, h1, hl, .inr ⟨rfl, ⟨_, h2', fun j _ hj => ?_⟩, fun x hx => ⟨_, h3 x hx⟩⟩, fun _ => ⟨hb, h5 g rfl⟩, hb6⟩
    obtain ⟨c1, c2⟩ := flat_get xs j hj
    rw [Nat.mul_comm j 2]
    exact ⟨c1, _, c2⟩

end Go.Proofs.Ytkpjmcoihbebkaa.CInv
