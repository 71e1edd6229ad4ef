/- What is proved here: the statement ChunkReads (every script, read in any portions: every answer is the document's, whatever is done with the script behind New) holds for any script and any numbers, where the arguments hold at most 1048576 values together, with no other condition. -/
import Derived.Test.YtanfnalapablfaaCFrame
import Derived.Test.YtanfnalapablfaaCOpen
import Derived.Test.YtanfnalapablfaaCRead
import Derived.Test.YtanfnalapablfaaCSame
import Derived.Test.YtanfnalapablfaaCSpoil
import Derived.Test.YtanfnalapablfaaCMore
import Derived.Test.YtanfnalapablfaaCRRead
namespace Go.Proofs.Ytanfnalapablfaa.CReads
open Go.ChangeShapes Go.WideShapes Go.ChangeAt Go.RowKit C

abbrev Scr := List (List UInt8 × Bool)
theorem reach_get : ∀ (l : Scr) (k : Nat) (h : k < (reach l).length), ∃ h' : k < l.length, l[k] = (reach l)[k]
  | [], k, h => by simp [reach] at h
  | x :: t, 0, h => by
    refine ⟨by simp, ?_⟩
    cases hx : x.2 <;> simp [reach, hx]
  | x :: t, k + 1, h => by
    cases hx : x.2 with
    | true => simp [reach, hx] at h
    | false =>
      simp [reach, hx] at h
      obtain ⟨h', e⟩ := reach_get t k h
      refine ⟨by simp; omega, ?_⟩
      simp [reach, hx, e]
theorem reach_end : ∀ (l : Scr), (∀ (k : Nat) (h : k < (reach l).length), (reach l)[k].2 = false) → reach l = l
  | [], _ => rfl
  | x :: t, h => by
    cases hx : x.2 with
    | true =>
      have := h 0 (by simp [reach, hx])
      simp [reach, hx] at this
    | false =>
      have h2 := reach_end t (fun k hk => by
        have := h (k + 1) (by simp [reach, hx]; omega)
        simpa [reach, hx] using this)
      simp [reach, hx, h2]
theorem reach_size (l : Scr) : ∀ k, k ≤ (reach l).length → sizeS (reach l) k = sizeS l k
  | 0, _ => by simp [sizeS]
  | k + 1, h => by
    obtain ⟨h', e⟩ := reach_get l k (by omega)
    rw [sizeS_succ _ k (by omega), sizeS_succ l k h', reach_size l k (by omega), e]

/-- What a read tells: its bytes, its error, and where the source stands then. -/
def rdK (l : Scr) (i part n : Nat) : Nat := if h : i < l.length then min n (l[i].1.length - part) else 0
def rdX (l : Scr) (i part n : Nat) : List UInt8 := if h : i < l.length then (l[i].1.drop part).take (min n (l[i].1.length - part)) else []
def rdE (l : Scr) (i part : Nat) : Int := if h : i < l.length then (if (l[i].2 && decide (part = l[i].1.length)) = true then 20 else 0) else 21
def rdN (l : Scr) (i part n : Nat) : Nat × Nat := if h : i < l.length then (if (l[i].2 && decide (part = l[i].1.length)) = true then (i, part) else nxt l[i] i part (min n (l[i].1.length - part))) else (i, part)
theorem rdX_length (l : Scr) (i part n : Nat) : (rdX l i part n).length = rdK l i part n := by
  unfold rdX rdK
  split
  · simp
  · rfl
/-- Where a source may stand. -/
structure Inv (l : Scr) (i part told : Nat) : Prop where
  le : i ≤ (reach l).length
  part_le : ∀ h : i < (reach l).length, part ≤ (reach l)[i].1.length
  good : ∀ (k : Nat) (h : k < (reach l).length), k < i → (reach l)[k].2 = false
  told : told = sizeS l i + part
  over : i = (reach l).length → part = 0
theorem Inv.start (l : Scr) : Inv l 0 0 0 := ⟨by omega, fun _ => by omega, fun _ _ h => by omega, by simp [sizeS], fun _ => rfl⟩
theorem Inv.cases {l : Scr} {i part told : Nat} (h : Inv l i part told) : (∃ (h1 : i < (reach l).length) (h2 : i < l.length), l[i] = (reach l)[i]) ∨ (i = l.length ∧ reach l = l) := by
  by_cases h1 : i < (reach l).length
  · obtain ⟨h2, e⟩ := reach_get l i h1
    exact .inl ⟨h1, h2, e⟩
  · have e := reach_end l (fun k hk => h.good k hk (by have := h.le; omega))
    have := h.le
    rw [e] at h1 this
    exact .inr ⟨by omega, e⟩
theorem Inv.le_l {l : Scr} {i part told : Nat} (h : Inv l i part told) : i ≤ l.length := by
  rcases h.cases with ⟨_, h2, _⟩ | ⟨h1, _⟩ <;> omega
theorem Inv.same {l : Scr} {i part told : Nat} (h : Inv l i part told) (n : Nat) : rdK (reach l) i part n = rdK l i part n ∧ rdX (reach l) i part n = rdX l i part n ∧ rdE (reach l) i part = rdE l i part ∧ rdN (reach l) i part n = rdN l i part n ∧ C.over (reach l) i part = C.over l i part := by
  rcases h.cases with ⟨h1, h2, e⟩ | ⟨_, e⟩
  · simp only [rdK, rdX, rdE, rdN, C.over, dif_pos h1, dif_pos h2, e, and_self]
  · rw [e]; exact ⟨rfl, rfl, rfl, rfl, rfl⟩
theorem Inv.bound {l : Scr} {i part told : Nat} (h : Inv l i part told) : told ≤ sizeS l l.length := by
  have ht := h.told
  rcases h.cases with ⟨h1, h2, e⟩ | ⟨h1, e⟩
  · have hp := h.part_le h1
    have h3 := sizeS_succ l i h2
    have h4 := sizeS_mono l (i + 1) (l.length - (i + 1))
    rw [show i + 1 + (l.length - (i + 1)) = l.length by omega] at h4
    rw [← e] at hp
    omega
  · have := h.over (by rw [e]; exact h1)
    rw [ht, h1, this]; omega
theorem Inv.step {l : Scr} {i part told : Nat} (h : Inv l i part told) (n : Nat) : Inv l (rdN l i part n).1 (rdN l i part n).2 (told + rdK l i part n) := by
  rcases h.cases with ⟨h1, h2, e⟩ | ⟨h1, e⟩
  · have hp := h.part_le h1
    have ht := h.told
    simp only [rdK, rdN, dif_pos h2]
    rw [← e] at hp
    have h3 := sizeS_succ l i h2
    by_cases hf : (l[i].2 && decide (part = l[i].1.length)) = true
    · rw [if_pos hf]
      simp only [Bool.and_eq_true, decide_eq_true_eq] at hf
      have h0 : min n (l[i].1.length - part) = 0 := by omega
      rw [h0, Nat.add_zero]
      exact h
    · rw [if_neg hf]
      unfold nxt
      split
      · rename_i hx
        refine ⟨by have := h.le; show i + 1 ≤ _; omega, fun _ => Nat.zero_le _, fun k hk hki => ?_, by show _ = sizeS l (i + 1) + 0; omega, fun _ => rfl⟩
        by_cases hk2 : k = i
        · subst hk2; rw [← e]; exact hx.2
        · exact h.good k hk (by show k < i; have : k < i + 1 := hki; omega)
      · refine ⟨h.le, fun _ => by rw [← e]; show part + _ ≤ _; omega, h.good, by show _ = sizeS l i + (part + _); omega, fun h' => by have : i = _ := h'; omega⟩
  · have h4 : ¬ i < l.length := by omega
    simp only [rdK, rdN, dif_neg h4, Nat.add_zero]
    exact h

/-- **Read of a source, whatever it tells.** -/
theorem cread_calls {base : Nat} (w : World) (g : Nat) (l : Scr) (i part told : Nat) (n : Nat) (h : Src base w g l i part told) (hn : 1 ≤ n) (hi : i ≤ l.length) (hp : ∀ h : i < l.length, part ≤ l[i].1.length) (hd : ∀ x ∈ l, x.1.length ≤ 100000000000000) (ht : told ≤ 100000000000000) (hl : l.length ≤ 1000000000000) (hn' : n ≤ 9223372036854775807) :
    Calls Try.prog 14 #[.pointer (some ⟨g, 0, none⟩), .int .i64 n] w fun e W' => ∃ d, e = .returned (.tuple #[d, .int .i64 (rdE l i part)]) ∧ W'.ownsRow w.heap.size 5 1 d (rdX l i part n).length (bvs (rdX l i part n)) ∧ Src base W' g l (rdN l i part n).1 (rdN l i part n).2 (told + rdK l i part n) ∧ w.grownBy W' (some g) := by
  by_cases hlt : i < l.length
  · by_cases hf : (l[i].2 && decide (part = l[i].1.length)) = true
    · refine (read_fail w g l i part told n h (by omega) hlt hf).mono fun e W' ⟨he, hb⟩ => ?_
      have h0 : min n (l[i].1.length - part) = 0 := by simp only [Bool.and_eq_true, decide_eq_true_eq] at hf; omega
      simp only [rdE, rdX, rdN, rdK, dif_pos hlt, if_pos hf, h0, List.take_zero, Nat.add_zero]
      exact ⟨_, he, World.ownsRow_nil _ _ _ _, h.below hb, grown_below hb⟩
    · refine (read_ok w g l i part told n h hn hlt (by simpa using hf) (hp hlt) (hd _ (List.getElem_mem _)) ht hl hn').mono fun e W' ⟨d, K, he, hK, ho, hs, hg⟩ => ?_
      subst hK
      have e1 := rdX_length l i part n
      have e2 : rdK l i part n = min n (l[i].1.length - part) := by simp only [rdK, dif_pos hlt]
      rw [e1, e2]
      simp only [rdE, rdX, rdN, dif_pos hlt, if_neg hf]
      exact ⟨d, he, ho, hs, hg⟩
  · obtain rfl : i = l.length := by omega
    refine (read_end w g l part told n h (by omega)).mono fun e W' ⟨he, hb⟩ => ?_
    simp only [rdE, rdX, rdN, rdK, dif_neg hlt, Nat.add_zero]
    exact ⟨_, he, World.ownsRow_nil _ _ _ _, h.below hb, grown_below hb⟩
/-- **Read of the document's source, whatever it tells.** -/
theorem rdread_calls {v : Value} {base : Nat} (w : World) (g : Nat) (l : Scr) (i part told : Nat) (n : Nat) (h : RSv v base w g l i part told) (hn : 1 ≤ n) (hi : i ≤ l.length) (hp : ∀ h : i < l.length, part ≤ l[i].1.length) (hd : ∀ x ∈ l, x.1.length ≤ 100000000000000) (ht : told ≤ 100000000000000) (hl : l.length ≤ 1000000000000) (hn' : n ≤ 9223372036854775807) :
    Calls Try.prog 16 #[.pointer (some ⟨g, 0, none⟩), .int .i64 n] w fun e W' => ∃ d, e = .returned (.tuple #[d, .int .i64 (rdE l i part)]) ∧ W'.ownsRow w.heap.size 5 1 d (rdX l i part n).length (bvs (rdX l i part n)) ∧ RSv v base W' g l (rdN l i part n).1 (rdN l i part n).2 (told + rdK l i part n) ∧ w.grownBy W' (some g) := by
  by_cases hlt : i < l.length
  · have hpl := hp hlt
    have hdl := hd _ (List.getElem_mem hlt)
    by_cases hz : part = l[i].1.length
    · have h0 : min n (l[i].1.length - part) = 0 := by omega
      cases hf : l[i].2 with
      | true =>
        refine (rread_fail w g l i part told n h.src hlt hf hz hpl hdl).mono fun e W' ⟨he, hb⟩ => ?_
        have hf' : (l[i].2 && decide (part = l[i].1.length)) = true := by rw [hf, decide_eq_true hz]; rfl
        simp only [rdE, rdX, rdN, rdK, dif_pos hlt, if_pos hf', h0, List.take_zero, Nat.add_zero]
        exact ⟨_, he, World.ownsRow_nil _ _ _ _, h.below hb, grown_below hb⟩
      | false =>
        refine (rread_skip w g l i part told n h hlt hf hz hpl hdl hl).mono fun e W' ⟨he, hs, hg⟩ => ?_
        have hf' : ¬ (l[i].2 && decide (part = l[i].1.length)) = true := by rw [hf]; simp
        have hx : part + 0 = l[i].1.length ∧ l[i].2 = false := ⟨by omega, hf⟩
        simp only [rdE, rdX, rdN, rdK, dif_pos hlt, if_neg hf', h0, List.take_zero, Nat.add_zero, nxt]
        rw [if_pos ⟨by omega, hf⟩]
        exact ⟨_, he, World.ownsRow_nil _ _ _ _, hs, hg⟩
    · refine (rread_ok w g l i part told n h hn hlt (by omega) hpl hdl ht hl hn').mono fun e W' ⟨d, K, he, hK, ho, hs, hg⟩ => ?_
      subst hK
      have hf : ¬ (l[i].2 && decide (part = l[i].1.length)) = true := by simp [hz]
      have e1 := rdX_length l i part n
      have e2 : rdK l i part n = min n (l[i].1.length - part) := by simp only [rdK, dif_pos hlt]
      rw [e1, e2]
      simp only [rdE, rdX, rdN, dif_pos hlt, if_neg hf]
      exact ⟨d, he, ho, hs, hg⟩
  · obtain rfl : i = l.length := by omega
    refine (rread_end w g l part told n h.src).mono fun e W' ⟨he, hb⟩ => ?_
    simp only [rdE, rdX, rdN, rdK, dif_neg hlt, Nat.add_zero]
    exact ⟨_, he, World.ownsRow_nil _ _ _ _, h.below hb, grown_below hb⟩

theorem le_sum (l : Scr) : ∀ x ∈ l, x.1.length ≤ (l.map fun x => x.1.length).sum := by
  induction l with
  | nil => intro x hx; cases hx
  | cons y t ih =>
    intro x hx
    simp only [List.map_cons, List.sum_cons]
    rcases List.mem_cons.1 hx with rfl | hx
    · omega
    · have := ih x hx; omega
theorem OwnU.kept {base top : Nat} {e : TypeId} {A B : World} {r : Value} {l : Scr} {row : Option Nat} (h : OwnU base top e A r l) (hg : A.grownBy B row) (hr : ∀ k, row = some k → k < base ∨ top ≤ k) : OwnU base top e B r l := by
  obtain ⟨xs, x1, x2, x3, x4, x5, x6⟩ := h
  have ap : ∀ {e' : TypeId} {size n : Nat} {v : Value} {ys : List Value}, A.ownsRow base e' size v n ys → (∀ k, v.ownBlock = some k → k < top) → v.ownBlock = none ∨ v.ownBlock ≠ row := fun {e' size n v ys} h ht => by
    cases e'' : v.ownBlock with
    | none => exact .inl rfl
    | some j => exact .inr (fun e3 => by have h1 := (h.lt j e'').1; have h2 := ht j e''; have h3 := hr j e3.symm; omega)
  exact ⟨xs, x1, x2.kept hg (ap x2 x5), fun x hx => (x3 x hx).kept hg (ap (x3 x hx) (x6 x hx)), x4, x5, x6⟩
theorem Src.kept {base : Nat} {A B : World} {g : Nat} {l : Scr} {i part told : Nat} {row : Option Nat} (h : Src base A g l i part told) (hg : A.grownBy B row) (hr : ∀ k, row = some k → k ≠ g ∧ (k < base ∨ g ≤ k)) : Src base B g l i part told := by
  obtain ⟨v, hB, hO⟩ := h
  exact ⟨v, hB.grown hg (fun e => (hr g e.symm).1 rfl), OwnU.kept hO hg (fun k e => (hr k e).2)⟩
/-- The document's source, its script below a block. -/
def RSu (v : Value) (base top : Nat) (w : World) (g : Nat) (l : Scr) (i part told : Nat) : Prop := RSv v base w g l i part told ∧ OwnU base top 57 w v l
theorem RSu.kept {v : Value} {base top : Nat} {A B : World} {g : Nat} {l : Scr} {i part told : Nat} {row : Option Nat} (h : RSu v base top A g l i part told) (hg : A.grownBy B row) (hr : ∀ k, row = some k → k ≠ g ∧ (k < base ∨ top ≤ k)) : RSu v base top B g l i part told := by
  have hU := OwnU.kept h.2 hg (fun k e => (hr k e).2)
  exact ⟨⟨h.1.1.grown hg (fun e => (hr g e.symm).1 rfl), h.1.2.1, hU.own⟩, hU⟩
theorem RSu.read {v : Value} {base top : Nat} {A B : World} {g : Nat} {l : Scr} {i part told i' part' told' : Nat} (h : RSu v base top A g l i part told) (hB : RSv v base B g l i' part' told') (hg : A.grownBy B (some g)) : RSu v base top B g l i' part' told' :=
  ⟨hB, OwnU.kept h.2 hg (fun k e => by cases e; exact .inl h.1.2.1)⟩
theorem Src.keepP {P : Nat → Prop} {base : Nat} {A B : World} {g : Nat} {l : Scr} {i part told : Nat} (h : Src base A g l i part told) (hg : base ≤ g) (hk : KeepP P A B) (hp : ∀ k, base ≤ k → ¬ P k) : Src base B g l i part told := by
  obtain ⟨v, hB, xs, x1, x2, x3, x4, x5, x6⟩ := h
  exact ⟨v, (hk.block g hB.lt (hp g hg)).trans hB, xs, x1, hk.owns x2 (fun k e => hp k (x2.lt k e).1), fun x hx => hk.owns (x3 x hx) (fun k e => hp k ((x3 x hx).lt k e).1), x4, x5, x6⟩
theorem left_of_u {base top : Nat} {w : World} {r : Value} {l : Scr} (h : OwnU base top 58 w r l) : ∃ (g cap : Nat) (xs : List (Value × List UInt8 × Bool)), xs.map Prod.snd = l ∧ xs.length = l.length ∧ (l.length = 0 ∨ r = .slice (some ⟨g, 0, none⟩) l.length cap ∧ C.Left base g l.length cap xs 0 w) ∧ (l.length ≠ 0 → base ≤ g ∧ g < top) ∧ ∀ x ∈ xs, ∀ k, x.1.ownBlock = some k → base ≤ k ∧ k < top := by
  obtain ⟨xs, h1, h2, h3, _, h5, h6⟩ := h
  have hl : xs.length = l.length := by rw [← h1]; simp
  have h2' := h2
  have hb6 : ∀ x ∈ xs, ∀ k, x.1.ownBlock = some k → base ≤ k ∧ k < top := fun x hx k e => ⟨((h3 x hx).lt k e).1, h6 x hx k e⟩
  rcases h2.2 with ⟨_, e0⟩ | ⟨g, cap, cur, rfl, hb, hg, hcap, _⟩
  · exact ⟨0, 0, xs, h1, hl, .inl e0, fun h => absurd e0 h, hb6⟩
  · refine ⟨g, cap, xs, h1, hl, .inr ⟨rfl, ⟨_, h2', fun j _ hj => ?_⟩, fun x hx => ⟨_, h3 x hx⟩⟩, fun _ => ⟨hb, h5 g rfl⟩, hb6⟩
    obtain ⟨c1, c2⟩ := flat_get xs j hj
    rw [Nat.mul_comm j 2]
    exact ⟨c1, _, c2⟩

set_option maxRecDepth 100000 in
set_option maxHeartbeats 4000000 in
theorem walk (w : World) (lv : Value) (l : Scr) (hS : HasS w lv l) (hl : l.length + (l.map fun x => x.1.length).sum ≤ 1048576) (nv : Value) (ns : List Int) (hN : HasI .i64 w nv ns) (wn : ∀ z ∈ ns, (Lit.int .i64 z).wf = true) (hm : ns.length ≤ 1048576) :
    Calls Try.prog 3 #[lv, nv] w fun e w' => e = .returned (.bool true) ∧ Below w.heap.size w w' := by
  obtain ⟨la, lc, rfl⟩ := hS.slice
  obtain ⟨na, nb, noff, nc, rfl, hna, hnx⟩ : ∃ a b off c, nv = .slice a ns.length c ∧ (0 < ns.length → a = some ⟨b, off, none⟩) ∧ ∀ j, j < ns.length → w.cell? ⟨b, off + j, none⟩ = some (.int .i64 (zAt ns j)) := by
    rcases hN with ⟨rfl, a, cap, rfl⟩ | ⟨hp, b, off, cap, rfl, hcap, hx⟩
    · exact ⟨a, 0, 0, cap, rfl, fun h => by simp at h, fun j hj => by simp at hj⟩
    · exact ⟨_, b, off, cap, rfl, fun _ => rfl, hx⟩
  have HNA : Hid (0 < ns.length → na = some ⟨nb, noff, none⟩) := hna
  have HNX : Hid (∀ j, j < ns.length → w.cell? ⟨nb, noff + j, none⟩ = some (.int .i64 (zAt ns j))) := hnx
  have HNW : Hid (∀ j, j < ns.length → -9223372036854775808 ≤ zAt ns j ∧ zAt ns j ≤ 9223372036854775807) := fun j hj => by
    have h1 := wn ns[j] (List.getElem_mem _)
    have h2 := wf_bounds h1
    simp [IntKind.min, IntKind.max, IntKind.signed, IntKind.bits] at h2
    simpa [zAt, hj] using h2
  have HS : Hid (HasS w (.slice la l.length lc) l) := hS
  have HD : Hid (∀ x ∈ l, x.1.length ≤ 100000000000000) := fun x hx => by have := le_sum l x hx; omega
  have HSZ : Hid (sizeS l l.length ≤ 1048576) := by show _ ≤ _; simp only [sizeS, List.take_length]; omega
  have hll : (l.length : Int) ≤ 1048576 := by omega
  clear hS hN hna hnx wn
  go_enter Try.func3, Try.ntmps3
  go_wp2_with fail
  refine (steps_calls l _ w HS.out (by omega) HD.out).mono ?_
  rintro e w1 ⟨gv, rfl, hO1, hb1⟩
  have s1 := hb1.size
  obtain ⟨ga, gc, rfl⟩ := hO1.slice
  have HO1 : Hid (OwnS w.heap.size 58 w1 (.slice ga l.length gc) l) := hO1
  have HS1 : Hid (HasS w1 (.slice la l.length lc) l) := HS.out.below hb1
  go_wp2_with fail
  cases hlg : large l with
  | true =>
    refine (new_large l _ w1 (hasS_owns hO1) (by omega) HD.out hlg).mono ?_
    rintro e w2 ⟨rfl, hb2⟩
    have HB2 : Hid (Below w.heap.size w w2) := hb1.trans (hb2.mono s1)
    go_wp2_with fail
    refine (rlarge_calls l _ w2 (HS1.out.below hb2) (by omega) HD.out).mono ?_
    rintro e w3 ⟨rfl, hb3⟩
    rw [hlg]
    have HB3 : Hid (Below w.heap.size w w3) := HB2.out.trans (hb3.mono HB2.out.size)
    go_wp2_with (first
      | (go_at_call 9; refine (num_calls _ _).mono ?_; rintro e w' ⟨rfl, hx'⟩; obtain rfl : w3 = w' := hx'.symm)
      | (go_at_call 10; refine (awake_calls _).mono ?_; rintro e w4 ⟨rfl, hb4⟩))
    go_ret
    exact ⟨rfl, HB3.out.trans (hb4.mono HB3.out.size)⟩
  | false =>
    refine (new_small l _ w1 (hasS_owns hO1) (by omega) HD.out hlg).mono ?_
    rintro e w2 ⟨g, hg1, rfl, hR2, hb2⟩
    have s2 := hb2.size
    have HB2 : Hid (Below w.heap.size w w2) := hb1.trans (hb2.mono s1)
    have HR2 : Hid (Src w1.heap.size w2 g (reach l) 0 0 0) := hR2
    have HO2 : Hid (OwnS w.heap.size 58 w2 (.slice ga l.length gc) l) := hO1.below hb2
    have HU1 : Hid (OwnU w.heap.size w1.heap.size 58 w1 (.slice ga l.length gc) l) := OwnU.of hO1
    have hb12 : Below w1.heap.size w1 w2 := hb2
    have HS2 : Hid (HasS w2 (.slice la l.length lc) l) := HS1.out.below hb2
    clear hR2 hO1 hb1 hb2 HO1 HS1
    go_wp2_with fail
    refine (rlarge_calls l _ w2 HS2.out (by omega) HD.out).mono ?_
    rintro e w3 ⟨rfl, hb3⟩
    rw [hlg]
    have s3 := hb3.size
    go_wp2_with (first
      | (go_at_call 9; refine (num_calls _ _).mono ?_; rintro e w' ⟨rfl, hx'⟩; obtain rfl : w3 = w' := hx'.symm)
      | fail)
    refine (lsame_calls l l _ _ w3 (by omega) (hasS_owns (HO2.out.below hb3)) (HS2.out.below hb3)).mono ?_
    rintro e w4 ⟨rfl, hb4⟩
    rw [decide_eq_true rfl]
    have hb24 : Below w2.heap.size w2 w4 := hb3.trans (hb4.mono s3)
    have s4 := hb24.size
    have hU4 : OwnU w.heap.size w1.heap.size 58 w4 (.slice ga l.length gc) l := (HU1.out.below hb12).below hb24
    obtain ⟨g0, cap0, xs, x1, xl, xr, xg, xb⟩ := left_of_u hU4
    have hxd : ∀ x ∈ xs, x.2.1.length ≤ 100000000000000 := fun x hx => HD.out x.2 (by rw [← x1]; exact List.mem_map_of_mem hx)
    have hR4 := HR2.out.below hb24
    have hB4 : Below w.heap.size w w4 := HB2.out.trans (hb24.mono HB2.out.size)
    go_wp2_with fail
    refine (spoil_calls (fun k => w.heap.size ≤ k ∧ k < w1.heap.size) w.heap.size g0 l.length cap0 _ xs w4 xl (by omega) hxd xr ⟨_, _, rfl⟩ xg xb).mono ?_
    rintro e w5 ⟨⟨sv, rfl⟩, hk5⟩
    have hR5 : Src w1.heap.size w5 g (reach l) 0 0 0 := Src.keepP hR4 hg1 hk5 (fun k h1 h2 => by omega)
    have hB5 : Below w.heap.size w w5 := hB4.trans (hk5.below hB4.size (fun k h1 h2 => by omega))
    have s5 := hk5.size
    go_wp2_with fail
    refine (rnew_calls l _ w5 (HS.out.below hB5) (by omega) HD.out).mono ?_
    rintro e w6 ⟨rv, rfl, hBl6, hO6, hb6⟩
    have s6 := hb6.size
    have hgr := hBl6.lt
    have HR6 : Hid (Src w1.heap.size w6 g (reach l) 0 0 0) := hR5.below hb6
    have HV6 : Hid (RSu rv (w5.heap.size + 1) w6.heap.size w6 w5.heap.size l 0 0 0) := ⟨⟨hBl6, by omega, hO6⟩, OwnU.of hO6⟩
    have HB6 : Hid (Below w.heap.size w w6) := hB5.trans (hb6.mono hB5.size)
    have hg5 : g < w5.heap.size := Nat.lt_of_lt_of_le (by obtain ⟨_, hB, _⟩ := HR2.out; exact hB.lt) (by omega)
    clear hU4 x1 xl xr xg xb hxd hR4 hB4 hk5 hR5 hB5 hBl6 hO6 hb6 hb24 hb3 hb4 HR2 HO2 HS2 HB2 HU1 hb12
    go_wp2
    go_loopw [10, 11, 12, 13, 14, 53] (fun _ _ _ _ _ i wr => ∃ (k si sp st : Nat), k ≤ ns.length ∧ i = .int .i64 k ∧ Hid (Inv l si sp st) ∧ Hid (Src w1.heap.size wr g (reach l) si sp st) ∧ Hid (RSu rv (w5.heap.size + 1) w6.heap.size wr w5.heap.size l si sp st) ∧ Hid (Below w.heap.size w wr) ∧ w6.heap.size ≤ wr.heap.size) (fun _ _ _ _ _ i _ => ns.length - (intOf i).toNat)
    case atStart => exact ⟨0, 0, 0, 0, by omega, rfl, Inv.start l, HR6, HV6, HB6, Nat.le_refl _⟩
    case round =>
      clear HR6 HV6 HB6
      obtain ⟨k, si, sp, st, hk, rfl, hI, hR, hV, hB, hsz⟩ := hrel
      by_cases hlt : k < ns.length
      · have e' := HNA.out (by omega)
        subst e'
        have hc1 : wr.cell? ⟨nb, noff + k, none⟩ = some (.int .i64 (zAt ns k)) := (hB.out.cell (p := ⟨nb, noff + k, none⟩) (cell_lt (HNX.out k hlt))).trans (HNX.out k hlt)
        obtain ⟨hz1, hz2⟩ := HNW.out k hlt
        generalize zAt ns k = z at *
        have hsz0 := hB.out.size
        by_cases hz : z < 1
        · go_wp2_with fail
          refine (read_arg wr g (reach l) si sp st z hR.out hz).mono ?_
          rintro e w7 ⟨rfl, hb7⟩
          have s7 := hb7.size
          go_wp2_with fail
          refine (alike_calls [] [] (.slice none 0 0) (.slice none 0 0) 1 1 w7.heap.size w7.heap.size w7 (by simp) (World.ownsRow_nil _ _ _ _) (.inl ⟨rfl, _, _, rfl⟩)).mono ?_
          rintro e w8 ⟨rfl, hg8⟩
          have hb8 : wr.grownBy w8 none := ⟨hg8.os.trans hb7.os, hg8.tape.trans hb7.tape, hg8.output.trans hb7.output, Nat.le_trans s7 hg8.size, fun j hj _ => (hg8.block j (by omega) (by simp [Value.ownBlock])).trans (hb7.block j hj)⟩
          have hbb : Below wr.heap.size wr w8 := ⟨hb8.os, hb8.tape, hb8.output, hb8.size, fun j hj => hb8.block j hj (by simp)⟩
          have HRn : Hid (Src w1.heap.size w8 g (reach l) si sp st) := hR.out.below hbb
          have HVn : Hid (RSu rv (w5.heap.size + 1) w6.heap.size w8 w5.heap.size l si sp st) := RSu.kept hV.out hb8 (fun k e => by cases e)
          have HBn : Hid (Below w.heap.size w w8) := hB.out.trans (hbb.mono hsz0)
          have hszn : w6.heap.size ≤ w8.heap.size := by have := hb8.size; omega
          clear hg8 hb7 hb8 hbb hR hV hB
          rw [show (decide ((1 : Int) = 1) && decide (([] : List UInt8) = [])) = true from rfl]
          go_wp2
          go_roundw
          case rel => exact ⟨k + 1, si, sp, st, by omega, by go_num, hI, HRn, HVn, HBn, hszn⟩
          case measure => simp [intOf]; omega
        · obtain ⟨n, rfl⟩ : ∃ n : Nat, z = (n : Int) := ⟨z.toNat, by omega⟩
          have hzd : ¬ (n : Int) < 1 := hz
          have HSM : Hid _ := hI.out.same n
          have hbd := hI.out.bound
          have hszl := HSZ.out
          have HRD : Hid (∀ x ∈ reach l, x.1.length ≤ 100000000000000) := fun x hx => by
            obtain ⟨j, hj, rfl⟩ := List.mem_iff_getElem.1 hx
            obtain ⟨h', e⟩ := reach_get l j hj
            rw [← e]; exact HD.out _ (List.getElem_mem _)
          have HRL : Hid ((reach l).length ≤ 1000000000000) := by
            show _ ≤ _
            by_cases h0 : (reach l).length = 0
            · omega
            · obtain ⟨h', _⟩ := reach_get l ((reach l).length - 1) (by omega)
              omega
          go_wp2_with fail
          refine (cread_calls wr g (reach l) si sp st n hR.out (by omega) hI.out.le hI.out.part_le HRD.out (by omega) HRL.out (by omega)).mono ?_
          rintro e w7 ⟨d7, rfl, ho7, hR7, hg7⟩
          obtain ⟨q1, q2, q3, q4, q5⟩ := HSM.out
          have HIN : Hid (Inv l (rdN l si sp n).1 (rdN l si sp n).2 (st + rdK l si sp n)) := hI.out.step n
          rw [q2] at ho7
          rw [q1, q4] at hR7
          rw [q3]
          clear q1 q2 q3 q4 q5 HSM
          have s7 := hg7.size
          have B7 : Below w.heap.size w w7 := hB.out.grown hg7 hsz0 (fun j hj => by cases hj; omega)
          have V7 : RSu rv (w5.heap.size + 1) w6.heap.size w7 w5.heap.size l si sp st := RSu.kept hV.out hg7 (fun j hj => by cases hj; exact ⟨by omega, .inl (by omega)⟩)
          have hpl : ∀ h : si < l.length, sp ≤ l[si].1.length := fun h => by
            rcases hI.out.cases with ⟨h1, h2, e⟩ | ⟨h1, _⟩
            · rw [e]; exact hI.out.part_le h1
            · omega
          have hXl : (rdX l si sp n).length ≤ 1048576 := by
            have h1 := rdX_length l si sp n
            have h2 := HIN.out.bound
            omega
          go_wp2_with fail
          refine (rdread_calls w7 w5.heap.size l si sp st n V7.1 (by omega) hI.out.le_l hpl HD.out (by omega) (by omega) (by omega)).mono ?_
          rintro e w8 ⟨d8, rfl, ho8, hV8, hg8⟩
          have s8 := hg8.size
          have HV8 : Hid (RSu rv (w5.heap.size + 1) w6.heap.size w8 w5.heap.size l (rdN l si sp n).1 (rdN l si sp n).2 (st + rdK l si sp n)) := RSu.read V7 hV8 hg8
          have HR8 : Hid (Src w1.heap.size w8 g (reach l) (rdN l si sp n).1 (rdN l si sp n).2 (st + rdK l si sp n)) := Src.kept hR7 hg8 (fun j hj => by cases hj; exact ⟨by omega, .inr (by omega)⟩)
          have HB8 : Hid (Below w.heap.size w w8) := B7.grown hg8 B7.size (fun j hj => by cases hj; omega)
          have HO7 : Hid (w8.ownsRow wr.heap.size 5 1 d7 (rdX l si sp n).length (bvs (rdX l si sp n))) := ho7.kept hg8 (by
            cases e : d7.ownBlock with
            | none => exact .inl rfl
            | some j => exact .inr (fun e' => by have := (ho7.lt j e).1; simp at e'; omega))
          have HD7 : Hid (∀ j, d7.ownBlock = some j → wr.heap.size ≤ j) := fun j e => (ho7.lt j e).1
          have HO8 : Hid (w8.ownsRow w7.heap.size 5 1 d8 (rdX l si sp n).length (bvs (rdX l si sp n))) := ho8
          obtain ⟨a7, k7, rfl⟩ := owns_slice ho7
          obtain ⟨a8, k8, rfl⟩ := owns_slice ho8
          clear ho7 hR7 hg7 B7 V7 hpl ho8 hV8 hg8 hR hV hB
          generalize rdX l si sp n = X at *
          generalize rdE l si sp = E at *
          generalize st + rdK l si sp n = st' at *
          generalize (rdN l si sp n).1 = si' at *
          generalize (rdN l si sp n).2 = sp' at *
          have c8 : w8.cell? ⟨w5.heap.size, 3, none⟩ = some (.int .i64 st') := HV8.out.1.1.cell 3
          have hne : ((st' : Int) != (st' : Int)) = false := by simp
          have HOV : Hid (C.over (reach l) si' sp' = C.over l si' sp') := (HIN.out.same 1).2.2.2.2
          have AL : Hid (Calls Try.prog 15 #[.slice a7 X.length k7, .int .i64 E, .slice a8 X.length k8, .int .i64 E] w8.drew fun r W' => r = .returned (.bool true) ∧ w8.grownBy W' (Value.slice a7 X.length k7).ownBlock) :=
            (alike_calls X X _ _ E E wr.heap.size w8.heap.size w8.drew (by omega) HO7.out.drew (hasB_owns HO8.out)).mono fun r W' ⟨h1, h2⟩ => ⟨by rw [h1, decide_eq_true rfl, decide_eq_true rfl]; rfl, ⟨h2.os, h2.tape, h2.output, h2.size, h2.block⟩⟩
          go_wp2_with fail
          have hgr8 : w5.heap.size < w8.heap.size := by omega
          go_region_held3 (fun w' => w'.cell? ⟨w5.heap.size, 3, none⟩ = some (.int .i64 st'))
            (first | exact c8 | exact c9 | exact ca | exact cb | go_keep)
            (first
            | (go_at_call 15; refine AL.out.mono ?_; rintro e w9 ⟨rfl, hg9⟩; have c9 : w9.cell? ⟨w5.heap.size, 3, none⟩ = some (.int .i64 st') := hg9.cell c8 (fun e => by have := HD7.out w5.heap.size e.symm; omega); have R9 : Hid (Src w1.heap.size w9 g (reach l) si' sp' st') := Src.kept HR8.out hg9 (fun j hj => by have := HD7.out j hj; exact ⟨by omega, .inr (by omega)⟩); have V9 : Hid (RSu rv (w5.heap.size + 1) w6.heap.size w9 w5.heap.size l si' sp' st') := RSu.kept HV8.out hg9 (fun j hj => by have := HD7.out j hj; exact ⟨by omega, .inr (by omega)⟩); have B9 : Hid (Below w.heap.size w w9) := HB8.out.grown hg9 HB8.out.size (fun j hj => by have := HD7.out j hj; omega); have z9 := hg9.size; clear hg9)
            | (go_at_call 17; refine (told_calls w9 g (reach l) si' sp' st' R9.out).mono ?_; rintro e w' ⟨rfl, hx'⟩; obtain rfl : w9 = w' := hx'.symm; clear hx')
            | (go_at_call 18; refine (over_calls _ g (reach l) si' sp' st' (by first | exact R9.out | exact R9.out.below hbb) HIN.out.le).mono ?_; rintro e wa ⟨rfl, hba⟩; rw [HOV.out]; have ca : wa.cell? ⟨w5.heap.size, 3, none⟩ = some (.int .i64 st') := by { first | exact (hba.cell (p := ⟨w5.heap.size, 3, none⟩) (by show w5.heap.size < _; omega)).trans c9 | exact (hba.cell (p := ⟨w5.heap.size, 3, none⟩) (by show w5.heap.size < _; have := hbb.size; omega)).trans cb })
            | (go_at_call 19; refine (rover_calls _ w5.heap.size l si' sp' st' (by first | exact V9.out.1.src | exact V9.out.1.src.below hba) HIN.out.le_l).mono ?_; rintro e wb ⟨rfl, hbb⟩; have cb : wb.cell? ⟨w5.heap.size, 3, none⟩ = some (.int .i64 st') := by { first | exact (hbb.cell (p := ⟨w5.heap.size, 3, none⟩) (by show w5.heap.size < _; omega)).trans c9 | exact (hbb.cell (p := ⟨w5.heap.size, 3, none⟩) (by show w5.heap.size < _; have := hba.size; omega)).trans ca }))
          have hb9 : Below w9.heap.size w9 wb := hba.trans (hbb.mono hba.size)
          have HRn : Hid (Src w1.heap.size wb g (reach l) si' sp' st') := R9.out.below hb9
          have HVn : Hid (RSu rv (w5.heap.size + 1) w6.heap.size wb w5.heap.size l si' sp' st') := RSu.kept V9.out (grown_below (row := none) hb9) (fun _ e => by cases e)
          have HBn : Hid (Below w.heap.size w wb) := B9.out.trans (hb9.mono B9.out.size)
          have hszn : w6.heap.size ≤ wb.heap.size := by have := hb9.size; omega
          have hov : (C.over l si' sp' != C.over l si' sp') = false := by simp
          clear hba hbb hb9 R9 V9 B9 ca cb c9 c8
          go_wp2
          go_roundw
          case rel => exact ⟨k + 1, si', sp', st', by omega, by go_num, HIN, HRn, HVn, HBn, hszn⟩
          case measure => simp [intOf]; omega
      · obtain rfl : k = ns.length := by omega
        have c8 : wr.cell? ⟨w5.heap.size, 3, none⟩ = some (.int .i64 st) := hV.out.1.1.cell 3
        have HOV : Hid (C.over (reach l) si sp = C.over l si sp) := (hI.out.same 1).2.2.2.2
        have heq : ((st : Int) == (st : Int)) = true := by simp
        have hov : (C.over l si sp == C.over l si sp) = true := by simp
        have hgrr : w5.heap.size < wr.heap.size := by omega
        have R9 : Hid (Src w1.heap.size wr.drew g (reach l) si sp st) := hR.out.below (Below.refl _ _).drew
        have V9 : Hid (RSrc (w5.heap.size + 1) wr.drew w5.heap.size l si sp st) := hV.out.1.src.below (Below.refl _ _).drew
        go_wp2_with fail
        go_region_held3 (fun w' => w'.cell? ⟨w5.heap.size, 3, none⟩ = some (.int .i64 st))
          (first | exact c8 | exact ca | exact cb | exact cd | go_keep)
          (first
          | (go_at_call 17; refine (told_calls wr.drew g (reach l) si sp st R9.out).mono ?_; rintro e w' ⟨rfl, hx'⟩; obtain rfl : wr.drew = w' := hx'.symm; clear hx')
          | (go_at_call 18; refine (over_calls _ g (reach l) si sp st (by first | exact R9.out | exact R9.out.below hbb) hI.out.le).mono ?_; rintro e wa ⟨rfl, hba⟩; rw [HOV.out]; have ca : wa.cell? ⟨w5.heap.size, 3, none⟩ = some (.int .i64 st) := by { first | exact (hba.cell (p := ⟨w5.heap.size, 3, none⟩) (by show w5.heap.size < wr.heap.size; omega)).trans c8 | exact (hba.cell (p := ⟨w5.heap.size, 3, none⟩) (by show w5.heap.size < _; have := hbb.size; simp at this; omega)).trans cb })
          | (go_at_call 19; refine (rover_calls _ w5.heap.size l si sp st (by first | exact V9.out | exact V9.out.below hba) hI.out.le_l).mono ?_; rintro e wb ⟨rfl, hbb⟩; have cb : wb.cell? ⟨w5.heap.size, 3, none⟩ = some (.int .i64 st) := by { first | exact (hbb.cell (p := ⟨w5.heap.size, 3, none⟩) (by show w5.heap.size < wr.heap.size; omega)).trans c8 | exact (hbb.cell (p := ⟨w5.heap.size, 3, none⟩) (by show w5.heap.size < _; have := hba.size; simp at this; omega)).trans ca })
          | (go_at_call 10; refine (awake_calls _).mono ?_; rintro e wd ⟨rfl, hbd⟩; have cd : wd.cell? ⟨w5.heap.size, 3, none⟩ = some (.int .i64 st) := (hbd.cell (p := ⟨w5.heap.size, 3, none⟩) (cell_lt cb)).trans cb))
        go_wp2
        go_ret
        have b1 : Below wr.heap.size wr wa := (Below.refl _ wr).drew.trans hba
        have b2 : Below wr.heap.size wr wb := b1.trans (hbb.mono b1.size)
        have b3 : Below wr.heap.size wr wd := b2.trans (hbd.mono b2.size)
        exact ⟨rfl, hB.out.trans (b3.mono hB.out.size)⟩

set_option maxRecDepth 100000 in
theorem contract (H : Type) (enc : TypeId × Value → H) (W : World) (base : Nat) (args : Array Value) (ds gs : List (DataW H)) (before : List MemPlace)
    (hval : ∀ (j : Nat) t v, Try.f3.params[j]? = some t → args[j]? = some v → Value.okWide Try.prog W .any base t v)
    (hW : DataW.Whole enc Try.prog Try.f3.params.toList Rows.chunkReadsSpec.vars false W args.toList ds gs before)  (hk : Rows.uptoSmall H (ds ++ gs) = true) :
    Calls Try.prog 3 args W fun e W' => ∃ v, e = .returned v ∧ Rows.chunkReadsSpec.post enc Try.prog Try.f3 false true false false W args v W' := by
  have hW' := hW
  have hlt := hW.lt
  obtain ⟨p, q, hA0, hV, rfl, hfz, hnd⟩ := hW
  have hA : DataW.TrodAll enc Try.prog W 0 (fun _ => true) true Try.f3.params.toList args.toList ds p := hA0
  rw [Try.params3] at hA hval
  obtain ⟨v0, vs0, d0, ds0, p0, q0, hargs, rfl, rfl, h0, r0⟩ := trodAll_cons hA
  obtain ⟨v1, vs1, d1, ds1, p1, q1, rfl, rfl, rfl, h1, r1⟩ := trodAll_cons r0
  obtain ⟨rfl, rfl, rfl⟩ := trodAll_nil r1
  obtain rfl : args = #[v0, v1] := by cases args; simp_all
  obtain ⟨rfl, rfl⟩ := trodVars_none hV
  clear hA0
  simp only [List.append_nil] at hW' hlt hk
  have hbulk := of_decide_eq_true hk
  simp only [Rows.uptoBulkAll] at hbulk
  have e0 := okWide_slice Try.underlying22 (hval 0 22 v0 rfl rfl)
  obtain ⟨s0, hs0, l0⟩ := script_of_read e0 h0
  have e1 := okWide_slice Try.underlying23 (hval 1 23 v1 rfl rfl)
  obtain ⟨z1, hb1, l1, w1⟩ := ints_of_read Try.underlying23 Try.underlying3 (by kernel_rfl) e1 h1
  refine (walk W v0 s0 hs0 (by omega) v1 z1 hb1 w1 (by omega)).mono fun e W' ⟨he, hb⟩ => ?_
  subst he
  exact ⟨_, rfl, post_below hW' (fun _ _ _ => trodAll_cons_mk (shut_bool Try.underlying4 _) trodAll_mk0) (trodAll_cons_mk (stays (by kernel_rfl) (of_decide_eq_true (by kernel_rfl)) h0 hb (fun x hx => hlt x (by simp [hx]))) (trodAll_cons_mk (stays (by kernel_rfl) (of_decide_eq_true (by kernel_rfl)) h1 hb (fun x hx => hlt x (by simp [hx]))) trodAll_mk0)) rfl hb⟩

set_option maxRecDepth 100000 in
theorem laid_met (os : Os) : laidMet Try.prog Rows.chunkReadsUptoRow.laid ((World.holding Try.prog os ⟨#[], #[], []⟩).forCall (fun _ _ => 0) ⟨#[], #[Value.slice none 0 0, Value.slice none 0 0], []⟩).memory :=
  laidMet_of_run' 8 (by kernel_rfl) (by kernel_rfl)
set_option maxRecDepth 100000 in
theorem reads (os : Os) {H : Type} (enc : TypeId × Value → H) : ∃ places, DataW.whole enc Try.prog ((World.holding Try.prog os ⟨#[], #[], []⟩).forCall (fun _ _ => 0) ⟨#[], #[Value.slice none 0 0, Value.slice none 0 0], []⟩).memory Try.f3.params.toList Rows.chunkReadsSpec.vars false #[Value.slice none 0 0, Value.slice none 0 0].toList 8 = some ([.nil, .nil], [], places) :=
  ⟨[], by kernel_rfl⟩

set_option maxRecDepth 100000 in
theorem lifted (os : Os) (started : os.Started) (H : Type) (enc : TypeId × Value → H) (F : Stop.Interp) :
    ReturnsInHanded {} Try.checked os 3 .any ((Rows.OpenSpec.upto Rows.chunkReadsSpec).preRow enc Try.prog Try.f3 Rows.chunkReadsUptoRow.domain false Rows.chunkReadsUptoRow.laid) (((Rows.OpenSpec.upto Rows.chunkReadsSpec).at F).post enc Try.prog Try.f3 false true false false) := by
  obtain ⟨places, hx⟩ := reads os enc
  refine returnsInHanded_of_row (C := Try.checked) (s := Rows.OpenSpec.upto Rows.chunkReadsSpec) own started (by kernel_rfl) Try.func3
    (witness_row_at (enc := enc) (C := Try.checked) false (World.holding Try.prog os ⟨#[], #[], []⟩) #[Value.slice none 0 0, Value.slice none 0 0] rfl (by kernel_rfl) (by kernel_rfl) (by kernel_rfl)
      (OpenSpec.preRow_of_cond 8 hx (by kernel_rfl) (fun k hk => by cases hk; kernel_rfl) (by kernel_rfl) (laid_met os))) ?_
  intro W base args ds gs before hval hW _ hcond _ hL _ _
  exact contract H enc W base args ds gs before hval hW (hcond _ rfl)

set_option maxRecDepth 100000 in
theorem said : Rows.ChunkReadsUptoSaid :=
  OpenClaim.holds_of_cond 3 Try.f3 rfl rfl rfl rfl rfl rfl rfl ⟨rfl, rfl, rfl, rfl, rfl⟩ rfl rfl rfl rfl rfl (by kernel_rfl) Try.func3 (by kernel_rfl)
    (of_decide_eq_true (by kernel_rfl)) (by unfold Func.isWrapper; first | (rw [if_pos (by decide +kernel)]; kernel_rfl) | (rw [if_neg (by decide +kernel)]; exact ⟨rfl, rfl⟩))
    (fun os started H enc _ F => by rw [OpenClaim.pre_eq_preRow]; exact lifted os started H enc F)


end Go.Proofs.Ytanfnalapablfaa.CReads
