/- What is proved here: appending a text to bytes of one's own, with where the row lies then; what is left of a script while that is done to its steps. -/
import Derived.Lib.AppendStr
import Derived.Test.YtkpjmcoihbebkaaCSpoil
namespace Go.Proofs.Ytkpjmcoihbebkaa.C
open Go.RowKit Go.Lib

theorem bdrew {n : Nat} {w w' : World} (h : Below n w w') (k : Nat) : Below n w (w'.drewN k) := ⟨h.os, h.tape, h.output, h.size, h.block⟩

theorem append_more {w : World} {ops : Array Oper} {rest : List Oper} {o : Oper} {a : Act} {Q : Exit → Act → World → Prop} (hgd : o.guard = none) (sl x : Operand)
    (ho : o.op = .call { callee := .builtin .append, args := #[sl, x], argTypes := #[39, 9] }) (base : Nat)
    (v : Value) (n : Nat) (xs : List Value) (hs : a.eval sl = v) (hown : w.ownsRow base 5 1 v n xs) (s : ByteArray) (hx : a.eval x = .string s) (h4 : 0 < s.size)
    (h63 : n + s.size ≤ 100000000000000) (hbase : base ≤ w.heap.size)
    (h : ∀ v' w' ys, w'.ownsRow base 5 1 v' (n + s.size) ys → w.grownBy w' v.ownBlock → (v'.ownBlock = v.ownBlock ∨ v'.ownBlock = some w.heap.size) → wpList Try.prog ops Q rest (a.put o.dst v') w') : wpList Try.prog ops Q (o :: rest) a w := by
  obtain ⟨i0, hi, hz0, hz1, hz2⟩ := info_parts infoByte
  refine wpList_plain hgd fun K hK => ?_
  obtain ⟨v', w', hr, h2, h3, _⟩ := run_append_own_string (P := Try.prog) w base 39 9 o.type 5 i0 Try.underlying39 Try.underlying9 hi hz0 hz1 hz2 v n xs hown s (by unfold maxLen; omega) (by omega) hbase
  have hob : v'.ownBlock = v.ownBlock ∨ v'.ownBlock = some w.heap.size := by
    rcases hown.2 with ⟨rfl, rfl⟩ | ⟨g, cap, cur, rfl, hbg, hg, hnc, hcm, hcs, htake⟩
    · have e := run_append_nil_string (P := Try.prog) w 39 9 o.type 5 i0 (.int .u8 0) Try.underlying39 Try.underlying9 hi hz0 s (by omega) (by omega) (by rw [hz2]; omega)
      rw [hr] at e
      cases e
      exact .inr rfl
    · by_cases hroom : n + s.size ≤ cap
      · have e := run_append_room_string (P := Try.prog) w 39 9 o.type 5 i0 Try.underlying39 Try.underlying9 hi hz1 g n cap cur hg s hroom (by omega)
        rw [hr] at e
        cases e
        exact .inl rfl
      · have e := run_append_grow_string (P := Try.prog) w 39 9 o.type 5 i0 (.int .u8 0) Try.underlying39 Try.underlying9 hi hz0 ⟨g, 0, none⟩ n cap xs (by rw [hz1]; exact hown.1) (hown.cells (g := g) rfl) s (by omega) (by omega) (by rw [hz2]; exact growslice_fits (by omega) (by omega))
        rw [hr] at e
        cases e
        exact .inr rfl
  unfold Oper.wp execOp
  simp only [ho, resolve, invoke, builtin, Sem.run_bind, Sem.run_pure, Result.andThen_ok, List.map_toArray, List.map_cons, List.map_nil, hs, hx, hr]
  exact hK _ _ (h v' w' _ h2 h3 hob)

/-- A script of one's own whose bytes may be any. -/
def Own2 (base g n cap : Nat) (xs : List (Value × List UInt8 × Bool)) (w : World) : Prop :=
  xs.length = n ∧ w.ownsRow base 55 2 (.slice (some ⟨g, 0, none⟩) n cap) n (xs.flatMap fun x => [x.1, .bool x.2.2]) ∧ (∀ x ∈ xs, ∃ ys, w.ownsRow base 5 1 x.1 x.2.1.length ys) ∧ xs.Pairwise (fun x y => ∀ k, x.1.ownBlock = some k → y.1.ownBlock ≠ some k)
theorem flat_set (xs : List (Value × List UInt8 × Bool)) (i : Nat) (h : i < xs.length) (v : Value) (d : List UInt8) : (xs.flatMap fun x => [x.1, Value.bool x.2.2]).set (i * 2) v = ((xs.set i (v, d, xs[i].2.2)).flatMap fun x => [x.1, Value.bool x.2.2]) := by
  induction xs generalizing i with
  | nil => simp at h
  | cons x r ih =>
    cases i with
    | zero => simp
    | succ i =>
      have := ih i (by simpa using h)
      rw [show (i + 1) * 2 = i * 2 + 1 + 1 by omega]
      simp only [List.flatMap_cons, List.cons_append, List.nil_append, List.set_cons_succ, List.getElem_cons_succ]
      rw [this]
/-- One step's bytes grown. -/
theorem Own2.grow {base g n cap : Nat} {xs : List (Value × List UInt8 × Bool)} {w w4 : World} (h : Own2 base g n cap xs w) (i : Nat) (hi : i < xs.length) {v' : Value} {m : Nat} {ys : List Value} (ho : w4.ownsRow base 5 1 v' m ys) (hg : w.grownBy w4 (xs[i]).1.ownBlock) (hob : v'.ownBlock = (xs[i]).1.ownBlock ∨ v'.ownBlock = some w.heap.size) (d : List UInt8) (hd : d.length = m) :
    Own2 base g n cap (xs.set i (v', d, xs[i].2.2)) (w4.setCell ⟨g, i * 2, none⟩ v') := by
  obtain ⟨h1, h2, h3, h4⟩ := h
  obtain ⟨zi, hzi⟩ := h3 _ (List.getElem_mem hi)
  have r4 := h2.kept hg (owns_apart h2 hzi (by decide))
  have others : ∀ j (hj : j < xs.length), j ≠ i → ∃ ys, w4.ownsRow base 5 1 (xs[j]).1 (xs[j]).2.1.length ys := fun j hj hne => by
    obtain ⟨zj, hzj⟩ := h3 _ (List.getElem_mem hj)
    refine ⟨zj, hzj.kept hg ?_⟩
    cases e : (xs[j]).1.ownBlock with
    | none => exact .inl rfl
    | some k =>
      refine .inr (fun e' => ?_)
      rcases Nat.lt_or_gt_of_ne hne with hl | hl
      · exact List.pairwise_iff_getElem.1 h4 j i hj hi hl k e e'.symm
      · exact List.pairwise_iff_getElem.1 h4 i j hi hj hl k e'.symm e
  have apart : ∀ j (hj : j < xs.length), j ≠ i → ∀ k, (xs[j]).1.ownBlock = some k → v'.ownBlock ≠ some k := fun j hj hne k e e' => by
    obtain ⟨zj, hzj⟩ := h3 _ (List.getElem_mem hj)
    rcases hob with hob | hob
    · rw [hob] at e'
      rcases Nat.lt_or_gt_of_ne hne with hl | hl
      · exact List.pairwise_iff_getElem.1 h4 j i hj hi hl k e e'
      · exact List.pairwise_iff_getElem.1 h4 i j hi hj hl k e' e
    · rw [hob] at e'
      have := (hzj.lt k e).2
      simp at e'; omega
  refine ⟨by simpa using h1, ?_, fun x hx => ?_, ?_⟩
  · have := (r4.stored (i * 2) v').1
    rw [flat_set xs i hi v' d] at this
    exact this
  · obtain ⟨j, hj, rfl⟩ := List.mem_iff_getElem.1 hx
    simp only [List.length_set] at hj
    by_cases e : j = i
    · subst e
      simp only [List.getElem_set_self]
      rw [hd]
      exact own_any_set ho g _ v'
    · rw [List.getElem_set_ne (fun h => e h.symm)]
      obtain ⟨zs, hz⟩ := others j hj e
      exact own_any_set hz g _ v'
  · rw [List.pairwise_iff_getElem]
    intro a b ha hb hab k e
    have ha' : a < xs.length := by simpa using ha
    have hb' : b < xs.length := by simpa using hb
    by_cases ea : a = i
    · subst ea
      rw [List.getElem_set_self] at e
      rw [List.getElem_set_ne (by omega)]
      intro e2
      exact apart b hb' (by omega) k e2 e
    · rw [List.getElem_set_ne (fun h => ea h.symm)] at e
      by_cases eb : b = i
      · subst eb
        rw [List.getElem_set_self]
        exact apart a ha' ea k e
      · rw [List.getElem_set_ne (fun h => eb h.symm)]
        exact List.pairwise_iff_getElem.1 h4 a b ha' hb' hab k e
theorem Own2.left {base g n cap : Nat} {xs : List (Value × List UInt8 × Bool)} {w : World} (h : Own2 base g n cap xs w) : Left base g n cap xs 0 w := by
  obtain ⟨h1, h2, h3, _⟩ := h
  refine ⟨⟨_, h2, fun j _ hj => ?_⟩, h3⟩
  obtain ⟨c1, c2⟩ := flat_get xs j hj
  rw [Nat.mul_comm j 2]
  exact ⟨c1, _, c2⟩

theorem OwnS.keepP {P : Nat → Prop} {base : Nat} {e : TypeId} {w w' : World} {r : Value} {l : List (List UInt8 × Bool)} (h : OwnS base e w r l) (K : KeepP P w w') (hp : ∀ k, base ≤ k → k < w.heap.size → ¬ P k) : OwnS base e w' r l := by
  obtain ⟨xs, h1, h2, h3, h4⟩ := h
  exact ⟨xs, h1, K.owns h2 (fun k e => hp k (h2.lt k e).1 (h2.lt k e).2), fun x hx => K.owns (h3 x hx) (fun k e => hp k ((h3 x hx).lt k e).1 ((h3 x hx).lt k e).2), h4⟩
theorem OwnS.far {base : Nat} {e : TypeId} {w w' : World} {r : Value} {l : List (List UInt8 × Bool)} {row : Option Nat} (h : OwnS base e w r l) (hg : w.grownBy w' row) (hr : ∀ k, row = some k → k < base) : OwnS base e w' r l := by
  have K : KeepP (fun k => row = some k) w w' := ⟨hg.os, hg.tape, hg.output, hg.size, fun k hk hn => hg.block k hk (fun e => hn e.symm)⟩
  exact h.keepP K (fun k hk _ e => by have := hr k e; omega)
theorem own2_of {base : Nat} {w : World} {r : Value} {l : List (List UInt8 × Bool)} (h : OwnS base 55 w r l) (h0 : 0 < l.length) : ∃ (g cap : Nat) (xs : List (Value × List UInt8 × Bool)), r = .slice (some ⟨g, 0, none⟩) l.length cap ∧ xs.map Prod.snd = l ∧ Own2 base g l.length cap xs w ∧ (base ≤ g ∧ g < w.heap.size) ∧ ∀ x ∈ xs, ∀ k, x.1.ownBlock = some k → base ≤ k ∧ k < w.heap.size := by
  obtain ⟨xs, h1, h2, h3, h4⟩ := h
  have hl : xs.length = l.length := by rw [← h1]; simp
  have h2' := h2
  rcases h2.2 with ⟨_, e0⟩ | ⟨g, cap, cur, rfl, hb, hg, hcap, _⟩
  · omega
  · exact ⟨g, cap, xs, rfl, h1, ⟨hl, h2', fun x hx => ⟨_, h3 x hx⟩, h4⟩, ⟨hb, lt_of_block hg⟩, fun x hx => (h3 x hx).lt⟩
theorem Own2.get {base g n cap : Nat} {xs : List (Value × List UInt8 × Bool)} {w : World} (h : Own2 base g n cap xs w) (k : Nat) (hk : k < xs.length) : ∃ da dc ys, xs[k].1 = .slice da xs[k].2.1.length dc ∧ w.cell? ⟨g, k * 2, none⟩ = some (.slice da xs[k].2.1.length dc) ∧ w.frozen? ⟨g, k * 2, none⟩ = false ∧ w.ownsRow base 5 1 (.slice da xs[k].2.1.length dc) xs[k].2.1.length ys := by
  obtain ⟨h1, h2, h3, _⟩ := h
  obtain ⟨ys, ho⟩ := h3 _ (List.getElem_mem hk)
  obtain ⟨da, dc, e⟩ := owns_slice ho
  obtain ⟨c1, _⟩ := flat_get xs k hk
  refine ⟨da, dc, ys, e, ?_, h2.frozenAt _, by rw [← e]; exact ho⟩
  rw [h2.cellAt _ (by omega), Nat.mul_comm k 2, c1, e]
theorem Own2.below {base g n cap : Nat} {xs : List (Value × List UInt8 × Bool)} {w w' : World} (h : Own2 base g n cap xs w) (hb : Below w.heap.size w w') : Own2 base g n cap xs w' := by
  obtain ⟨h1, h2, h3, h4⟩ := h
  exact ⟨h1, owns_below h2 hb, fun x hx => by obtain ⟨ys, ho⟩ := h3 x hx; exact ⟨ys, owns_below ho hb⟩, h4⟩
theorem head_cutL (bs : List UInt8) (cs : List Int) : ∀ k, (cutL bs cs k).flatMap Prod.fst = bs.take (cutAt bs.length cs k)
  | 0 => by simp [cutL, cutAt]
  | k + 1 => by
    rw [cutL_succ, List.flatMap_append, head_cutL bs cs k]
    have h1 := cutAt_mono bs.length cs k
    simp only [List.flatMap_cons, List.flatMap_nil, List.append_nil, cutS]
    rw [← List.take_add]
    congr 1; omega
theorem cut_le (bs : List UInt8) (cs : List Int) (f : Bool) : ∀ x ∈ cut bs cs f, x.1.length ≤ bs.length := by
  intro x hx
  unfold cut at hx
  rcases List.mem_append.1 hx with hx | hx
  · obtain ⟨i, _, rfl⟩ := List.mem_map.1 hx
    rw [cutS_length]; have := cutAt_le bs.length cs (i + 1); omega
  · simp at hx; subst hx; simp

end Go.Proofs.Ytkpjmcoihbebkaa.C
