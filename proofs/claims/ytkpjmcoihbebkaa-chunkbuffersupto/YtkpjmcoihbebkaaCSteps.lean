/- What is proved here: appending as one step of a region that draws its order; the contract of steps of sievelaw02. -/
import Derived.Deep.RegionLaw
import Derived.Laws.MakeOwn
import Derived.Test.YtkpjmcoihbebkaaBun2
namespace Go.Proofs.Ytkpjmcoihbebkaa.C
open Go.RowKit

theorem step_own {P : Program} {w : World} {ops : Array Oper} {o : Oper} {a : Act} {K : Act → World → Prop} {Q : Exit → Act → World → Prop} {E : Prop} (hg : o.guard = none) (s x : Operand) (t : TypeId)
    (ho : o.op = .call { callee := .builtin .append, args := #[s, x], argTypes := #[t, t] })
    (base : Nat) (e : TypeId) (i : TypeInfo) (z : Value) (size bytes : Nat) (ht : P.underlying t = some (.slice e)) (hi : P.info? e = some i) (hz : i.zero = some z)
    (hsize : i.size = size) (hby : i.bytes = bytes) (hzs : z.cells.size = size) (hsz : 0 < size)
    (v : Value) (n : Nat) (xs : List Value) (hs : a.eval s = v) (hown : w.ownsRow base e size v n xs)
    (ad : Addr) (m c : Nat) (news : List Value) (hx : a.eval x = .slice (some ad) m c) (hl : news.length = m * size) (hnews : ∀ j u, news[j]? = some u → w.cell? (ad.add j) = some u) (h1 : ∀ u ∈ news, u.oneCell' = true)
    (h63 : n + m ≤ maxLen) (hbytes : (n + m) * bytes ≤ 140737488355328) (hbase : base ≤ w.heap.size)
    (h : ∀ v' w', w'.ownsRow base e size v' (n + m) (xs ++ news) → w.grownBy w' v.ownBlock → K (a.put o.dst v') w') :
    if Region.wanted o (yielded ops a.tmps) = true then Oper.wp P o a w K Q else E := by
  rw [if_pos (by simp [Region.wanted, hg])]
  exact wp_append_own w s x t ho base e i z size bytes ht hi hz hsize hby hzs hsz v n xs hs hown ad m c news hx hl hnews h1 h63 hbytes hbase (fun v' w' a b _ => h v' w' a b)
theorem step_bytes {w : World} {ops : Array Oper} {o : Oper} {a : Act} {K : Act → World → Prop} {Q : Exit → Act → World → Prop} {E : Prop} (hg : o.guard = none) (s x : Operand)
    (ho : o.op = .call { callee := .builtin .append, args := #[s, x], argTypes := #[39, 39] }) (base : Nat)
    (v : Value) (n : Nat) (xs : List Value) (hs : a.eval s = v) (hown : w.ownsRow base 5 1 v n xs) (xv : Value) (bs : List UInt8) (hx : a.eval x = xv) (hH : Byt w xv bs)
    (h63 : n + bs.length ≤ 100000000000000) (hbase : base ≤ w.heap.size)
    (h : ∀ v' w', w'.ownsRow base 5 1 v' (n + bs.length) (xs ++ bvs bs) → w.grownBy w' v.ownBlock → K (a.put o.dst v') w') :
    if Region.wanted o (yielded ops a.tmps) = true then Oper.wp Try.prog o a w K Q else E := by
  obtain ⟨i0, hi, hz0, hz1, hz2⟩ := info_parts infoByte
  obtain ⟨hB, hn⟩ := hH
  rcases hn with rfl | ⟨ad, len, cap, rfl⟩
  · have hb0 : bs = [] := by
      rcases hB with ⟨rfl, _⟩ | ⟨hp, b, off, c, e, _⟩
      · rfl
      · simp at e
    subst hb0
    rw [if_pos (by simp [Region.wanted, hg])]
    have hrun := run_append_owned_none (P := Try.prog) (w := w) base 39 o.type 5 i0 1 Try.underlying39 hi v n xs hown
    unfold Oper.wp
    simp [execOp, ho, resolve, invoke, builtin, hs, hx, hrun, Result.andThen]
    exact h v w (by simpa [bvs] using hown) (World.grownBy.refl _ _)
  · have hl : len = bs.length ∧ ∀ j u, (bvs bs)[j]? = some u → w.cell? (ad.add j) = some u := by
      rcases hB with ⟨rfl, a', c', e⟩ | ⟨hp, b, off, c, e, _, _, hc⟩
      · simp at e; exact ⟨e.2.1, fun j u hj => by simp [bvs] at hj⟩
      · obtain ⟨rfl, rfl, rfl⟩ : ad = ⟨b, off, none⟩ ∧ len = bs.length ∧ cap = c := by simpa using e
        exact ⟨rfl, cells_of hc⟩
    obtain ⟨rfl, hnews⟩ := hl
    exact step_own hg s x _ ho base _ i0 (.int .u8 0) 1 1 Try.underlying39 hi hz0 hz1 hz2 rfl (by decide) v n xs hs hown ad bs.length cap (bvs bs) hx (by rw [bvs_length]; omega) hnews (bvs_one bs) (by unfold maxLen; omega) (by omega) hbase h

set_option maxRecDepth 100000 in
set_option maxHeartbeats 2000000 in
/-- **steps of any script**: the same, in memory of its own. -/
theorem steps_calls (l : List (List UInt8 × Bool)) (r : Value) (w : World) (hS : HasS w r l) (hl : (l.length : Int) ≤ 1000000000000) (hn : ∀ x ∈ l, x.1.length ≤ 100000000000000) :
    Calls Try.prog 5 #[r] w fun e W' => ∃ v, e = .returned v ∧ OwnS w.heap.size 55 W' v l ∧ Below w.heap.size w W' := by
  obtain ⟨i0, hi, hz0, hz1, hz2⟩ := info_parts infoStep
  obtain ⟨ra, rc, rfl⟩ := hS.slice
  have HS : Hid (HasS w (.slice ra l.length rc) l) := hS
  have HN : Hid (∀ x ∈ l, x.1.length ≤ 100000000000000) := hn
  clear hS hn
  have hmk : ∀ w, (Instr.makeSlice 28 (.int .i64 0) (.int .i64 ((l.length : Int) + 1))).run Try.prog w = .ok (.slice (some ⟨w.heap.size, 0, none⟩) 0 (l.length + 1)) (w.alloc (.cells (madeCells (Value.agg #[.slice none 0 0, .bool false]).cells ((l.length + 1) * 2)) 55)) := fun w => by
    have := run_make (P := Try.prog) w 28 55 i0 _ Try.underlying28 hi hz0 .i64 .i64 0 ((l.length : Int) + 1) (by omega) (by omega) (by rw [hz2]; omega) (by omega)
    rw [this, hz1]
    rfl
  go_enter Try.func5, Try.ntmps5
  go_wp2
  clear hmk
  go_loopw [3, 5, 12] (fun v _ i wr => ∃ k : Nat, k ≤ l.length ∧ i = .int .i64 k ∧ OwnS w.heap.size 55 wr v (l.take k) ∧ Below w.heap.size w wr) (fun _ _ i _ => l.length - (intOf i).toNat)
  case atStart => exact ⟨0, by omega, rfl, ⟨[], by simp, World.ownsRow_made _ _ _ (Nat.le_refl _) (by unfold maxLen; omega) (by simp [madeCells]), (fun x hx => by cases hx), List.Pairwise.nil⟩, (Below.refl _ w).alloc (Nat.le_refl _) _⟩
  case round =>
    obtain ⟨k, hk, rfl, hO, hB⟩ := hrel
    by_cases hlt : k < l.length
    · obtain ⟨b, off, a, c, rfl, d0, hd, d1⟩ := (HS.out.below hB).at k hlt
      have s1 := hB.size
      obtain ⟨xs, x1, x2, x3, x4⟩ := hO
      have htk : (l.take k).length = k := by rw [List.length_take]; omega
      rw [htk] at x2
      have HX : Hid (xs.map Prod.snd = l.take k ∧ (∀ x ∈ xs, wr.ownsRow w.heap.size 5 1 x.1 x.2.1.length (bvs x.2.1)) ∧ xs.Pairwise (fun x y => ∀ k, x.1.ownBlock = some k → y.1.ownBlock ≠ some k)) := ⟨x1, x3, x4⟩
      have HT : Hid (l.take (k + 1) = l.take k ++ [l[k]]) := List.take_succ_eq_append_getElem hlt
      have hdl := HN.out l[k] (List.getElem_mem _)
      rcases hkind : l[k] with ⟨dk, fk⟩
      rw [hkind] at HT hd d0 d1 hdl
      simp only at hd d0 d1 hdl
      have HD : Hid (Byt wr (.slice a dk.length c) dk) := hd
      clear hkind hd x1 x3 x4
      have hU3 : Hid (∀ j, u3.ownBlock = some j → w.heap.size ≤ j ∧ j < wr.heap.size) := x2.lt
      obtain ⟨W0, hW0⟩ : ∃ W0, wr.alloc (.cells #[.slice a dk.length c, .bool fk] 54) = W0 := ⟨_, rfl⟩
      have z0 : W0.heap.size = wr.heap.size + 1 := by rw [← hW0]; simp
      have b0 : Below wr.heap.size wr W0 := by rw [← hW0]; exact (Below.refl _ wr).alloc (Nat.le_refl _) _
      have e0 : W0.cell? ⟨wr.heap.size, 0, none⟩ = some (.slice a dk.length c) := by rw [← hW0, cell_new]; rfl
      have e1 : W0.cell? ⟨wr.heap.size, 1, none⟩ = some (.bool fk) := by rw [← hW0, cell_new]; rfl
      have HX2 : Hid (wr.ownsRow w.heap.size 55 2 u3 k (xs.flatMap fun x => [x.1, Value.bool x.2.2])) := x2
      clear x2
      go_wp2_with fail
      try rw [hW0]
      clear hW0
      go_region_law (first
        | (refine step_bytes rfl _ _ rfl W0.heap.size (.slice (some ⟨W0.heap.size, 0, none⟩) 0 0) 0 [] (by simp [Act.eval]) (owns_empty W0.drew _ 1) (.slice a dk.length c) dk (by simp [Act.eval]) (HD.out.below (b0.drew.alloc (by show wr.heap.size ≤ W0.heap.size; omega) _)) (by omega) (by simp) ?_; intro v' w4 hown' hgrow; rw [Nat.zero_add, List.nil_append] at hown'; obtain ⟨na, nc, rfl⟩ := owns_slice hown'; have hq : w4.cell? ⟨wr.heap.size, 1, none⟩ = some (.bool fk) := hgrow.cell ((cell_under _ _ _ (by show wr.heap.size < W0.heap.size; omega)).trans e1) (by simp [Value.ownBlock]; omega))
        | (refine step_own rfl _ _ 28 rfl w.heap.size 55 i0 (.agg #[.slice none 0 0, .bool false]) 2 32 Try.underlying28 hi hz0 hz1 hz2 rfl (by decide) u3 k (xs.flatMap fun x => [x.1, Value.bool x.2.2]) (by simp [Act.eval]) ((((owns_below HX2.out (b0.drew.alloc (by show wr.heap.size ≤ W0.heap.size; omega) _)).kept hgrow (by cases e : u3.ownBlock with
              | none => exact .inl rfl
              | some j => exact .inr (by have := (hU3.out j e).2; simp [Value.ownBlock]; omega)))).alloc _) ⟨w4.heap.size, 0, none⟩ 1 1 [.slice na dk.length nc, .bool fk] (by simp [Act.eval]) rfl (cells_two _ _ _ _ _ rfl) (by simp [Value.oneCell']) (by unfold maxLen; omega) (by omega) (by have := hgrow.size; simp at this ⊢; omega) ?_; intro v5 w5 hown5 hgrow5))
      all_goals
        have bw4 : Below wr.heap.size wr w4 := (b0.drew.alloc (by show wr.heap.size ≤ W0.heap.size; omega) _).grown hgrow (by show wr.heap.size ≤ (W0.drew.alloc _).heap.size; simp; omega) (fun j hj => by simp [Value.ownBlock] at hj; omega)
        have z4 := bw4.size
        go_wp2
        go_roundw
        case rel => exact ⟨k + 1, by omega, by go_num, by
          rw [HT.out]
          exact OwnS.snoc (w := w4.alloc _) (by decide) HX.out.1 (by rw [htk]; exact (owns_below HX2.out bw4).alloc _) (fun x hx => (owns_below (HX.out.2.1 x hx) bw4).alloc _) ((owns_mono hown' (by omega)).alloc _) (by rw [htk]; exact hown5) hgrow5 HX.out.2.2 (fun x hx j e e' => by have := ((HX.out.2.1 x hx).lt j e).2; have := (hown'.lt j e').1; omega), ((hB.trans (bw4.mono s1)).alloc (by omega) _).grown hgrow5 (by simp; omega) (fun j hj => (hU3.out j hj).1)⟩
        case measure => simp [intOf]; omega
    · obtain rfl : k = l.length := by omega
      rw [List.take_length] at hO
      go_wp2
      go_ret
      exact ⟨_, rfl, hO, hB⟩

end Go.Proofs.Ytkpjmcoihbebkaa.C
