/- What is proved here: scripts in memory, and the contracts of Bytes and Same of chunk and of sieveref02. -/
import Derived.Test.YtliahgoelmiopaaCBytes
namespace Go.Proofs.Ytliahgoelmiopaa.C
open Go.RowKit

/-- Bytes in memory that may be appended. -/
def Byt (w : World) (v : Value) (bs : List UInt8) : Prop := HasB w.heap.size w v bs ∧ (v = .slice none 0 0 ∨ ∃ ad n c, v = .slice (some ad) n c)
theorem Byt.below {w w' : World} {v : Value} {bs : List UInt8} (h : Byt w v bs) (hb : Below w.heap.size w w') : Byt w' v bs := ⟨(h.1.below hb).mono hb.size, h.2⟩
theorem Byt.slice {w : World} {v : Value} {bs : List UInt8} (h : Byt w v bs) : ∃ a cap, v = .slice a bs.length cap := h.1.slice
theorem byt_owns {w : World} {base : Nat} {e : TypeId} {v : Value} {bs : List UInt8} (h : w.ownsRow base e 1 v bs.length (bvs bs)) : Byt w v bs := by
  refine ⟨hasB_owns h, ?_⟩
  rcases h.2 with ⟨rfl, _⟩ | ⟨g, cap, cur, rfl, _⟩
  · exact .inl rfl
  · exact .inr ⟨_, _, _, rfl⟩
/-- A script in memory. -/
def HasS (w : World) (r : Value) (l : List (List UInt8 × Bool)) : Prop :=
  (l = [] ∧ ∃ a cap, r = .slice a 0 cap) ∨ (0 < l.length ∧ ∃ b off cap, r = .slice (some ⟨b, off, none⟩) l.length cap ∧ l.length ≤ cap ∧ ∀ i (_ : i < l.length), ∃ v, w.cell? ⟨b, off + i * 2, none⟩ = some v ∧ Byt w v l[i].1 ∧ w.cell? ⟨b, off + i * 2 + 1, none⟩ = some (.bool l[i].2))
theorem HasS.below {w w' : World} {r : Value} {l : List (List UInt8 × Bool)} (h : HasS w r l) (hb : Below w.heap.size w w') : HasS w' r l := by
  rcases h with h | ⟨hp, b, off, cap, hr, hc, hx⟩
  · exact .inl h
  · refine .inr ⟨hp, b, off, cap, hr, hc, fun i hi => ?_⟩
    obtain ⟨v, h1, h2, h3⟩ := hx i hi
    exact ⟨v, (hb.cell (p := ⟨b, off + i * 2, none⟩) (cell_lt h1)).trans h1, h2.below hb, (hb.cell (p := ⟨b, off + i * 2 + 1, none⟩) (cell_lt h3)).trans h3⟩
theorem HasS.slice {w : World} {r : Value} {l : List (List UInt8 × Bool)} (h : HasS w r l) : ∃ a cap, r = .slice a l.length cap := by
  rcases h with ⟨rfl, a, cap, rfl⟩ | ⟨hp, b, off, cap, rfl, _⟩
  · exact ⟨a, cap, rfl⟩
  · exact ⟨_, cap, rfl⟩
theorem HasS.at {w : World} {a : Option Addr} {n cap : Nat} {l : List (List UInt8 × Bool)} (h : HasS w (.slice a n cap) l) (i : Nat) (hi : i < l.length) : ∃ b off v c, a = some ⟨b, off, none⟩ ∧ w.cell? ⟨b, off + i * 2, none⟩ = some (.slice v l[i].1.length c) ∧ Byt w (.slice v l[i].1.length c) l[i].1 ∧ w.cell? ⟨b, off + i * 2 + 1, none⟩ = some (.bool l[i].2) := by
  rcases h with ⟨rfl, _⟩ | ⟨hp, b, off, cap', hr, hc, hx⟩
  · simp at hi
  · obtain ⟨v, h1, h2, h3⟩ := hx i hi
    obtain ⟨va, vc, rfl⟩ := h2.slice
    have : a = some ⟨b, off, none⟩ := by simp at hr; exact hr.1
    exact ⟨b, off, va, vc, this, h1, h2, h3⟩
theorem hasS_owns {base : Nat} {e : TypeId} {w : World} {r : Value} {l : List (List UInt8 × Bool)} (h : OwnS base e w r l) : HasS w r l := by
  by_cases h0 : l.length = 0
  · obtain ⟨a, c, rfl⟩ := h.slice
    exact .inl ⟨List.length_eq_zero_iff.1 h0, a, c, by rw [h0]⟩
  · obtain ⟨g, cap, rfl, hcap, _, _, hat⟩ := h.at (by omega)
    refine .inr ⟨by omega, g, 0, cap, rfl, hcap, fun i hi => ?_⟩
    obtain ⟨a, c, ho, h1, h2, _, _⟩ := hat i hi
    rw [Nat.zero_add]
    exact ⟨_, h1, byt_owns ho, h2⟩

/-- 'append(s, x...)' of bytes in memory to a row of one's own, x nil or not. -/
theorem append_bytes {w : World} {ops : Array Oper} {rest : List Oper} {o : Oper} {a : Act} {Q : Exit → Act → World → Prop} (hgd : o.guard = none) (s x : Operand)
    (ho : o.op = .call { callee := .builtin .append, args := #[s, x], argTypes := #[39, 39] }) (base : Nat)
    (v : Value) (n : Nat) (xs : List Value) (hs : a.eval s = v) (hown : w.ownsRow base 5 1 v n xs) (xv : Value) (bs : List UInt8) (hx : a.eval x = xv) (hH : Byt w xv bs)
    (h63 : n + bs.length ≤ 100000000000000) (hbase : base ≤ w.heap.size)
    (h : ∀ v' w', w'.ownsRow base 5 1 v' (n + bs.length) (xs ++ bvs bs) → w.grownBy w' v.ownBlock → wpList Try.prog ops Q rest (a.put o.dst v') w') : wpList Try.prog ops Q (o :: rest) a w := by
  obtain ⟨i0, hi, hz0, hz1, hz2⟩ := info_parts infoByte
  obtain ⟨hB, hn⟩ := hH
  rcases hn with rfl | ⟨ad, len, cap, rfl⟩
  · have hz0 : bs = [] := by
      rcases hB with ⟨rfl, _⟩ | ⟨hp, b, off, c, e, _⟩
      · rfl
      · simp at e
    subst hz0
    exact wpList_append_own_none hgd s x _ ho base _ i0 1 Try.underlying39 hi v n xs hs hown hx (h v w (by simpa [bvs] using hown) (World.grownBy.refl _ _))
  · have hl : len = bs.length ∧ ∀ j u, (bvs bs)[j]? = some u → w.cell? (ad.add j) = some u := by
      rcases hB with ⟨rfl, a', c', e⟩ | ⟨hp, b, off, c, e, _, _, hc⟩
      · simp at e; exact ⟨e.2.1, fun j u hj => by simp [bvs] at hj⟩
      · obtain ⟨rfl, rfl, rfl⟩ : ad = ⟨b, off, none⟩ ∧ len = bs.length ∧ cap = c := by simpa using e
        exact ⟨rfl, cells_of hc⟩
    obtain ⟨rfl, hnews⟩ := hl
    exact wpList_append_own w hgd s x _ ho base _ i0 (.int .u8 0) 1 1 Try.underlying39 hi hz0 hz1 hz2 rfl (by decide) v n xs hs hown ad bs.length cap (bvs bs) hx (by rw [bvs_length]; omega) hnews (bvs_one bs) (by unfold maxLen; omega) (by omega) hbase (fun v' w' h1 h2 _ => h v' w' h1 h2)


set_option maxRecDepth 100000 in
set_option maxHeartbeats 1000000 in
theorem bytesH_calls (l : List (List UInt8 × Bool)) (r : Value) (w : World) (hS : HasS w r l) (hl : (l.length : Int) ≤ 1000000000000) (hn : (l.map fun x => x.1.length).sum ≤ 100000000000000) :
    Calls Try.prog 21 #[r] w fun e W' => ∃ v, e = .returned (.tuple #[v, .bool (bytesOf l).2]) ∧ W'.ownsRow w.heap.size 5 1 v (bytesOf l).1.length (bvs (bytesOf l).1) ∧ Below w.heap.size w W' := by
  obtain ⟨ra, rc, rfl⟩ := hS.slice
  have HS : Hid (HasS w (.slice ra l.length rc) l) := hS
  clear hS
  go_enter Try.func21, Try.ntmps21
  go_wp2
  go_loopw [4, 6, 9] (fun v _ i wr => ∃ k : Nat, k ≤ l.length ∧ i = .int .i64 k ∧ Hid (∀ x ∈ l.take k, x.2 = false) ∧ wr.ownsRow w.heap.size 5 1 v (headB l k).length (bvs (headB l k)) ∧ Below w.heap.size w wr) (fun _ _ i _ => l.length - (intOf i).toNat)
  case atStart => exact ⟨0, by omega, rfl, fun x hx => by simp at hx, World.ownsRow_nil _ _ _ _, Below.refl _ _⟩
  case round =>
    obtain ⟨k, hk, rfl, hno, hrow, hB⟩ := hrel
    by_cases hlt : k < l.length
    · obtain ⟨b, off, a, c, rfl, d0, hd, d1⟩ := (HS.out.below hB).at k hlt
      have hsz := headB_le l (k + 1)
      have HH : Hid (headB l (k + 1) = headB l k ++ l[k].1) := headB_succ l k hlt
      rw [HH.out, List.length_append] at hsz
      have s1 := hB.size
      have HSP : Hid (l[k].2 = true → bytesOf l = (headB l (k + 1), true)) := fun h => by
        rw [bytesOf_split l k hno.out, List.drop_eq_getElem_cons hlt, HH.out]
        have : bytesOf (l[k] :: l.drop (k + 1)) = (l[k].1, true) := by
          cases hx : l[k] with
          | mk d f => rw [hx] at h; simp only at h; subst h; rfl
        rw [this]
      have HNX : Hid (l[k].2 = false → ∀ x ∈ l.take (k + 1), x.2 = false) := fun h x hx => by
        rw [List.take_succ_eq_append_getElem hlt] at hx
        rcases List.mem_append.1 hx with hx | hx
        · exact hno.out x hx
        · simp at hx; subst hx; exact h
      clear hno
      rcases hkind : l[k] with ⟨dk, fk⟩
      rw [hkind] at hsz HH HSP HNX hd d0 d1
      simp only at hsz HH HSP HNX hd d0 d1
      clear hkind
      have HD : Hid (Byt wr (.slice a dk.length c) dk) := hd
      have HRL : Hid (∀ k, u4.ownBlock = some k → k ≠ wr.heap.size) := fun k e => by have := (hrow.lt k e).2; omega
      clear hd
      generalize hm : (headB l k).length = m at *
      have HM : Hid ((headB l k).length = m) := hm
      clear hm
      cases fk with
      | false =>
        go_wp2_with (at_builtin; refine append_bytes rfl _ _ rfl w.heap.size _ _ _ rfl (hrow.alloc _) (.slice a dk.length c) dk rfl (HD.out.below ((Below.refl _ wr).alloc (Nat.le_refl _) _)) (by omega) (by simp; omega) ?_; intro v' w4 hown' hgrow; have hq : w4.cell? ⟨wr.heap.size, 1, none⟩ = some (.bool false) := hgrow.cell (by rw [cell_new]; rfl) (fun e => HRL.out _ e.symm rfl))
        go_roundw
        case rel => exact ⟨k + 1, by omega, by go_num, HNX.out (by simp), by rw [HH.out, List.length_append, HM.out, bvs_append]; exact hown', (hB.alloc s1 _).grown hgrow (by simp; omega) (fun j hj => (hrow.lt j hj).1)⟩
        case measure => simp [intOf]; omega
      | true =>
        go_wp2_with (at_builtin; refine append_bytes rfl _ _ rfl w.heap.size _ _ _ rfl (hrow.alloc _) (.slice a dk.length c) dk rfl (HD.out.below ((Below.refl _ wr).alloc (Nat.le_refl _) _)) (by omega) (by simp; omega) ?_; intro v' w4 hown' hgrow; have hq : w4.cell? ⟨wr.heap.size, 1, none⟩ = some (.bool true) := hgrow.cell (by rw [cell_new]; rfl) (fun e => HRL.out _ e.symm rfl))
        go_ret2
        refine ⟨v', ?_, ?_, (hB.alloc s1 _).grown hgrow (by simp; omega) (fun j hj => (hrow.lt j hj).1)⟩
        · show Ending.returned (.tuple #[v', .bool true]) = _
          rw [HSP.out (by simp)]
        · rw [HSP.out (by simp), HH.out, List.length_append, HM.out, bvs_append]; exact hown'
    · obtain rfl : k = l.length := by omega
      have HE : Hid (bytesOf l = (headB l l.length, false)) := by
        show bytesOf l = _
        rw [bytesOf_split l l.length hno.out]; simp [bytesOf]
      go_wp2
      go_ret2
      refine ⟨u4, ?_, ?_, hB⟩
      · show Ending.returned (.tuple #[u4, .bool false]) = _
        rw [HE.out]
      · rw [HE.out]; exact hrow

end Go.Proofs.Ytliahgoelmiopaa.C
