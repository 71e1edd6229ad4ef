/- What is proved here: laws and contracts of CBytes, CScript, one behind the other (each says its own). -/
import Derived.Laws.AppendOwnNone
import Derived.Test.YtkpjmcoihbebkaaBun1
/- What is proved here: the contracts of chunk.Bytes and chunk.Same of any script. -/
namespace Go.Proofs.Ytkpjmcoihbebkaa.C
open Go.RowKit

/-- A script's bytes, and whether it fails. -/
def bytesOf : List (List UInt8 × Bool) → List UInt8 × Bool
  | [] => ([], false)
  | (d, true) :: _ => (d, true)
  | (d, false) :: r => (d ++ (bytesOf r).1, (bytesOf r).2)
/-- The bytes of the first k steps. -/
def headB (l : List (List UInt8 × Bool)) (k : Nat) : List UInt8 := (l.take k).flatMap Prod.fst
theorem headB_succ (l : List (List UInt8 × Bool)) (k : Nat) (h : k < l.length) : headB l (k + 1) = headB l k ++ l[k].1 := by
  unfold headB
  rw [List.take_succ_eq_append_getElem h, List.flatMap_append]; simp
theorem bytesOf_split : ∀ (l : List (List UInt8 × Bool)) (k : Nat), (∀ x ∈ l.take k, x.2 = false) → bytesOf l = (headB l k ++ (bytesOf (l.drop k)).1, (bytesOf (l.drop k)).2)
  | l, 0, _ => by simp [headB]
  | [], k + 1, _ => by simp [headB, bytesOf]
  | (d, f) :: r, k + 1, h => by
    have hf : f = false := h (d, f) (by simp)
    subst hf
    have := bytesOf_split r k (fun x hx => h x (by simp [hx]))
    simp only [bytesOf, this, List.drop_succ_cons, headB, List.take_succ_cons, List.flatMap_cons, List.append_assoc]
theorem headB_le (l : List (List UInt8 × Bool)) (k : Nat) : (headB l k).length ≤ (l.map fun x => x.1.length).sum := by
  unfold headB
  induction l generalizing k with
  | nil => simp
  | cons x r ih =>
    cases k with
    | zero => simp
    | succ k => simp only [List.take_succ_cons, List.flatMap_cons, List.length_append, List.map_cons, List.sum_cons]; have := ih k; omega

theorem bytes_beq (xs ys : List UInt8) : (xs == ys) = decide (xs = ys) := by
  by_cases h : xs = ys
  · simp [h]
  · simp [h]
theorem bytesOf_le : ∀ l : List (List UInt8 × Bool), (bytesOf l).1.length ≤ (l.map fun x => x.1.length).sum
  | [] => by simp [bytesOf]
  | (d, true) :: r => by simp [bytesOf]
  | (d, false) :: r => by have := bytesOf_le r; simp only [bytesOf, List.length_append, List.map_cons, List.sum_cons]; omega

end Go.Proofs.Ytkpjmcoihbebkaa.C

/- What is proved here: scripts in memory, and the contracts of Bytes and Same of chunk and of sieveref02. -/
namespace Go.Proofs.Ytkpjmcoihbebkaa.C
open Go.RowKit

/-- Bytes in memory that may be appended. -/
def Byt (w : World) (v : Value) (bs : List UInt8) : Prop := HasB w.heap.size w v bs ∧ (v = .slice none 0 0 ∨ ∃ ad n c, v = .slice (some ad) n c)
theorem Byt.below {w w' : World} {v : Value} {bs : List UInt8} (h : Byt w v bs) (hb : Below w.heap.size w w') : Byt w' v bs := ⟨(h.1.below hb).mono hb.size, h.2⟩
theorem Byt.slice {w : World} {v : Value} {bs : List UInt8} (h : Byt w v bs) : ∃ a cap, v = .slice a bs.length cap := h.1.slice
theorem byt_owns {w : World} {base : Nat} {e : TypeId} {v : Value} {bs : List UInt8} (h : w.ownsRow base e 1 v bs.length (bvs bs)) : Byt w v bs := by
  refine ⟨hasB_owns h, ?_⟩
  rcases h.2 with ⟨rfl, _⟩ | ⟨g, cap, cur, rfl, _⟩
  · exact .inl rfl
  · exact .inr ⟨_, _, _, rfl⟩
/-- A script in memory. -/
def HasS (w : World) (r : Value) (l : List (List UInt8 × Bool)) : Prop :=
  (l = [] ∧ ∃ a cap, r = .slice a 0 cap) ∨ (0 < l.length ∧ ∃ b off cap, r = .slice (some ⟨b, off, none⟩) l.length cap ∧ l.length ≤ cap ∧ ∀ i (_ : i < l.length), ∃ v, w.cell? ⟨b, off + i * 2, none⟩ = some v ∧ Byt w v l[i].1 ∧ w.cell? ⟨b, off + i * 2 + 1, none⟩ = some (.bool l[i].2))
theorem HasS.below {w w' : World} {r : Value} {l : List (List UInt8 × Bool)} (h : HasS w r l) (hb : Below w.heap.size w w') : HasS w' r l := by
  rcases h with h | ⟨hp, b, off, cap, hr, hc, hx⟩
  · exact .inl h
  · refine .inr ⟨hp, b, off, cap, hr, hc, fun i hi => ?_⟩
    obtain ⟨v, h1, h2, h3⟩ := hx i hi
    exact ⟨v, (hb.cell (p := ⟨b, off + i * 2, none⟩) (cell_lt h1)).trans h1, h2.below hb, (hb.cell (p := ⟨b, off + i * 2 + 1, none⟩) (cell_lt h3)).trans h3⟩
theorem HasS.slice {w : World} {r : Value} {l : List (List UInt8 × Bool)} (h : HasS w r l) : ∃ a cap, r = .slice a l.length cap := by
  rcases h with ⟨rfl, a, cap, rfl⟩ | ⟨hp, b, off, cap, rfl, _⟩
  · exact ⟨a, cap, rfl⟩
  · exact ⟨_, cap, rfl⟩
theorem HasS.at {w : World} {a : Option Addr} {n cap : Nat} {l : List (List UInt8 × Bool)} (h : HasS w (.slice a n cap) l) (i : Nat) (hi : i < l.length) : ∃ b off v c, a = some ⟨b, off, none⟩ ∧ w.cell? ⟨b, off + i * 2, none⟩ = some (.slice v l[i].1.length c) ∧ Byt w (.slice v l[i].1.length c) l[i].1 ∧ w.cell? ⟨b, off + i * 2 + 1, none⟩ = some (.bool l[i].2) := by
  rcases h with ⟨rfl, _⟩ | ⟨hp, b, off, cap', hr, hc, hx⟩
  · simp at hi
  · obtain ⟨v, h1, h2, h3⟩ := hx i hi
    obtain ⟨va, vc, rfl⟩ := h2.slice
    have : a = some ⟨b, off, none⟩ := by simp at hr; exact hr.1
    exact ⟨b, off, va, vc, this, h1, h2, h3⟩
theorem hasS_owns {base : Nat} {e : TypeId} {w : World} {r : Value} {l : List (List UInt8 × Bool)} (h : OwnS base e w r l) : HasS w r l := by
  by_cases h0 : l.length = 0
  · obtain ⟨a, c, rfl⟩ := h.slice
    exact .inl ⟨List.length_eq_zero_iff.1 h0, a, c, by rw [h0]⟩
  · obtain ⟨g, cap, rfl, hcap, _, _, hat⟩ := h.at (by omega)
    refine .inr ⟨by omega, g, 0, cap, rfl, hcap, fun i hi => ?_⟩
    obtain ⟨a, c, ho, h1, h2, _, _⟩ := hat i hi
    rw [Nat.zero_add]
    exact ⟨_, h1, byt_owns ho, h2⟩

/-- 'append(s, x...)' of bytes in memory to a row of one's own, x nil or not. -/
theorem append_bytes {w : World} {ops : Array Oper} {rest : List Oper} {o : Oper} {a : Act} {Q : Exit → Act → World → Prop} (hgd : o.guard = none) (s x : Operand)
    (ho : o.op = .call { callee := .builtin .append, args := #[s, x], argTypes := #[39, 39] }) (base : Nat)
    (v : Value) (n : Nat) (xs : List Value) (hs : a.eval s = v) (hown : w.ownsRow base 5 1 v n xs) (xv : Value) (bs : List UInt8) (hx : a.eval x = xv) (hH : Byt w xv bs)
    (h63 : n + bs.length ≤ 100000000000000) (hbase : base ≤ w.heap.size)
    (h : ∀ v' w', w'.ownsRow base 5 1 v' (n + bs.length) (xs ++ bvs bs) → w.grownBy w' v.ownBlock → wpList Try.prog ops Q rest (a.put o.dst v') w') : wpList Try.prog ops Q (o :: rest) a w := by
  obtain ⟨i0, hi, hz0, hz1, hz2⟩ := info_parts infoByte
  obtain ⟨hB, hn⟩ := hH
  rcases hn with rfl | ⟨ad, len, cap, rfl⟩
  · have hz0 : bs = [] := by
      rcases hB with ⟨rfl, _⟩ | ⟨hp, b, off, c, e, _⟩
      · rfl
      · simp at e
    subst hz0
    exact wpList_append_own_none hgd s x _ ho base _ i0 1 Try.underlying39 hi v n xs hs hown hx (h v w (by simpa [bvs] using hown) (World.grownBy.refl _ _))
  · have hl : len = bs.length ∧ ∀ j u, (bvs bs)[j]? = some u → w.cell? (ad.add j) = some u := by
      rcases hB with ⟨rfl, a', c', e⟩ | ⟨hp, b, off, c, e, _, _, hc⟩
      · simp at e; exact ⟨e.2.1, fun j u hj => by simp [bvs] at hj⟩
      · obtain ⟨rfl, rfl, rfl⟩ : ad = ⟨b, off, none⟩ ∧ len = bs.length ∧ cap = c := by simpa using e
        exact ⟨rfl, cells_of hc⟩
    obtain ⟨rfl, hnews⟩ := hl
    exact wpList_append_own w hgd s x _ ho base _ i0 (.int .u8 0) 1 1 Try.underlying39 hi hz0 hz1 hz2 rfl (by decide) v n xs hs hown ad bs.length cap (bvs bs) hx (by rw [bvs_length]; omega) hnews (bvs_one bs) (by unfold maxLen; omega) (by omega) hbase (fun v' w' h1 h2 _ => h v' w' h1 h2)


end Go.Proofs.Ytkpjmcoihbebkaa.C
