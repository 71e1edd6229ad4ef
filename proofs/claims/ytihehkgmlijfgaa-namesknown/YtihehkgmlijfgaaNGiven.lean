/- What is proved here: texts that came in, anywhere in memory: appended to a row of one's own; compared (sievelaw04.same) with such a row of the same texts. -/
import Derived.Test.YtihehkgmlijfgaaNRKnown
import Derived.Test.YtihehkgmlijfgaaNRFields
namespace Go.Proofs.Ytihehkgmlijfgaa.N
open Go.RowKit C

/-- Texts in memory, at whatever place of a block. -/
def HasO (w : World) (v : Value) (L : List (List UInt8)) : Prop :=
  (L = [] ∧ (v = .slice none 0 0 ∨ ∃ a cap, v = .slice (some a) 0 cap)) ∨ ∃ b off cap, v = .slice (some ⟨b, off, none⟩) L.length cap ∧ L.length ≤ cap ∧ b < w.heap.size ∧ ∀ j (h : j < L.length), w.cell? ⟨b, off + j, none⟩ = some (.string ⟨L[j].toArray⟩)
theorem HasO.below {A B : World} {v : Value} {L : List (List UInt8)} (h : HasO A v L) (hb : Below A.heap.size A B) : HasO B v L := by
  rcases h with h | ⟨b, off, cap, h1, h2, h3, h4⟩
  · exact .inl h
  · exact .inr ⟨b, off, cap, h1, h2, Nat.lt_of_lt_of_le h3 hb.size, fun j hj => (hb.cell (p := ⟨b, off + j, none⟩) h3).trans (h4 j hj)⟩
theorem HasO.slice {w : World} {v : Value} {L : List (List UInt8)} (h : HasO w v L) : ∃ a cap, v = .slice a L.length cap := by
  rcases h with ⟨rfl, rfl | ⟨a, c, rfl⟩⟩ | ⟨b, off, cap, h, _⟩
  · exact ⟨none, 0, rfl⟩
  · exact ⟨some a, c, rfl⟩
  · exact ⟨_, cap, h⟩
theorem HasO.at {w : World} {a : Option Addr} {n cap : Nat} {L : List (List UInt8)} (h : HasO w (.slice a n cap) L) (h0 : 0 < L.length) : ∃ b off, a = some ⟨b, off, none⟩ ∧ b < w.heap.size ∧ L.length ≤ cap ∧ ∀ j (h : j < L.length), w.cell? ⟨b, off + j, none⟩ = some (.string ⟨L[j].toArray⟩) := by
  rcases h with ⟨rfl, _⟩ | ⟨b, off, c, h1, h2, h3, h4⟩
  · simp at h0
  · simp only [Value.slice.injEq] at h1
    obtain ⟨rfl, rfl, rfl⟩ := h1
    exact ⟨b, off, rfl, h3, h2, h4⟩
/-- 'append(s, x...)' of texts that came in to a row of one's own that holds nothing. -/
theorem append_given {w : World} {ops : Array Oper} {rest : List Oper} {o : Oper} {a : Act} {Q : Exit → Act → World → Prop} (hgd : o.guard = none) (s x : Operand)
    (ho : o.op = .call { callee := .builtin .append, args := #[s, x], argTypes := #[23, 23] }) (base : Nat)
    (v : Value) (hs : a.eval s = v) (hown : OwnT base w v []) (xv : Value) (L : List (List UInt8)) (hx : a.eval x = xv) (hX : HasO w xv L)
    (h63 : L.length ≤ 8796093022208) (hbase : base ≤ w.heap.size)
    (h : ∀ v' w', OwnT base w' v' L → w.grownBy w' v.ownBlock → wpList Try.prog ops Q rest (a.put o.dst v') w') : wpList Try.prog ops Q (o :: rest) a w := by
  obtain ⟨i0, hi, hz0, hz1, hz2⟩ := info_parts infoStr
  have big : ∀ (ad : Addr) (cap : Nat), xv = .slice (some ad) L.length cap → (∀ j u, (svs L)[j]? = some u → w.cell? (ad.add j) = some u) → wpList Try.prog ops Q (o :: rest) a w := fun ad cap e hc => by
    subst e
    refine wpList_append_own w hgd s x _ ho base _ i0 (.string ⟨#[]⟩) 1 16 Try.underlying23 hi hz0 hz1 hz2 rfl (by decide) v _ _ hs hown ad L.length cap (svs L) hx (by rw [svs_length]; omega) hc (svs_one L) (by unfold maxLen; simp; omega) (by simp; omega) hbase (fun v' w' h1 h2 _ => h v' w' (by have h1' := h1; simp only [svs, List.map_nil, List.nil_append, List.length_nil, Nat.zero_add] at h1'; exact h1') h2)
  rcases hX with ⟨rfl, rfl | ⟨ad, c, rfl⟩⟩ | ⟨b, off, cap, rfl, hcap, hb, hc⟩
  · exact wpList_append_own_none hgd s x _ ho base _ i0 1 Try.underlying23 hi v _ _ hs hown hx (h v w hown (World.grownBy.refl _ _))
  · exact big ad c rfl (fun j u hj => by simp [svs] at hj)
  · refine big ⟨b, off, none⟩ cap rfl (fun j u hj => ?_)
    have hj' : j < L.length := by rw [← svs_length]; exact (List.getElem?_eq_some_iff.1 hj).1
    rw [add_none, hc j hj', ← hj]
    simp [svs, hj']

set_option maxRecDepth 100000 in
set_option maxHeartbeats 2000000 in
theorem same_given (L : List (List UInt8)) (v v' : Value) (w : World) (hn : (L.length : Int) ≤ 10000000000000) (h : HasT w v L) (h' : HasO w v' L) :
    Calls Try.prog 12 #[v, v'] w fun e w' => e = .returned (.bool true) ∧ Below w.heap.size w w' := by
  obtain ⟨a, cap, rfl⟩ := h.slice
  obtain ⟨a', cap', rfl⟩ := h'.slice
  have HS : Hid (HasT w (.slice a L.length cap) L) := h
  have HS' : Hid (HasO w (.slice a' L.length cap') L) := h'
  clear h h'
  go_enter Try.func12, Try.ntmps12
  go_wp2
  go_loopw [5, 13] (fun _ i wr => ∃ k : Nat, k ≤ L.length ∧ i = .int .i64 k ∧ Below w.heap.size w wr) (fun _ i _ => L.length - (intOf i).toNat)
  case atStart => exact ⟨0, by omega, rfl, Below.refl _ _⟩
  case round =>
    obtain ⟨k, hk, rfl, hB⟩ := hrel
    by_cases hlt : k < L.length
    · obtain ⟨b, rfl, hb, hcap, hc⟩ := (HS.out.below hB).at (by omega)
      obtain ⟨b', off, rfl, hb', hcap', hc'⟩ := (HS'.out.below hB).at (by omega)
      have h1 := hc k hlt
      have h2 := hc' k hlt
      clear hc hc'
      generalize (⟨L[k].toArray⟩ : ByteArray) = f at *
      have hf : (f.toList == f.toList) = true := by simp
      go_wp2
      go_quiet (fail)
      go_wp2
      all_goals first
        | exact ⟨⟨k + 1, by omega, by go_num, below_drewN hB _⟩, by simp [intOf]; omega⟩
        | (go_roundw
           case rel => exact ⟨k + 1, by omega, by go_num, below_drewN hB _⟩
           case measure => simp [intOf]; omega)
    · obtain rfl : k = L.length := by omega
      go_wp2
      go_ret
      exact ⟨rfl, hB⟩
end Go.Proofs.Ytihehkgmlijfgaa.N
