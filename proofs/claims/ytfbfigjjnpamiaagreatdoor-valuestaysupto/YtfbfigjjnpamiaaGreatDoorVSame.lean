/- What is proved here: texts in memory, and the contract of the statement's own 'same': two lists of words are the same. -/
import Derived.BigQuiet
import Derived.Deep.QuietTactic
import Derived.WalkSmall
import Derived.Test.YtfbfigjjnpamiaaGreatDoorVMath
namespace Go.Proofs.YtfbfigjjnpamiaaGreatDoor.V
open Go.RowKit Go.Shelf Go.Proofs.YtfbfigjjnpamiaaGreatDoor.N Go.Proofs.YtfbfigjjnpamiaaGreatDoor.U Go.Proofs.YtfbfigjjnpamiaaGreatDoor.L

theorem below_dr {B : Nat} {a w : World} (h : Below B a w) (n : Nat) : Below B a (w.drewN n) := h.trans ⟨rfl, rfl, rfl, Nat.le_refl _, fun _ _ => rfl⟩
/-- Texts in memory. -/
def HasT (w : World) (v : Value) (L : List (List UInt8)) : Prop :=
  (L = [] ∧ ∃ a cap, v = .slice a 0 cap) ∨ ∃ b cap, v = .slice (some ⟨b, 0, none⟩) L.length cap ∧ L.length ≤ cap ∧ b < w.heap.size ∧ ∀ j (h : j < L.length), w.cell? ⟨b, j, none⟩ = some (.string ⟨L[j].toArray⟩)
theorem HasT.of {base : Nat} {w : World} {v : Value} {L : List (List UInt8)} (h : OwnT base w v L) : HasT w v L := by
  by_cases h0 : L.length = 0
  · obtain ⟨a, c, rfl⟩ := owns_slice h
    exact .inl ⟨List.length_eq_zero_iff.1 h0, a, c, by rw [h0]⟩
  · rcases h.2 with ⟨rfl, e0⟩ | ⟨g, cap, cur, rfl, hb, hg, hcap, _⟩
    · omega
    · refine .inr ⟨g, cap, rfl, hcap, lt_of_block hg, fun j hj => ?_⟩
      rw [World.ownsRow.cellAt h j (by omega)]
      simp [svs, hj]
theorem HasT.below {A B : World} {v : Value} {L : List (List UInt8)} (h : HasT A v L) (hb : Below A.heap.size A B) : HasT B v L := by
  rcases h with h | ⟨b, cap, h1, h2, h3, h4⟩
  · exact .inl h
  · exact .inr ⟨b, cap, h1, h2, Nat.lt_of_lt_of_le h3 hb.size, fun j hj => (hb.cell (p := ⟨b, j, none⟩) h3).trans (h4 j hj)⟩
theorem HasT.slice {w : World} {v : Value} {L : List (List UInt8)} (h : HasT w v L) : ∃ a cap, v = .slice a L.length cap := by
  rcases h with ⟨rfl, a, c, h⟩ | ⟨b, cap, h, _⟩
  · exact ⟨a, c, h⟩
  · exact ⟨_, cap, h⟩
theorem HasT.at {w : World} {a : Option Addr} {n cap : Nat} {L : List (List UInt8)} (h : HasT w (.slice a n cap) L) (h0 : 0 < L.length) : ∃ b, a = some ⟨b, 0, none⟩ ∧ b < w.heap.size ∧ L.length ≤ cap ∧ ∀ j (h : j < L.length), w.cell? ⟨b, j, none⟩ = some (.string ⟨L[j].toArray⟩) := by
  rcases h with ⟨rfl, _⟩ | ⟨b, c, h1, h2, h3, h4⟩
  · simp at h0
  · simp only [Value.slice.injEq] at h1
    obtain ⟨rfl, rfl, rfl⟩ := h1
    exact ⟨b, rfl, h3, h2, h4⟩

set_option maxRecDepth 100000 in
set_option maxHeartbeats 2000000 in
theorem same_calls (L L' : List (List UInt8)) (v v' : Value) (w : World) (hn : (L.length : Int) ≤ 1000000000000) (hn' : (L'.length : Int) ≤ 1000000000000) (h : HasT w v L) (h' : HasT w v' L') :
    Calls Tryz.prog 13 #[v, v'] w fun e w' => e = .returned (.bool (decide (L = L'))) ∧ Below w.heap.size w w' := by
  obtain ⟨a, cap, rfl⟩ := h.slice
  obtain ⟨a', cap', rfl⟩ := h'.slice
  have HS : Hid (HasT w (.slice a L.length cap) L) := h
  have HS' : Hid (HasT w (.slice a' L'.length cap') L') := h'
  clear h h'
  by_cases hl : L.length = L'.length
  · have HL : Hid (L.length = L'.length) := hl
    have hne : ((L.length : Int) != (L'.length : Int)) = false := by rw [hl]; simp
    clear hl
    go_enter Tryz.func13, Tryz.ntmps13
    go_wp2
    go_loopw [5, 13] (fun _ i wr => ∃ k : Nat, k ≤ L.length ∧ i = .int .i64 k ∧ Below w.heap.size w wr ∧ Hid (∀ j (h : j < L.length) (h' : j < L'.length), j < k → L[j] = L'[j])) (fun _ i _ => L.length - (intOf i).toNat)
    case atStart => exact ⟨0, by omega, rfl, Below.refl _ _, fun j _ _ hj => by omega⟩
    case round =>
      obtain ⟨k, hk, rfl, hB, hE⟩ := hrel
      by_cases hlt : k < L.length
      · have hlt' : k < L'.length := by have := HL.out; omega
        obtain ⟨b, rfl, hb, hcap, hc⟩ := (HS.out.below hB).at (by omega)
        obtain ⟨b', rfl, hb', hcap', hc'⟩ := (HS'.out.below hB).at (by omega)
        have h1 := hc k hlt
        have h2 := hc' k hlt'
        clear hc hc'
        by_cases hxy : L[k] = L'[k]
        · rw [← hxy] at h2
          have hE2 : Hid (∀ j (h : j < L.length) (h' : j < L'.length), j < k + 1 → L[j] = L'[j]) := fun j h h' hj => by
            by_cases e : j = k
            · subst e; exact hxy
            · exact hE.out j h h' (by omega)
          generalize (⟨L[k].toArray⟩ : ByteArray) = f at *
          have hf : (f.toList == f.toList) = true := by simp
          clear hxy
          go_wp2
          go_quiet (fail)
          go_wp2
          all_goals first
            | exact ⟨⟨k + 1, by omega, by go_num, below_dr hB _, hE2⟩, by simp [intOf]; omega⟩
            | (go_roundw
               case rel => exact ⟨k + 1, by omega, by go_num, below_dr hB _, hE2⟩
               case measure => simp [intOf]; omega)
        · have HNE : Hid (decide (L = L') = false) := by
            show decide (L = L') = false
            rw [decide_eq_false_iff_not]
            intro e
            subst e
            exact hxy rfl
          have hf : ((⟨L[k].toArray⟩ : ByteArray).toList == (⟨L'[k].toArray⟩ : ByteArray).toList) = false := by rw [toList_mk, toList_mk, beq_eq_false_iff_ne]; exact hxy
          generalize (⟨L[k].toArray⟩ : ByteArray) = f at *
          generalize (⟨L'[k].toArray⟩ : ByteArray) = g at *
          clear hxy
          go_wp2
          go_quiet (fail)
          go_wp2
          all_goals go_ret
          all_goals exact ⟨N.ret_bool HNE.out.symm, below_dr hB _⟩
      · obtain rfl : k = L.length := by omega
        have HEQ : Hid (decide (L = L') = true) := by
          show decide (L = L') = true
          rw [decide_eq_true_eq]
          exact List.ext_getElem HL.out (fun j h1 h2 => hE.out j h1 h2 h1)
        go_wp2
        go_ret
        exact ⟨N.ret_bool HEQ.out.symm, hB⟩
  · have HNE : Hid (decide (L = L') = false) := by
      show decide (L = L') = false
      rw [decide_eq_false_iff_not]
      intro e
      exact hl (by rw [e])
    have hne : ((L.length : Int) != (L'.length : Int)) = true := by rw [bne_iff_ne]; omega
    go_enter Tryz.func13, Tryz.ntmps13
    go_wp2
    go_ret
    exact ⟨N.ret_bool HNE.out.symm, Below.refl _ _⟩

end Go.Proofs.YtfbfigjjnpamiaaGreatDoor.V
