/- What is proved here: same, num, plan, nothing, long, awake of the statements of layer 16. -/
import Derived.Test.YtdkcibafbdmajaaNeCalls
import Derived.WalkSmall
import Derived.Deep.Draws
namespace Go.Proofs.Ytdkcibafbdmajaa.E
open Go.RowKit Go.Shelf Go.WideMaps Go.Maps Go.Proofs.Ytdkcibafbdmajaa.N Go.Proofs.Ytdkcibafbdmajaa.C

theorem texts_own {base : Nat} {w : World} {a : Option Addr} {n c : Nat} {L : List Txt} (h : OwnT base w (.slice a n c) L) : TextsAt w a L ∧ L.length ≤ c ∧ n = L.length ∧ (∀ b off, a = some ⟨b, off, none⟩ → b < w.heap.size) := by
  rcases HasT.of h with ⟨rfl, a', cap, e⟩ | ⟨b, cap, e, hcap, hb, hc⟩
  · injection e with e1 e2 e3
    subst e1 e2 e3
    refine ⟨fun j hj => absurd hj (by simp), by simp, rfl, fun b off e => ?_⟩
    rcases h.2 with ⟨e0, _⟩ | ⟨g, cap2, cur, e2, _, hg, _⟩
    · injection e0 with e0; rw [e0] at e; cases e
    · injection e2 with e2; rw [e2] at e; cases e; exact lt_of_block hg
  · injection e with e1 e2 e3
    subst e1 e2 e3
    refine ⟨fun j hj => ⟨b, 0, rfl, ?_⟩, hcap, rfl, fun b' off e => by cases e; exact hb⟩
    rw [Nat.zero_add, hc j hj]
    simp [hj]
theorem num_calls (z : Int) (w : World) : Calls Try.prog 16 #[.int .i64 z] w fun e w' => e = .returned (.int .i64 z) ∧ w' = w := by
  go_enter Try.func16, Try.ntmps16
  go_wp2
  go_ret
  exact ⟨rfl, rfl⟩
theorem long_calls (a : Option Addr) (n c : Nat) (hn : n ≤ 1000000000000) (w : World) : Calls Try.prog 8 #[.slice a n c] w fun e w' => e = .returned (.bool (decide (600 < n))) ∧ w' = w := by
  have h : decide ((n : Int) > 600) = decide (600 < n) := by rw [decide_eq_decide]; omega
  go_enter Try.func8, Try.ntmps8
  go_wp2
  go_ret
  exact ⟨by first | rfl | (rw [← h]; rfl) | simp_all, rfl⟩
set_option maxRecDepth 100000 in
set_option maxHeartbeats 2000000 in
theorem same_calls' (L L' : List Txt) (a a' : Option Addr) (c c' : Nat) (w : World) (hn : L.length ≤ 1000000000000) (hn' : L'.length ≤ 1000000000000) (h : TextsAt w a L) (h' : TextsAt w a' L') :
    Calls Try.prog 17 #[.slice a L.length c, .slice a' L'.length c'] w fun e w' => e = .returned (.bool (decide (L = L'))) ∧ Below w.heap.size w w' := by
  have HS := hid_of h
  have HS' := hid_of h'
  clear h h'
  by_cases hl : L.length = L'.length
  · have HL : Hid (L.length = L'.length) := hl
    have hne : ((L.length : Int) != (L'.length : Int)) = false := by rw [hl]; simp
    clear hl
    go_enter Try.func17, Try.ntmps17
    go_wp2
    go_loopw [5, 13] (fun _ i wr => ∃ k : Nat, k ≤ L.length ∧ i = .int .i64 k ∧ Below w.heap.size w wr ∧ Hid (∀ j, j < k → L.getD j [] = L'.getD j [])) (fun _ i _ => L.length - (intOf i).toNat)
    case atStart => exact ⟨0, by omega, rfl, Below.refl _ _, fun j hj => by omega⟩
    case round =>
      obtain ⟨k, hk, rfl, hB, hE⟩ := hrel
      by_cases hlt : k < L.length
      · have hlt' : k < L'.length := by have := HL.out; omega
        obtain ⟨b, off, rfl, h1⟩ := (HS.out.below hB) k hlt
        obtain ⟨b', off', rfl, h2⟩ := (HS'.out.below hB) k hlt'
        by_cases hxy : L.getD k [] = L'.getD k []
        · rw [← hxy] at h2
          have hE2 : Hid (∀ j, j < k + 1 → L.getD j [] = L'.getD j []) := fun j hj => by
            by_cases e : j = k
            · subst e; exact hxy
            · exact hE.out j (by omega)
          generalize (⟨(L.getD k []).toArray⟩ : ByteArray) = f at *
          have hf : (f.toList == f.toList) = true := by simp
          clear hxy
          go_wp2
          go_quiet (fail)
          go_wp2
          all_goals first
            | exact ⟨⟨k + 1, by omega, by go_num, below_drewN hB _, hE2⟩, by simp [intOf]; omega⟩
            | (go_roundw
               case rel => exact ⟨k + 1, by omega, by go_num, below_drewN hB _, hE2⟩
               case measure => simp [intOf]; omega)
        · have HNE : Hid (decide (L = L') = false) := by
            show decide (L = L') = false
            rw [decide_eq_false_iff_not]
            intro e
            subst e
            exact hxy rfl
          have hf : ((⟨(L.getD k []).toArray⟩ : ByteArray).toList == (⟨(L'.getD k []).toArray⟩ : ByteArray).toList) = false := by rw [toList_mk, toList_mk, beq_eq_false_iff_ne]; exact hxy
          generalize (⟨(L.getD k []).toArray⟩ : ByteArray) = f at *
          generalize (⟨(L'.getD k []).toArray⟩ : ByteArray) = g at *
          clear hxy
          go_wp2
          go_quiet (fail)
          go_wp2
          all_goals go_ret
          all_goals exact ⟨by rw [HNE.out]; rfl, below_drewN hB _⟩
      · obtain rfl : k = L.length := by omega
        have HEQ : Hid (decide (L = L') = true) := by
          show decide (L = L') = true
          rw [decide_eq_true_eq]
          refine List.ext_getElem HL.out (fun j h1 h2 => ?_)
          have := hE.out j h1
          rwa [List.getD_eq_getElem?_getD, List.getD_eq_getElem?_getD, List.getElem?_eq_getElem h1, List.getElem?_eq_getElem h2] at this
        go_wp2
        go_ret
        exact ⟨by rw [HEQ.out]; rfl, hB⟩
  · have HNE : Hid (decide (L = L') = false) := by
      show decide (L = L') = false
      rw [decide_eq_false_iff_not]
      intro e
      exact hl (by rw [e])
    have hne : ((L.length : Int) != (L'.length : Int)) = true := by simp; omega
    clear hl
    go_enter Try.func17, Try.ntmps17
    go_wp2
    go_ret
    exact ⟨by rw [HNE.out]; rfl, Below.refl _ _⟩
end Go.Proofs.Ytdkcibafbdmajaa.E
