/- What is proved here: the contract of sieveref04.sorted: the row's own texts, sorted. -/
import Derived.Deep.RegionHeld3
import Derived.Deep.RegionWith
import Derived.Sort.Walk0
import Derived.Test.YtjgppdjbcmadcaaNSortM
namespace Go.Proofs.Ytjgppdjbcmadcaa.N
open Go.RowKit C

theorem svs_set (M : List (List UInt8)) (i : Nat) (x : List UInt8) : svs (M.set i x) = (svs M).set i (.string ⟨x.toArray⟩) := by simp [svs, List.map_set]

set_option maxRecDepth 100000 in
set_option maxHeartbeats 4000000 in
theorem rsorted_calls (L : List (List UInt8)) (base : Nat) (v : Value) (w : World) (hn : (L.length : Int) ≤ 1000000) (h : OwnT base w v L) :
    Calls Try.prog 17 #[v] w fun e w' => e = .returned v ∧ ∃ M, Srt L M M.length ∧ OwnT base w' v M ∧ Below base w w' := by
  obtain ⟨a, cap, rfl⟩ := owns_slice h
  have HO : Hid (OwnT base w (.slice a L.length cap) L) := h
  clear h
  go_enter Try.func17, Try.ntmps17
  go_wp2
  go_loopw [3, 4, 7] (fun _ _ i wr => ∃ (k : Nat) (M : List (List UInt8)), k ≤ L.length ∧ i = .int .i64 k ∧ M.length = L.length ∧ Hid (Srt L M k) ∧ Hid (wr.ownsRow base 9 1 (.slice a L.length cap) L.length (svs M)) ∧ Hid (Below base w wr)) (fun _ _ i _ => L.length - (intOf i).toNat)
  case atStart => exact ⟨0, L, by omega, rfl, rfl, Srt.start L, HO, Below.refl _ _⟩
  case round =>
    obtain ⟨k, M, hk, rfl, hML, hS, hR, hB⟩ := hrel
    by_cases hlt : k < L.length
    · obtain ⟨g, rfl, hgb⟩ : ∃ g, a = some ⟨g, 0, none⟩ ∧ base ≤ g := by
        rcases hR.out.2 with ⟨e, _⟩ | ⟨g, cap', cur, e, hb, _⟩
        · simp only [Value.slice.injEq] at e; omega
        · simp only [Value.slice.injEq] at e; exact ⟨g, e.1, hb⟩
      have HM0 : Hid (Mid L M k k) := hS.out.mid (by omega)
      go_wp2
      go_loopw [4] (fun kv wr => ∃ (t : Nat) (M : List (List UInt8)), kv = .int .i64 t ∧ M.length = L.length ∧ Hid (Mid L M k t) ∧ Hid (wr.ownsRow base 9 1 (.slice (some ⟨g, 0, none⟩) L.length cap) L.length (svs M)) ∧ Hid (Below base w wr)) (fun kv _ => (intOf kv).toNat)
      case atStart => exact ⟨k, M, rfl, hML, HM0, hR, hB⟩
      case round =>
        clear hS hR hB HM0 hML
        obtain ⟨t, M, rfl, hML, hM, hR, hB⟩ := hrel
        obtain ⟨htk, hkM⟩ := hM.out.length
        by_cases h0 : t = 0
        · subst h0
          have HS : Hid (Srt L M (k + 1)) := hM.out.stop0
          go_wp2
          go_region
          all_goals go_wp2
          all_goals exact ⟨⟨k + 1, M, by omega, by go_num, hML, HS, World.ownsRow.drew hR.out, hB.out.drew⟩, by simp [intOf]; omega⟩
        · obtain ⟨t, rfl⟩ : ∃ t', t = t' + 1 := ⟨t - 1, by omega⟩
          have hc1 : wr.cell? ⟨g, t + 1, none⟩ = some (.string ⟨M[t + 1].toArray⟩) := by rw [World.ownsRow.cellAt hR.out (t + 1) (by omega)]; simp [svs]
          have hc0 : wr.cell? ⟨g, t, none⟩ = some (.string ⟨M[t].toArray⟩) := by rw [World.ownsRow.cellAt hR.out t (by omega)]; simp [svs]
          have hf1 := World.ownsRow.frozenAt hR.out (t + 1)
          have hf0 := World.ownsRow.frozenAt hR.out t
          by_cases hl : M[t + 1] < M[t]
          · have hbl : Op.bytesLess M[t + 1] M[t] = true := (bytesLess_eq _ _).trans (decide_eq_true hl)
            have HM2 : Hid (Mid L ((M.set (t + 1) M[t]).set t M[t + 1]) k t) := hM.out.step (by omega) hl
            have HR2 : Hid (((wr.setCell ⟨g, t + 1, none⟩ (.string ⟨M[t].toArray⟩)).setCell ⟨g, t, none⟩ (.string ⟨M[t + 1].toArray⟩)).ownsRow base 9 1 (.slice (some ⟨g, 0, none⟩) L.length cap) L.length (svs ((M.set (t + 1) M[t]).set t M[t + 1]))) := by
              rw [svs_set, svs_set]
              exact (World.ownsRow.stored (World.ownsRow.stored hR.out (t + 1) _).1 t _).1
            have HB2 : Hid (Below base w ((wr.setCell ⟨g, t + 1, none⟩ (.string ⟨M[t].toArray⟩)).setCell ⟨g, t, none⟩ (.string ⟨M[t + 1].toArray⟩))) := (hB.out.setCell hgb _).setCell hgb _
            go_wp2
            go_region
            all_goals go_wp2
            go_region
            all_goals go_wp2
            all_goals exact ⟨⟨t, _, rfl, by simp [hML], HM2, World.ownsRow.drew (World.ownsRow.drew HR2.out), HB2.out.drew.drew⟩, by simp [intOf]⟩
          · have hbl : Op.bytesLess M[t + 1] M[t] = false := (bytesLess_eq _ _).trans (decide_eq_false hl)
            have HS : Hid (Srt L M (k + 1)) := hM.out.stop (by omega) hl
            go_wp2
            go_region
            all_goals go_wp2
            all_goals exact ⟨⟨k + 1, M, by omega, by go_num, hML, HS, World.ownsRow.drew hR.out, hB.out.drew⟩, by simp [intOf]; omega⟩
    · obtain rfl : k = L.length := by omega
      go_wp2
      go_ret
      exact ⟨rfl, M, by rw [hML]; exact hS.out, by unfold OwnT; rw [hML]; exact hR.out, hB.out⟩
end Go.Proofs.Ytjgppdjbcmadcaa.N
