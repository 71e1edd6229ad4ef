/- What is proved here: the contract of sieveref04.Count: how many of some names are in each set, as the document has it. -/
import Derived.Test.YtihehkgmlijfgaaNGiven
import Derived.Test.YtihehkgmlijfgaaNCount
import Derived.Test.YtihehkgmlijfgaaNSets
namespace Go.Proofs.Ytihehkgmlijfgaa.N
open Go.RowKit C

set_option maxRecDepth 100000 in
theorem results_rcount {tmps : Array Value} {W : World} {A : Nat} {c : Nat → Int} (h2 : tmps[2]?.getD undef = .pointer (some ⟨A, 0, none⟩)) (h : ∀ j, j < 16 → W.cell? ⟨A, j, none⟩ = some (.int .i64 (c j))) :
    (results Try.f18 tmps).run Try.prog W = .ok (.agg (arr16 c)) W := by
  have c0 := h 0 (by omega)
  have c1 := h 1 (by omega)
  have c2 := h 2 (by omega)
  have c3 := h 3 (by omega)
  have c4 := h 4 (by omega)
  have c5 := h 5 (by omega)
  have c6 := h 6 (by omega)
  have c7 := h 7 (by omega)
  have c8 := h 8 (by omega)
  have c9 := h 9 (by omega)
  have c10 := h 10 (by omega)
  have c11 := h 11 (by omega)
  have c12 := h 12 (by omega)
  have c13 := h 13 (by omega)
  have c14 := h 14 (by omega)
  have c15 := h 15 (by omega)
  simp [results, Try.results18, go_sem, h2, c0, c1, c2, c3, c4, c5, c6, c7, c8, c9, c10, c11, c12, c13, c14, c15, arr16]
/-- The count in the course of one name's sets. -/
def cntIn (L : List (List UInt8)) (P : List Nat) (k m j : Nat) : Int := (cnt L j k : Int) + if j ∈ P.take m then 1 else 0
def cntTo (L : List (List UInt8)) (k j : Nat) : Int := (cnt L j k : Int)

set_option maxRecDepth 100000 in
set_option maxHeartbeats 4000000 in
theorem rcount_calls (L : List (List UInt8)) (v : Value) (w : World) (hn : (L.length : Int) ≤ 10000000000000) (h : HasO w v L) :
    Calls Try.prog 18 #[v] w fun e w' => e = .returned (.agg (arr16 fun j => (cnt L j L.length : Int))) ∧ Below w.heap.size w w' := by
  obtain ⟨a, cap, rfl⟩ := h.slice
  have HT : Hid (HasO w (.slice a L.length cap) L) := h
  clear h
  go_enter Try.func18, Try.ntmps18
  go_wp2
  go_loopw [5, 7, 10] (fun _ _ i wr => ∃ k : Nat, k ≤ L.length ∧ i = .int .i64 k ∧ Hid (CntAt w wr (cntTo L k))) (fun _ _ i _ => L.length - (intOf i).toNat)
  case atStart => exact ⟨0, by omega, rfl, CntAt.start w _ _ (fun j _ => by unfold cntTo; rw [cnt_zero]; rfl)⟩
  case round =>
    obtain ⟨k, hk, rfl, hC⟩ := hrel
    by_cases hlt : k < L.length
    · obtain ⟨b, off, rfl, hb, hcap, hcell⟩ := (HT.out.below hC.out.below).at (by omega)
      have hc := hcell k hlt
      clear hcell
      have HRS : Hid (Calls Try.prog 16 #[.string ⟨L[k].toArray⟩] wr fun e w' => ∃ v, e = .returned v ∧ w'.ownsRow wr.heap.size 3 1 v (setsOf L[k]).length (nvs (setsOf L[k])) ∧ Below wr.heap.size wr w') := rsets_calls ⟨L[k].toArray⟩ wr
      have HCS : Hid (∀ j, cnt L j (k + 1) = cnt L j k + (if L[k] ∈ SW j then 1 else 0)) := fun j => cnt_succ L j k hlt
      have HPM : Hid (∀ j, j ∈ setsOf L[k] ↔ j < 16 ∧ L[k] ∈ SW j) := mem_setsOf L[k]
      have HPN : Hid (setsOf L[k]).Nodup := by unfold setsOf setsTo; exact List.Pairwise.filter _ (List.nodup_range (n := 16))
      have hpl : (setsOf L[k]).length ≤ 16 := setsTo_length L[k] 16
      have HCL : Hid (∀ j, cnt L j k ≤ k) := fun j => cnt_le L j k
      generalize L[k] = x at *
      generalize setsOf x = P at *
      have hsz := hC.out.size
      go_wp2_with (go_at_call 16; refine Calls.mono HRS.out ?_; rintro e W1 ⟨pv, rfl, hO, hB1⟩; obtain ⟨pa, pcap, rfl⟩ := owns_slice hO)
      have HO1 : Hid (W1.ownsRow wr.heap.size 3 1 (.slice pa P.length pcap) P.length (nvs P)) := hO
      have HC1 : Hid (CntAt w W1 (cntIn L P k 0)) := (hC.out.later hB1).congr (fun j _ => by unfold cntIn cntTo; simp)
      clear hO hB1 HRS hC hc
      generalize wr.heap.size = B at *
      go_loopw [7, 17] (fun _ i wr => ∃ m : Nat, m ≤ P.length ∧ i = .int .i64 m ∧ Hid (CntAt w wr (cntIn L P k m)) ∧ Hid (wr.ownsRow B 3 1 (.slice pa P.length pcap) P.length (nvs P))) (fun _ i _ => P.length - (intOf i).toNat)
      case atStart => exact ⟨0, by omega, rfl, HC1, HO1⟩
      case round =>
        clear HC1 HO1
        obtain ⟨m, hm, rfl, hC, hO⟩ := hrel
        by_cases hmlt : m < P.length
        · obtain ⟨g, rfl, hgB⟩ : ∃ g, pa = some ⟨g, 0, none⟩ ∧ B ≤ g := by
            rcases hO.out.2 with ⟨e, _⟩ | ⟨g, cap', cur, e, hbg, _⟩
            · simp only [Value.slice.injEq] at e; omega
            · simp only [Value.slice.injEq] at e; exact ⟨g, e.1, hbg⟩
          obtain ⟨hx16, hxm⟩ := (HPM.out P[m]).1 (List.getElem_mem _)
          have hcr : wr.cell? ⟨g, m, none⟩ = some (.int .i64 (P[m] : Int)) := by rw [World.ownsRow.cellAt hO.out m (by omega)]; simp [nvs, hmlt]
          have hnt : P[m] ∉ P.take m := fun hmm => by
            obtain ⟨i, hi, e⟩ := List.mem_iff_getElem.1 hmm
            rw [List.length_take] at hi
            rw [List.getElem_take] at e
            exact List.pairwise_iff_getElem.1 HPN.out i m (by omega) hmlt (by omega) e
          have hcx : wr.cell? ⟨w.heap.size + 1, P[m], none⟩ = some (.int .i64 (cnt L P[m] k : Int)) := by rw [hC.out.cell P[m] hx16]; unfold cntIn; rw [if_neg hnt]; simp
          have hfz := hC.out.free P[m]
          have hcl := HCL.out P[m]
          have HST : Hid (CntAt w (wr.setCell ⟨w.heap.size + 1, P[m], none⟩ (.int .i64 ((cnt L P[m] k : Int) + 1))) (cntIn L P k (m + 1))) := hC.out.set P[m] hx16 _ (by unfold cntIn; rw [if_pos (by rw [List.take_succ_eq_append_getElem hmlt]; exact List.mem_append.2 (.inr (List.mem_singleton.2 rfl)))]) (fun j _ hj => by
            have : j ∈ P.take (m + 1) ↔ j ∈ P.take m := by rw [List.take_succ_eq_append_getElem hmlt, List.mem_append, List.mem_singleton]; exact ⟨fun h => h.resolve_right hj, .inl⟩
            unfold cntIn
            simp only [this])
          have HR2 : Hid ((wr.setCell ⟨w.heap.size + 1, P[m], none⟩ (.int .i64 ((cnt L P[m] k : Int) + 1))).ownsRow B 3 1 (.slice (some ⟨g, 0, none⟩) P.length pcap) P.length (nvs P)) := World.ownsRow.kept (row := some (w.heap.size + 1)) hO.out ⟨rfl, rfl, rfl, by simp [World.setCell], fun j _ hj => Below.heap_setCell _ _ _ j (fun e => hj (by rw [e]))⟩ (.inr (by simp [Value.ownBlock]; omega))
          have hxi : (P[m] : Int) ≤ 15 := by omega
          generalize P[m] = y at *
          clear hnt hxm
          generalize cnt L y k = cy at *
          go_wp2
          first
            | exact ⟨⟨m + 1, by omega, by go_num, HST, HR2⟩, by simp [intOf]; omega⟩
            | (go_roundw
               case rel => exact ⟨m + 1, by omega, by go_num, HST, HR2⟩
               case measure => simp [intOf]; omega)
        · obtain rfl : m = P.length := by omega
          have HST : Hid (CntAt w wr (cntTo L (k + 1))) := hC.out.congr (fun j hj => by
            unfold cntIn cntTo
            rw [HCS.out j, List.take_length]
            by_cases hx : x ∈ SW j
            · rw [if_pos hx, if_pos ((HPM.out j).2 ⟨hj, hx⟩)]; simp
            · rw [if_neg hx, if_neg (fun h' => hx ((HPM.out j).1 h').2)]; simp)
          go_wp2
          first
            | exact ⟨⟨k + 1, by omega, by go_num, HST⟩, by simp [intOf]; omega⟩
            | (go_roundw
               case rel => exact ⟨k + 1, by omega, by go_num, HST⟩
               case measure => simp [intOf]; omega)
    · obtain rfl : k = L.length := by omega
      have e0 := hC.out.cell 0 (by omega)
      have f0 := hC.out.rfree 0
      have r0 := hC.out.res 0 (by omega)
      have e1 := hC.out.cell 1 (by omega)
      have f1 := hC.out.rfree 1
      have r1 := hC.out.res 1 (by omega)
      have e2 := hC.out.cell 2 (by omega)
      have f2 := hC.out.rfree 2
      have r2 := hC.out.res 2 (by omega)
      have e3 := hC.out.cell 3 (by omega)
      have f3 := hC.out.rfree 3
      have r3 := hC.out.res 3 (by omega)
      have e4 := hC.out.cell 4 (by omega)
      have f4 := hC.out.rfree 4
      have r4 := hC.out.res 4 (by omega)
      have e5 := hC.out.cell 5 (by omega)
      have f5 := hC.out.rfree 5
      have r5 := hC.out.res 5 (by omega)
      have e6 := hC.out.cell 6 (by omega)
      have f6 := hC.out.rfree 6
      have r6 := hC.out.res 6 (by omega)
      have e7 := hC.out.cell 7 (by omega)
      have f7 := hC.out.rfree 7
      have r7 := hC.out.res 7 (by omega)
      have e8 := hC.out.cell 8 (by omega)
      have f8 := hC.out.rfree 8
      have r8 := hC.out.res 8 (by omega)
      have e9 := hC.out.cell 9 (by omega)
      have f9 := hC.out.rfree 9
      have r9 := hC.out.res 9 (by omega)
      have e10 := hC.out.cell 10 (by omega)
      have f10 := hC.out.rfree 10
      have r10 := hC.out.res 10 (by omega)
      have e11 := hC.out.cell 11 (by omega)
      have f11 := hC.out.rfree 11
      have r11 := hC.out.res 11 (by omega)
      have e12 := hC.out.cell 12 (by omega)
      have f12 := hC.out.rfree 12
      have r12 := hC.out.res 12 (by omega)
      have e13 := hC.out.cell 13 (by omega)
      have f13 := hC.out.rfree 13
      have r13 := hC.out.res 13 (by omega)
      have e14 := hC.out.cell 14 (by omega)
      have f14 := hC.out.rfree 14
      have r14 := hC.out.res 14 (by omega)
      have e15 := hC.out.cell 15 (by omega)
      have f15 := hC.out.rfree 15
      have r15 := hC.out.res 15 (by omega)
      have HR : Hid (∀ j, j < 16 → (putN wr w.heap.size (cntTo L L.length) 16).cell? ⟨w.heap.size, j, none⟩ = some (.int .i64 (cntTo L L.length j))) := fun j hj => putN_cell _ _ _ j _ (hC.out.res j hj) 16 hj
      have HP : Hid (Below w.heap.size w (putN wr w.heap.size (cntTo L L.length) 16)) := putN_below hC.out.below (Nat.le_refl _) _ 16
      go_wp2
      (try simp only [Exit.inBlock, Exit.then])
      exact bodyPost_ret (results_rcount (W := putN wr w.heap.size (cntTo L L.length) 16) (c := cntTo L L.length) rfl HR.out) rfl ⟨rfl, HP.out⟩

end Go.Proofs.Ytihehkgmlijfgaa.N
