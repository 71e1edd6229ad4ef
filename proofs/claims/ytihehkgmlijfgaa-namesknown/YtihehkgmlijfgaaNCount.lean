/- What is proved here: the contract of names.Count: how many of some names are in each set. -/
import Derived.Test.YtihehkgmlijfgaaNSets
namespace Go.Proofs.Ytihehkgmlijfgaa.N
open Go.RowKit Go.Maps C

/-- How many of the first i names are in a set. -/
def cnt (L : List (List UInt8)) (j i : Nat) : Nat := ((L.take i).filter fun x => decide (x ∈ SW j)).length
theorem cnt_succ (L : List (List UInt8)) (j i : Nat) (h : i < L.length) : cnt L j (i + 1) = cnt L j i + (if L[i] ∈ SW j then 1 else 0) := by
  unfold cnt
  rw [List.take_succ_eq_append_getElem h, List.filter_append, List.length_append]
  congr 1
  by_cases hm : L[i] ∈ SW j <;> simp [hm]
theorem cnt_le (L : List (List UInt8)) (j i : Nat) : cnt L j i ≤ i := by
  have h := List.length_filter_le (fun x => decide (x ∈ SW j)) (L.take i)
  rw [List.length_take] at h
  unfold cnt
  omega
theorem cnt_zero (L : List (List UInt8)) (j : Nat) : cnt L j 0 = 0 := by simp [cnt]
/-- What has been counted where set k is at name i. -/
def cntAt (L : List (List UInt8)) (k i j : Nat) : Int := if j < k then (cnt L j L.length : Int) else if j = k then (cnt L k i : Int) else 0
/-- The two arrays of a call that counts. -/
structure CntAt (w wr : World) (c : Nat → Int) : Prop where
  below : Below w.heap.size w wr
  cell : ∀ j, j < 16 → wr.cell? ⟨w.heap.size + 1, j, none⟩ = some (.int .i64 (c j))
  res : ∀ j, j < 16 → wr.cell? ⟨w.heap.size, j, none⟩ = some (.int .i64 0)
  free : ∀ j, wr.frozen? ⟨w.heap.size + 1, j, none⟩ = false
  rfree : ∀ j, wr.frozen? ⟨w.heap.size, j, none⟩ = false
  size : w.heap.size + 2 ≤ wr.heap.size
theorem CntAt.later {w A B : World} {c : Nat → Int} (h : CntAt w A c) (hb : Below A.heap.size A B) : CntAt w B c := by
  have hs := h.size
  refine ⟨h.below.trans (hb.mono h.below.size), fun j hj => (hb.cell (p := ⟨w.heap.size + 1, j, none⟩) (by show w.heap.size + 1 < _; omega)).trans (h.cell j hj), fun j hj => (hb.cell (p := ⟨w.heap.size, j, none⟩) (by show w.heap.size < _; omega)).trans (h.res j hj), fun j => ?_, fun j => ?_, Nat.le_trans hs hb.size⟩
  · have := h.free j
    unfold World.frozen? at this ⊢
    rw [hb.block (w.heap.size + 1) (by omega)]
    exact this
  · have := h.rfree j
    unfold World.frozen? at this ⊢
    rw [hb.block w.heap.size (by omega)]
    exact this
theorem CntAt.set {w A : World} {c c' : Nat → Int} (h : CntAt w A c) (k : Nat) (hk : k < 16) (x : Int) (hx : c' k = x) (ho : ∀ j, j < 16 → j ≠ k → c' j = c j) : CntAt w (A.setCell ⟨w.heap.size + 1, k, none⟩ (.int .i64 x)) c' := by
  refine ⟨h.below.setCell (by show w.heap.size ≤ w.heap.size + 1; omega) _, fun j hj => ?_, fun j hj => ?_, fun j => ?_, fun j => ?_, by rw [World.size_setCell]; exact h.size⟩
  · by_cases e : j = k
    · subst e; rw [hx]; exact cs_same (h.cell j hj)
    · rw [cs_other (fun e' => e (by injection e' with _ e'; exact e'.symm)), ho j hj e]; exact h.cell j hj
  · rw [cs_other (by simp)]; exact h.res j hj
  · rw [World.frozen?_setCell]; exact h.free j
  · rw [World.frozen?_setCell]; exact h.rfree j
theorem CntAt.congr {w A : World} {c c' : Nat → Int} (h : CntAt w A c) (hc : ∀ j, j < 16 → c' j = c j) : CntAt w A c' := ⟨h.below, fun j hj => by rw [hc j hj]; exact h.cell j hj, h.res, h.free, h.rfree, h.size⟩
/-- An array of sixteen numbers. -/
def arr16 (c : Nat → Int) : Array Value := #[.int .i64 (c 0), .int .i64 (c 1), .int .i64 (c 2), .int .i64 (c 3), .int .i64 (c 4), .int .i64 (c 5), .int .i64 (c 6), .int .i64 (c 7), .int .i64 (c 8), .int .i64 (c 9), .int .i64 (c 10), .int .i64 (c 11), .int .i64 (c 12), .int .i64 (c 13), .int .i64 (c 14), .int .i64 (c 15)]
theorem arr16_congr {c c' : Nat → Int} (h : ∀ j, j < 16 → c j = c' j) : arr16 c = arr16 c' := by
  unfold arr16
  rw [h 0 (by omega), h 1 (by omega), h 2 (by omega), h 3 (by omega), h 4 (by omega), h 5 (by omega), h 6 (by omega), h 7 (by omega), h 8 (by omega), h 9 (by omega), h 10 (by omega), h 11 (by omega), h 12 (by omega), h 13 (by omega), h 14 (by omega), h 15 (by omega)]
/-- A block's first n cells written. -/
def putN (W : World) (A : Nat) (c : Nat → Int) : Nat → World
  | 0 => W
  | n + 1 => (putN W A c n).setCell ⟨A, n, none⟩ (.int .i64 (c n))
theorem putN_other (W : World) (A : Nat) (c : Nat → Int) (p : Addr) : ∀ n, (∀ j, j < n → (⟨A, j, none⟩ : Addr) ≠ p) → (putN W A c n).cell? p = W.cell? p
  | 0, _ => rfl
  | n + 1, h => by rw [putN, cs_other (h n (by omega))]; exact putN_other W A c p n (fun j hj => h j (by omega))
theorem putN_cell (W : World) (A : Nat) (c : Nat → Int) (j : Nat) (u : Value) (hu : W.cell? ⟨A, j, none⟩ = some u) : ∀ n, j < n → (putN W A c n).cell? ⟨A, j, none⟩ = some (.int .i64 (c j))
  | 0, h => by omega
  | n + 1, h => by
    rw [putN]
    by_cases e : j = n
    · subst e
      refine cs_same (u := u) ?_
      rw [putN_other W A c _ j (fun i hi e => by injection e with _ e; omega)]
      exact hu
    · rw [cs_other (fun e' => e (by injection e' with _ e'; exact e'.symm))]
      exact putN_cell W A c j u hu n (by omega)
theorem putN_below {w W : World} {A : Nat} (h : Below w.heap.size w W) (hA : w.heap.size ≤ A) (c : Nat → Int) : ∀ n, Below w.heap.size w (putN W A c n)
  | 0 => h
  | n + 1 => (putN_below h hA c n).setCell hA _
set_option maxRecDepth 100000 in
theorem results_count {tmps : Array Value} {W : World} {A : Nat} {c : Nat → Int} (h2 : tmps[2]?.getD undef = .pointer (some ⟨A, 0, none⟩)) (h : ∀ j, j < 16 → W.cell? ⟨A, j, none⟩ = some (.int .i64 (c j))) :
    (results Try.f17 tmps).run Try.prog W = .ok (.agg (arr16 c)) W := by
  have c0 := h 0 (by omega)
  have c1 := h 1 (by omega)
  have c2 := h 2 (by omega)
  have c3 := h 3 (by omega)
  have c4 := h 4 (by omega)
  have c5 := h 5 (by omega)
  have c6 := h 6 (by omega)
  have c7 := h 7 (by omega)
  have c8 := h 8 (by omega)
  have c9 := h 9 (by omega)
  have c10 := h 10 (by omega)
  have c11 := h 11 (by omega)
  have c12 := h 12 (by omega)
  have c13 := h 13 (by omega)
  have c14 := h 14 (by omega)
  have c15 := h 15 (by omega)
  simp [results, Try.results17, go_sem, h2, c0, c1, c2, c3, c4, c5, c6, c7, c8, c9, c10, c11, c12, c13, c14, c15, arr16]
theorem zeroInt (w : World) : (zeroValue 3).run Try.prog w = .ok (.int .i64 0) w := by kernel_rfl
theorem key_any (x : List UInt8) (h : x.length ≤ 9223372036854775807) : keyOf Try.prog 9 (.string ⟨x.toArray⟩) = some (.string x) := by
  have := WideMaps.keyOf_string_mk (P := Try.prog) (k := 9) (s := ⟨x.toArray⟩) Try.underlying9 (by rw [← size_data]; exact h)
  exact this
def zeros : Array Value := #[.int .i64 0, .int .i64 0, .int .i64 0, .int .i64 0, .int .i64 0, .int .i64 0, .int .i64 0, .int .i64 0, .int .i64 0, .int .i64 0, .int .i64 0, .int .i64 0, .int .i64 0, .int .i64 0, .int .i64 0, .int .i64 0]
theorem zeros_get (j : Nat) (hj : j < 16) : zeros[j]? = some (.int .i64 0) := by
  have : j = 0 ∨ j = 1 ∨ j = 2 ∨ j = 3 ∨ j = 4 ∨ j = 5 ∨ j = 6 ∨ j = 7 ∨ j = 8 ∨ j = 9 ∨ j = 10 ∨ j = 11 ∨ j = 12 ∨ j = 13 ∨ j = 14 ∨ j = 15 := by omega
  rcases this with rfl | rfl | rfl | rfl | rfl | rfl | rfl | rfl | rfl | rfl | rfl | rfl | rfl | rfl | rfl | rfl <;> rfl
theorem CntAt.start (w : World) (c : Nat → Int) (t : TypeId) (hc : ∀ j, j < 16 → c j = 0) : CntAt w ((w.alloc (.cells zeros t)).alloc (.cells zeros t)) c := by
  have e1 : (w.alloc (.cells zeros t)).heap.size = w.heap.size + 1 := by simp
  refine ⟨((Below.refl _ w).alloc (Nat.le_refl _) _).alloc (by rw [e1]; omega) _, fun j hj => ?_, fun j hj => ?_, fun j => ?_, fun j => ?_, by simp⟩
  · rw [← e1, cell_new, hc j hj]; exact zeros_get j hj
  · rw [cell_under _ _ _ (by rw [e1]; show w.heap.size < _; omega), cell_new]; exact zeros_get j hj
  · have := World.alloc_heap_new (w.alloc (.cells zeros t)) (.cells zeros t)
    rw [e1] at this
    unfold World.frozen?
    simp only [this]
    simp
  · have h1 := World.alloc_heap_new w (.cells zeros t)
    have h2 : ((w.alloc (.cells zeros t)).alloc (.cells zeros t)).heap[w.heap.size]? = some (.cells zeros t) := by
      rw [← h1]; exact Below.heap_alloc _ _ _ (by rw [e1]; omega)
    unfold World.frozen?
    simp only [h2]
    simp
theorem cntAt_next (L : List (List UInt8)) (k : Nat) : ∀ j, j < 16 → cntAt L (k + 1) 0 j = cntAt L k L.length j := by
  intro j _
  unfold cntAt
  by_cases h1 : j < k
  · rw [if_pos (by omega), if_pos h1]
  · by_cases h2 : j = k
    · subst h2; rw [if_pos (by omega), if_neg (by omega), if_pos rfl]
    · rw [if_neg (by omega), if_neg h1, if_neg h2]
      split
      · rw [cnt_zero]; rfl
      · rfl

set_option maxRecDepth 100000 in
set_option maxHeartbeats 4000000 in
theorem count_calls (L : List (List UInt8)) (v : Value) (w : World) (hn : (L.length : Int) ≤ 10000000000000) (hsz : ∀ x ∈ L, x.length ≤ 9223372036854775807) (h : HasT w v L) :
    Calls Try.prog 17 #[v] w fun e w' => e = .returned (.agg (arr16 fun j => (cnt L j L.length : Int))) ∧ Below w.heap.size w w' := by
  obtain ⟨a, cap, rfl⟩ := h.slice
  have HT : Hid (HasT w (.slice a L.length cap) L) := h
  have HSZ : Hid (∀ x ∈ L, x.length ≤ 9223372036854775807) := hsz
  clear h hsz
  go_enter Try.func17, Try.ntmps17
  go_wp2
  go_loopw [10] (fun i wr => ∃ k : Nat, k ≤ 16 ∧ i = .int .i64 k ∧ Hid (CntAt w wr (cntAt L k 0))) (fun i _ => 16 - (intOf i).toNat)
  case atStart => exact ⟨0, by omega, rfl, CntAt.start w _ _ (fun j _ => by unfold cntAt; split; · omega
                                                                            · split; · rw [cnt_zero]; rfl
                                                                              · rfl)⟩
  case round =>
    obtain ⟨k, hk, rfl, hC⟩ := hrel
    by_cases hlt : k < 16
    · have hmc := members_calls (k : Int) wr
      rw [show fields (txtZ (k : Int)).data.toList = SW k by (unfold txtZ SW; rw [if_pos (by omega)]; simp)] at hmc
      have HMC : Hid (Calls Try.prog 27 #[.int .i64 k] wr fun e w' => e = .returned (.map (some wr.heap.size)) ∧ w'.ownsMap Try.prog 9 (plainElem Try.prog 3) wr.heap.size (SW k).length (memTo (SW k) (SW k).length) ∧ Below wr.heap.size wr w') := hmc
      clear hmc
      obtain ⟨W0, hW0⟩ : ∃ W0, wr = W0 := ⟨_, rfl⟩
      subst hW0
      go_wp2_with (go_at_call 27; refine Calls.mono HMC.out ?_; rintro e w1 ⟨rfl, hM1, hB1⟩; have s2 := hB1.size)
      have HM1 : Hid (w1.ownsMap Try.prog 9 (plainElem Try.prog 3) wr.heap.size (SW k).length (memTo (SW k) (SW k).length)) := hM1
      have HC1 : Hid (CntAt w w1 (cntAt L k 0)) := hC.out.later hB1
      have hmb : w.heap.size + 2 ≤ wr.heap.size := hC.out.size
      clear hM1 hB1 HMC hC
      obtain ⟨mb, hmbe⟩ : ∃ mb, wr.heap.size = mb := ⟨_, rfl⟩
      rw [hmbe] at HM1 hmb s2
      rw [hmbe]
      clear hmbe
      go_loopw [17] (fun i wr => ∃ m : Nat, m ≤ L.length ∧ i = .int .i64 m ∧ Hid (CntAt w wr (cntAt L k m)) ∧ Hid (wr.ownsMap Try.prog 9 (plainElem Try.prog 3) mb (SW k).length (memTo (SW k) (SW k).length))) (fun i _ => L.length - (intOf i).toNat)
      case atStart => exact ⟨0, by omega, rfl, HC1, HM1⟩
      case round =>
        obtain ⟨m, hm, rfl, hC, hM⟩ := hrel
        by_cases hmlt : m < L.length
        · obtain ⟨b, rfl, hb, hcap, hcell⟩ := (HT.out.below hC.out.below).at (by omega)
          have hc := hcell m hmlt
          have hkey := key_any L[m] (HSZ.out _ (List.getElem_mem _))
          have HCS := cnt_succ L k m hmlt
          have hcl := cnt_le L k m
          have hhas : Maps.has (memTo (SW k) (SW k).length) (.string L[m]) = decide (L[m] ∈ SW k) := by
            rw [Bool.eq_iff_iff, memTo_has, decide_eq_true_eq]
            constructor
            · rintro ⟨j, hj, e⟩; rw [← e]; simp [List.getD, hj]
            · intro hx
              obtain ⟨j, hj, e⟩ := List.mem_iff_getElem.1 hx
              exact ⟨j, hj, by simp [List.getD, hj, e]⟩
          have hcur : cntAt L k m k = (cnt L k m : Int) := by unfold cntAt; rw [if_neg (by omega), if_pos rfl]
          have hck := hC.out.cell k hlt
          rw [hcur] at hck
          have hfz := hC.out.free k
          clear hcell
          by_cases hmem : L[m] ∈ SW k
          · rw [decide_eq_true hmem] at hhas
            rw [if_pos hmem] at HCS
            have HST : Hid (CntAt w (wr.setCell ⟨w.heap.size + 1, k, none⟩ (.int .i64 ((cnt L k m : Int) + 1))) (cntAt L k (m + 1))) := hC.out.set k hlt _ (by unfold cntAt; rw [if_neg (by omega), if_pos rfl, HCS]; omega) (fun j _ hj => by unfold cntAt; rw [if_neg hj, if_neg hj])
            have HMS : Hid ((wr.setCell ⟨w.heap.size + 1, k, none⟩ (.int .i64 ((cnt L k m : Int) + 1))).ownsMap Try.prog 9 (plainElem Try.prog 3) mb (SW k).length (memTo (SW k) (SW k).length)) := World.ownsMap.setCell hM.out (by show mb ≠ w.heap.size + 1; omega) _
            generalize (⟨L[m].toArray⟩ : ByteArray) = f at *
            have HCS2 : Hid (cnt L k (m + 1) = cnt L k m + 1) := HCS
            clear HCS hmem
            go_wp2_with (at_lookup; refine wpList_lookup_own_ok_int _ rfl _ _ 51 rfl 9 3 .i64 lawS Try.underlying51 Try.underlying3 (zeroInt _) mb (SW k).length _ rfl hM.out _ _ rfl hkey ?_; intro cv hat hwc; rw [hhas])
            exact ⟨⟨m + 1, by omega, by go_num, HST, HMS⟩, by simp [intOf]; omega⟩
          · rw [decide_eq_false hmem] at hhas
            rw [if_neg hmem] at HCS
            have HST : Hid (CntAt w wr (cntAt L k (m + 1))) := hC.out.congr (fun j _ => by
              by_cases e : j = k
              · subst e; simp [cntAt, HCS]
              · simp [cntAt, e])
            generalize (⟨L[m].toArray⟩ : ByteArray) = f at *
            clear HCS hmem
            go_wp2_with (at_lookup; refine wpList_lookup_own_ok_int _ rfl _ _ 51 rfl 9 3 .i64 lawS Try.underlying51 Try.underlying3 (zeroInt _) mb (SW k).length _ rfl hM.out _ _ rfl hkey ?_; intro cv hat hwc; rw [hhas])
            first
              | exact ⟨⟨m + 1, by omega, by go_num, HST, hM⟩, by simp [intOf]; omega⟩
              | (go_roundw
                 case rel => exact ⟨m + 1, by omega, by go_num, HST, hM⟩
                 case measure => simp [intOf]; omega)
        · obtain rfl : m = L.length := by omega
          have HST : Hid (CntAt w wr (cntAt L (k + 1) 0)) := hC.out.congr (cntAt_next L k)
          go_wp2
          first
            | exact ⟨⟨k + 1, by omega, by go_num, HST⟩, by simp [intOf]; omega⟩
            | (go_roundw
               case rel => exact ⟨k + 1, by omega, by go_num, HST⟩
               case measure => simp [intOf]; omega)
    · obtain rfl : k = 16 := by omega
      have e0 := hC.out.cell 0 (by omega)
      have f0 := hC.out.rfree 0
      have r0 := hC.out.res 0 (by omega)
      have e1 := hC.out.cell 1 (by omega)
      have f1 := hC.out.rfree 1
      have r1 := hC.out.res 1 (by omega)
      have e2 := hC.out.cell 2 (by omega)
      have f2 := hC.out.rfree 2
      have r2 := hC.out.res 2 (by omega)
      have e3 := hC.out.cell 3 (by omega)
      have f3 := hC.out.rfree 3
      have r3 := hC.out.res 3 (by omega)
      have e4 := hC.out.cell 4 (by omega)
      have f4 := hC.out.rfree 4
      have r4 := hC.out.res 4 (by omega)
      have e5 := hC.out.cell 5 (by omega)
      have f5 := hC.out.rfree 5
      have r5 := hC.out.res 5 (by omega)
      have e6 := hC.out.cell 6 (by omega)
      have f6 := hC.out.rfree 6
      have r6 := hC.out.res 6 (by omega)
      have e7 := hC.out.cell 7 (by omega)
      have f7 := hC.out.rfree 7
      have r7 := hC.out.res 7 (by omega)
      have e8 := hC.out.cell 8 (by omega)
      have f8 := hC.out.rfree 8
      have r8 := hC.out.res 8 (by omega)
      have e9 := hC.out.cell 9 (by omega)
      have f9 := hC.out.rfree 9
      have r9 := hC.out.res 9 (by omega)
      have e10 := hC.out.cell 10 (by omega)
      have f10 := hC.out.rfree 10
      have r10 := hC.out.res 10 (by omega)
      have e11 := hC.out.cell 11 (by omega)
      have f11 := hC.out.rfree 11
      have r11 := hC.out.res 11 (by omega)
      have e12 := hC.out.cell 12 (by omega)
      have f12 := hC.out.rfree 12
      have r12 := hC.out.res 12 (by omega)
      have e13 := hC.out.cell 13 (by omega)
      have f13 := hC.out.rfree 13
      have r13 := hC.out.res 13 (by omega)
      have e14 := hC.out.cell 14 (by omega)
      have f14 := hC.out.rfree 14
      have r14 := hC.out.res 14 (by omega)
      have e15 := hC.out.cell 15 (by omega)
      have f15 := hC.out.rfree 15
      have r15 := hC.out.res 15 (by omega)
      have hv : ∀ j, j < 16 → cntAt L 16 0 j = (cnt L j L.length : Int) := fun j hj => by unfold cntAt; rw [if_pos hj]
      have HV : Hid (∀ j, j < 16 → cntAt L 16 0 j = (cnt L j L.length : Int)) := hv
      clear hv
      have HR : Hid (∀ j, j < 16 → (putN wr w.heap.size (cntAt L 16 0) 16).cell? ⟨w.heap.size, j, none⟩ = some (.int .i64 (cntAt L 16 0 j))) := fun j hj => putN_cell _ _ _ j _ (hC.out.res j hj) 16 hj
      have HP : Hid (Below w.heap.size w (putN wr w.heap.size (cntAt L 16 0) 16)) := putN_below hC.out.below (Nat.le_refl _) _ 16
      go_wp2
      (try simp only [Exit.inBlock, Exit.then])
      exact bodyPost_ret (results_count (W := putN wr w.heap.size (cntAt L 16 0) 16) (c := cntAt L 16 0) rfl HR.out) rfl ⟨by rw [arr16_congr HV.out], HP.out⟩

end Go.Proofs.Ytihehkgmlijfgaa.N
