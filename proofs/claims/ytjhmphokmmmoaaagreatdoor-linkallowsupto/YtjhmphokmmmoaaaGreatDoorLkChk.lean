/- What is proved here: the document's Check and upTo of layer 12. -/
import Derived.Test.YtjhmphokmmmoaaaGreatDoorBun10
namespace Go.Proofs.YtjhmphokmmmoaaaGreatDoor.L
open Go.RowKit Go.Shelf Go.Proofs.YtjhmphokmmmoaaaGreatDoor.N Go.Proofs.YtjhmphokmmmoaaaGreatDoor.U

/-- The schemes that may never be. -/
def nevers : List (List UInt8) := [[106, 97, 118, 97, 115, 99, 114, 105, 112, 116], [100, 97, 116, 97], [118, 98, 115, 99, 114, 105, 112, 116], [98, 108, 111, 98], [102, 105, 108, 101], [102, 105, 108, 101, 115, 121, 115, 116, 101, 109], [97, 98, 111, 117, 116]]
def mayC (c : UInt8) : Bool := innerC c && !upperZ c.toNat
/-- May a scheme be allowed? -/
def checkOk (l : List UInt8) : Bool := decide (1 ≤ l.length) && decide (l.length ≤ 100) && decide (97 ≤ (l.getD 0 0).toNat) && decide ((l.getD 0 0).toNat ≤ 122) && l.all mayC && !nevers.contains l
def checkZ (l : List UInt8) : Int := if checkOk l then 0 else 120
theorem nev_cells (w : World) (t : TypeId) : ∀ j, j < 7 → (w.alloc (.cells (nevers.map fun n => Value.string ⟨n.toArray⟩).toArray t)).cell? ⟨w.heap.size, j, none⟩ = some (.string ⟨(nevers.getD j []).toArray⟩) := fun j hj => by
  rw [cell_of_row _ _ _ _ _ _ (World.alloc_heap_new w _)]
  match j, hj with
  | 0, _ => rfl
  | 1, _ => rfl
  | 2, _ => rfl
  | 3, _ => rfl
  | 4, _ => rfl
  | 5, _ => rfl
  | 6, _ => rfl
  | (n + 7), h => exact absurd h (by omega)
theorem nev_no (l : List UInt8) (h : ∀ j, j < 7 → (l == nevers.getD j []) = false) : nevers.contains l = false := by
  have h0 := h 0 (by omega)
  have h1 := h 1 (by omega)
  have h2 := h 2 (by omega)
  have h3 := h 3 (by omega)
  have h4 := h 4 (by omega)
  have h5 := h 5 (by omega)
  have h6 := h 6 (by omega)
  simp only [nevers, List.getD_cons_zero, List.getD_cons_succ] at h0 h1 h2 h3 h4 h5 h6
  simp only [nevers, List.contains_cons, h0, h1, h2, h3, h4, h5, h6, Bool.or_false, List.contains_nil]
theorem nev_yes (l : List UInt8) (j : Nat) (hj : j < 7) (h : (l == nevers.getD j []) = true) : nevers.contains l = true := by
  have e : l = nevers.getD j [] := by simpa using h
  rw [e]
  match j, hj with
  | 0, _ => rfl
  | 1, _ => rfl
  | 2, _ => rfl
  | 3, _ => rfl
  | 4, _ => rfl
  | 5, _ => rfl
  | 6, _ => rfl
  | (n + 7), h => exact absurd h (by omega)
set_option maxRecDepth 100000 in
set_option maxHeartbeats 4000000 in
/-- **Check.** -/
theorem rcheck_calls (l : List UInt8) (w : World) (hl : l.length ≤ 1000000000000) : Calls Tryz.prog 14 #[.string ⟨l.toArray⟩] w fun e W' => e = .returned (.int .i64 (checkZ l)) ∧ Below w.heap.size w W' := by
  have sl := arr_size l
  by_cases h1 : l.length < 1
  · have HZ : Hid (checkZ l = 120) := by show _ = _; unfold checkZ checkOk; rw [decide_eq_false (by omega : ¬ 1 ≤ l.length)]; rfl
    have d1 : decide ((l.length : Int) < 1) = true := by simp; omega
    go_enter Tryz.func14, Tryz.ntmps14
    go_wp2
    go_ret
    exact ⟨by rw [HZ.out]; rfl, Below.refl _ _⟩
  · have d1 : decide ((l.length : Int) < 1) = false := by simp; omega
    by_cases h2 : 100 < l.length
    · have HZ : Hid (checkZ l = 120) := by show _ = _; unfold checkZ checkOk; rw [decide_eq_false (by omega : ¬ l.length ≤ 100)]; simp
      have d2 : decide ((l.length : Int) > 100) = true := by simp; omega
      have d2' : decide (100 < l.length) = true := by simp; omega
      go_enter Tryz.func14, Tryz.ntmps14
      go_wp2
      go_ret
      exact ⟨by rw [HZ.out]; rfl, Below.refl _ _⟩
    · have d2 : decide ((l.length : Int) > 100) = false := by simp; omega
      have d2' : decide (100 < l.length) = false := by simp; omega
      obtain ⟨c0, hc0⟩ : ∃ c0, l.getD 0 0 = c0 := ⟨_, rfl⟩
      have hix := byte_at l 0 c0 (by omega) hc0 0 rfl
      by_cases h3 : c0.toNat < 97
      · have HZ : Hid (checkZ l = 120) := by show _ = _; unfold checkZ checkOk; rw [hc0, decide_eq_false (by omega : ¬ 97 ≤ c0.toNat)]; simp
        have d3 : decide ((c0.toNat : Int) < 97) = true := by simp; omega
        clear hc0
        go_enter Tryz.func14, Tryz.ntmps14
        go_wp2
        go_ret
        exact ⟨by rw [HZ.out]; rfl, Below.refl _ _⟩
      · have d3 : decide ((c0.toNat : Int) < 97) = false := by simp; omega
        by_cases h4 : 122 < c0.toNat
        · have HZ : Hid (checkZ l = 120) := by show _ = _; unfold checkZ checkOk; rw [hc0, decide_eq_false (by omega : ¬ c0.toNat ≤ 122)]; simp
          have d4 : decide ((c0.toNat : Int) > 122) = true := by simp; omega
          have d4' : decide (122 < c0.toNat) = true := by simp; omega
          clear hc0
          go_enter Tryz.func14, Tryz.ntmps14
          go_wp2
          go_ret
          exact ⟨by rw [HZ.out]; rfl, Below.refl _ _⟩
        · have d4 : decide ((c0.toNat : Int) > 122) = false := by simp; omega
          have d4' : decide (122 < c0.toNat) = false := by simp; omega
          have HZ : Hid (checkZ l = if l.all mayC && !nevers.contains l then 0 else 120) := by
            show _ = _
            unfold checkZ checkOk
            rw [hc0, decide_eq_true (by omega : 1 ≤ l.length), decide_eq_true (by omega : l.length ≤ 100), decide_eq_true (by omega : 97 ≤ c0.toNat), decide_eq_true (by omega : c0.toNat ≤ 122)]
            simp only [Bool.true_and]
          clear hc0
          go_enter Tryz.func14, Tryz.ntmps14
          go_wp2
          clear hix d1 d2 d2' d3 d4 d4'
          go_loopw [26] (fun vi wr => ∃ k : Nat, k ≤ l.length ∧ vi = .int .i64 k ∧ wr = w ∧ Hid ((l.take k).all mayC = true)) (fun vi _ => l.length - (intOf vi).toNat)
          case atStart => exact ⟨0, by omega, rfl, by trivial, by simp [Hid]⟩
          case round =>
            obtain ⟨k, hk, rfl, hwr, hP⟩ := hrel
            obtain rfl : w = wr := hwr.symm
            clear hwr
            by_cases hlt : k < l.length
            · obtain ⟨c, hc⟩ : ∃ c, l.getD k 0 = c := ⟨_, rfl⟩
              have hik := byte_at l k c hlt hc (k : Int) rfl
              have hcl := c.toNat_lt
              have hw : wrap32 (c.toNat : Int) = c.toNat := by unfold wrap32; omega
              have HC := hid_of hc
              clear hc
              cases hin : innerC c with
              | false =>
                have HZ2 : Hid (checkZ l = 120) := by
                  show _ = _
                  rw [HZ.out, all_not l mayC k hlt (by rw [HC.out]; unfold mayC; rw [hin]; rfl)]; rfl
                go_wp2_with (go_at_call 29; refine (inner_calls _ _).mono ?_; rintro e w' ⟨rfl, hx⟩; obtain rfl : w = w' := hx.symm)
                go_ret
                exact ⟨by rw [HZ2.out]; rfl, Below.refl _ _⟩
              | true =>
                cases hup : upperZ (c.toNat : Int) with
                | true =>
                  have HZ2 : Hid (checkZ l = 120) := by
                    show _ = _
                    rw [HZ.out, all_not l mayC k hlt (by rw [HC.out]; unfold mayC; rw [hup, hin]; rfl)]; rfl
                  go_wp2_with (first
                    | (go_at_call 29; refine (inner_calls _ _).mono ?_; rintro e w' ⟨rfl, hx⟩; obtain rfl : w = w' := hx.symm)
                    | (go_at_call 30; refine (rupper_calls _ _).mono ?_; rintro e w' ⟨rfl, hx⟩; obtain rfl : w = w' := hx.symm))
                  go_ret
                  exact ⟨by rw [HZ2.out]; rfl, Below.refl _ _⟩
                | false =>
                  have HP2 : Hid ((l.take (k + 1)).all mayC = true) := all_take_succ l mayC k hlt hP.out (by rw [HC.out]; unfold mayC; rw [hup, hin]; rfl)
                  go_wp2_with (first
                    | (go_at_call 29; refine (inner_calls _ _).mono ?_; rintro e w' ⟨rfl, hx⟩; obtain rfl : w = w' := hx.symm)
                    | (go_at_call 30; refine (rupper_calls _ _).mono ?_; rintro e w' ⟨rfl, hx⟩; obtain rfl : w = w' := hx.symm))
                  exact ⟨⟨k + 1, by omega, by go_num, by trivial, HP2⟩, by simp [intOf]; omega⟩
            · obtain rfl : k = l.length := by omega
              have HALL : Hid (l.all mayC = true) := by have h := hP.out; rw [List.take_length] at h; exact h
              clear hP
              go_wp2
              go_loopw [44] (fun vi wr => ∃ k : Nat, k ≤ 7 ∧ vi = .int .i64 k ∧ Hid (∀ j, j < k → (l == nevers.getD j []) = false) ∧ Hid (∀ j, j < 7 → wr.cell? ⟨w.heap.size, j, none⟩ = some (.string ⟨(nevers.getD j []).toArray⟩)) ∧ Hid (Below w.heap.size w wr)) (fun vi _ => 7 - (intOf vi).toNat)
              case atStart => exact ⟨0, by omega, rfl, fun j hj => by omega, nev_cells w _, (Below.refl _ w).alloc (Nat.le_refl _) _⟩
              case round =>
                obtain ⟨k, hk7, rfl, hN, hCells, hB⟩ := hrel
                by_cases h7 : k < 7
                · have hcell := hCells.out k h7
                  have h7' : (k : Int) < 7 := by omega
                  have HNJ := hid_of (nev_yes l k h7)
                  obtain ⟨nv, hnv⟩ : ∃ nv, nevers.getD k [] = nv := ⟨_, rfl⟩
                  rw [hnv] at hcell HNJ
                  have HNV := hid_of hnv
                  clear hnv
                  cases hb : (l == nv) with
                  | true =>
                    have HZ2 : Hid (checkZ l = 120) := by show _ = _; rw [HZ.out, HNJ.out hb, HALL.out]; rfl
                    go_wp2
                    go_ret
                    exact ⟨by rw [HZ2.out]; rfl, hB.out⟩
                  | false =>
                    have HN2 : Hid (∀ j, j < k + 1 → (l == nevers.getD j []) = false) := fun j hj => by
                      by_cases e : j = k
                      · rw [e, HNV.out]; exact hb
                      · exact hN.out j (by omega)
                    go_wp2
                    exact ⟨⟨k + 1, by omega, by go_num, HN2, hCells, hB⟩, by simp [intOf]; omega⟩
                · obtain rfl : k = 7 := by omega
                  have HZ2 : Hid (checkZ l = 0) := by show _ = _; rw [HZ.out, nev_no l hN.out, HALL.out]; rfl
                  go_wp2
                  go_ret
                  exact ⟨by rw [HZ2.out]; rfl, hB.out⟩
end Go.Proofs.YtjhmphokmmmoaaaGreatDoor.L
