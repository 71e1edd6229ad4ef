/- What is proved here: laws and contracts of LkChk, LkUp, LkHex, one behind the other (each says its own). -/
import Derived.Test.YtkbegfdbfmfedaaGreatDoorBun7
/- What is proved here: the document's Check and upTo of layer 12. -/
namespace Go.Proofs.YtkbegfdbfmfedaaGreatDoor.L
open Go.RowKit Go.Shelf Go.Proofs.YtkbegfdbfmfedaaGreatDoor.N Go.Proofs.YtkbegfdbfmfedaaGreatDoor.U

/-- The schemes that may never be. -/
def nevers : List (List UInt8) := [[106, 97, 118, 97, 115, 99, 114, 105, 112, 116], [100, 97, 116, 97], [118, 98, 115, 99, 114, 105, 112, 116], [98, 108, 111, 98], [102, 105, 108, 101], [102, 105, 108, 101, 115, 121, 115, 116, 101, 109], [97, 98, 111, 117, 116]]
def mayC (c : UInt8) : Bool := innerC c && !upperZ c.toNat
/-- May a scheme be allowed? -/
def checkOk (l : List UInt8) : Bool := decide (1 ≤ l.length) && decide (l.length ≤ 100) && decide (97 ≤ (l.getD 0 0).toNat) && decide ((l.getD 0 0).toNat ≤ 122) && l.all mayC && !nevers.contains l
def checkZ (l : List UInt8) : Int := if checkOk l then 0 else 120
theorem nev_cells (w : World) (t : TypeId) : ∀ j, j < 7 → (w.alloc (.cells (nevers.map fun n => Value.string ⟨n.toArray⟩).toArray t)).cell? ⟨w.heap.size, j, none⟩ = some (.string ⟨(nevers.getD j []).toArray⟩) := fun j hj => by
  rw [cell_of_row _ _ _ _ _ _ (World.alloc_heap_new w _)]
  match j, hj with
  | 0, _ => rfl
  | 1, _ => rfl
  | 2, _ => rfl
  | 3, _ => rfl
  | 4, _ => rfl
  | 5, _ => rfl
  | 6, _ => rfl
  | (n + 7), h => exact absurd h (by omega)
theorem nev_no (l : List UInt8) (h : ∀ j, j < 7 → (l == nevers.getD j []) = false) : nevers.contains l = false := by
  have h0 := h 0 (by omega)
  have h1 := h 1 (by omega)
  have h2 := h 2 (by omega)
  have h3 := h 3 (by omega)
  have h4 := h 4 (by omega)
  have h5 := h 5 (by omega)
  have h6 := h 6 (by omega)
  simp only [nevers, List.getD_cons_zero, List.getD_cons_succ] at h0 h1 h2 h3 h4 h5 h6
  simp only [nevers, List.contains_cons, h0, h1, h2, h3, h4, h5, h6, Bool.or_false, List.contains_nil]
theorem nev_yes (l : List UInt8) (j : Nat) (hj : j < 7) (h : (l == nevers.getD j []) = true) : nevers.contains l = true := by
  have e : l = nevers.getD j [] := by simpa using h
  rw [e]
  match j, hj with
  | 0, _ => rfl
  | 1, _ => rfl
  | 2, _ => rfl
  | 3, _ => rfl
  | 4, _ => rfl
  | 5, _ => rfl
  | 6, _ => rfl
  | (n + 7), h => exact absurd h (by omega)
end Go.Proofs.YtkbegfdbfmfedaaGreatDoor.L

/- What is proved here: the document's upTo of layer 12: where the first one of some bytes stands. -/
namespace Go.Proofs.YtkbegfdbfmfedaaGreatDoor.L
open Go.RowKit Go.Shelf Go.Proofs.YtkbegfdbfmfedaaGreatDoor.N Go.Proofs.YtkbegfdbfmfedaaGreatDoor.U

/-- Where the first one of some bytes stands, or the end. -/
def upToL (so s : List UInt8) : Nat := (s.takeWhile fun c => !so.contains c).length
theorem upToL_le (so s : List UInt8) : upToL so s ≤ s.length := (List.takeWhile_sublist _).length_le
theorem upTo_none (so : List UInt8) : ∀ (s : List UInt8), (∀ j, j < s.length → so.contains (s.getD j 0) = false) → upToL so s = s.length
  | [], _ => rfl
  | c :: t, h => by
    have h0 := h 0 (by simp)
    simp only [List.getD_cons_zero] at h0
    have h1 := upTo_none so t (fun j hj => by have := h (j + 1) (by simpa using hj); simpa using this)
    unfold upToL at h1 ⊢
    rw [List.takeWhile_cons, if_pos (by rw [h0]; rfl), List.length_cons, h1, List.length_cons]
theorem upTo_at (so : List UInt8) : ∀ (s : List UInt8) (i : Nat), i < s.length → (∀ j, j < i → so.contains (s.getD j 0) = false) → so.contains (s.getD i 0) = true → upToL so s = i
  | [], _, h, _, _ => by simp at h
  | c :: t, 0, _, _, h => by
    simp only [List.getD_cons_zero] at h
    unfold upToL
    rw [List.takeWhile_cons, if_neg (by rw [h]; decide)]; rfl
  | c :: t, i + 1, hi, hp, h => by
    have h0 := hp 0 (by omega)
    simp only [List.getD_cons_zero] at h0
    have h1 := upTo_at so t i (by simpa using hi) (fun j hj => by have := hp (j + 1) (by omega); simpa using this) (by simpa using h)
    unfold upToL at h1 ⊢
    rw [List.takeWhile_cons, if_pos (by rw [h0]; rfl), List.length_cons, h1]
theorem has_no (so : List UInt8) (c : UInt8) (h : ∀ j, j < so.length → (c == so.getD j 0) = false) : so.contains c = false := by
  rw [List.contains_eq_mem, decide_eq_false_iff_not]
  intro hm
  obtain ⟨j, hj, e⟩ := List.getElem_of_mem hm
  have h9 := h j hj
  have e9 : so.getD j 0 = c := by simp [hj, e]
  rw [e9] at h9
  simp at h9
theorem has_yes (so : List UInt8) (c : UInt8) (j : Nat) (hj : j < so.length) (h : (c == so.getD j 0) = true) : so.contains c = true := by
  have e : c = so.getD j 0 := by simpa using h
  rw [List.contains_eq_mem, decide_eq_true_iff, e]
  have e9 : so.getD j 0 = so[j] := by simp [hj]
  rw [e9]
  exact List.getElem_mem hj
set_option maxRecDepth 100000 in
set_option maxHeartbeats 2000000 in
/-- **upTo.** -/
theorem upTo_calls (s so : List UInt8) (w : World) (hs : s.length ≤ 1000000000000) (ho : so.length ≤ 1000) : Calls Tryz.prog 41 #[.string ⟨s.toArray⟩, .string ⟨so.toArray⟩] w fun e W' => e = .returned (.int .i64 (upToL so s : Nat)) ∧ Below w.heap.size w W' := by
  have ss := arr_size s
  have sq := arr_size so
  go_enter Tryz.func41, Tryz.ntmps41
  go_wp2
  go_loopw [9] (fun vi wr => ∃ i : Nat, i ≤ s.length ∧ vi = .int .i64 i ∧ Hid (Below w.heap.size w wr) ∧ Hid (∀ j, j < i → so.contains (s.getD j 0) = false)) (fun vi _ => s.length - (intOf vi).toNat)
  case atStart => exact ⟨0, by omega, rfl, Below.refl _ _, fun j hj => by omega⟩
  case round =>
    obtain ⟨i, hi, rfl, hB, hP⟩ := hrel
    by_cases hlt : i < s.length
    · obtain ⟨c, hc⟩ : ∃ c, s.getD i 0 = c := ⟨_, rfl⟩
      have hix := byte_at s i c hlt hc (i : Int) rfl
      have HC := hid_of hc
      clear hc
      go_wp2
      go_loopw [14] (fun vk wr => ∃ k : Nat, k ≤ so.length ∧ vk = .int .i64 k ∧ Hid (Below w.heap.size w wr) ∧ Hid (∀ j, j < k → (c == so.getD j 0) = false)) (fun vk _ => so.length - (intOf vk).toNat)
      case atStart => exact ⟨0, by omega, rfl, hB, fun j hj => by omega⟩
      case round =>
        clear hB
        obtain ⟨k, hk, rfl, hB, hN⟩ := hrel
        by_cases hk2 : k < so.length
        · obtain ⟨d, hd⟩ : ∃ d, so.getD k 0 = d := ⟨_, rfl⟩
          have hik := byte_at so k d hk2 hd (k : Int) rfl
          have HD := hid_of hd
          have ecd : ((c.toNat : Int) == (d.toNat : Int)) = (c == d) := eq_byte c d
          clear hd
          cases hb : (c == d) with
          | true =>
            have HZ : Hid (upToL so s = i) := upTo_at so s i hlt hP.out (by rw [HC.out]; exact has_yes so c k hk2 (by rw [HD.out]; exact hb))
            rw [hb] at ecd
            clear hb
            go_wp2_with fail
            go_region
            all_goals go_wp2_with fail
            all_goals go_ret
            all_goals exact ⟨by rw [HZ.out]; rfl, hB.out.drew⟩
          | false =>
            have HN2 : Hid (∀ j, j < k + 1 → (c == so.getD j 0) = false) := fun j hj => by
              by_cases e : j = k
              · rw [e, HD.out]; exact hb
              · exact hN.out j (by omega)
            rw [hb] at ecd
            clear hb
            go_wp2_with fail
            go_region
            all_goals go_wp2_with fail
            all_goals exact ⟨⟨k + 1, by omega, by go_num, hB.out.drew, HN2⟩, by simp [intOf]; omega⟩
        · obtain rfl : k = so.length := by omega
          have HP2 : Hid (∀ j, j < i + 1 → so.contains (s.getD j 0) = false) := fun j hj => by
            by_cases e : j = i
            · rw [e, HC.out]; exact has_no so c hN.out
            · exact hP.out j (by omega)
          clear hix
          go_wp2
          exact ⟨⟨i + 1, by omega, by go_num, hB, HP2⟩, by simp [intOf]; omega⟩
    · obtain rfl : i = s.length := by omega
      have HZ : Hid (upToL so s = s.length) := upTo_none so s hP.out
      go_wp2
      go_ret
      exact ⟨by rw [HZ.out]; rfl, hB.out⟩
end Go.Proofs.YtkbegfdbfmfedaaGreatDoor.L

/- What is proved here: the document's hexes and begins of layer 12. -/
namespace Go.Proofs.YtkbegfdbfmfedaaGreatDoor.L
open Go.RowKit Go.Shelf Go.Proofs.YtkbegfdbfmfedaaGreatDoor.N Go.Proofs.YtkbegfdbfmfedaaGreatDoor.U

def hexC (c : UInt8) : Bool := decide (0 ≤ valueZ c.toNat)
/-- Do two hexadecimal digits stand behind a place? -/
def hexL (s : List UInt8) (k : Nat) : Bool := decide (k + 2 < s.length) && hexC (s.getD (k + 1) 0) && hexC (s.getD (k + 2) 0)
set_option maxRecDepth 100000 in
set_option maxHeartbeats 1000000 in
theorem hexes_calls (s : List UInt8) (k : Nat) (w : World) (hs : s.length ≤ 1000000000000) (hk : k ≤ s.length) : Calls Tryz.prog 111 #[.string ⟨s.toArray⟩, .int .i64 k] w fun e w' => e = .returned (.bool (hexL s k)) ∧ w' = w := by
  have ss := arr_size s
  by_cases h2 : k + 2 < s.length
  · obtain ⟨c1, hc1⟩ : ∃ c1, s.getD (k + 1) 0 = c1 := ⟨_, rfl⟩
    obtain ⟨c2, hc2⟩ : ∃ c2, s.getD (k + 2) 0 = c2 := ⟨_, rfl⟩
    have hi1 := byte_at s (k + 1) c1 (by omega) hc1 ((k : Int) + 1) (by omega)
    have hi2 := byte_at s (k + 2) c2 (by omega) hc2 ((k : Int) + 2) (by omega)
    have l1 := c1.toNat_lt
    have l2 := c2.toNat_lt
    have w1 : wrap32 (c1.toNat : Int) = c1.toNat := by unfold wrap32; omega
    have w2 : wrap32 (c2.toNat : Int) = c2.toNat := by unfold wrap32; omega
    have hd : decide ((k : Int) + 2 < (s.length : Int)) = true := by simp; omega
    have HV : Hid (hexL s k = (hexC c1 && hexC c2)) := by show _ = _; unfold hexL; rw [hc1, hc2, decide_eq_true h2]; simp
    have H1 := hid_of (rhex_calls (c1.toNat : Int) (by omega) (by omega) w)
    have H2 := hid_of (rhex_calls (c2.toNat : Int) (by omega) (by omega) w)
    have e1 : decide (0 ≤ valueZ c1.toNat) = hexC c1 := rfl
    have e2 : decide (0 ≤ valueZ c2.toNat) = hexC c2 := rfl
    rw [e1] at H1
    rw [e2] at H2
    clear hc1 hc2 e1 e2
    cases b1 : hexC c1 with
    | true =>
      rw [b1] at H1 HV
      go_enter Tryz.func111, Tryz.ntmps111
      go_wp2_with fail
      (go_at_call 134; refine H1.out.mono ?_; rintro e w' ⟨rfl, hx⟩; obtain rfl : w = w' := hx.symm)
      go_wp2_with fail
      (go_at_call 134; refine H2.out.mono ?_; rintro e w' ⟨rfl, hx⟩; obtain rfl : w = w' := hx.symm)
      go_wp2_with fail
      go_ret
      exact ⟨by rw [HV.out]; rfl, rfl⟩
    | false =>
      rw [b1] at H1 HV
      go_enter Tryz.func111, Tryz.ntmps111
      go_wp2_with fail
      (go_at_call 134; refine H1.out.mono ?_; rintro e w' ⟨rfl, hx⟩; obtain rfl : w = w' := hx.symm)
      go_wp2_with fail
      go_ret
      exact ⟨by rw [HV.out]; rfl, rfl⟩
  · have hd : decide ((k : Int) + 2 < (s.length : Int)) = false := by simp; omega
    have HV : Hid (hexL s k = false) := by show _ = _; unfold hexL; rw [decide_eq_false h2]; rfl
    go_enter Tryz.func111, Tryz.ntmps111
    go_wp2
    go_ret
    exact ⟨by rw [HV.out]; rfl, rfl⟩
end Go.Proofs.YtkbegfdbfmfedaaGreatDoor.L
