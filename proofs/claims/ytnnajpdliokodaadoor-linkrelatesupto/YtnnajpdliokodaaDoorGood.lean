/- What is proved here: contracts of the document's own functions size, second and good of sieveref01. -/
import Derived.BigQuiet
import Derived.Deep.QuietTactic
import Derived.WalkSmall
import Derived.Test.YtnnajpdliokodaaDoorIter
namespace Go.Proofs.YtnnajpdliokodaaDoor.U
open Go.RowKit Go.Shelf

theorem ret_i64' {a b : Int} (h : a = b) : Ending.returned (.int .i64 a) = .returned (.int .i64 b) := by rw [h]
theorem ret_bool {a b : Bool} (h : a = b) : Ending.returned (.bool a) = .returned (.bool b) := by rw [h]

set_option maxRecDepth 100000 in
set_option maxHeartbeats 1000000 in
theorem size_calls (c : Nat) (hc : (c : Int) < 256) (w : World) :
    Calls Tryd.prog 82 #[.int .u8 c] w fun e w' => e = .returned (.int .i64 (lead c)) ∧ w' = w := by
  rcases lead_cases c with ⟨h, e⟩ | ⟨h, h', e⟩ | ⟨h, h', e⟩ | ⟨h, h', e⟩ | ⟨h, h', e⟩ | ⟨h, e⟩
  all_goals rw [e]; clear e
  all_goals go_enter Tryd.func82, Tryd.ntmps82
  all_goals go_wp2
  all_goals go_ret
  all_goals exact ⟨rfl, rfl⟩

set_option maxRecDepth 100000 in
set_option maxHeartbeats 1000000 in
theorem second_calls (c d : Nat) (hc : 194 ≤ c) (hc' : c < 245) (hd : d < 256) (w : World) :
    Calls Tryd.prog 83 #[.int .u8 c, .int .u8 d] w fun e w' => e = .returned (.bool (decide (lo2 c ≤ d) && decide (d ≤ hi2 c))) ∧ w' = w := by
  have hcase : (c = 224 ∧ lo2 c = 160 ∧ hi2 c = 191) ∨ (c = 237 ∧ lo2 c = 128 ∧ hi2 c = 159) ∨ (c = 240 ∧ lo2 c = 144 ∧ hi2 c = 191) ∨ (c = 244 ∧ lo2 c = 128 ∧ hi2 c = 143) ∨ (c ≠ 224 ∧ c ≠ 237 ∧ c ≠ 240 ∧ c ≠ 244 ∧ lo2 c = 128 ∧ hi2 c = 191) := by
    unfold lo2 hi2; repeat' split
    all_goals omega
  rcases hcase with ⟨h, e, e'⟩ | ⟨h, e, e'⟩ | ⟨h, e, e'⟩ | ⟨h, e, e'⟩ | ⟨h1, h2, h3, h4, e, e'⟩
  all_goals rw [e, e']; clear e e'
  all_goals go_enter Tryd.func83, Tryd.ntmps83
  all_goals go_wp2
  all_goals go_ret
  all_goals refine ⟨ret_bool ?_, rfl⟩
  all_goals (rw [Bool.eq_iff_iff]; simp; try omega)

theorem ret_good {a b : Int} {x y : Bool} (h : a = b) (h' : x = y) : Ending.returned (.tuple #[.int .i64 a, .bool x]) = .returned (.tuple #[.int .i64 b, .bool y]) := by rw [h, h']
theorem okAt_one (bs : List UInt8) : okAt bs 1 = (decide (lo2 (byteAt bs 0) ≤ byteAt bs 1) && decide (byteAt bs 1 ≤ hi2 (byteAt bs 0))) := rfl
theorem okAt_two (bs : List UInt8) (k : Nat) (h : k ≠ 1) : okAt bs k = (decide (128 ≤ byteAt bs k) && decide (byteAt bs k ≤ 191)) := by unfold okAt loAt hiAt; rw [if_neg h, if_neg h]
theorem lead_two {c : Nat} (h : 1 < lead c) : 194 ≤ c ∧ c < 245 := by
  rcases lead_cases c with ⟨a, e⟩ | ⟨a, b, e⟩ | ⟨a, b, e⟩ | ⟨a, b, e⟩ | ⟨a, b, e⟩ | ⟨a, e⟩ <;> omega

set_option maxRecDepth 100000 in
set_option maxHeartbeats 2000000 in
theorem good_zero (bs : List UInt8) (b off cap : Nat) (w : World) (h0 : (0 : Int) < (bs.length : Int)) (hn : lead (byteAt bs 0) = 0)
    (hc : w.cell? ⟨b, off, none⟩ = some (.int .u8 (byteAt bs 0))) :
    Calls Tryd.prog 67 #[.slice (some ⟨b, off, none⟩) bs.length cap] w fun e w' => e = .returned (.tuple #[.int .i64 0, .bool false]) ∧ Below w.heap.size w w' := by
  have hlt := byteAt_lt bs 0
  have FC : Hid (∀ w, Calls Tryd.prog 82 #[.int .u8 (byteAt bs 0)] w fun e w' => e = .returned (.int .i64 0) ∧ w' = w) := fun w => by
    have := size_calls (byteAt bs 0) (by omega) w; rw [hn] at this; exact this
  clear hn
  go_enter Tryd.func67, Tryd.ntmps67
  go_wp2_with (go_at_call 82; refine (FC.out _).mono ?_; rintro e w' ⟨rfl, rfl⟩)
  go_ret2
  exact ⟨rfl, Below.refl _ _⟩

set_option maxRecDepth 100000 in
set_option maxHeartbeats 2000000 in
theorem good_pos (bs : List UInt8) (b off cap : Nat) (w : World) (h0 : (0 : Int) < (bs.length : Int)) (hl : (bs.length : Int) ≤ 140737488355328) (hn : lead (byteAt bs 0) ≠ 0)
    (hc : ∀ j, j < bs.length → w.cell? ⟨b, off + j, none⟩ = some (.int .u8 (byteAt bs j))) :
    Calls Tryd.prog 67 #[.slice (some ⟨b, off, none⟩) bs.length cap] w fun e w' => e = .returned (.tuple #[.int .i64 (nextN bs), .bool (nextAll bs)]) ∧ Below w.heap.size w w' := by
  have c0 : w.cell? ⟨b, off, none⟩ = some (.int .u8 (byteAt bs 0)) := hc 0 (by omega)
  have HC : Hid (∀ j, j < bs.length → w.cell? ⟨b, off + j, none⟩ = some (.int .u8 (byteAt bs j))) := hc
  have hlt := byteAt_lt bs 0
  have hL := lead_le (byteAt bs 0)
  have hs1 : Hid (nextN bs = scan bs (lead (byteAt bs 0) - 1) 1) := nextN_scan bs hn
  have hn1 : 1 ≤ lead (byteAt bs 0) := by omega
  have hn0 : ((lead (byteAt bs 0) : Int) == 0) = false := beq_eq_false_iff_ne.2 (by omega)
  clear hc hn
  go_enter Tryd.func67, Tryd.ntmps67
  go_wp2_with (go_at_call 82; refine (size_calls _ (by omega) _).mono ?_; rintro e w' ⟨rfl, hw⟩; obtain rfl : w = w' := hw.symm)
  go_loopw [5] (fun i wr => ∃ k : Nat, 1 ≤ k ∧ k ≤ lead (byteAt bs 0) ∧ k ≤ bs.length ∧ i = .int .i64 k ∧ Below w.heap.size w wr ∧ Hid (nextN bs = scan bs (lead (byteAt bs 0) - k) k)) (fun i _ => 4 - (intOf i).toNat)
  case atStart => exact ⟨1, by omega, by omega, by omega, rfl, Below.refl _ _, hs1⟩
  case round =>
    obtain ⟨k, hk1, hkn, hkl, rfl, hB, hs⟩ := hrel
    have fin : Hid (¬ (k < lead (byteAt bs 0)) ∨ ¬ (k < bs.length) ∨ okAt bs k = false → nextN bs = k ∧ nextAll bs = ((k : Int) == (lead (byteAt bs 0) : Int))) := fun h => by
      have e : nextN bs = k := hs.out.trans (scan_out h)
      refine ⟨e, ?_⟩
      unfold nextAll; rw [e, Bool.eq_iff_iff]; simp; omega
    by_cases hlt2 : k < lead (byteAt bs 0)
    · by_cases hlen : k < bs.length
      · have ck : wr.cell? ⟨b, off + k, none⟩ = some (.int .u8 (byteAt bs k)) := (hB.cell (p := ⟨b, off + k, none⟩) (cell_lt (HC.out k hlen))).trans (HC.out k hlen)
        have ck0 : wr.cell? ⟨b, off, none⟩ = some (.int .u8 (byteAt bs 0)) := (hB.cell (p := ⟨b, off, none⟩) (cell_lt c0)).trans c0
        have hbk := byteAt_lt bs k
        by_cases hone : k = 1
        · subst hone
          have h2 := lead_two hlt2
          by_cases ho : okAt bs 1 = true
          · have hs2 : Hid (nextN bs = scan bs (lead (byteAt bs 0) - 2) 2) := hs.out.trans (scan_on hlt2 hlen ho)
            have SC : Hid (∀ w, Calls Tryd.prog 83 #[.int .u8 (byteAt bs 0), .int .u8 (byteAt bs 1)] w fun e w' => e = .returned (.bool true) ∧ w' = w) := fun w => by
              have := second_calls (byteAt bs 0) (byteAt bs 1) h2.1 h2.2 hbk w; rw [← okAt_one, ho] at this; exact this
            clear ho
            go_wp2
            go_quiet ((go_at_call 83; exact Calls.quiet_of_same (SC.out _)))
            go_wp2
            go_roundw
            case rel => exact ⟨2, by omega, by omega, by omega, by go_num, below_drewN hB _, hs2⟩
            case measure => simp [intOf]
          · have ho' : okAt bs 1 = false := by simpa using ho
            have E := fin.out (.inr (.inr ho'))
            have HE : Hid (nextN bs = 1 ∧ nextAll bs = (((1 : Nat) : Int) == (lead (byteAt bs 0) : Int))) := E
            have SC : Hid (∀ w, Calls Tryd.prog 83 #[.int .u8 (byteAt bs 0), .int .u8 (byteAt bs 1)] w fun e w' => e = .returned (.bool false) ∧ w' = w) := fun w => by
              have := second_calls (byteAt bs 0) (byteAt bs 1) h2.1 h2.2 hbk w; rw [← okAt_one, ho'] at this; exact this
            clear ho E ho'
            go_wp2
            go_quiet ((go_at_call 83; exact Calls.quiet_of_same (SC.out _)))
            go_wp2
            go_ret2
            exact ⟨ret_good (by rw [HE.out.1]; rfl) (by rw [HE.out.2]; rfl), below_drewN hB _⟩
        · have hne : ((k : Int) == 1) = false := beq_eq_false_iff_ne.2 (by omega)
          have hgt : (1 : Int) < (k : Int) := by omega
          by_cases hlo : (byteAt bs k : Int) < 128
          · have E := fin.out (.inr (.inr (by rw [okAt_two bs k hone]; simp; omega)))
            have HE : Hid (nextN bs = k ∧ nextAll bs = ((k : Int) == (lead (byteAt bs 0) : Int))) := E
            clear E
            go_wp2
            go_quiet (fail)
            go_wp2
            go_ret2
            exact ⟨ret_good (by rw [HE.out.1]) (by rw [HE.out.2]), below_drewN hB _⟩
          · have hlo' : (128 : Int) ≤ (byteAt bs k : Int) := by omega
            have hdl : decide ((byteAt bs k : Int) < 128) = false := by simp; omega
            by_cases hhi : (191 : Int) < (byteAt bs k : Int)
            · have E := fin.out (.inr (.inr (by rw [okAt_two bs k hone]; simp; omega)))
              have HE : Hid (nextN bs = k ∧ nextAll bs = ((k : Int) == (lead (byteAt bs 0) : Int))) := E
              clear E
              go_wp2
              go_quiet (fail)
              go_wp2
              go_ret2
              exact ⟨ret_good (by rw [HE.out.1]) (by rw [HE.out.2]), below_drewN hB _⟩
            · have hs2 : Hid (nextN bs = scan bs (lead (byteAt bs 0) - (k + 1)) (k + 1)) := hs.out.trans (scan_on hlt2 hlen (by rw [okAt_two bs k hone]; simp; omega))
              have hdh : decide ((191 : Int) < (byteAt bs k : Int)) = false := by simp; omega
              go_wp2
              go_quiet (fail)
              go_wp2
              go_roundw
              case rel => exact ⟨k + 1, by omega, by omega, by omega, by go_num, below_drewN hB _, hs2⟩
              case measure => simp [intOf]; omega
      · have E := fin.out (.inr (.inl hlen))
        have HE : Hid (nextN bs = k ∧ nextAll bs = ((k : Int) == (lead (byteAt bs 0) : Int))) := E
        clear E
        go_wp2
        go_ret2
        exact ⟨ret_good (by rw [HE.out.1]) (by rw [HE.out.2]), hB⟩
    · have E := fin.out (.inl hlt2)
      have HE : Hid (nextN bs = k ∧ nextAll bs = ((k : Int) == (lead (byteAt bs 0) : Int))) := E
      clear E
      go_wp2
      go_ret2
      exact ⟨ret_good (by rw [HE.out.1]) (by rw [HE.out.2]), hB⟩

/-- **good of any bytes that are not empty.** -/
theorem good_calls (bs : List UInt8) (b off cap : Nat) (w : World) (h0 : 0 < bs.length) (hl : bs.length ≤ 140737488355328)
    (hc : ∀ j, j < bs.length → w.cell? ⟨b, off + j, none⟩ = some (.int .u8 (byteAt bs j))) :
    Calls Tryd.prog 67 #[.slice (some ⟨b, off, none⟩) bs.length cap] w fun e w' => e = .returned (.tuple #[.int .i64 (glen bs), .bool (nextAll bs)]) ∧ Below w.heap.size w w' := by
  by_cases hn : lead (byteAt bs 0) = 0
  · have e1 : glen bs = 0 := by unfold glen; rw [if_pos hn]
    have e2 : nextAll bs = false := by unfold nextAll; rw [nextN_zero bs hn, hn]; rfl
    rw [e1, e2]
    exact good_zero bs b off cap w (by omega) hn (hc 0 h0)
  · have e1 : glen bs = nextN bs := by unfold glen nextN; rw [if_neg hn, if_neg hn]
    rw [e1]
    exact good_pos bs b off cap w (by omega) (by omega) hn hc
theorem good_at (bs : List UInt8) (b off cap k : Nat) (w : World) (h0 : k < bs.length) (hl : bs.length ≤ 140737488355328)
    (hc : ∀ j, j < bs.length → w.cell? ⟨b, off + j, none⟩ = some (.int .u8 (byteAt bs j))) :
    Calls Tryd.prog 67 #[.slice (some ⟨b, off + k, none⟩) (bs.length - k) (cap - k)] w fun e w' => e = .returned (.tuple #[.int .i64 (glen (bs.drop k)), .bool (nextAll (bs.drop k))]) ∧ Below w.heap.size w w' := by
  have h := good_calls (bs.drop k) b (off + k) (cap - k) w (by simp; omega) (by simp; omega) (fun j hj => by rw [byteAt_drop, Nat.add_assoc]; exact hc (k + j) (by simp at hj; omega))
  rw [List.length_drop] at h
  exact h

end Go.Proofs.YtnnajpdliokodaaDoor.U
