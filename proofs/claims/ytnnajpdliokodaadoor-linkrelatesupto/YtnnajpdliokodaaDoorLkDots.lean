/- What is proved here: the document's Dots of layer 12, of a mended path. -/
import Derived.Test.YtnnajpdliokodaaDoorBun14
import Derived.Test.YtnnajpdliokodaaDoorLpDots
namespace Go.Proofs.YtnnajpdliokodaaDoor.L
open Go.RowKit Go.Shelf Go.Proofs.YtnnajpdliokodaaDoor.N Go.Proofs.YtnnajpdliokodaaDoor.U

theorem seg_up (i : List UInt8) (h0 : 0 < i.length) (hn : (i.getD 0 0 == 47) = false) : upToL [47] i = segN i := by
  cases i with
  | nil => simp at h0
  | cons c t =>
    have hc : (c == 47) = false := hn
    unfold segN
    rw [List.drop_one, List.tail_cons]
    unfold upToL
    rw [List.takeWhile_cons, if_pos (by simpa using hc), List.length_cons]
    omega
set_option maxRecDepth 100000 in
set_option maxHeartbeats 4000000 in
/-- **Dots.** -/
theorem rdots_calls (m : List UInt8) (w : World) (hss : m.length ≤ 40000000000) : Calls Tryd.prog 17 #[.string ⟨m.toArray⟩] w fun e W' => e = .returned (.string ⟨(dotsM m).toArray⟩) ∧ Below w.heap.size w W' := by
  have sm := arr_size m
  go_enter Tryd.func17, Tryd.ntmps17
  go_wp2_with fail
  go_loopw [0, 3] (fun vi vo wr => ∃ (i o : List UInt8), vi = .string ⟨i.toArray⟩ ∧ vo = .string ⟨o.toArray⟩ ∧ Hid (DotAt m i o) ∧ Hid (Below w.heap.size w wr)) (fun vi _ _ => strN vi)
  case atStart => exact ⟨m, [], rfl, rfl, ⟨rfl, by simp⟩, Below.refl _ _⟩
  case round =>
    obtain ⟨i, o, rfl, rfl, hD, hB⟩ := hrel
    have si := arr_size i
    have so := arr_size o
    have hle := hD.out.2
    have zr := hB.out.size
    by_cases h0 : i = []
    · subst h0
      have HV : Hid (o = dotsM m) := hD.out.1
      go_wp2
      go_ret
      exact ⟨by rw [← HV.out]; rfl, hB.out⟩
    · have hp : 0 < i.length := List.length_pos_iff.2 h0
      have hne : (i == []) = false := by simpa using h0
      clear h0
      cases x1 : ([46, 46, 47] : List UInt8).isPrefixOf i with
      | true =>
        have HN := hid_of (hD.out.next hp (i' := i.drop 3) (o' := o) (by unfold dotStep; rw [x1]; rfl))
        have hs3 := slice_l i 3 (prefix_len x1) 3 rfl
        go_wp2_with (first
          | (go_at_call 31; refine (begins_calls i _ wr (by omega) (by decide)).mono ?_; rintro e w' ⟨rfl, hx⟩; obtain rfl : wr = w' := hx.symm))
        exact ⟨⟨i.drop 3, o, rfl, rfl, HN.out.1, hB⟩, by have := HN.out.2; simp [strN, arr_size] at this ⊢; omega⟩
      | false =>
      cases x2 : ([46, 47] : List UInt8).isPrefixOf i with
      | true =>
        have HN := hid_of (hD.out.next hp (i' := i.drop 2) (o' := o) (by unfold dotStep; rw [x1, x2]; rfl))
        have hs3 := slice_l i 2 (prefix_len x2) 2 rfl
        go_wp2_with (first
          | (go_at_call 31; refine (begins_calls i _ wr (by omega) (by decide)).mono ?_; rintro e w' ⟨rfl, hx⟩; obtain rfl : wr = w' := hx.symm))
        exact ⟨⟨i.drop 2, o, rfl, rfl, HN.out.1, hB⟩, by have := HN.out.2; simp [strN, arr_size] at this ⊢; omega⟩
      | false =>
      cases x3 : ([47, 46, 47] : List UInt8).isPrefixOf i with
      | true =>
        have HN := hid_of (hD.out.next hp (i' := i.drop 2) (o' := o) (by unfold dotStep; rw [x1, x2, x3]; rfl))
        have hs3 := slice_l i 2 (by have := prefix_len x3; simp at this; omega) 2 rfl
        go_wp2_with (first
          | (go_at_call 31; refine (begins_calls i _ wr (by omega) (by decide)).mono ?_; rintro e w' ⟨rfl, hx⟩; obtain rfl : wr = w' := hx.symm))
        exact ⟨⟨i.drop 2, o, rfl, rfl, HN.out.1, hB⟩, by have := HN.out.2; simp [strN, arr_size] at this ⊢; omega⟩
      | false =>
      cases x4 : (i == [47, 46]) with
      | true =>
        have HN := hid_of (hD.out.next hp (i' := [47]) (o' := o) (by unfold dotStep; rw [x1, x2, x3, x4]; rfl))
        go_wp2_with (first
          | (go_at_call 31; refine (begins_calls i _ wr (by omega) (by decide)).mono ?_; rintro e w' ⟨rfl, hx⟩; obtain rfl : wr = w' := hx.symm))
        exact ⟨⟨[47], o, rfl, rfl, HN.out.1, hB⟩, by have := HN.out.2; simp [strN, arr_size] at this ⊢; omega⟩
      | false =>
      have hcs : (∃ j, ([47, 46, 46, 47] : List UInt8).isPrefixOf i = true ∧ (i == [47, 46, 46]) = false ∧ dotStep i o = (j, cutLast o) ∧ j = i.drop 3 ∧ 3 ≤ i.length) ∨ (([47, 46, 46, 47] : List UInt8).isPrefixOf i = false ∧ (i == [47, 46, 46]) = true ∧ dotStep i o = ([47], cutLast o)) ∨ (([47, 46, 46, 47] : List UInt8).isPrefixOf i = false ∧ (i == [47, 46, 46]) = false) := by
        cases x5 : ([47, 46, 46, 47] : List UInt8).isPrefixOf i with
        | true =>
          left
          have hl := prefix_len x5
          refine ⟨_, rfl, ?_, by unfold dotStep; rw [x1, x2, x3, x4, x5]; rfl, rfl, by simp at hl; omega⟩
          rw [beq_eq_false_iff_ne]; rintro rfl; simp at hl
        | false =>
          cases x6 : (i == [47, 46, 46]) with
          | true => exact .inr (.inl ⟨rfl, rfl, by unfold dotStep; rw [x1, x2, x3, x4, x5, x6]; rfl⟩)
          | false => exact .inr (.inr ⟨rfl, rfl⟩)
      rcases hcs with ⟨j, x5, x6, hst, hj, h3⟩ | ⟨x5, x6, hst⟩ | ⟨x5, x6⟩
      case inl =>
        subst hj
        have hs3 := slice_l i 3 h3 3 rfl
        have HN := hid_of (hD.out.next hp hst)
        clear hst
        go_wp2_with (first
          | (go_at_call 31; refine (begins_calls i _ wr (by omega) (by decide)).mono ?_; rintro e w' ⟨rfl, hx⟩; obtain rfl : wr = w' := hx.symm))
        go_loopw [4] (fun vn wr' => ∃ n : Nat, n ≤ o.length ∧ vn = .int .i64 n ∧ wr' = wr ∧ Hid (lastP (o.take n) = lastP o)) (fun vn _ => (intOf vn).toNat)
        case atStart => exact ⟨o.length, by omega, rfl, by trivial, by show _ = _; rw [List.take_length]⟩
        case round =>
          obtain ⟨n, hn, rfl, hwr, hP⟩ := hrel
          obtain rfl := hwr
          by_cases hz : n = 0
          · have HZ : Hid (cutLast o = []) := by
              show _ = _
              have : lastP o = 0 := by have := hP.out; rw [hz] at this; exact this.symm
              rw [lastP_cut, this]; rfl
            have hs9 := slice_h o 0 (by omega) 0 rfl
            subst hz
            go_wp2
            exact ⟨⟨i.drop 3, cutLast o, rfl, by rw [HZ.out], HN.out.1, hB⟩, by have := HN.out.2; simp [strN, arr_size] at this ⊢; omega⟩
          · obtain ⟨q, rfl⟩ : ∃ q, n = q + 1 := ⟨n - 1, by omega⟩
            obtain ⟨d, hd⟩ : ∃ d, o.getD q 0 = d := ⟨_, rfl⟩
            have hid := byte_at o q d (by omega) hd (q : Int) rfl
            have e9 : ((d.toNat : Int) != 47) = !(d == 47) := by rw [← eq_byte d 47]; rfl
            have et : o.take (q + 1) = o.take q ++ [d] := by
              rw [List.take_succ_eq_append_getElem (by omega), ← hd]; simp [show q < o.length by omega]
            have HS : Hid (lastP o = if d == 47 then q + 1 else lastP (o.take q)) := by
              have := hP.out
              rw [et, lastP_snoc, List.length_take, Nat.min_eq_left (by omega)] at this
              exact this.symm
            have g1 : decide (((q + 1 : Nat) : Int) > 0) = true := decide_eq_true (by omega)
            have g2 : ((q + 1 : Nat) : Int) - 1 = (q : Int) := by omega
            clear hd et hP
            cases hb : (d == 47) with
            | true =>
              rw [hb] at e9 HS
              have HC : Hid (cutLast o = o.take q) := by show _ = _; rw [lastP_cut, HS.out]; rfl
              have hs9 := slice_h o q (by omega) (q : Int) rfl
              go_wp2
              exact ⟨⟨i.drop 3, cutLast o, rfl, by rw [HC.out], HN.out.1, hB⟩, by have := HN.out.2; simp [strN, arr_size] at this ⊢; omega⟩
            | false =>
              rw [hb] at e9 HS
              go_wp2
              exact ⟨⟨q, by omega, by go_num, by trivial, HS.out.symm⟩, by simp [intOf]⟩
      case inr.inl =>
        have HN := hid_of (hD.out.next hp hst)
        clear hst
        go_wp2_with (first
          | (go_at_call 31; refine (begins_calls i _ wr (by omega) (by decide)).mono ?_; rintro e w' ⟨rfl, hx⟩; obtain rfl : wr = w' := hx.symm))
        go_loopw [4] (fun vn wr' => ∃ n : Nat, n ≤ o.length ∧ vn = .int .i64 n ∧ wr' = wr ∧ Hid (lastP (o.take n) = lastP o)) (fun vn _ => (intOf vn).toNat)
        case atStart => exact ⟨o.length, by omega, rfl, by trivial, by show _ = _; rw [List.take_length]⟩
        case round =>
          obtain ⟨n, hn, rfl, hwr, hP⟩ := hrel
          obtain rfl := hwr
          by_cases hz : n = 0
          · have HZ : Hid (cutLast o = []) := by
              show _ = _
              have : lastP o = 0 := by have := hP.out; rw [hz] at this; exact this.symm
              rw [lastP_cut, this]; rfl
            have hs9 := slice_h o 0 (by omega) 0 rfl
            subst hz
            go_wp2
            exact ⟨⟨[47], cutLast o, rfl, by rw [HZ.out], HN.out.1, hB⟩, by have := HN.out.2; simp [strN, arr_size] at this ⊢; omega⟩
          · obtain ⟨q, rfl⟩ : ∃ q, n = q + 1 := ⟨n - 1, by omega⟩
            obtain ⟨d, hd⟩ : ∃ d, o.getD q 0 = d := ⟨_, rfl⟩
            have hid := byte_at o q d (by omega) hd (q : Int) rfl
            have e9 : ((d.toNat : Int) != 47) = !(d == 47) := by rw [← eq_byte d 47]; rfl
            have et : o.take (q + 1) = o.take q ++ [d] := by
              rw [List.take_succ_eq_append_getElem (by omega), ← hd]; simp [show q < o.length by omega]
            have HS : Hid (lastP o = if d == 47 then q + 1 else lastP (o.take q)) := by
              have := hP.out
              rw [et, lastP_snoc, List.length_take, Nat.min_eq_left (by omega)] at this
              exact this.symm
            have g1 : decide (((q + 1 : Nat) : Int) > 0) = true := decide_eq_true (by omega)
            have g2 : ((q + 1 : Nat) : Int) - 1 = (q : Int) := by omega
            clear hd et hP
            cases hb : (d == 47) with
            | true =>
              rw [hb] at e9 HS
              have HC : Hid (cutLast o = o.take q) := by show _ = _; rw [lastP_cut, HS.out]; rfl
              have hs9 := slice_h o q (by omega) (q : Int) rfl
              go_wp2
              exact ⟨⟨[47], cutLast o, rfl, by rw [HC.out], HN.out.1, hB⟩, by have := HN.out.2; simp [strN, arr_size] at this ⊢; omega⟩
            | false =>
              rw [hb] at e9 HS
              go_wp2
              exact ⟨⟨q, by omega, by go_num, by trivial, HS.out.symm⟩, by simp [intOf]⟩
      case inr.inr =>
        cases x7 : (i == [46]) with
        | true =>
          have HN := hid_of (hD.out.next hp (i' := []) (o' := o) (by unfold dotStep; rw [x1, x2, x3, x4, x5, x6, x7]; rfl))
          go_wp2_with (first
          | (go_at_call 31; refine (begins_calls i _ wr (by omega) (by decide)).mono ?_; rintro e w' ⟨rfl, hx⟩; obtain rfl : wr = w' := hx.symm))
          exact ⟨⟨[], o, rfl, rfl, HN.out.1, hB⟩, by have := HN.out.2; simp [strN, arr_size] at this ⊢; omega⟩
        | false =>
        cases x8 : (i == [46, 46]) with
        | true =>
          have HN := hid_of (hD.out.next hp (i' := []) (o' := o) (by unfold dotStep; rw [x1, x2, x3, x4, x5, x6, x7, x8]; rfl))
          go_wp2_with (first
          | (go_at_call 31; refine (begins_calls i _ wr (by omega) (by decide)).mono ?_; rintro e w' ⟨rfl, hx⟩; obtain rfl : wr = w' := hx.symm))
          exact ⟨⟨[], o, rfl, rfl, HN.out.1, hB⟩, by have := HN.out.2; simp [strN, arr_size] at this ⊢; omega⟩
        | false =>
          have hsg := segN_le i hp
          obtain ⟨n, hn⟩ : ∃ n, segN i = n := ⟨_, rfl⟩
          have HN := hid_of (hD.out.next hp (i' := i.drop n) (o' := o ++ i.take n) (by unfold dotStep; rw [x1, x2, x3, x4, x5, x6, x7, x8, hn]; rfl))
          have hup : (upToL [47] (i.drop 1) : Int) = (n : Int) - 1 := by rw [← hn]; unfold segN; omega
          rw [hn] at hsg
          have hs1 := slice_l i 1 (by omega) 1 rfl
          have hs2 := slice_h i n hsg (n : Int) rfl
          have hs3 := slice_l i n hsg (n : Int) rfl
          have hn1 : (1 : Int) + ((n : Int) - 1) = (n : Int) := by omega
          have hcat := cat_text o (i.take n)
          have stk := arr_size (i.take n)
          have hlt : (i.take n).length = n := by simp; omega
          rw [hlt] at stk
          obtain ⟨c0, hc0⟩ : ∃ c0, i.getD 0 0 = c0 := ⟨_, rfl⟩
          have hi0 := byte_at i 0 c0 hp hc0 0 rfl
          have e47 : ((c0.toNat : Int) != 47) = !(c0 == 47) := by rw [← eq_byte c0 47]; rfl
          have HU1 : Hid (∀ W, Calls Tryd.prog 32 #[.string ⟨(i.drop 1).toArray⟩, .string ⟨#[47]⟩] W fun e W' => e = .returned (.int .i64 ((n : Int) - 1)) ∧ Below W.heap.size W W') := fun W => by
            have h := upTo_calls (i.drop 1) [47] W (by simp; omega) (by decide)
            rw [hup] at h
            exact h
          have HU2 : Hid ((c0 == 47) = false → ∀ W, Calls Tryd.prog 32 #[.string ⟨i.toArray⟩, .string ⟨#[47]⟩] W fun e W' => e = .returned (.int .i64 (n : Int)) ∧ Below W.heap.size W W') := fun h0 W => by
            have h := upTo_calls i [47] W (by omega) (by decide)
            rw [seg_up i hp (by rw [hc0]; exact h0), hn] at h
            exact h
          obtain ⟨t1, ht1⟩ : ∃ t1, i.drop 1 = t1 := ⟨_, rfl⟩
          rw [ht1] at HU1 hs1
          obtain ⟨t2, ht2⟩ : ∃ t2, i.take n = t2 := ⟨_, rfl⟩
          rw [ht2] at hs2 hcat HN stk
          clear hn hup ht1 hc0 hlt ht2
          cases hb : (c0 == 47) with
          | true =>
            rw [hb] at e47
            clear HU2
            go_wp2_with (first
              | (go_at_call 31; refine (begins_calls i _ wr (by omega) (by decide)).mono ?_; rintro e w' ⟨rfl, hx⟩; obtain rfl : wr = w' := hx.symm)
              | (go_at_call 32; refine (HU1.out _).mono ?_; rintro e w' ⟨rfl, hbu⟩))
            exact ⟨⟨i.drop n, o ++ t2, rfl, rfl, HN.out.1, hB.out.trans (hbu.mono zr)⟩, by have := HN.out.2; simp [strN, arr_size] at this ⊢; omega⟩
          | false =>
            rw [hb] at e47
            have HU3 := hid_of (HU2.out hb)
            clear HU2
            go_wp2_with (go_at_call 31; refine (begins_calls i _ wr (by omega) (by decide)).mono ?_; rintro e w' ⟨rfl, hx⟩; obtain rfl : wr = w' := hx.symm)
            (go_at_call 32; refine (HU1.out _).mono ?_; rintro e w5 ⟨rfl, hbu⟩)
            go_wp2_with fail
            (go_at_call 32; refine (HU3.out _).mono ?_; rintro e w6 ⟨rfl, hbv⟩)
            have hb56 := hbu.trans (hbv.mono hbu.size)
            go_wp2_with fail
            exact ⟨⟨i.drop n, o ++ t2, rfl, rfl, HN.out.1, hB.out.trans (hb56.mono zr)⟩, by have := HN.out.2; simp [strN, arr_size] at this ⊢; omega⟩
end Go.Proofs.YtnnajpdliokodaaDoor.L
