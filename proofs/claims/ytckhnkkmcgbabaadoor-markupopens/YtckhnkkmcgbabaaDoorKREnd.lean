/- What is proved here: the contracts of end and Whole of the document's own answer for layer 9. -/
import Derived.Test.YtckhnkkmcgbabaaDoorKRef
namespace Go.Proofs.YtckhnkkmcgbabaaDoor.K
open Go.RowKit Go.Shelf Go.Proofs.YtckhnkkmcgbabaaDoor.U

/-- What end answers. -/
def endV (bs : List UInt8) (o : Option (Nat × Nat)) : Value := match o with
  | some (i, n) => .tuple #[.int .i64 i, .int .i64 n, .bool true]
  | none => .tuple #[.int .i64 bs.length, .int .i64 bs.length, .bool false]
theorem at_data (s : ByteArray) (k : Nat) (h : k < s.size) : s[k] = s.data.toList.getD k 0 := by
  obtain ⟨⟨l⟩⟩ := s
  have : k < l.length := h
  simp [this]
  rfl
theorem run_byte {P : Program} (w : World) (t : TypeId) (s : ByteArray) (k : IntKind) (i : Int) (j : Nat) (c : UInt8) (h : P.underlying t = some .string) (hi : i = j) (hj : j < s.size) (hc : s.data.toList.getD j 0 = c) :
    (Instr.index t (.string s) (.int k i)).run P w = .ok (.int .u8 c.toNat) w := by
  subst hi
  rw [run_index_string w t s k j h, dif_pos ⟨by omega, by omega⟩, ← hc]
  have := at_data s j hj
  simp only [Int.toNat_natCast]
  rw [this]
theorem ret_is {u v : Value} (h : v = u) : Ending.returned u = .returned v := by rw [h]
theorem drop_head (bs : List UInt8) (k : Nat) (h : k < bs.length) : bs.drop k = bs[k] :: bs.drop (k + 1) := List.drop_eq_getElem_cons h

set_option maxRecDepth 100000 in
set_option maxHeartbeats 4000000 in
/-- **end**, of a comment. -/
theorem rend_comment (bs : List UInt8) (w : World) (hs : bs.length ≤ 100000000) :
    Calls Tryd.prog 25 #[.int .i64 0, .string ⟨bs.toArray⟩] w fun e w' => e = .returned (endV bs (endC bs)) ∧ Below w.heap.size w w' := by
  have hz1 := byteArr_size bs
  obtain ⟨p1, hp1⟩ : ∃ b, pfx [62] bs = b := ⟨_, rfl⟩
  obtain ⟨p2, hp2⟩ : ∃ b, pfx [45, 62] bs = b := ⟨_, rfl⟩
  have B1 : Hid (∀ w, Calls Tryd.prog 38 #[.string ⟨bs.toArray⟩, .string ⟨#[62]⟩] w fun e w' => e = .returned (.bool p1) ∧ Below w.heap.size w w') := fun w => by
    have h := begins_calls bs [62] w (by omega) (by simp)
    rw [hp1] at h
    exact h
  have B2 : Hid (∀ w, Calls Tryd.prog 38 #[.string ⟨bs.toArray⟩, .string ⟨#[45, 62]⟩] w fun e w' => e = .returned (.bool p2) ∧ Below w.heap.size w w') := fun w => by
    have h := begins_calls bs [45, 62] w (by omega) (by simp)
    rw [hp2] at h
    exact h
  have HE : Hid (endC bs = if p1 = true then some (0, 1) else if p2 = true then some (0, 2) else scanC bs 0) := by
    show endC bs = _
    unfold endC
    rw [hp1, hp2]
  clear hp1 hp2
  go_enter Tryd.func25, Tryd.ntmps25
  go_wp2_with fail
  (go_at_call 38; refine (B1.out _).mono ?_; rintro e w1 ⟨rfl, hb1⟩)
  cases p1 with
  | true =>
    go_wp2
    go_ret3
    exact ⟨ret_is (by rw [HE.out]; rfl), hb1⟩
  | false =>
    go_wp2_with fail
    (go_at_call 38; refine (B2.out _).mono ?_; rintro e w2 ⟨rfl, hb2⟩)
    have hB2 := hb1.trans (hb2.mono hb1.size)
    cases p2 with
    | true =>
      go_wp2
      go_ret3
      exact ⟨ret_is (by rw [HE.out]; rfl), hB2⟩
    | false =>
      have HE2 : Hid (endC bs = scanC bs 0) := HE.out
      clear HE B1 B2 hb1 hb2
      go_wp2_with fail
      go_loopw [7] (fun i wr => ∃ k : Nat, k ≤ bs.length ∧ i = .int .i64 k ∧ Hid (endC bs = scanC (bs.drop k) k) ∧ Below w.heap.size w wr) (fun i _ => bs.length - (intOf i).toNat)
      case atStart => exact ⟨0, by omega, rfl, HE2.out, hB2⟩
      case round =>
        obtain ⟨k, hk, rfl, hR, hB⟩ := hrel
        by_cases hlt : k < bs.length
        · have e1 := extract_eq bs k
          have hdl : (bs.drop k).length = bs.length - k := by simp
          obtain ⟨p3, hp3⟩ : ∃ b, pfx [45, 45, 62] (bs.drop k) = b := ⟨_, rfl⟩
          obtain ⟨p4, hp4⟩ : ∃ b, pfx [45, 45, 33, 62] (bs.drop k) = b := ⟨_, rfl⟩
          obtain ⟨D, hD⟩ : ∃ D, bs.drop k = D := ⟨_, rfl⟩
          have B3 : Hid (∀ w, Calls Tryd.prog 38 #[.string ⟨D.toArray⟩, .string ⟨#[45, 45, 62]⟩] w fun e w' => e = .returned (.bool p3) ∧ Below w.heap.size w w') := fun w => by
            have h := begins_calls D [45, 45, 62] w (by rw [← hD]; omega) (by simp)
            rw [← hD, hp3, hD] at h
            exact h
          have B4 : Hid (∀ w, Calls Tryd.prog 38 #[.string ⟨D.toArray⟩, .string ⟨#[45, 45, 33, 62]⟩] w fun e w' => e = .returned (.bool p4) ∧ Below w.heap.size w w') := fun w => by
            have h := begins_calls D [45, 45, 33, 62] w (by rw [← hD]; omega) (by simp)
            rw [← hD, hp4, hD] at h
            exact h
          have HR : Hid (endC bs = if p3 = true then some (k, k + 3) else if p4 = true then some (k, k + 4) else scanC (bs.drop (k + 1)) (k + 1)) := by
            show endC bs = _
            rw [hR.out]
            rw [drop_head bs k hlt] at hp3 hp4 ⊢
            rw [← hp3, ← hp4]
            conv => lhs; unfold scanC
          rw [hD] at e1
          have hs1 := hB.size
          clear hR hp3 hp4 hD hdl
          have hsl : ∀ w, (Instr.slice 9 (.string ⟨bs.toArray⟩) (some (.int .i64 k)) none none).run Tryd.prog w = .ok (.string ⟨D.toArray⟩) w := fun w => by
            rw [run_slice_string_l w 9 ⟨bs.toArray⟩ Tryd.underlying9 .i64 k (by omega) (by rw [hz1]; omega), hz1]
            exact congrArg (fun x => Result.ok (Value.string x) w) e1
          clear e1
          go_wp2_with fail
          (go_at_call 38; refine (B3.out _).mono ?_; rintro e w3 ⟨rfl, hb3⟩)
          have hB3 := hB.trans (hb3.mono hs1)
          cases p3 with
          | true =>
            go_wp2
            go_ret3
            exact ⟨ret_is (by rw [HR.out]; rfl), hB3⟩
          | false =>
            have hs3 := hB3.size
            go_wp2_with fail
            (go_at_call 38; refine (B4.out _).mono ?_; rintro e w4 ⟨rfl, hb4⟩)
            have hB4 := hB3.trans (hb4.mono hs3)
            cases p4 with
            | true =>
              go_wp2
              go_ret3
              exact ⟨ret_is (by rw [HR.out]; rfl), hB4⟩
            | false =>
              have HR2 : Hid (endC bs = scanC (bs.drop (k + 1)) (k + 1)) := HR.out
              clear HR B3 B4
              go_wp2_with fail
              go_roundw
              case rel => exact ⟨k + 1, by omega, by go_num, HR2, hB4⟩
              case measure => simp [intOf]; omega
        · obtain rfl : k = bs.length := by omega
          go_wp2
          go_ret3
          refine ⟨ret_is ?_, hB⟩
          rw [hR.out, List.drop_length]; rfl
set_option maxRecDepth 100000 in
set_option maxHeartbeats 4000000 in
/-- **end**, of anything else. -/
theorem rend_other (kind : Int) (hk0 : kind ≠ 0) (bs : List UInt8) (w : World) (hs : bs.length ≤ 100000000) :
    Calls Tryd.prog 25 #[.int .i64 kind, .string ⟨bs.toArray⟩] w fun e w' => e = .returned (endV bs (scanB bs 0)) ∧ Below w.heap.size w w' := by
  have hz1 := byteArr_size bs
  have t0 : (kind == 0) = false := by simpa using hk0
  go_enter Tryd.func25, Tryd.ntmps25
  go_wp2_with fail
  go_loopw [7] (fun i wr => ∃ k : Nat, k ≤ bs.length ∧ i = .int .i64 k ∧ Hid (scanB bs 0 = scanB (bs.drop k) k) ∧ Below w.heap.size w wr) (fun i _ => bs.length - (intOf i).toNat)
  case atStart => exact ⟨0, by omega, rfl, rfl, Below.refl _ _⟩
  case round =>
    obtain ⟨k, hk, rfl, hR, hB⟩ := hrel
    by_cases hlt : k < bs.length
    · obtain ⟨c, hc⟩ : ∃ c : UInt8, bs[k] = c := ⟨_, rfl⟩
      have hix : ∀ w, (Instr.index 9 (.string ⟨bs.toArray⟩) (.int .i64 k)).run Tryd.prog w = .ok (.int .u8 (c.toNat : Int)) w := fun w => by
        exact run_byte w 9 ⟨bs.toArray⟩ .i64 k k c Tryd.underlying9 rfl (by rw [hz1]; exact hlt) (by simp [hlt, hc])
      have HR : Hid (scanB bs 0 = if c = 62 then some (k, k + 1) else scanB (bs.drop (k + 1)) (k + 1)) := by
        show scanB bs 0 = _
        rw [hR.out, drop_head bs k hlt, hc]; rfl
      clear hR
      by_cases h62 : c = 62
      · have hb : (((c.toNat : Nat) : Int) == 62) = true := by rw [h62]; rfl
        clear hc
        go_wp2
        go_ret3
        exact ⟨ret_is (by rw [HR.out, if_pos h62]; rfl), hB⟩
      · have hb : (((c.toNat : Nat) : Int) == 62) = false := by
          have : c.toNat ≠ 62 := fun e => h62 (UInt8.toNat_inj.1 e)
          simp; omega
        have HR2 : Hid (scanB bs 0 = scanB (bs.drop (k + 1)) (k + 1)) := by show scanB bs 0 = _; rw [HR.out, if_neg h62]
        clear hc HR
        go_wp2
        go_roundw
        case rel => exact ⟨k + 1, by omega, by go_num, HR2, hB⟩
        case measure => simp [intOf]; omega
    · obtain rfl : k = bs.length := by omega
      go_wp2
      go_ret3
      refine ⟨ret_is ?_, hB⟩
      rw [hR.out, List.drop_length]; rfl
end Go.Proofs.YtckhnkkmcgbabaaDoor.K
