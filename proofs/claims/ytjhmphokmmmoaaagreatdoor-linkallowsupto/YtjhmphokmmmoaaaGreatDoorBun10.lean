/- What is proved here: laws and contracts of LkKind, LkSch, one behind the other (each says its own). -/
import Derived.Test.YtjhmphokmmmoaaaGreatDoorBun9
/- What is proved here: the document's inner, colon, Scheme, slash, Kind and Check of layer 12. -/
namespace Go.Proofs.YtjhmphokmmmoaaaGreatDoor.L
open Go.RowKit Go.Shelf Go.Proofs.YtjhmphokmmmoaaaGreatDoor.N Go.Proofs.YtjhmphokmmmoaaaGreatDoor.U

theorem eq_byte (c z : UInt8) : ((c.toNat : Int) == (z.toNat : Int)) = (c == z) := by
  by_cases h : c = z
  · subst h; simp
  · have : c.toNat ≠ z.toNat := fun e => h (UInt8.toNat_inj.1 e)
    rw [beq_eq_false_iff_ne.2 h, beq_eq_false_iff_ne]
    omega
set_option maxRecDepth 100000 in
set_option maxHeartbeats 1000000 in
theorem inner_calls (c : UInt8) (w : World) : Calls Tryz.prog 29 #[.int .u8 c.toNat] w fun e w' => e = .returned (.bool (innerC c)) ∧ w' = w := by
  have hc := c.toNat_lt
  have hw : wrap32 (c.toNat : Int) = c.toNat := by unfold wrap32; omega
  have e1 : ((c.toNat : Int) == 43) = (c == 43) := eq_byte c 43
  have e2 : ((c.toNat : Int) == 45) = (c == 45) := eq_byte c 45
  have e3 : ((c.toNat : Int) == 46) = (c == 46) := eq_byte c 46
  have HL := hid_of (rletter_calls (c.toNat : Int) w)
  have HD := hid_of (rdigit_calls (c.toNat : Int) w)
  have HE : Hid (innerC c = (letterZ c.toNat || digitZ c.toNat || c == 43 || c == 45 || c == 46)) := rfl
  generalize letterZ (c.toNat : Int) = b1 at *
  generalize digitZ (c.toNat : Int) = b2 at *
  generalize (c == 43) = b3 at *
  generalize (c == 45) = b4 at *
  generalize (c == 46) = b5 at *
  cases b1 <;> cases b2 <;> cases b3 <;> cases b4
  all_goals
    go_enter Tryz.func29, Tryz.ntmps29
    go_wp2_with (first
      | (go_at_call 46; refine HL.out.mono ?_; rintro e w' ⟨rfl, hx⟩; obtain rfl : w = w' := hx.symm)
      | (go_at_call 51; refine HD.out.mono ?_; rintro e w' ⟨rfl, hx⟩; obtain rfl : w = w' := hx.symm))
    go_ret
    exact ⟨by rw [HE.out]; rfl, rfl⟩
/-- Where the : stands, as the document tells it. -/
def colonZ (l : List UInt8) : Int := match colonL l with | some n => n | none => -1
set_option maxRecDepth 100000 in
set_option maxHeartbeats 2000000 in
theorem colon_calls (l : List UInt8) (w : World) (hl : l.length ≤ 1000000000000) : Calls Tryz.prog 23 #[.string ⟨l.toArray⟩] w fun e w' => e = .returned (.int .i64 (colonZ l)) ∧ w' = w := by
  have sl := arr_size l
  by_cases h0 : l = []
  · subst h0
    go_enter Tryz.func23, Tryz.ntmps23
    go_wp2
    go_ret
    exact ⟨rfl, rfl⟩
  · have hp : 0 < l.length := List.length_pos_iff.2 h0
    have hne : (l == []) = false := by simpa using h0
    obtain ⟨c0, hc0⟩ : ∃ c0, l.getD 0 0 = c0 := ⟨_, rfl⟩
    have hix := byte_at l 0 c0 hp hc0 0 rfl
    have hcl := c0.toNat_lt
    have hw : wrap32 (c0.toNat : Int) = c0.toNat := by unfold wrap32; omega
    have HLE := hid_of (rletter_calls (c0.toNat : Int) w)
    have HC0 := hid_of hc0
    clear hc0 h0
    cases hlet : letterZ (c0.toNat : Int) with
    | false =>
      have HZ : Hid (colonZ l = -1) := by show _ = _; unfold colonZ colonL; rw [HC0.out, hlet]; rfl
      rw [hlet] at HLE
      clear hlet
      go_enter Tryz.func23, Tryz.ntmps23
      go_wp2_with (go_at_call 46; refine HLE.out.mono ?_; rintro e w' ⟨rfl, hx⟩; obtain rfl : w = w' := hx.symm)
      go_ret
      exact ⟨by rw [HZ.out]; rfl, rfl⟩
    | true =>
      have HCL : Hid (colonL l = colonF l) := by show _ = _; unfold colonL; rw [HC0.out, hlet]; rfl
      rw [hlet] at HLE
      clear hlet
      go_enter Tryz.func23, Tryz.ntmps23
      go_wp2_with (go_at_call 46; refine HLE.out.mono ?_; rintro e w' ⟨rfl, hx⟩; obtain rfl : w = w' := hx.symm)
      clear hix
      go_loopw [15] (fun vi wr => ∃ k : Nat, k ≤ l.length ∧ vi = .int .i64 k ∧ wr = w ∧ Hid (∀ j, j < k → (l.getD j 0 == 58) = false ∧ innerC (l.getD j 0) = true)) (fun vi _ => l.length - (intOf vi).toNat)
      case atStart => exact ⟨0, by omega, rfl, by trivial, fun j hj => by omega⟩
      case round =>
        obtain ⟨k, hk, rfl, hwr, hP⟩ := hrel
        obtain rfl : w = wr := hwr.symm
        clear hwr
        by_cases hlt : k < l.length
        · obtain ⟨c, hc⟩ : ∃ c, l.getD k 0 = c := ⟨_, rfl⟩
          have hik := byte_at l k c hlt hc (k : Int) rfl
          have HIC := hid_of (inner_calls c w)
          have HC := hid_of hc
          have e58 : ((c.toNat : Int) == 58) = (c == 58) := eq_byte c 58
          clear hc
          cases h58 : (c == 58) with
          | true =>
            have HZ : Hid (colonZ l = k) := by show _ = _; unfold colonZ; rw [HCL.out, colonF_at l k hlt hP.out (by rw [HC.out]; exact h58)]
            rw [h58] at e58
            clear h58
            go_wp2
            go_ret
            exact ⟨by rw [HZ.out]; rfl, rfl⟩
          | false =>
            cases hin : innerC c with
            | true =>
              have HP2 : Hid (∀ j, j < k + 1 → (l.getD j 0 == 58) = false ∧ innerC (l.getD j 0) = true) := fun j hj => by
                by_cases e : j = k
                · rw [e, HC.out]; exact ⟨h58, hin⟩
                · exact hP.out j (by omega)
              rw [h58] at e58
              rw [hin] at HIC
              clear h58 hin
              go_wp2_with (go_at_call 29; refine HIC.out.mono ?_; rintro e w' ⟨rfl, hx⟩; obtain rfl : w = w' := hx.symm)
              exact ⟨⟨k + 1, by omega, by go_num, by trivial, HP2⟩, by simp [intOf]; omega⟩
            | false =>
              have HZ : Hid (colonZ l = -1) := by show _ = _; unfold colonZ; rw [HCL.out, colonF_no l k hlt hP.out (by rw [HC.out]; exact h58) (by rw [HC.out]; exact hin)]
              rw [h58] at e58
              rw [hin] at HIC
              clear h58 hin
              go_wp2_with (go_at_call 29; refine HIC.out.mono ?_; rintro e w' ⟨rfl, hx⟩; obtain rfl : w = w' := hx.symm)
              go_ret
              exact ⟨by rw [HZ.out]; rfl, rfl⟩
        · obtain rfl : k = l.length := by omega
          have HZ : Hid (colonZ l = -1) := by show _ = _; unfold colonZ; rw [HCL.out, colonF_all l hP.out]
          go_wp2
          go_ret
          exact ⟨by rw [HZ.out]; rfl, rfl⟩
end Go.Proofs.YtjhmphokmmmoaaaGreatDoor.L

/- What is proved here: the document's Scheme, Kind and Check of layer 12. -/
namespace Go.Proofs.YtjhmphokmmmoaaaGreatDoor.L
open Go.RowKit Go.Shelf Go.Proofs.YtjhmphokmmmoaaaGreatDoor.N Go.Proofs.YtjhmphokmmmoaaaGreatDoor.U

theorem strip_le (l : List UInt8) : (stripM l).length ≤ l.length := by
  unfold stripM
  have h1 := List.length_filter_le (fun c => !gapC c) ((l.dropWhile lowC).reverse.dropWhile lowC).reverse
  have h2 := (List.dropWhile_sublist lowC (l := (l.dropWhile lowC).reverse)).length_le
  have h3 := (List.dropWhile_sublist lowC (l := l)).length_le
  simp only [List.length_reverse] at h1 h2
  omega
/-- A link, stripped. -/
def stripL (bs : List UInt8) : List UInt8 := stripM (mendL bs)
theorem stripL_le (bs : List UInt8) : (stripL bs).length ≤ 4 * bs.length := by
  have h1 := strip_le (mendL bs)
  have h2 := mend_le bs
  unfold stripL
  omega
/-- What Scheme tells of a stripped text. -/
def schemeV (l : List UInt8) : Value := match colonL l with | some n => .tuple #[.string ⟨(lower (l.take n)).toArray⟩, .bool true] | none => .tuple #[.string ⟨#[]⟩, .bool false]
set_option maxRecDepth 100000 in
set_option maxHeartbeats 2000000 in
/-- **Scheme.** -/
theorem rscheme_calls (bs : List UInt8) (w : World) (hl : bs.length ≤ 10000000000) : Calls Tryz.prog 15 #[.string ⟨bs.toArray⟩] w fun e W' => e = .returned (schemeV (stripL bs)) ∧ Below w.heap.size w W' := by
  have HS : Hid (Calls Tryz.prog 22 #[.string ⟨bs.toArray⟩] w fun e W' => e = .returned (.string ⟨(stripL bs).toArray⟩) ∧ Below w.heap.size w W') := rstrip_calls bs w hl
  have hsl := stripL_le bs
  obtain ⟨l, hL⟩ : ∃ l, stripL bs = l := ⟨_, rfl⟩
  rw [hL] at HS hsl ⊢
  clear hL
  have HC := hid_of (fun W => colon_calls l W (by omega))
  cases hc : colonL l with
  | none =>
    have hz : colonZ l = -1 := by unfold colonZ; rw [hc]
    have HV : Hid (schemeV l = .tuple #[.string ⟨#[]⟩, .bool false]) := by show _ = _; unfold schemeV; rw [hc]
    rw [hz] at HC
    clear hc hz
    go_enter Tryz.func15, Tryz.ntmps15
    go_wp2_with fail
    (go_at_call 22; refine HS.out.mono ?_; rintro e w1 ⟨rfl, hb1⟩)
    go_wp2_with fail
    (go_at_call 23; refine (HC.out _).mono ?_; rintro e w2 ⟨rfl, hx⟩; obtain rfl : w1 = w2 := hx.symm)
    go_wp2_with fail
    go_ret2
    exact ⟨by rw [HV.out]; rfl, hb1⟩
  | some n =>
    have hn := colonL_lt hc
    have hz : colonZ l = n := by unfold colonZ; rw [hc]
    have HV : Hid (schemeV l = .tuple #[.string ⟨(lower (l.take n)).toArray⟩, .bool true]) := by show _ = _; unfold schemeV; rw [hc]
    rw [hz] at HC
    have hd : decide ((n : Int) < 0) = false := by simp
    have hs := slice_h l n (by omega) (n : Int) rfl
    have HLO := hid_of (fun W => rlower_calls ⟨(l.take n).toArray⟩ W (by rw [arr_size]; simp; omega))
    rw [arr_list] at HLO
    clear hc hz
    go_enter Tryz.func15, Tryz.ntmps15
    go_wp2_with fail
    (go_at_call 22; refine HS.out.mono ?_; rintro e w1 ⟨rfl, hb1⟩)
    go_wp2_with fail
    (go_at_call 23; refine (HC.out _).mono ?_; rintro e w2 ⟨rfl, hx⟩; obtain rfl : w1 = w2 := hx.symm)
    go_wp2_with fail
    (go_at_call 24; refine (HLO.out _).mono ?_; rintro e w3 ⟨rfl, hb3⟩)
    go_wp2_with fail
    go_ret2
    exact ⟨by rw [HV.out]; rfl, hb1.trans (hb3.mono hb1.size)⟩
end Go.Proofs.YtjhmphokmmmoaaaGreatDoor.L
