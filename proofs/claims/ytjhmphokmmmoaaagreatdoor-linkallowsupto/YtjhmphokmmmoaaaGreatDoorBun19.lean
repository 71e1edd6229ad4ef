/- What is proved here: laws and contracts of LpAllow, LkAllow, one behind the other (each says its own). -/
import Derived.Test.YtjhmphokmmmoaaaGreatDoorLpChk
import Derived.Test.YtjhmphokmmmoaaaGreatDoorBun10
import Derived.Test.YtjhmphokmmmoaaaGreatDoorLkChk
/- What is proved here: the contracts of link.Allowed and of what it calls: is a link's scheme one of some, or may it go without one? -/
namespace Go.Proofs.YtjhmphokmmmoaaaGreatDoor.L
open Go.RowKit Go.Shelf Go.Proofs.YtjhmphokmmmoaaaGreatDoor.N Go.Proofs.YtjhmphokmmmoaaaGreatDoor.U

/-- Texts that lie one behind the other, wherever that is; of no texts nothing is said. -/
def TextsAt (w : World) (a : Option Addr) (L : List (List UInt8)) : Prop := ∀ j, j < L.length → ∃ b off, a = some ⟨b, off, none⟩ ∧ w.cell? ⟨b, off + j, none⟩ = some (.string ⟨(L.getD j []).toArray⟩)
theorem TextsAt.below {w w' : World} {a : Option Addr} {L : List (List UInt8)} (h : TextsAt w a L) (hb : Below w.heap.size w w') : TextsAt w' a L := fun j hj => by
  obtain ⟨b, off, e, hc⟩ := h j hj
  exact ⟨b, off, e, (hb.cell (p := ⟨b, off + j, none⟩) (cell_lt hc)).trans hc⟩
/-- What Allowed answers. -/
def allowV (L : List (List UInt8)) (x : List UInt8) (rel : Bool) : Value :=
  if L.all checkOk then (match schemeL x with | none => .tuple #[.bool rel, .int .i64 0] | some s => .tuple #[.bool (L.contains s), .int .i64 0]) else .tuple #[.bool false, .int .i64 120]
set_option maxRecDepth 100000 in
set_option maxHeartbeats 1000000 in
theorem closure_calls (x s : List UInt8) (B : Nat) (w : World) (hc : w.cell? ⟨B, 0, none⟩ = some (.string ⟨s.toArray⟩)) : Calls Tryz.prog 13 #[.string ⟨x.toArray⟩, .pointer (some ⟨B, 0, none⟩)] w fun e w' => e = .returned (.bool (x == s)) ∧ w' = w := by
  go_enter Tryz.func13, Tryz.ntmps13
  go_wp2
  go_ret
  exact ⟨rfl, rfl⟩
/-- Where the first one stands; -1: nowhere. -/
def findZ (L : List (List UInt8)) (s : List UInt8) : Int := if L.contains s then ((L.takeWhile fun x => !(x == s)).length : Int) else -1
theorem find_at (L : List (List UInt8)) (s : List UInt8) (k : Nat) (hk : k < L.length) (h : (L.getD k [] == s) = true) : L.contains s = true := by
  have e : L.getD k [] = s := by simpa using h
  have e2 : L.getD k [] = L[k] := by simp [hk]
  rw [List.contains_eq_mem, decide_eq_true_iff, ← e, e2]
  exact List.getElem_mem hk
theorem find_no (L : List (List UInt8)) (s : List UInt8) (hp : ∀ j, j < L.length → (L.getD j [] == s) = false) : L.contains s = false := by
  rw [List.contains_eq_mem, decide_eq_false_iff_not]
  intro hm
  obtain ⟨j, hj, e⟩ := List.getElem_of_mem hm
  have h := hp j hj
  have e2 : L.getD j [] = s := by simp [hj, e]
  rw [e2] at h
  simp at h
set_option maxRecDepth 100000 in
set_option maxHeartbeats 2000000 in
theorem indexFunc_calls (L : List (List UInt8)) (s : List UInt8) (a : Option Addr) (cap B : Nat) (w : World) (hL : TextsAt w a L) (hl : L.length ≤ 100000000) (_hcap : L.length ≤ cap) (hc : w.cell? ⟨B, 0, none⟩ = some (.string ⟨s.toArray⟩)) :
    Calls Tryz.prog 28 #[.slice a L.length cap, .func (.func 13) #[] #[.pointer (some ⟨B, 0, none⟩)]] w fun e w' => (∃ z : Int, e = .returned (.int .i64 z) ∧ decide (z ≥ 0) = L.contains s) ∧ w' = w := by
  have HLT := hid_of hL
  clear hL
  go_enter Tryz.func28, Tryz.ntmps28
  go_wp2_with fail
  go_loopw [8] (fun vi wr => ∃ k : Nat, k ≤ L.length ∧ vi = .int .i64 k ∧ wr = w ∧ Hid (∀ j, j < k → (L.getD j [] == s) = false)) (fun vi _ => L.length - (intOf vi).toNat)
  case atStart => exact ⟨0, by omega, rfl, by trivial, fun j hj => by omega⟩
  case round =>
    obtain ⟨k, hk, rfl, hwr, hP⟩ := hrel
    obtain rfl : w = wr := hwr.symm
    clear hwr
    by_cases hlt : k < L.length
    · obtain ⟨b, off, rfl, hcell⟩ := HLT.out k hlt
      have HF := hid_of (find_at L s k hlt)
      obtain ⟨x, hx⟩ : ∃ x, L.getD k [] = x := ⟨_, rfl⟩
      rw [hx] at hcell HF
      have HX := hid_of hx
      have HC := hid_of (closure_calls x s B w hc)
      clear hx
      cases hb : (x == s) with
      | true =>
        rw [hb] at HC
        have HV := hid_of (HF.out hb)
        clear HF hb hP
        go_wp2_with (go_at_call 13; refine HC.out.mono ?_; rintro e w' ⟨rfl, hx⟩; obtain rfl : w = w' := hx.symm)
        go_ret
        exact ⟨⟨k, rfl, by rw [HV.out]; exact decide_eq_true (by omega)⟩, rfl⟩
      | false =>
        rw [hb] at HC
        have HP2 : Hid (∀ j, j < k + 1 → (L.getD j [] == s) = false) := fun j hj => by
          by_cases e : j = k
          · rw [e, HX.out]; exact hb
          · exact hP.out j (by omega)
        clear HF hb hP
        go_wp2_with (go_at_call 13; refine HC.out.mono ?_; rintro e w' ⟨rfl, hx⟩; obtain rfl : w = w' := hx.symm)
        exact ⟨⟨k + 1, by omega, by go_num, by trivial, HP2⟩, by simp [intOf]; omega⟩
    · obtain rfl : k = L.length := by omega
      have HV := hid_of (find_no L s hP.out)
      go_wp2
      go_ret
      exact ⟨⟨-1, rfl, by rw [HV.out]; rfl⟩, rfl⟩
set_option maxRecDepth 100000 in
set_option maxHeartbeats 2000000 in
theorem containsFunc_calls (L : List (List UInt8)) (s : List UInt8) (a : Option Addr) (cap B : Nat) (w : World) (hL : TextsAt w a L) (hl : L.length ≤ 100000000) (hcap : L.length ≤ cap) (hc : w.cell? ⟨B, 0, none⟩ = some (.string ⟨s.toArray⟩)) :
    Calls Tryz.prog 12 #[.slice a L.length cap, .func (.func 13) #[] #[.pointer (some ⟨B, 0, none⟩)]] w fun e w' => e = .returned (.bool (L.contains s)) ∧ w' = w := by
  have HI := hid_of (indexFunc_calls L s a cap B w hL hl hcap hc)
  clear hL hc
  go_enter Tryz.func12, Tryz.ntmps12
  go_wp2_with fail
  (go_at_call 28; refine HI.out.mono ?_; rintro e w' ⟨⟨z, rfl, hz⟩, hx⟩; obtain rfl : w = w' := hx.symm)
  have HZ := hid_of hz
  clear hz
  go_wp2_with fail
  go_ret
  exact ⟨by rw [← HZ.out]; rfl, rfl⟩
set_option maxRecDepth 100000 in
set_option maxHeartbeats 4000000 in
/-- **Allowed.** -/
theorem allowed_calls (bs : List UInt8) (L : List (List UInt8)) (a : Option Addr) (cap : Nat) (rel : Bool) (w : World) (hT : Tb w) (hN : Nev w) (hL : TextsAt w a L) (hbs : bs.length ≤ 10000000000) (hl : L.length ≤ 100000000) (hcap : L.length ≤ cap) (hx : ∀ x ∈ L, x.length ≤ 1000000000) :
    Calls Tryz.prog 4 #[.string ⟨bs.toArray⟩, .slice a L.length cap, .bool rel] w fun e W' => e = .returned (allowV L (stripL bs) rel) ∧ Below w.heap.size w W' := by
  have HLT := hid_of hL
  have HT := hid_of hT
  have HN := hid_of hN
  have HX := hid_of hx
  clear hL hT hN hx
  go_enter Tryz.func4, Tryz.ntmps4
  go_wp2_with fail
  go_loopw [15] (fun vi wr => ∃ k : Nat, k ≤ L.length ∧ vi = .int .i64 k ∧ Hid (Below w.heap.size w wr) ∧ Hid ((L.take k).all checkOk = true)) (fun vi _ => L.length - (intOf vi).toNat)
  case atStart => exact ⟨0, by omega, rfl, Below.refl _ _, by show _ = _; simp⟩
  case round =>
    obtain ⟨k, hk, rfl, hB, hP⟩ := hrel
    have zr := hB.out.size
    by_cases hlt : k < L.length
    · obtain ⟨b, off, rfl, hcell⟩ := HLT.out.below hB.out k hlt
      have hxl : (L.getD k []).length ≤ 1000000000 := by
        have e : L.getD k [] = L[k] := by simp [hlt]
        rw [e]; exact HX.out _ (List.getElem_mem hlt)
      have HTK : Hid ((L.take (k + 1)).all checkOk = checkOk (L.getD k [])) := by
        show _ = _
        rw [List.take_succ_eq_append_getElem hlt, List.all_append, hP.out]
        simp [hlt]
      have HAL : Hid (checkOk (L.getD k []) = false → L.all checkOk = false) := fun h => by
        rw [List.all_eq_false]
        refine ⟨L[k], List.getElem_mem hlt, ?_⟩
        have e : L.getD k [] = L[k] := by simp [hlt]
        rw [← e, h]; decide
      obtain ⟨x, hx⟩ : ∃ x, L.getD k [] = x := ⟨_, rfl⟩
      rw [hx] at hcell hxl HTK HAL
      have HC := hid_of (check_calls x wr (HN.out.below hB.out) hxl)
      have HCZ : Hid (checkZ x = if checkOk x then 0 else 120) := rfl
      clear hx
      cases hb : checkOk x with
      | true =>
        rw [hb] at HCZ HTK
        have e0 : checkZ x = 0 := HCZ.out
        rw [e0] at HC
        clear e0 HCZ HAL hb hP
        go_wp2_with (go_at_call 10; refine HC.out.mono ?_; rintro e w' ⟨rfl, hbc⟩)
        exact ⟨⟨k + 1, by omega, by go_num, hB.out.trans (hbc.mono zr), HTK⟩, by simp [intOf]; omega⟩
      | false =>
        rw [hb] at HCZ
        have e0 : checkZ x = 120 := HCZ.out
        rw [e0] at HC
        have HV : Hid (allowV L (stripL bs) rel = .tuple #[.bool false, .int .i64 120]) := by
          show _ = _
          unfold allowV
          rw [HAL.out hb]; rfl
        clear e0 HCZ HAL hb hP HTK
        go_wp2_with (go_at_call 10; refine HC.out.mono ?_; rintro e w' ⟨rfl, hbc⟩)
        go_ret2
        exact ⟨by rw [HV.out]; rfl, hB.out.trans (hbc.mono zr)⟩
    · obtain rfl : k = L.length := by omega
      have HALL : Hid (L.all checkOk = true) := by have := hP.out; rw [List.take_length] at this; exact this
      have HS := hid_of (scheme_calls bs wr (HT.out.below hB.out) hbs)
      have HLW := hid_of (HLT.out.below hB.out)
      clear hP
      cases hc : schemeL (stripL bs) with
      | none =>
        have e0 : schemeV (stripL bs) = .tuple #[.string ⟨#[]⟩, .bool false] := by
          unfold schemeL at hc
          unfold schemeV
          cases h : colonL (stripL bs) with
          | none => rfl
          | some n => rw [h] at hc; cases hc
        rw [e0] at HS
        have HV : Hid (allowV L (stripL bs) rel = .tuple #[.bool rel, .int .i64 0]) := by
          show _ = _
          unfold allowV
          rw [HALL.out, hc]; rfl
        clear hc e0
        go_wp2_with (go_at_call 11; refine HS.out.mono ?_; rintro e w' ⟨rfl, hbc⟩)
        go_ret2
        exact ⟨by rw [HV.out]; rfl, (hB.out.trans (hbc.mono zr)).alloc (by have := hbc.size; omega) _⟩
      | some s =>
        have e0 : schemeV (stripL bs) = .tuple #[.string ⟨s.toArray⟩, .bool true] := by
          unfold schemeL at hc
          unfold schemeV
          cases h : colonL (stripL bs) with
          | none => rw [h] at hc; cases hc
          | some n => rw [h] at hc; simp at hc; rw [← hc]
        rw [e0] at HS
        have HV : Hid (allowV L (stripL bs) rel = .tuple #[.bool (L.contains s), .int .i64 0]) := by
          show _ = _
          unfold allowV
          rw [HALL.out, hc]; rfl
        clear hc e0
        go_wp2_with fail
        (go_at_call 11; refine HS.out.mono ?_; rintro e w5 ⟨rfl, hbc⟩)
        have z5 := hbc.size
        have hba := (Below.refl w5.heap.size w5).alloc (Nat.le_refl _) (.cells #[.string ⟨s.toArray⟩] 9)
        have HCF := hid_of (containsFunc_calls L s a cap w5.heap.size (w5.alloc (.cells #[.string ⟨s.toArray⟩] 9)) ((HLW.out.below hbc).below hba) hl hcap (cell_made _ _ _))
        obtain ⟨cc, hcc⟩ : ∃ cc, L.contains s = cc := ⟨_, rfl⟩
        rw [hcc] at HCF HV
        clear hba hcc
        go_wp2_with fail
        (go_at_call 12; refine HCF.out.mono ?_; rintro e w' ⟨rfl, hx⟩; obtain rfl := hx)
        go_wp2_with fail
        go_ret2
        exact ⟨by rw [HV.out]; rfl, (hB.out.trans (hbc.mono zr)).alloc (by omega) _⟩
end Go.Proofs.YtjhmphokmmmoaaaGreatDoor.L

/- What is proved here: the contract of the document's Allows: is a link allowed where some schemes are, and what is wrong with the schemes. -/
namespace Go.Proofs.YtjhmphokmmmoaaaGreatDoor.L
open Go.RowKit Go.Shelf Go.Proofs.YtjhmphokmmmoaaaGreatDoor.N Go.Proofs.YtjhmphokmmmoaaaGreatDoor.U

set_option maxRecDepth 100000 in
set_option maxHeartbeats 4000000 in
/-- **Allows.** -/
theorem rallows_calls (bs : List UInt8) (L : List (List UInt8)) (a : Option Addr) (cap : Nat) (rel : Bool) (w : World) (hL : TextsAt w a L) (hbs : bs.length ≤ 10000000000) (hl : L.length ≤ 100000000) (hx : ∀ x ∈ L, x.length ≤ 1000000000) :
    Calls Tryz.prog 5 #[.string ⟨bs.toArray⟩, .slice a L.length cap, .bool rel] w fun e W' => e = .returned (allowV L (stripL bs) rel) ∧ Below w.heap.size w W' := by
  have HLT := hid_of hL
  have HX := hid_of hx
  clear hL hx
  go_enter Tryz.func5, Tryz.ntmps5
  go_wp2_with fail
  go_loopw [17] (fun vi wr => ∃ k : Nat, k ≤ L.length ∧ vi = .int .i64 k ∧ Hid (Below w.heap.size w wr) ∧ Hid ((L.take k).all checkOk = true)) (fun vi _ => L.length - (intOf vi).toNat)
  case atStart => exact ⟨0, by omega, rfl, Below.refl _ _, by show _ = _; simp⟩
  case round =>
    obtain ⟨k, hk, rfl, hB, hP⟩ := hrel
    have zr := hB.out.size
    by_cases hlt : k < L.length
    · obtain ⟨b, off, rfl, hcell⟩ := HLT.out.below hB.out k hlt
      have hxl : (L.getD k []).length ≤ 1000000000 := by
        have e : L.getD k [] = L[k] := by simp [hlt]
        rw [e]; exact HX.out _ (List.getElem_mem hlt)
      have HTK : Hid ((L.take (k + 1)).all checkOk = checkOk (L.getD k [])) := by
        show _ = _
        rw [List.take_succ_eq_append_getElem hlt, List.all_append, hP.out]
        simp [hlt]
      have HAL : Hid (checkOk (L.getD k []) = false → L.all checkOk = false) := fun h => by
        rw [List.all_eq_false]
        refine ⟨L[k], List.getElem_mem hlt, ?_⟩
        have e : L.getD k [] = L[k] := by simp [hlt]
        rw [← e, h]; decide
      obtain ⟨x, hx⟩ : ∃ x, L.getD k [] = x := ⟨_, rfl⟩
      rw [hx] at hcell hxl HTK HAL
      have HC := hid_of (rcheck_calls x wr (by omega))
      have HCZ : Hid (checkZ x = if checkOk x then 0 else 120) := rfl
      clear hx
      cases hb : checkOk x with
      | true =>
        rw [hb] at HCZ HTK
        have e0 : checkZ x = 0 := HCZ.out
        rw [e0] at HC
        clear e0 HCZ HAL hb hP
        go_wp2_with (go_at_call 14; refine HC.out.mono ?_; rintro e w' ⟨rfl, hbc⟩)
        exact ⟨⟨k + 1, by omega, by go_num, hB.out.trans (hbc.mono zr), HTK⟩, by simp [intOf]; omega⟩
      | false =>
        rw [hb] at HCZ
        have e0 : checkZ x = 120 := HCZ.out
        rw [e0] at HC
        have HV : Hid (allowV L (stripL bs) rel = .tuple #[.bool false, .int .i64 120]) := by
          show _ = _
          unfold allowV
          rw [HAL.out hb]; rfl
        clear e0 HCZ HAL hb hP HTK
        go_wp2_with (go_at_call 14; refine HC.out.mono ?_; rintro e w' ⟨rfl, hbc⟩)
        go_ret2
        exact ⟨by rw [HV.out]; rfl, hB.out.trans (hbc.mono zr)⟩
    · obtain rfl : k = L.length := by omega
      have HALL : Hid (L.all checkOk = true) := by have := hP.out; rw [List.take_length] at this; exact this
      have HS := hid_of (rscheme_calls bs wr hbs)
      have HLW := hid_of (HLT.out.below hB.out)
      clear hP
      cases hc : schemeL (stripL bs) with
      | none =>
        have e0 : schemeV (stripL bs) = .tuple #[.string ⟨#[]⟩, .bool false] := by
          unfold schemeL at hc
          unfold schemeV
          cases h : colonL (stripL bs) with
          | none => rfl
          | some n => rw [h] at hc; cases hc
        rw [e0] at HS
        have HV : Hid (allowV L (stripL bs) rel = .tuple #[.bool rel, .int .i64 0]) := by
          show _ = _
          unfold allowV
          rw [HALL.out, hc]; rfl
        clear hc e0
        go_wp2_with (go_at_call 15; refine HS.out.mono ?_; rintro e w' ⟨rfl, hbc⟩)
        go_ret2
        exact ⟨by rw [HV.out]; rfl, hB.out.trans (hbc.mono zr)⟩
      | some s =>
        have e0 : schemeV (stripL bs) = .tuple #[.string ⟨s.toArray⟩, .bool true] := by
          unfold schemeL at hc
          unfold schemeV
          cases h : colonL (stripL bs) with
          | none => rw [h] at hc; cases hc
          | some n => rw [h] at hc; simp at hc; rw [← hc]
        rw [e0] at HS
        have HV : Hid (allowV L (stripL bs) rel = .tuple #[.bool (L.contains s), .int .i64 0]) := by
          show _ = _
          unfold allowV
          rw [HALL.out, hc]; rfl
        clear hc e0
        go_wp2_with fail
        (go_at_call 15; refine HS.out.mono ?_; rintro e w5 ⟨rfl, hbc⟩)
        have HB5 := hid_of (hB.out.trans (hbc.mono zr))
        have HL5 := hid_of (HLW.out.below hbc)
        clear hbc HS HLW hB zr
        go_wp2_with fail
        go_loopw [37] (fun vi wr => ∃ k : Nat, k ≤ L.length ∧ vi = .int .i64 k ∧ wr = w5 ∧ Hid (∀ j, j < k → (L.getD j [] == s) = false)) (fun vi _ => L.length - (intOf vi).toNat)
        case atStart => exact ⟨0, by omega, rfl, by trivial, fun j hj => by omega⟩
        case round =>
          obtain ⟨k, hk, rfl, hwr, hP⟩ := hrel
          obtain rfl : w5 = wr := hwr.symm
          clear hwr
          by_cases hlt : k < L.length
          · obtain ⟨b, off, rfl, hcell⟩ := HL5.out k hlt
            have HF := hid_of (find_at L s k hlt)
            obtain ⟨x, hx⟩ : ∃ x, L.getD k [] = x := ⟨_, rfl⟩
            rw [hx] at hcell HF
            have HX2 := hid_of hx
            clear hx
            cases hb : (x == s) with
            | true =>
              have HV2 := hid_of (HF.out hb)
              clear HF hP
              go_wp2
              go_ret2
              exact ⟨by rw [HV.out, HV2.out]; rfl, HB5.out⟩
            | false =>
              have HP2 : Hid (∀ j, j < k + 1 → (L.getD j [] == s) = false) := fun j hj => by
                by_cases e : j = k
                · rw [e, HX2.out]; exact hb
                · exact hP.out j (by omega)
              clear HF hP
              go_wp2
              exact ⟨⟨k + 1, by omega, by go_num, by trivial, HP2⟩, by simp [intOf]; omega⟩
          · obtain rfl : k = L.length := by omega
            have HV2 := hid_of (find_no L s hP.out)
            go_wp2
            go_ret2
            exact ⟨by rw [HV.out, HV2.out]; rfl, HB5.out⟩
end Go.Proofs.YtjhmphokmmmoaaaGreatDoor.L
