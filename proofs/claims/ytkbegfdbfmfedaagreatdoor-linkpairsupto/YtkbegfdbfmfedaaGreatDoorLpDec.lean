/- What is proved here: the contract of link.Decode: a text with its percent escapes as what they say, mended. -/
import Derived.Lib.QuietBelow
import Derived.Laws.MakeOwn
import Derived.Test.YtkbegfdbfmfedaaGreatDoorLpEnc
namespace Go.Proofs.YtkbegfdbfmfedaaGreatDoor.L
open Go.RowKit Go.Shelf Go.Proofs.YtkbegfdbfmfedaaGreatDoor.N Go.Proofs.YtkbegfdbfmfedaaGreatDoor.U

/-- Decode's answer. -/
def decL (bs : List UInt8) : List UInt8 := mendL (decM (mendL bs))
theorem dec_step_esc (s : List UInt8) (k : Nat) (hk : k < s.length) (h : escB (s.drop k) = true) : decM (s.drop k) = hexV (s.getD (k + 1) 0) (s.getD (k + 2) 0) :: decM (s.drop (k + 3)) ∧ k + 2 < s.length ∧ hexC (s.getD (k + 1) 0) = true ∧ hexC (s.getD (k + 2) 0) = true := by
  have e : s.drop k = s.getD k 0 :: s.drop (k + 1) := by rw [List.drop_eq_getElem_cons hk]; simp [hk]
  rw [e] at h
  obtain ⟨a, b, r, hr, h37, ha, hb⟩ := esc_open _ _ h
  have hl : (s.drop (k + 1)).length = r.length + 2 := by rw [hr]; simp
  rw [List.length_drop] at hl
  have e1 : s.getD (k + 1) 0 = a := by
    have : (s.drop (k + 1)).getD 0 0 = a := by rw [hr]; rfl
    rw [← this]; simp [List.getD_eq_getElem?_getD]
  have e2 : s.getD (k + 2) 0 = b := by
    have : (s.drop (k + 1)).getD 1 0 = b := by rw [hr]; rfl
    rw [← this]; simp [List.getD_eq_getElem?_getD, Nat.add_assoc]
  rw [e, decM_esc _ _ h, e1, e2]
  refine ⟨?_, by omega, ha, hb⟩
  rw [List.drop_drop, hr]
  rfl
theorem dec_step_plain (s : List UInt8) (k : Nat) (hk : k < s.length) (h : escB (s.drop k) = false) : decM (s.drop k) = s.getD k 0 :: decM (s.drop (k + 1)) := by
  have e : s.drop k = s.getD k 0 :: s.drop (k + 1) := by rw [List.drop_eq_getElem_cons hk]; simp [hk]
  rw [e] at h ⊢
  exact decM_plain _ _ h
theorem or_tab : ∀ x y : Fin 16, bits .or .i64 ((x.val : Int) * 16) (y.val : Int) = 16 * (x.val : Int) + (y.val : Int) := by decide +kernel
theorem or_hex (x y : Nat) (hx : x < 16) (hy : y < 16) : bits .or .i64 ((x : Int) * 16) (y : Int) = 16 * (x : Int) + (y : Int) := or_tab ⟨x, hx⟩ ⟨y, hy⟩
theorem val_byte (c : UInt8) (W : World) : Calls Tryz.prog 109 #[.int .i32 (c.toNat : Int)] W fun e w' => e = .returned (.int .i64 (valueZ c.toNat)) ∧ w' = W := by
  have h := c.toNat_lt
  exact value_calls (c.toNat : Int) (by omega) (by omega) W
theorem hexV_nat (a b : UInt8) (ha : hexC a = true) (hb : hexC b = true) : ∃ x y : Nat, valueZ (a.toNat : Int) = x ∧ valueZ (b.toNat : Int) = y ∧ x < 16 ∧ y < 16 ∧ (hexV a b).toNat = 16 * x + y := by
  have key : ∀ c : UInt8, hexC c = true → ∃ x : Nat, valueZ (c.toNat : Int) = x ∧ x < 16 := fun c hc => by
    have hc' : 0 ≤ valueZ (c.toNat : Int) := by simpa [hexC] using hc
    have h2 : valueZ (c.toNat : Int) < 16 := by unfold valueZ; repeat' split <;> omega
    exact ⟨(valueZ (c.toNat : Int)).toNat, by omega, by omega⟩
  obtain ⟨x, hx, hx2⟩ := key a ha
  obtain ⟨y, hy, hy2⟩ := key b hb
  refine ⟨x, y, hx, hy, hx2, hy2, ?_⟩
  unfold hexV
  rw [hx, hy]
  simp
  omega
set_option maxRecDepth 100000 in
set_option maxHeartbeats 4000000 in
/-- **Decode.** -/
theorem decode_calls (bs : List UInt8) (w : World) (hT : Tb w) (hl : bs.length ≤ 1000000000) : Calls Tryz.prog 79 #[.string ⟨bs.toArray⟩] w fun e W' => e = .returned (.string ⟨(decL bs).toArray⟩) ∧ Below w.heap.size w W' := by
  obtain ⟨i0, hi0, hz0, hz1, hz2⟩ := info_parts infoB
  have HM : Hid (Calls Tryz.prog 25 #[.string ⟨bs.toArray⟩] w fun e W' => e = .returned (.string ⟨(mendL bs).toArray⟩) ∧ Below w.heap.size w W') := mend_calls bs w (by omega) hT
  have hml := mend_le bs
  have HDL : Hid (decL bs = mendL (decM (mendL bs))) := rfl
  obtain ⟨s, hS⟩ : ∃ s, mendL bs = s := ⟨_, rfl⟩
  rw [hS] at HM hml HDL
  have hss : s.length ≤ 4000000000 := by omega
  clear hS hml hl
  have ss := arr_size s
  have HT := hid_of hT
  clear hT
  go_enter Tryz.func79, Tryz.ntmps79
  go_wp2_with fail
  (go_at_call 25; refine HM.out.mono ?_; rintro e w1 ⟨rfl, hb1⟩)
  have z1 := hb1.size
  obtain ⟨w2, hmk, hown2, hgr2⟩ := run_make_own (P := Tryz.prog) w1 w.heap.size 45 5 i0 (.int .u8 0) 1 Tryz.underlying45 hi0 hz0 hz1 .i64 .i64 s.length (by rw [hz2]; omega) (by unfold maxLen; omega) z1
  have HOW2 := hid_of hown2
  have HB2 : Hid (Below w.heap.size w w2) := hb1.grown hgr2 z1 (fun k hk => by cases hk)
  clear hown2 hgr2
  go_wp2_with fail
  go_loopw [3, 4] (fun vo vi wr => ∃ (k : Nat) (o : List UInt8) (a : Option Addr) (cap : Nat), k ≤ s.length ∧ vi = .int .i64 k ∧ vo = .slice a o.length cap ∧ Hid (wr.ownsRow w.heap.size 5 1 (.slice a o.length cap) o.length (bvs o)) ∧ Hid (o ++ decM (s.drop k) = decM s) ∧ o.length ≤ k ∧ Hid (Below w.heap.size w wr)) (fun _ vi _ => s.length - (intOf vi).toNat)
  case atStart => exact ⟨0, [], some ⟨w1.heap.size, 0, none⟩, s.length, by omega, rfl, rfl, HOW2, rfl, by simp, HB2⟩
  case round =>
    clear hmk HOW2 HB2 hb1
    obtain ⟨k, o, a, cap, hk, rfl, rfl, hO, hD, hok, hB⟩ := hrel
    have zr := hB.out.size
    by_cases hlt : k < s.length
    · obtain ⟨c, hc⟩ : ∃ c, s.getD k 0 = c := ⟨_, rfl⟩
      have hix := byte_at s k c hlt hc (k : Int) rfl
      have hsl := slice_l s k (by omega) (k : Int) rfl
      have HES := hid_of (escaped_calls (s.drop k) wr (by simp; omega))
      cases he : escB (s.drop k) with
      | false =>
        have HD2 : Hid ((o ++ [c]) ++ decM (s.drop (k + 1)) = decM s) := by
          have h1 := hD.out
          rw [dec_step_plain s k hlt he, hc] at h1
          show _ = _
          rw [← h1]; simp
        rw [he] at HES
        have HOW := hid_of hO.out
        clear hc he hD hO
        go_wp2_with (first
          | (go_at_call 73; refine HES.out.mono ?_; rintro e w' ⟨rfl, hx⟩; obtain rfl : wr = w' := hx.symm)
          | (at_builtin; refine append_byte rfl _ _ rfl w.heap.size (.slice a o.length cap) o rfl (HOW.out.alloc _) wr.heap.size c rfl (cell_made _ _ _) (by omega) (by simp; omega) ?_; intro v' w4 hown' hgrow))
        obtain ⟨a2, cap2, rfl⟩ := U.owns_slice hown'
        go_wp2_with fail
        exact ⟨⟨k + 1, o ++ [c], a2, cap2, by omega, by go_num, rfl, hown', HD2, by simp; omega, (hB.out.alloc zr _).grown hgrow (by simp; omega) (fun j hj => (HOW.out.lt j hj).1)⟩, by simp [intOf]; omega⟩
      | true =>
        obtain ⟨hd1, hk2, hx1, hx2⟩ := dec_step_esc s k hlt he
        obtain ⟨c1, hc1⟩ : ∃ c, s.getD (k + 1) 0 = c := ⟨_, rfl⟩
        obtain ⟨c2, hc2⟩ : ∃ c, s.getD (k + 2) 0 = c := ⟨_, rfl⟩
        rw [hc1, hc2] at hd1
        rw [hc1] at hx1
        rw [hc2] at hx2
        have hi1 := byte_at s (k + 1) c1 (by omega) hc1 ((k : Int) + 1) (by omega)
        have hi2 := byte_at s (k + 2) c2 (by omega) hc2 ((k : Int) + 2) (by omega)
        obtain ⟨x, y, ex, ey, hx16, hy16, hxy⟩ := hexV_nat c1 c2 hx1 hx2
        have HD2 : Hid ((o ++ [hexV c1 c2]) ++ decM (s.drop (k + 3)) = decM s) := by
          have h1 := hD.out
          rw [hd1] at h1
          show _ = _
          rw [← h1]; simp
        have l1 := c1.toNat_lt
        have l2 := c2.toNat_lt
        have HV1 : Hid (∀ W, Calls Tryz.prog 109 #[.int .i32 (c1.toNat : Int)] W fun e w' => e = .returned (.int .i64 (x : Int)) ∧ w' = W) := by rw [← ex]; exact val_byte c1
        have HV2 : Hid (∀ W, Calls Tryz.prog 109 #[.int .i32 (c2.toNat : Int)] W fun e w' => e = .returned (.int .i64 (y : Int)) ∧ w' = W) := by rw [← ey]; exact val_byte c2
        rw [he] at HES
        have HOW := hid_of hO.out
        have HXY := hid_of hxy
        clear hc he hD hO hc1 hc2 hd1 hx1 hx2 ex ey hxy
        go_wp2_with fail
        (go_at_call 73; refine HES.out.mono ?_; rintro e w' ⟨rfl, hx⟩; obtain rfl : wr = w' := hx.symm)
        go_wp2_with fail
        have q1 : ∀ d os, Calls Tryz.prog 109 #[.int .i32 (c1.toNat : Int)] (Go.Sort.grow (redrawn wr d) os) fun e w'' => e = .returned (.int .i64 (x : Int)) ∧ ∃ p : Regrown, w'' = Go.Sort.grow (redrawn wr p.d) p.os := fun d os => Calls.regrown_of ((HV1.out _).mono (fun e w' ⟨h1, h2⟩ => ⟨h1, h2 ▸ Below.refl _ _⟩))
        have q2 : ∀ d os, Calls Tryz.prog 109 #[.int .i32 (c2.toNat : Int)] (Go.Sort.grow (redrawn wr d) os) fun e w'' => e = .returned (.int .i64 (y : Int)) ∧ ∃ p : Regrown, w'' = Go.Sort.grow (redrawn wr p.d) p.os := fun d os => Calls.regrown_of ((HV2.out _).mono (fun e w' ⟨h1, h2⟩ => ⟨h1, h2 ▸ Below.refl _ _⟩))
        have W1 : IntKind.i64.wrap ((k : Int) + 1) = (k : Int) + 1 := by rw [IntKind.wrap_i64]; omega
        have W2 : IntKind.i64.wrap ((k : Int) + 2) = (k : Int) + 2 := by rw [IntKind.wrap_i64]; omega
        have P1 : (0 : Int) ≤ (k : Int) + 1 := by omega
        have P2 : (0 : Int) ≤ (k : Int) + 2 := by omega
        have B1 : (k : Int) + 1 < (s.length : Int) := by omega
        have B2 : (k : Int) + 2 < (s.length : Int) := by omega
        have HVAL : Hid (bits .or .i64 ((x : Int) * 16) (y : Int) % 256 = ((hexV c1 c2).toNat : Int)) := by
          show _ = _
          rw [or_hex x y hx16 hy16, HXY.out]; omega
        refine wp_region_quiet_below (by kernel_rfl) (by kernel_rfl) ?_
        repeat (go_big_quiet_step (first | with_reducible exact q1 _ _ | with_reducible exact q2 _ _))
        refine wpQuiet_nil ?_
        intro W9 hw'
        obtain ⟨⟨dq, osq⟩, hw''⟩ := hw'
        have hb2 : Below wr.heap.size wr (Go.Sort.grow (redrawn wr dq) osq) := below_regrown wr dq osq
        rw [← hw''] at hb2
        rw [HVAL.out]
        have z9 := hb2.size
        have HOW9 := hid_of (owns_below HOW.out hb2)
        have HB9 := hid_of (hB.out.trans (hb2.mono zr))
        clear hw'' q1 q2 W1 W2 P1 P2 B1 B2 HVAL hi1 hi2 HV1 HV2 l1 l2 hix hsl hb2
        obtain ⟨d, hd⟩ : ∃ d, hexV c1 c2 = d := ⟨_, rfl⟩
        rw [hd] at HD2 ⊢
        clear hd HXY
        go_wp2_with (at_builtin; refine append_byte rfl _ _ rfl w.heap.size (.slice a o.length cap) o rfl (HOW9.out.alloc _) W9.heap.size d rfl (cell_made _ _ _) (by omega) (by simp; omega) ?_; intro v' w4 hown' hgrow)
        obtain ⟨a2, cap2, rfl⟩ := U.owns_slice hown'
        go_wp2_with fail
        exact ⟨⟨k + 3, o ++ [d], a2, cap2, by omega, by go_num, rfl, hown', HD2, by simp; omega, (HB9.out.alloc (by omega) _).grown hgrow (by simp; omega) (fun j hj => (HOW9.out.lt j hj).1)⟩, by simp [intOf]; omega⟩
    · obtain rfl : k = s.length := by omega
      have HV : Hid (o = decM s) := by have := hD.out; rw [List.drop_length, decM_nil, List.append_nil] at this; exact this
      have hcv := conv_bytes (hasB_owns hO.out).1
      have HMM : Hid (Calls Tryz.prog 25 #[.string ⟨o.toArray⟩] wr fun e W' => e = .returned (.string ⟨(mendL o).toArray⟩) ∧ Below wr.heap.size wr W') := mend_calls o wr (by omega) (HT.out.below hB.out)
      go_wp2_with (go_at_call 25; refine HMM.out.mono ?_; rintro e w' ⟨rfl, hb'⟩)
      go_ret
      exact ⟨by rw [HDL.out, ← HV.out]; rfl, hB.out.trans (hb'.mono zr)⟩
end Go.Proofs.YtkbegfdbfmfedaaGreatDoor.L
