/- What is proved here: laws and contracts of LpEnc, LpDec, one behind the other (each says its own). -/
import Derived.Test.YtmfhhpacojodkaaGreatDoorBun11
import Derived.Test.YtmfhhpacojodkaaGreatDoorBun12
import Derived.Lib.QuietBelow
import Derived.Laws.MakeOwn
/- What is proved here: the contracts of link.turned, link.escaped, link.writeEscape and link.Encode: a text with percent escapes. -/
namespace Go.Proofs.YtmfhhpacojodkaaGreatDoor.L
open Go.RowKit Go.Shelf Go.Proofs.YtmfhhpacojodkaaGreatDoor.N Go.Proofs.YtmfhhpacojodkaaGreatDoor.U

def hexA : List UInt8 := [48, 49, 50, 51, 52, 53, 54, 55, 56, 57, 65, 66, 67, 68, 69, 70]
theorem hex_at (n : Nat) (h : n < 16) (i : Int) (hi : i = n) (w : World) : (Instr.index 9 (.string ⟨#[48, 49, 50, 51, 52, 53, 54, 55, 56, 57, 65, 66, 67, 68, 69, 70]⟩) (.int .u8 i)).run Tryz.prog w = .ok (.int .u8 (hexD n).toNat) w :=
  run_byte w 9 ⟨hexA.toArray⟩ .u8 i n (hexD n) Tryz.underlying9 hi (by rw [arr_size]; exact h) (by rw [arr_list]; rfl)
theorem mark_index : ∀ n : Fin 256, decide ((0 : Int) ≤ Lib.indexByte marks (UInt8.ofNat n.val)) = marks.contains (UInt8.ofNat n.val) := by decide +kernel
theorem mark_found (c : UInt8) : decide ((0 : Int) ≤ Lib.indexByte marks c) = marks.contains c := by
  have := mark_index ⟨c.toNat, c.toNat_lt⟩
  simp only [UInt8.ofNat_toNat] at this
  exact this
theorem index_calls (c : UInt8) (w : World) : Calls Tryz.prog 62 #[.string ⟨#[34, 60, 62, 92, 94, 96, 123, 124, 125]⟩, .int .u8 c.toNat] w fun e w' => e = .returned (.int .i64 (Lib.indexByte marks c)) ∧ w' = w := by
  have h := Any.strings_IndexByte Tryz.lays137 ⟨#[34, 60, 62, 92, 94, 96, 123, 124, 125]⟩ (c.toNat : Int) w
  rw [show ((c.toNat : Int).toNat.toUInt8) = c by simp] at h
  exact h
set_option maxRecDepth 100000 in
set_option maxHeartbeats 1000000 in
theorem turned_calls (c : UInt8) (w : World) : Calls Tryz.prog 72 #[.int .u8 c.toNat] w fun e w' => e = .returned (.bool (turnC c)) ∧ w' = w := by
  have hcl := c.toNat_lt
  have HI := hid_of (index_calls c w)
  have HF := hid_of (mark_found c)
  have d1 : decide ((c.toNat : Int) ≤ 32) = lowC c := by unfold lowC; exact decide_eq_decide.2 (by omega)
  have d1' : decide (c.toNat ≤ 32) = lowC c := rfl
  have d2 : decide ((c.toNat : Int) ≥ 127) = decide (127 ≤ c.toNat) := decide_eq_decide.2 (by omega)
  have HV : Hid (turnC c = (lowC c || decide (127 ≤ c.toNat) || marks.contains c)) := rfl
  obtain ⟨I, hI⟩ : ∃ I, Lib.indexByte marks c = I := ⟨_, rfl⟩
  rw [hI] at HI HF
  clear hI
  cases h1 : lowC c with
  | true =>
    rw [h1] at d1 d1' HV
    go_enter Tryz.func72, Tryz.ntmps72
    go_wp2
    go_ret
    exact ⟨by rw [HV.out]; rfl, rfl⟩
  | false =>
    rw [h1] at d1 d1' HV
    clear h1
    cases h2 : decide (127 ≤ c.toNat) with
    | true =>
      rw [h2] at d2 HV
      go_enter Tryz.func72, Tryz.ntmps72
      go_wp2
      go_ret
      exact ⟨by rw [HV.out]; rfl, rfl⟩
    | false =>
      rw [h2] at d2 HV
      go_enter Tryz.func72, Tryz.ntmps72
      go_wp2_with (go_at_call 62; refine HI.out.mono ?_; rintro e w' ⟨rfl, hx⟩; obtain rfl : w = w' := hx.symm)
      go_ret
      exact ⟨by rw [HV.out, ← HF.out]; rfl, rfl⟩
theorem escB_short {t : List UInt8} (h : ¬ 3 ≤ t.length) : escB t = false := by
  unfold escB hexL
  rw [decide_eq_false (by omega)]
  simp
theorem escB_long {t : List UInt8} (h : 3 ≤ t.length) : escB t = ((t.getD 0 0 == 37) && (hexC (t.getD 1 0) && hexC (t.getD 2 0))) := by
  unfold escB hexL
  rw [decide_eq_true (by omega)]
  rfl
set_option maxRecDepth 100000 in
set_option maxHeartbeats 1000000 in
theorem escaped_calls (t : List UInt8) (w : World) (_hl : t.length ≤ 1000000000000) : Calls Tryz.prog 73 #[.string ⟨t.toArray⟩] w fun e w' => e = .returned (.bool (escB t)) ∧ w' = w := by
  have st := arr_size t
  by_cases h3 : 3 ≤ t.length
  · obtain ⟨c0, hc0⟩ : ∃ c, t.getD 0 0 = c := ⟨_, rfl⟩
    obtain ⟨c1, hc1⟩ : ∃ c, t.getD 1 0 = c := ⟨_, rfl⟩
    obtain ⟨c2, hc2⟩ : ∃ c, t.getD 2 0 = c := ⟨_, rfl⟩
    have i0 := byte_at t 0 c0 (by omega) hc0 0 rfl
    have i1 := byte_at t 1 c1 (by omega) hc1 1 rfl
    have i2 := byte_at t 2 c2 (by omega) hc2 2 rfl
    have l1 := c1.toNat_lt
    have l2 := c2.toNat_lt
    have w1 : wrap32 (c1.toNat : Int) = c1.toNat := by unfold wrap32; omega
    have w2 : wrap32 (c2.toNat : Int) = c2.toNat := by unfold wrap32; omega
    have d3 : decide ((t.length : Int) ≥ 3) = true := by simp; omega
    have d3' : decide (3 ≤ t.length) = true := by simp; omega
    have e37 : ((c0.toNat : Int) == 37) = (c0 == 37) := eq_byte c0 37
    have HV : Hid (escB t = ((c0 == 37) && (hexC c1 && hexC c2))) := by show _ = _; rw [escB_long h3, hc0, hc1, hc2]
    have H1 : Hid (Calls Tryz.prog 98 #[.int .i32 (c1.toNat : Int)] w fun e w' => e = .returned (.bool (hexC c1)) ∧ w' = w) := hex_calls (c1.toNat : Int) (by omega) (by omega) w
    have H2 : Hid (Calls Tryz.prog 98 #[.int .i32 (c2.toNat : Int)] w fun e w' => e = .returned (.bool (hexC c2)) ∧ w' = w) := hex_calls (c2.toNat : Int) (by omega) (by omega) w
    clear hc0 hc1 hc2
    cases b0 : (c0 == 37) with
    | false =>
      rw [b0] at e37 HV
      go_enter Tryz.func73, Tryz.ntmps73
      go_wp2
      go_ret
      exact ⟨by rw [HV.out]; rfl, rfl⟩
    | true =>
      rw [b0] at e37 HV
      clear b0
      cases b1 : hexC c1 with
      | false =>
        rw [b1] at H1 HV
        go_enter Tryz.func73, Tryz.ntmps73
        go_wp2_with fail
        (go_at_call 98; refine H1.out.mono ?_; rintro e w' ⟨rfl, hx⟩; obtain rfl : w = w' := hx.symm)
        go_wp2_with fail
        go_ret
        exact ⟨by rw [HV.out]; rfl, rfl⟩
      | true =>
        rw [b1] at H1 HV
        go_enter Tryz.func73, Tryz.ntmps73
        go_wp2_with fail
        (go_at_call 98; refine H1.out.mono ?_; rintro e w' ⟨rfl, hx⟩; obtain rfl : w = w' := hx.symm)
        go_wp2_with fail
        (go_at_call 98; refine H2.out.mono ?_; rintro e w' ⟨rfl, hx⟩; obtain rfl : w = w' := hx.symm)
        go_wp2_with fail
        go_ret
        exact ⟨by rw [HV.out]; rfl, rfl⟩
  · have d3 : decide ((t.length : Int) ≥ 3) = false := by simp; omega
    have d3' : decide (3 ≤ t.length) = false := by simp; omega
    have HV : Hid (escB t = false) := escB_short h3
    go_enter Tryz.func73, Tryz.ntmps73
    go_wp2
    go_ret
    exact ⟨by rw [HV.out]; rfl, rfl⟩
set_option maxRecDepth 100000 in
set_option maxHeartbeats 1000000 in
theorem writeEscape_calls (B b : Nat) (l : List UInt8) (c : UInt8) (w : World) (h : T.Bld B b l w) (hlen : l.length + 3 ≤ 140737488355328) (hBw : B ≤ w.heap.size) : Calls Tryz.prog 63 #[.pointer (some ⟨b, 0, none⟩), .int .u8 c.toNat] w fun e w' => e = .returned (.tuple #[]) ∧ T.Bld B b (l ++ escC c) w' ∧ Below B w w' := by
  have HW := hid_of (T.writeByte_calls B b l 37 37 rfl w h (by omega) hBw)
  have hcl := c.toNat_lt
  have h1 := hex_at (c.toNat / 16) (by omega) ((c.toNat : Int) / 16) (by omega)
  have h2 := hex_at (c.toNat % 16) (by omega) ((c.toNat : Int) % 16) (by omega)
  have HE : Hid (l ++ escC c = l ++ [37] ++ [hexD (c.toNat / 16)] ++ [hexD (c.toNat % 16)]) := by show _ = _; simp [escC]
  go_enter Tryz.func63, Tryz.ntmps63
  go_wp2_with fail
  (go_at_call 30; refine HW.out.mono ?_; rintro e w1 ⟨rfl, g1, hb1, hk1⟩)
  have s1 := hb1.size
  go_wp2_with fail
  (go_at_call 30; refine (T.writeByte_calls B b (l ++ [37]) (hexD (c.toNat / 16)) _ rfl w1 g1 (by simp; omega) (by omega)).mono ?_; rintro e w2 ⟨rfl, g2, hb2, hk2⟩)
  have s2 := hb2.size
  go_wp2_with fail
  (go_at_call 30; refine (T.writeByte_calls B b (l ++ [37] ++ [hexD (c.toNat / 16)]) (hexD (c.toNat % 16)) _ rfl w2 g2 (by simp; omega) (by omega)).mono ?_; rintro e w3 ⟨rfl, g3, hb3, hk3⟩)
  go_wp2_with fail
  go_end0
  exact ⟨rfl, by rw [HE.out]; exact g3, (hb1.trans hb2).trans hb3⟩
theorem bld_made (w : World) (B : Nat) (h : B ≤ w.heap.size) : T.Bld B w.heap.size [] (w.alloc (.cells #[.pointer none, .slice none 0 0] 57)) :=
  Lib.IsBuilderF.of (.inl ⟨h, .slice none 0 0, World.alloc_heap_new _ _, World.ownsRow_nil _ _ _ _, by simp [Value.ownBlock]⟩)
theorem bad_eq (s : List UInt8) (k : Nat) (c : UInt8) (hc : s.getD k 0 = c) (_hk : k < s.length) : badC s k c = (turnC c || ((c == 37) && !escB (s.drop k))) := by
  have e0 : (s.drop k).getD 0 0 = c := by rw [← hc]; simp [List.getD_eq_getElem?_getD]
  unfold badC bad0 turnC escB
  rw [hexL_drop s k, e0]
  cases lowC c <;> cases decide (127 ≤ c.toNat) <;> cases (c == 37) <;> cases marks.contains c <;> cases hexL (s.drop k) 0 <;> rfl
set_option maxRecDepth 100000 in
set_option maxHeartbeats 4000000 in
/-- **Encode.** -/
theorem encode_calls (bs : List UInt8) (w : World) (hT : Tb w) (hl : bs.length ≤ 10000000000) : Calls Tryz.prog 42 #[.string ⟨bs.toArray⟩] w fun e W' => e = .returned (.string ⟨(encodeM (mendL bs)).toArray⟩) ∧ Below w.heap.size w W' := by
  have HM : Hid (Calls Tryz.prog 18 #[.string ⟨bs.toArray⟩] w fun e W' => e = .returned (.string ⟨(mendL bs).toArray⟩) ∧ Below w.heap.size w W') := mend_calls bs w (by omega) hT
  have hml := mend_le bs
  obtain ⟨s, hS⟩ : ∃ s, mendL bs = s := ⟨_, rfl⟩
  rw [hS] at HM hml ⊢
  have hss : s.length ≤ 40000000000 := by omega
  clear hS hml hl hT
  have ss := arr_size s
  go_enter Tryz.func42, Tryz.ntmps42
  go_wp2_with fail
  (go_at_call 18; refine HM.out.mono ?_; rintro e w1 ⟨rfl, hb1⟩)
  have z1 := hb1.size
  go_wp2_with fail
  go_loopw [10] (fun vi wr => ∃ k : Nat, k ≤ s.length ∧ vi = .int .i64 k ∧ Hid (T.Bld w.heap.size w1.heap.size ((List.range k).flatMap (encC s)) wr) ∧ Hid (Below w.heap.size w wr)) (fun vi _ => s.length - (intOf vi).toNat)
  case atStart => exact ⟨0, by omega, rfl, bld_made w1 _ z1, hb1.alloc z1 _⟩
  case round =>
    obtain ⟨k, hk, rfl, hBl, hB⟩ := hrel
    have zr := hB.out.size
    have hpl := enc_pre_le s k
    by_cases hlt : k < s.length
    · obtain ⟨c, hc⟩ : ∃ c, s.getD k 0 = c := ⟨_, rfl⟩
      have hix := byte_at s k c hlt hc (k : Int) rfl
      have hsl := slice_l s k (by omega) (k : Int) rfl
      have HEC : Hid ((List.range (k + 1)).flatMap (encC s) = (List.range k).flatMap (encC s) ++ if badC s k c then escC c else [c]) := by
        show _ = _
        rw [enc_pre_succ]
        unfold encC
        rw [hc]
      have HBE := hid_of (bad_eq s k c hc hlt)
      have HT := hid_of (turned_calls c wr)
      have HES := hid_of (escaped_calls (s.drop k) wr (by simp; omega))
      obtain ⟨pre, hpre⟩ : ∃ pre, (List.range k).flatMap (encC s) = pre := ⟨_, rfl⟩
      rw [hpre] at HEC hpl hBl
      have HWE := hid_of (writeEscape_calls w.heap.size w1.heap.size pre c wr hBl.out (by omega) zr)
      have HWB := hid_of (T.writeByte_calls w.heap.size w1.heap.size pre c (c.toNat : Int) rfl wr hBl.out (by omega) zr)
      have e37 : ((c.toNat : Int) == 37) = (c == 37) := eq_byte c 37
      clear hc hpre
      have hcs : (badC s k c = true ∧ (turnC c = true ∨ (turnC c = false ∧ (c == 37) = true ∧ escB (s.drop k) = false))) ∨ (badC s k c = false ∧ ((turnC c = false ∧ (c == 37) = false) ∨ (turnC c = false ∧ (c == 37) = true ∧ escB (s.drop k) = true))) := by
        rw [HBE.out]
        cases turnC c <;> cases (c == 37) <;> cases escB (s.drop k) <;> simp
      clear HBE
      rcases hcs with ⟨hbad, hcs⟩ | ⟨hbad, hcs⟩
      · rw [hbad] at HEC
        clear hbad HWB
        rcases hcs with x1 | ⟨x1, x2, x3⟩
        all_goals
          rw [x1] at HT
          clear x1
          try (rw [x2] at e37; clear x2)
          try (rw [x3] at HES; clear x3)
          go_wp2_with (first
            | (go_at_call 72; refine HT.out.mono ?_; rintro e w' ⟨rfl, hx⟩; obtain rfl : wr = w' := hx.symm)
            | (go_at_call 73; refine HES.out.mono ?_; rintro e w' ⟨rfl, hx⟩; obtain rfl : wr = w' := hx.symm)
            | (go_at_call 63; refine HWE.out.mono ?_; rintro e w' ⟨rfl, hg, hb'⟩))
          exact ⟨⟨k + 1, by omega, by go_num, by rw [HEC.out]; exact hg, hB.out.trans hb'⟩, by simp [intOf]; omega⟩
      · rw [hbad] at HEC
        clear hbad HWE
        rcases hcs with ⟨x1, x2⟩ | ⟨x1, x2, x3⟩
        all_goals
          rw [x1] at HT
          rw [x2] at e37
          clear x1 x2
          try (rw [x3] at HES; clear x3)
          go_wp2_with (first
            | (go_at_call 72; refine HT.out.mono ?_; rintro e w' ⟨rfl, hx⟩; obtain rfl : wr = w' := hx.symm)
            | (go_at_call 73; refine HES.out.mono ?_; rintro e w' ⟨rfl, hx⟩; obtain rfl : wr = w' := hx.symm)
            | (go_at_call 30; refine HWB.out.mono ?_; rintro e w' ⟨rfl, hg, hb', hkk⟩))
          exact ⟨⟨k + 1, by omega, by go_num, by rw [HEC.out]; exact hg, hB.out.trans hb'⟩, by simp [intOf]; omega⟩
    · obtain rfl : k = s.length := by omega
      have HST := hid_of (T.string_calls w.heap.size w1.heap.size (encodeM s) wr hBl.out zr)
      go_wp2_with (go_at_call 24; refine HST.out.mono ?_; rintro e W' ⟨rfl, hg, hb', hk'⟩)
      go_ret
      exact ⟨rfl, hB.out.trans hb'⟩
end Go.Proofs.YtmfhhpacojodkaaGreatDoor.L

/- What is proved here: the contract of link.Decode: a text with its percent escapes as what they say, mended. -/
namespace Go.Proofs.YtmfhhpacojodkaaGreatDoor.L
open Go.RowKit Go.Shelf Go.Proofs.YtmfhhpacojodkaaGreatDoor.N Go.Proofs.YtmfhhpacojodkaaGreatDoor.U

/-- Decode's answer. -/
def decL (bs : List UInt8) : List UInt8 := mendL (decM (mendL bs))
theorem dec_step_esc (s : List UInt8) (k : Nat) (hk : k < s.length) (h : escB (s.drop k) = true) : decM (s.drop k) = hexV (s.getD (k + 1) 0) (s.getD (k + 2) 0) :: decM (s.drop (k + 3)) ∧ k + 2 < s.length ∧ hexC (s.getD (k + 1) 0) = true ∧ hexC (s.getD (k + 2) 0) = true := by
  have e : s.drop k = s.getD k 0 :: s.drop (k + 1) := by rw [List.drop_eq_getElem_cons hk]; simp [hk]
  rw [e] at h
  obtain ⟨a, b, r, hr, h37, ha, hb⟩ := esc_open _ _ h
  have hl : (s.drop (k + 1)).length = r.length + 2 := by rw [hr]; simp
  rw [List.length_drop] at hl
  have e1 : s.getD (k + 1) 0 = a := by
    have : (s.drop (k + 1)).getD 0 0 = a := by rw [hr]; rfl
    rw [← this]; simp [List.getD_eq_getElem?_getD]
  have e2 : s.getD (k + 2) 0 = b := by
    have : (s.drop (k + 1)).getD 1 0 = b := by rw [hr]; rfl
    rw [← this]; simp [List.getD_eq_getElem?_getD, Nat.add_assoc]
  rw [e, decM_esc _ _ h, e1, e2]
  refine ⟨?_, by omega, ha, hb⟩
  rw [List.drop_drop, hr]
  rfl
theorem dec_step_plain (s : List UInt8) (k : Nat) (hk : k < s.length) (h : escB (s.drop k) = false) : decM (s.drop k) = s.getD k 0 :: decM (s.drop (k + 1)) := by
  have e : s.drop k = s.getD k 0 :: s.drop (k + 1) := by rw [List.drop_eq_getElem_cons hk]; simp [hk]
  rw [e] at h ⊢
  exact decM_plain _ _ h
theorem or_tab : ∀ x y : Fin 16, bits .or .i64 ((x.val : Int) * 16) (y.val : Int) = 16 * (x.val : Int) + (y.val : Int) := by decide +kernel
theorem or_hex (x y : Nat) (hx : x < 16) (hy : y < 16) : bits .or .i64 ((x : Int) * 16) (y : Int) = 16 * (x : Int) + (y : Int) := or_tab ⟨x, hx⟩ ⟨y, hy⟩
theorem val_byte (c : UInt8) (W : World) : Calls Tryz.prog 90 #[.int .i32 (c.toNat : Int)] W fun e w' => e = .returned (.int .i64 (valueZ c.toNat)) ∧ w' = W := by
  have h := c.toNat_lt
  exact value_calls (c.toNat : Int) (by omega) (by omega) W
theorem hexV_nat (a b : UInt8) (ha : hexC a = true) (hb : hexC b = true) : ∃ x y : Nat, valueZ (a.toNat : Int) = x ∧ valueZ (b.toNat : Int) = y ∧ x < 16 ∧ y < 16 ∧ (hexV a b).toNat = 16 * x + y := by
  have key : ∀ c : UInt8, hexC c = true → ∃ x : Nat, valueZ (c.toNat : Int) = x ∧ x < 16 := fun c hc => by
    have hc' : 0 ≤ valueZ (c.toNat : Int) := by simpa [hexC] using hc
    have h2 : valueZ (c.toNat : Int) < 16 := by unfold valueZ; repeat' split <;> omega
    exact ⟨(valueZ (c.toNat : Int)).toNat, by omega, by omega⟩
  obtain ⟨x, hx, hx2⟩ := key a ha
  obtain ⟨y, hy, hy2⟩ := key b hb
  refine ⟨x, y, hx, hy, hx2, hy2, ?_⟩
  unfold hexV
  rw [hx, hy]
  simp
  omega
set_option maxRecDepth 100000 in
set_option maxHeartbeats 4000000 in
/-- **Decode.** -/
theorem decode_calls (bs : List UInt8) (w : World) (hT : Tb w) (hl : bs.length ≤ 1000000000) : Calls Tryz.prog 58 #[.string ⟨bs.toArray⟩] w fun e W' => e = .returned (.string ⟨(decL bs).toArray⟩) ∧ Below w.heap.size w W' := by
  obtain ⟨i0, hi0, hz0, hz1, hz2⟩ := info_parts infoB
  have HM : Hid (Calls Tryz.prog 18 #[.string ⟨bs.toArray⟩] w fun e W' => e = .returned (.string ⟨(mendL bs).toArray⟩) ∧ Below w.heap.size w W') := mend_calls bs w (by omega) hT
  have hml := mend_le bs
  have HDL : Hid (decL bs = mendL (decM (mendL bs))) := rfl
  obtain ⟨s, hS⟩ : ∃ s, mendL bs = s := ⟨_, rfl⟩
  rw [hS] at HM hml HDL
  have hss : s.length ≤ 4000000000 := by omega
  clear hS hml hl
  have ss := arr_size s
  have HT := hid_of hT
  clear hT
  go_enter Tryz.func58, Tryz.ntmps58
  go_wp2_with fail
  (go_at_call 18; refine HM.out.mono ?_; rintro e w1 ⟨rfl, hb1⟩)
  have z1 := hb1.size
  obtain ⟨w2, hmk, hown2, hgr2⟩ := run_make_own (P := Tryz.prog) w1 w.heap.size 29 5 i0 (.int .u8 0) 1 Tryz.underlying29 hi0 hz0 hz1 .i64 .i64 s.length (by rw [hz2]; omega) (by unfold maxLen; omega) z1
  have HOW2 := hid_of hown2
  have HB2 : Hid (Below w.heap.size w w2) := hb1.grown hgr2 z1 (fun k hk => by cases hk)
  clear hown2 hgr2
  go_wp2_with fail
  go_loopw [3, 4] (fun vo vi wr => ∃ (k : Nat) (o : List UInt8) (a : Option Addr) (cap : Nat), k ≤ s.length ∧ vi = .int .i64 k ∧ vo = .slice a o.length cap ∧ Hid (wr.ownsRow w.heap.size 5 1 (.slice a o.length cap) o.length (bvs o)) ∧ Hid (o ++ decM (s.drop k) = decM s) ∧ o.length ≤ k ∧ Hid (Below w.heap.size w wr)) (fun _ vi _ => s.length - (intOf vi).toNat)
  case atStart => exact ⟨0, [], some ⟨w1.heap.size, 0, none⟩, s.length, by omega, rfl, rfl, HOW2, rfl, by simp, HB2⟩
  case round =>
    clear hmk HOW2 HB2 hb1
    obtain ⟨k, o, a, cap, hk, rfl, rfl, hO, hD, hok, hB⟩ := hrel
    have zr := hB.out.size
    by_cases hlt : k < s.length
    · obtain ⟨c, hc⟩ : ∃ c, s.getD k 0 = c := ⟨_, rfl⟩
      have hix := byte_at s k c hlt hc (k : Int) rfl
      have hsl := slice_l s k (by omega) (k : Int) rfl
      have HES := hid_of (escaped_calls (s.drop k) wr (by simp; omega))
      cases he : escB (s.drop k) with
      | false =>
        have HD2 : Hid ((o ++ [c]) ++ decM (s.drop (k + 1)) = decM s) := by
          have h1 := hD.out
          rw [dec_step_plain s k hlt he, hc] at h1
          show _ = _
          rw [← h1]; simp
        rw [he] at HES
        have HOW := hid_of hO.out
        clear hc he hD hO
        go_wp2_with (first
          | (go_at_call 73; refine HES.out.mono ?_; rintro e w' ⟨rfl, hx⟩; obtain rfl : wr = w' := hx.symm)
          | (at_builtin; refine append_byte rfl _ _ rfl w.heap.size (.slice a o.length cap) o rfl (HOW.out.alloc _) wr.heap.size c rfl (cell_made _ _ _) (by omega) (by simp; omega) ?_; intro v' w4 hown' hgrow))
        obtain ⟨a2, cap2, rfl⟩ := U.owns_slice hown'
        go_wp2_with fail
        exact ⟨⟨k + 1, o ++ [c], a2, cap2, by omega, by go_num, rfl, hown', HD2, by simp; omega, (hB.out.alloc zr _).grown hgrow (by simp; omega) (fun j hj => (HOW.out.lt j hj).1)⟩, by simp [intOf]; omega⟩
      | true =>
        obtain ⟨hd1, hk2, hx1, hx2⟩ := dec_step_esc s k hlt he
        obtain ⟨c1, hc1⟩ : ∃ c, s.getD (k + 1) 0 = c := ⟨_, rfl⟩
        obtain ⟨c2, hc2⟩ : ∃ c, s.getD (k + 2) 0 = c := ⟨_, rfl⟩
        rw [hc1, hc2] at hd1
        rw [hc1] at hx1
        rw [hc2] at hx2
        have hi1 := byte_at s (k + 1) c1 (by omega) hc1 ((k : Int) + 1) (by omega)
        have hi2 := byte_at s (k + 2) c2 (by omega) hc2 ((k : Int) + 2) (by omega)
        obtain ⟨x, y, ex, ey, hx16, hy16, hxy⟩ := hexV_nat c1 c2 hx1 hx2
        have HD2 : Hid ((o ++ [hexV c1 c2]) ++ decM (s.drop (k + 3)) = decM s) := by
          have h1 := hD.out
          rw [hd1] at h1
          show _ = _
          rw [← h1]; simp
        have l1 := c1.toNat_lt
        have l2 := c2.toNat_lt
        have HV1 : Hid (∀ W, Calls Tryz.prog 90 #[.int .i32 (c1.toNat : Int)] W fun e w' => e = .returned (.int .i64 (x : Int)) ∧ w' = W) := by rw [← ex]; exact val_byte c1
        have HV2 : Hid (∀ W, Calls Tryz.prog 90 #[.int .i32 (c2.toNat : Int)] W fun e w' => e = .returned (.int .i64 (y : Int)) ∧ w' = W) := by rw [← ey]; exact val_byte c2
        rw [he] at HES
        have HOW := hid_of hO.out
        have HXY := hid_of hxy
        clear hc he hD hO hc1 hc2 hd1 hx1 hx2 ex ey hxy
        go_wp2_with fail
        (go_at_call 73; refine HES.out.mono ?_; rintro e w' ⟨rfl, hx⟩; obtain rfl : wr = w' := hx.symm)
        go_wp2_with fail
        have q1 : ∀ d os, Calls Tryz.prog 90 #[.int .i32 (c1.toNat : Int)] (Go.Sort.grow (redrawn wr d) os) fun e w'' => e = .returned (.int .i64 (x : Int)) ∧ ∃ p : Regrown, w'' = Go.Sort.grow (redrawn wr p.d) p.os := fun d os => Calls.regrown_of ((HV1.out _).mono (fun e w' ⟨h1, h2⟩ => ⟨h1, h2 ▸ Below.refl _ _⟩))
        have q2 : ∀ d os, Calls Tryz.prog 90 #[.int .i32 (c2.toNat : Int)] (Go.Sort.grow (redrawn wr d) os) fun e w'' => e = .returned (.int .i64 (y : Int)) ∧ ∃ p : Regrown, w'' = Go.Sort.grow (redrawn wr p.d) p.os := fun d os => Calls.regrown_of ((HV2.out _).mono (fun e w' ⟨h1, h2⟩ => ⟨h1, h2 ▸ Below.refl _ _⟩))
        have W1 : IntKind.i64.wrap ((k : Int) + 1) = (k : Int) + 1 := by rw [IntKind.wrap_i64]; omega
        have W2 : IntKind.i64.wrap ((k : Int) + 2) = (k : Int) + 2 := by rw [IntKind.wrap_i64]; omega
        have P1 : (0 : Int) ≤ (k : Int) + 1 := by omega
        have P2 : (0 : Int) ≤ (k : Int) + 2 := by omega
        have B1 : (k : Int) + 1 < (s.length : Int) := by omega
        have B2 : (k : Int) + 2 < (s.length : Int) := by omega
        have HVAL : Hid (bits .or .i64 ((x : Int) * 16) (y : Int) % 256 = ((hexV c1 c2).toNat : Int)) := by
          show _ = _
          rw [or_hex x y hx16 hy16, HXY.out]; omega
        refine wp_region_quiet_below (by kernel_rfl) (by kernel_rfl) ?_
        repeat (go_big_quiet_step (first | with_reducible exact q1 _ _ | with_reducible exact q2 _ _))
        refine wpQuiet_nil ?_
        intro W9 hw'
        obtain ⟨⟨dq, osq⟩, hw''⟩ := hw'
        have hb2 : Below wr.heap.size wr (Go.Sort.grow (redrawn wr dq) osq) := below_regrown wr dq osq
        rw [← hw''] at hb2
        rw [HVAL.out]
        have z9 := hb2.size
        have HOW9 := hid_of (owns_below HOW.out hb2)
        have HB9 := hid_of (hB.out.trans (hb2.mono zr))
        clear hw'' q1 q2 W1 W2 P1 P2 B1 B2 HVAL hi1 hi2 HV1 HV2 l1 l2 hix hsl hb2
        obtain ⟨d, hd⟩ : ∃ d, hexV c1 c2 = d := ⟨_, rfl⟩
        rw [hd] at HD2 ⊢
        clear hd HXY
        go_wp2_with (at_builtin; refine append_byte rfl _ _ rfl w.heap.size (.slice a o.length cap) o rfl (HOW9.out.alloc _) W9.heap.size d rfl (cell_made _ _ _) (by omega) (by simp; omega) ?_; intro v' w4 hown' hgrow)
        obtain ⟨a2, cap2, rfl⟩ := U.owns_slice hown'
        go_wp2_with fail
        exact ⟨⟨k + 3, o ++ [d], a2, cap2, by omega, by go_num, rfl, hown', HD2, by simp; omega, (HB9.out.alloc (by omega) _).grown hgrow (by simp; omega) (fun j hj => (HOW9.out.lt j hj).1)⟩, by simp [intOf]; omega⟩
    · obtain rfl : k = s.length := by omega
      have HV : Hid (o = decM s) := by have := hD.out; rw [List.drop_length, decM_nil, List.append_nil] at this; exact this
      have hcv := conv_bytes (hasB_owns hO.out).1
      have HMM : Hid (Calls Tryz.prog 18 #[.string ⟨o.toArray⟩] wr fun e W' => e = .returned (.string ⟨(mendL o).toArray⟩) ∧ Below wr.heap.size wr W') := mend_calls o wr (by omega) (HT.out.below hB.out)
      go_wp2_with (go_at_call 18; refine HMM.out.mono ?_; rintro e w' ⟨rfl, hb'⟩)
      go_ret
      exact ⟨by rw [HDL.out, ← HV.out]; rfl, hB.out.trans (hb'.mono zr)⟩
end Go.Proofs.YtmfhhpacojodkaaGreatDoor.L
