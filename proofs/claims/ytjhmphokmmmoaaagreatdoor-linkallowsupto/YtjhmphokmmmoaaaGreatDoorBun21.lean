/- What is proved here: laws and contracts of LpTid, LkEnc, one behind the other (each says its own). -/
import Derived.Test.YtjhmphokmmmoaaaGreatDoorBun18
import Derived.Test.YtjhmphokmmmoaaaGreatDoorBun19
import Derived.Test.YtjhmphokmmmoaaaGreatDoorLpEnc
import Derived.Test.YtjhmphokmmmoaaaGreatDoorBun20
import Derived.Lib.QuietBelow
import Derived.Lib.SlBytesConst
import Derived.Test.YtjhmphokmmmoaaaGreatDoorLkEncM
/- What is proved here: the contract of link.Tidy: a link as it is written, if it is allowed. -/
namespace Go.Proofs.YtjhmphokmmmoaaaGreatDoor.L
open Go.RowKit Go.Shelf Go.Proofs.YtjhmphokmmmoaaaGreatDoor.N Go.Proofs.YtjhmphokmmmoaaaGreatDoor.U

/-- What Allowed answers, opened. -/
theorem allow_two (ss : List (List UInt8)) (x : List UInt8) (rel : Bool) : ∃ (b : Bool) (n : Nat), allowV ss x rel = .tuple #[.bool b, .int .i64 (n : Int)] ∧ (b = true → n = 0) := by
  unfold allowV
  split
  · cases schemeL x with
    | none => exact ⟨rel, 0, rfl, fun _ => rfl⟩
    | some s => exact ⟨ss.contains s, 0, rfl, fun _ => rfl⟩
  · exact ⟨false, 120, rfl, fun h => by cases h⟩
/-- What Tidy answers, by what Allowed answers. -/
def tidV (b : Bool) (n : Nat) (t : List UInt8) : Value := if b then .tuple #[.string ⟨t.toArray⟩, .bool true, .int .i64 0] else .tuple #[.string ⟨#[]⟩, .bool false, .int .i64 (n : Int)]
theorem lower_txt (x : List UInt8) (W : World) (hx : x.length ≤ 4000000000) : Calls Tryz.prog 18 #[.string ⟨x.toArray⟩] W fun e W' => e = .returned (.string ⟨(lower x).toArray⟩) ∧ Below W.heap.size W W' :=
  N.lower_calls ⟨x.toArray⟩ W (by rw [arr_size]; omega)
theorem tidy_parts (s : List UInt8) (hv : Val s) : ∃ n : Nat, n ≤ s.length ∧ (colonZ s = (n : Int) ∨ (colonZ s = -1 ∧ n = 0)) ∧ Val (s.drop n) ∧ tidyX s = lower (s.take n) ++ (if readsB (lower (s.take n)) then slL (s.drop n) else s.drop n) := by
  cases hc : colonL s with
  | none =>
    refine ⟨0, by omega, .inr ⟨by unfold colonZ; rw [hc], rfl⟩, by simpa using hv, ?_⟩
    unfold tidyX
    rw [hc]
    simp [readsB, lower]
  | some n =>
    obtain ⟨X, R, hS, rfl⟩ := colon_parts hc
    have ht := hS.take
    have hd := hS.drop
    have hXv : ∀ c ∈ X, c.toNat < 128 := fun c hcm => (inner_open (hS.inner c hcm)).1
    refine ⟨X.length, by rw [hS.all]; simp, .inl (by unfold colonZ; rw [hc]), hv.drop _ (by rw [ht]; exact hXv), ?_⟩
    unfold tidyX
    rw [hc]
    simp only [ht]
    have hne : (lower X == []) = false := by
      obtain ⟨c, t, e, _⟩ := hS.letter
      rw [e]; rfl
    unfold readsB
    rw [hne, Bool.or_false]
set_option maxRecDepth 100000 in
set_option maxHeartbeats 4000000 in
/-- **Tidy.** -/
theorem tidy_calls (bs : List UInt8) (ss : List (List UInt8)) (a : Option Addr) (cap : Nat) (rel b : Bool) (n : Nat) (hab : allowV ss (stripL bs) rel = .tuple #[.bool b, .int .i64 (n : Int)]) (w : World) (hT : Tb w) (hN : Nev w) (hS : Sla w) (hM : MaxR w) (hL : TextsAt w a ss) (hbs : bs.length ≤ 100000000) (hl : ss.length ≤ 100000000) (hcap : ss.length ≤ cap) (hx : ∀ x ∈ ss, x.length ≤ 1000000000) :
    Calls Tryz.prog 6 #[.string ⟨bs.toArray⟩, .slice a ss.length cap, .bool rel] w fun e W' => e = .returned (tidV b n (tidyT (stripL bs))) ∧ Below w.heap.size w W' := by
  have mixed : Tryz.prog.follows .mixedOrders = true := by kernel_rfl
  have HA : Hid (Calls Tryz.prog 4 #[.string ⟨bs.toArray⟩, .slice a ss.length cap, .bool rel] w fun e W' => e = .returned (.tuple #[.bool b, .int .i64 (n : Int)]) ∧ Below w.heap.size w W') := by
    have h := allowed_calls bs ss a cap rel w hT hN hL (by omega) hl hcap hx
    rw [hab] at h
    exact h
  clear hab
  cases b with
  | false =>
    unfold tidV
    clear hT hN hS hM hL hx
    go_enter Tryz.func6, Tryz.ntmps6
    go_wp2_with fail
    (go_at_call 4; refine HA.out.mono ?_; rintro e w1 ⟨rfl, hb1⟩)
    go_wp2_with fail
    go_ret3
    exact ⟨rfl, hb1⟩
  | true =>
    have HST : Hid (∀ W, Below w.heap.size w W → Calls Tryz.prog 16 #[.string ⟨bs.toArray⟩] W fun e W' => e = .returned (.string ⟨(stripL bs).toArray⟩) ∧ Below W.heap.size W W') := fun W h => strip_calls bs W (hT.below h) (by omega)
    have hsl := stripL_le bs
    have hval := val_strip bs
    obtain ⟨s, hs⟩ : ∃ s, stripL bs = s := ⟨_, rfl⟩
    rw [hs] at HST hsl hval ⊢
    obtain ⟨k, hk, hcz, hvd, hx1⟩ := tidy_parts s hval
    have hvx := tidy_val hval
    have HEN : Hid (∀ W, Below w.heap.size w W → Calls Tryz.prog 21 #[.string ⟨(tidyX s).toArray⟩] W fun e W' => e = .returned (.string ⟨(tidyT s).toArray⟩) ∧ Below W.heap.size W W') := fun W h => by
      have hlx : (tidyX s).length ≤ 10000000000 := by
        rw [hx1, List.length_append]
        have h1 : (lower (s.take k)).length = (s.take k).length := by simp [lower]
        have h2 : (if readsB (lower (s.take k)) then slL (s.drop k) else s.drop k).length = (s.drop k).length := by split <;> simp [slL_length]
        rw [h1, h2, List.length_take, List.length_drop]
        omega
      have hh := encode_calls (tidyX s) W (hT.below h) hlx
      rw [hvx.mend, encodeM_eq] at hh
      exact hh
    have HCO := hid_of (fun W => pcolon_calls s W (by omega))
    have HLO := hid_of (fun W => lower_txt (s.take k) W (by rw [List.length_take]; omega))
    have HRD : Hid (∀ W, Below w.heap.size w W → Calls Tryz.prog 19 #[.string ⟨(lower (s.take k)).toArray⟩] W fun e w' => e = .returned (.bool (readsB (lower (s.take k)))) ∧ w' = W) := fun W h => reads_calls _ W (hS.below h)
    have HTU : Hid (∀ W, Below w.heap.size w W → Calls Tryz.prog 20 #[.string ⟨(s.drop k).toArray⟩] W fun e w' => e = .returned (.string ⟨(slL (s.drop k)).toArray⟩) ∧ Below W.heap.size W w') := fun W h => turn_calls _ hvd W (hM.below h) (by rw [List.length_drop]; omega)
    have y1 := slice_h s k hk (k : Int) rfl
    have y2 := slice_l s k hk (k : Int) rfl
    have hsz := arr_size s
    have zA := arr_size (lower (s.take k))
    have zC := arr_size (s.drop k)
    have zD := arr_size (slL (s.drop k))
    rw [show (lower (s.take k)).length = k by simp [lower]; omega] at zA
    rw [List.length_drop] at zC
    rw [slL_length, List.length_drop] at zD
    have hcatC : (⟨(lower (s.take k)).toArray⟩ : ByteArray) ++ ⟨(s.drop k).toArray⟩ = ⟨(lower (s.take k) ++ s.drop k).toArray⟩ := by
      apply ByteArray.ext; rw [ByteArray.data_append]; simp
    have hcatD : (⟨(lower (s.take k)).toArray⟩ : ByteArray) ++ ⟨(slL (s.drop k)).toArray⟩ = ⟨(lower (s.take k) ++ slL (s.drop k)).toArray⟩ := by
      apply ByteArray.ext; rw [ByteArray.data_append]; simp
    rw [hx1] at HEN
    generalize tidyT s = T at *
    generalize hA : lower (s.take k) = A at *
    generalize slL (s.drop k) = D at *
    generalize s.drop k = C at *
    generalize s.take k = B at *
    clear hT hN hS hM hL hx hs hval hvd hx1 hvx hA
    generalize readsB A = rd at *
    have hmx : max (0 : Int) (k : Int) = (k : Int) := by omega
    unfold tidV
    rcases hcz with hcz | ⟨hcz, hk0⟩
    case' inl => rw [hcz] at HCO; clear hcz
    case' inr => rw [hcz] at HCO; subst hk0; rw [show ((0 : Nat) : Int) = 0 from rfl] at y1 y2; clear hcz hmx; have hmx : max (0 : Int) (-1) = 0 := by decide
    all_goals cases rd
    all_goals simp only [Bool.false_eq_true, if_false, if_true] at HEN
    all_goals go_enter Tryz.func6, Tryz.ntmps6
    all_goals go_wp2_with fail
    all_goals (go_at_call 4; refine HA.out.mono ?_; rintro e w1 ⟨rfl, hb1⟩)
    all_goals have HB1 := hid_of hb1
    all_goals clear hb1
    all_goals go_wp2_with fail
    all_goals (go_at_call 16; refine (HST.out _ HB1.out).mono ?_; rintro e w2 ⟨rfl, hb2⟩)
    all_goals have HB2 := hid_of (HB1.out.trans (hb2.mono HB1.out.size))
    all_goals clear hb2
    all_goals go_wp2_with fail
    all_goals (go_at_call 17; refine (HCO.out _).mono ?_; rintro e w' ⟨rfl, hw'⟩; obtain rfl : w2 = w' := hw'.symm)
    all_goals have D1 : ∀ d os, Below w2.heap.size w2 (Go.Sort.grow (redrawn w2 d) os) := fun d os => below_regrown w2 d os
    all_goals have D' : ∀ d os, Below w.heap.size w (Go.Sort.grow (redrawn w2 d) os) := fun d os => HB2.out.trans ((D1 d os).mono HB2.out.size)
    all_goals have q1 : ∀ d os, Calls Tryz.prog 18 #[.string ⟨B.toArray⟩] (Go.Sort.grow (redrawn w2 d) os) fun e w'' => e = .returned (.string ⟨A.toArray⟩) ∧ ∃ p : Regrown, w'' = Go.Sort.grow (redrawn w2 p.d) p.os := fun d os => Calls.regrown_of (HLO.out _)
    all_goals go_wp2_with fail
    all_goals refine wp_region_quiet_below mixed (by kernel_rfl) ?_
    all_goals repeat (go_big_quiet_step (with_reducible exact q1 _ _))
    all_goals refine wpQuiet_nil ?_
    all_goals intro _ hw'
    all_goals obtain ⟨⟨dr, osr⟩, hw''⟩ := hw'
    all_goals have hb3 := D' dr osr
    all_goals rw [← hw''] at hb3
    all_goals rename_i w3
    all_goals have HB3 := hid_of hb3
    all_goals clear hw'' q1 D1 D' hb3
    all_goals go_wp2_with fail
    all_goals (go_at_call 19; refine (HRD.out _ HB3.out).mono ?_; rintro e w' ⟨rfl, hw'⟩; obtain rfl : w3 = w' := hw'.symm)
    all_goals go_wp2_with (first
      | (go_at_call 20; refine (HTU.out _ HB3.out).mono ?_; rintro e w4 ⟨rfl, hb4⟩)
      | (go_at_call 21; refine (HEN.out _ HB3.out).mono ?_; rintro e w5 ⟨rfl, hb5⟩)
      | (go_at_call 21; refine (HEN.out _ (HB3.out.trans (hb4.mono HB3.out.size))).mono ?_; rintro e w5 ⟨rfl, hb5⟩))
    all_goals go_ret3
    all_goals first
      | exact ⟨rfl, HB3.out.trans (hb5.mono HB3.out.size)⟩
      | exact ⟨rfl, (HB3.out.trans (hb4.mono HB3.out.size)).trans (hb5.mono (by have := HB3.out.size; have := hb4.size; omega))⟩
end Go.Proofs.YtjhmphokmmmoaaaGreatDoor.L

/- What is proved here: the document's Encode of layer 12. -/
namespace Go.Proofs.YtjhmphokmmmoaaaGreatDoor.L
open Go.RowKit Go.Shelf Go.Proofs.YtjhmphokmmmoaaaGreatDoor.N Go.Proofs.YtjhmphokmmmoaaaGreatDoor.U

theorem mark_cells (w : World) (t : TypeId) : ∀ j, j < 9 → (w.alloc (.cells (marks.map fun c => Value.int .u8 (c.toNat : Int)).toArray t (9, 10))).cell? ⟨w.heap.size, j, none⟩ = some (.int .u8 ((marks.getD j 0).toNat : Int)) := fun j hj => by
  rw [cell_of_row _ _ _ _ _ _ (World.alloc_heap_new w _)]
  match j, hj with
  | 0, _ => rfl
  | 1, _ => rfl
  | 2, _ => rfl
  | 3, _ => rfl
  | 4, _ => rfl
  | 5, _ => rfl
  | 6, _ => rfl
  | 7, _ => rfl
  | 8, _ => rfl
  | (n + 9), h => exact absurd h (by omega)
theorem mark_step (c : UInt8) (j : Nat) (hj : j < 9) : (marks.take (j + 1)).contains c = ((marks.take j).contains c || c == marks.getD j 0) := by
  have hb : ∀ z : UInt8, (c == z) = decide (c = z) := fun z => by by_cases h : c = z <;> simp [h]
  match j, hj with
  | 0, _ => simp [marks, hb]
  | 1, _ => simp [marks, hb]
  | 2, _ => simp [marks, Bool.or_assoc, hb]
  | 3, _ => simp [marks, Bool.or_assoc, hb]
  | 4, _ => simp [marks, Bool.or_assoc, hb]
  | 5, _ => simp [marks, Bool.or_assoc, hb]
  | 6, _ => simp [marks, Bool.or_assoc, hb]
  | 7, _ => simp [marks, Bool.or_assoc, hb]
  | 8, _ => simp [marks, Bool.or_assoc, hb]
  | (n + 9), h => exact absurd h (by omega)
theorem enc_byte (c : UInt8) (h : c.toNat < 128) : enc (c.toNat : Int) = [c] := by
  have h1 : (0 : Int) ≤ (c.toNat : Int) := Int.natCast_nonneg _
  have h2 : (c.toNat : Int) < 128 := by omega
  rw [enc_one h1 h2, Int.toNat_natCast, UInt8.ofNat_toNat]
theorem enc_is (r : Int) (c : UInt8) (h : enc r = [c]) : Utf8.encode r = ⟨[c].toArray⟩ := by
  unfold enc at h
  exact bytes_ext h
theorem conv_byte (c : UInt8) (h : c.toNat < 128) : Utf8.encode (c.toNat : Int) = ⟨[c].toArray⟩ := enc_is _ c (enc_byte c h)
theorem cat_text (a b : List UInt8) : (⟨a.toArray⟩ : ByteArray) ++ ⟨b.toArray⟩ = ⟨(a ++ b).toArray⟩ := by
  apply ByteArray.ext
  rw [ByteArray.data_append]
  simp
theorem hex_slice (n : Nat) (h : n < 16) (i j : Int) (hi : i = n) (hj : j = n + 1) (w : World) : (Instr.slice 9 (.string ⟨#[48, 49, 50, 51, 52, 53, 54, 55, 56, 57, 65, 66, 67, 68, 69, 70]⟩) (some (.int .u8 i)) (some (.int .u8 j)) none).run Tryz.prog w = .ok (.string ⟨[hexD n].toArray⟩) w := by
  subst hi hj
  have e : (⟨#[48, 49, 50, 51, 52, 53, 54, 55, 56, 57, 65, 66, 67, 68, 69, 70]⟩ : ByteArray).extract n (n + 1) = ⟨[hexD n].toArray⟩ := by
    have : ∀ k : Fin 16, ((⟨#[48, 49, 50, 51, 52, 53, 54, 55, 56, 57, 65, 66, 67, 68, 69, 70]⟩ : ByteArray).extract k.val (k.val + 1)).data.toList = [hexD k.val] := by decide +kernel
    exact bytes_ext (this ⟨n, h⟩)
  have h1 : (n : Int) ≤ 16 := by omega
  have h2 : (n : Int) + 1 ≤ 16 := by omega
  have h3 : ((n : Int) + 1).toNat = n + 1 := by omega
  simp [Instr.slice, run_underlying Tryz.underlying9, Instr.sliceBounds, run_sliceBound, h2, h3, e, (by omega : (0 : Int) ≤ (n : Int) + 1), go_sem]

set_option maxRecDepth 100000 in
set_option maxHeartbeats 4000000 in
/-- **Encode.** -/
theorem rencode_calls (bs : List UInt8) (w : World) (hl : bs.length ≤ 10000000000) : Calls Tryz.prog 26 #[.string ⟨bs.toArray⟩] w fun e W' => e = .returned (.string ⟨(encodeM (mendL bs)).toArray⟩) ∧ Below w.heap.size w W' := by
  have HM : Hid (Calls Tryz.prog 45 #[.string ⟨bs.toArray⟩] w fun e W' => e = .returned (.string ⟨(mendL bs).toArray⟩) ∧ Below w.heap.size w W') := R.rmend_calls bs w (by omega)
  have hml := mend_le bs
  obtain ⟨s, hS⟩ : ∃ s, mendL bs = s := ⟨_, rfl⟩
  rw [hS] at HM hml ⊢
  have hss : s.length ≤ 40000000000 := by omega
  clear hS hml hl
  have ss := arr_size s
  go_enter Tryz.func26, Tryz.ntmps26
  go_wp2_with fail
  (go_at_call 45; refine HM.out.mono ?_; rintro e w1 ⟨rfl, hb1⟩)
  go_wp2_with fail
  go_loopw [3, 13] (fun vo vi wr => ∃ k : Nat, k ≤ s.length ∧ vi = .int .i64 k ∧ vo = .string ⟨((List.range k).flatMap (encC s)).toArray⟩ ∧ Hid (Below w.heap.size w wr)) (fun _ vi _ => s.length - (intOf vi).toNat)
  case atStart => exact ⟨0, by omega, rfl, rfl, hb1⟩
  case round =>
    obtain ⟨k, hk, rfl, rfl, hB⟩ := hrel
    have hpl := enc_pre_le s k
    have sp := arr_size ((List.range k).flatMap (encC s))
    by_cases hlt : k < s.length
    · obtain ⟨c, hc⟩ : ∃ c, s.getD k 0 = c := ⟨_, rfl⟩
      have hix := byte_at s k c hlt hc (k : Int) rfl
      have HEC : Hid ((List.range (k + 1)).flatMap (encC s) = (List.range k).flatMap (encC s) ++ if badC s k c then escC c else [c]) := by
        show _ = _
        rw [List.range_succ, List.flatMap_append]
        simp only [List.flatMap_cons, List.flatMap_nil, List.append_nil]
        unfold encC
        rw [hc]
      obtain ⟨pre, hpre⟩ : ∃ pre, (List.range k).flatMap (encC s) = pre := ⟨_, rfl⟩
      rw [hpre] at HEC hpl sp ⊢
      have HHX := hid_of (fun W => hexes_calls s k W (by omega) hk)
      have hcl := c.toNat_lt
      have e37 : ((c.toNat : Int) == 37) = (c == 37) := eq_byte c 37
      have HB0 : Hid (bad0 s k c = (lowC c || decide (127 ≤ c.toNat) || (c == 37 && !hexL s k))) := rfl
      have hcs : ∃ b0, bad0 s k c = b0 ∧ ((b0 = true ∧ lowC c = true) ∨ (b0 = true ∧ lowC c = false ∧ decide (127 ≤ c.toNat) = true) ∨ (b0 = false ∧ lowC c = false ∧ decide (127 ≤ c.toNat) = false ∧ (c == 37) = false) ∨ (b0 = true ∧ lowC c = false ∧ decide (127 ≤ c.toNat) = false ∧ (c == 37) = true ∧ hexL s k = false) ∨ (b0 = false ∧ lowC c = false ∧ decide (127 ≤ c.toNat) = false ∧ (c == 37) = true ∧ hexL s k = true)) := by
        refine ⟨_, rfl, ?_⟩
        rw [HB0.out]
        cases lowC c <;> cases decide (127 ≤ c.toNat) <;> cases (c == 37) <;> cases hexL s k <;> simp
      obtain ⟨b0, hb0, hcs⟩ := hcs
      have HBC : Hid (badC s k c = (b0 || marks.contains c)) := by show _ = _; unfold badC; rw [hb0]
      clear hb0 HB0 hc hpre
      have hcv := Lib.run_convert_bytes_const (P := Tryz.prog) wr 48 5 #[.int .u8 34, .int .u8 60, .int .u8 62, .int .u8 92, .int .u8 94, .int .u8 96, .int .u8 123, .int .u8 124, .int .u8 125] 9 9 Tryz.underlying48 Tryz.underlying5
      have d1 : decide ((c.toNat : Int) ≤ 32) = lowC c := by unfold lowC; exact decide_eq_decide.2 (by omega)
      have d1' : decide (c.toNat ≤ 32) = lowC c := rfl
      have d2 : decide ((c.toNat : Int) ≥ 127) = decide (127 ≤ c.toNat) := decide_eq_decide.2 (by omega)
      rcases hcs with ⟨hbv, x1⟩ | ⟨hbv, x1, x2⟩ | ⟨hbv, x1, x2, x3⟩ | ⟨hbv, x1, x2, x3, x4⟩ | ⟨hbv, x1, x2, x3, x4⟩
      all_goals
        have HBV := hid_of hbv
        clear hbv
        rw [x1] at d1 d1'
        try rw [x2] at d2
        try rw [x3] at e37
        try rw [x4] at HHX
        clear x1
        try clear x2
        try clear x3
        try clear x4
        go_wp2_with (go_at_call 47; refine (HHX.out _).mono ?_; rintro e w' ⟨rfl, hx⟩; obtain rfl : wr = w' := hx.symm)
        clear HHX hix hcv
        go_loopw [6, 38] (fun vb vj wr' => ∃ (j : Nat) (b : Bool), j ≤ 9 ∧ vj = .int .i64 j ∧ vb = .bool b ∧ Hid (b = (b0 || (marks.take j).contains c)) ∧ Hid (∀ i, i < 9 → wr'.cell? ⟨wr.heap.size, i, none⟩ = some (.int .u8 ((marks.getD i 0).toNat : Int))) ∧ Hid (Below w.heap.size w wr')) (fun _ vj _ => 9 - (intOf vj).toNat)
        case atStart => exact ⟨0, _, by omega, rfl, rfl, by show _ = _; rw [HBV.out]; rfl, mark_cells wr _, hB.out.alloc hB.out.size _⟩
        case round =>
          clear hB
          obtain ⟨j, b, hj9, rfl, rfl, hBv, hCl, hB⟩ := hrel
          by_cases h9 : j < 9
          · have hcell := hCl.out j h9
            have h9' : (j : Int) < 9 := by omega
            have HMS := hid_of (mark_step c j h9)
            obtain ⟨m, hm⟩ : ∃ m, marks.getD j 0 = m := ⟨_, rfl⟩
            rw [hm] at hcell HMS
            have ecm : ((c.toNat : Int) == (m.toNat : Int)) = (c == m) := eq_byte c m
            clear hm
            cases b with
            | true =>
              have HB2 : Hid (true = (b0 || (marks.take (j + 1)).contains c)) := by
                show _ = _
                rw [HMS.out, ← Bool.or_assoc, ← hBv.out]; rfl
              go_wp2
              exact ⟨⟨j + 1, true, by omega, by go_num, rfl, HB2, hCl, hB⟩, by simp [intOf]; omega⟩
            | false =>
              have HB2 : Hid ((c == m) = (b0 || (marks.take (j + 1)).contains c)) := by
                show _ = _
                rw [HMS.out, ← Bool.or_assoc, ← hBv.out]; rfl
              go_wp2
              exact ⟨⟨j + 1, c == m, by omega, by go_num, rfl, HB2, hCl, hB⟩, by simp [intOf]; omega⟩
          · obtain rfl : j = 9 := by omega
            have HBB : Hid (badC s k c = b) := by show _ = _; rw [HBC.out, hBv.out]; rfl
            clear hBv hCl HBC
            have zr := hB.out.size
            cases b with
            | true =>
              have HE2 : Hid ((List.range (k + 1)).flatMap (encC s) = pre ++ [37, hexD (c.toNat / 16), hexD (c.toNat % 16)]) := by show _ = _; rw [HEC.out, HBB.out]; rfl
              have s1 := hex_slice (c.toNat / 16) (by omega) ((c.toNat : Int) / 16) ((c.toNat : Int) / 16 + 1) (by omega) (by omega)
              have s2 := hex_slice (c.toNat % 16) (by omega) ((c.toNat : Int) % 16) ((c.toNat : Int) % 16 + 1) (by omega) (by omega)
              obtain ⟨h1, hh1⟩ : ∃ h, hexD (c.toNat / 16) = h := ⟨_, rfl⟩
              obtain ⟨h2, hh2⟩ : ∃ h, hexD (c.toNat % 16) = h := ⟨_, rfl⟩
              rw [hh1] at s1 HE2
              rw [hh2] at s2 HE2
              clear hh1 hh2
              have t1 := cat_text [37] [h1]
              have t2 := cat_text [37, h1] [h2]
              have t3 := cat_text pre [37, h1, h2]
              go_wp2_with fail
              refine wp_region_quiet_below (by kernel_rfl) (by kernel_rfl) ?_
              repeat (go_big_quiet_step (fail))
              refine wpQuiet_nil ?_
              intro W9 hw'
              obtain ⟨⟨dq, osq⟩, hw''⟩ := hw'
              have hb2 : Below wr.heap.size wr W9 := by rw [hw'']; exact below_regrown wr dq osq
              clear hw'' s1 s2 t1 t2 t3
              go_wp2_with fail
              exact ⟨⟨k + 1, by omega, by go_num, by rw [HE2.out], hB.out.trans (hb2.mono zr)⟩, by simp [intOf]; omega⟩
            | false =>
              have HE2 : Hid ((List.range (k + 1)).flatMap (encC s) = pre ++ [c]) := by show _ = _; rw [HEC.out, HBB.out]; rfl
              have hc128 : c.toNat < 128 := by
                have h := HBB.out
                unfold badC bad0 at h
                simp only [Bool.or_eq_false_iff] at h
                have := h.1.1.2
                simp at this
                omega
              have t1 := conv_byte c hc128
              have t2 := cat_text pre [c]
              have q1 : wrap32 (c.toNat : Int) = c.toNat := by unfold wrap32; omega
              go_wp2_with fail
              exact ⟨⟨k + 1, by omega, by go_num, by rw [HE2.out], hB⟩, by simp [intOf]; omega⟩
    · obtain rfl : k = s.length := by omega
      go_wp2
      go_ret
      exact ⟨rfl, hB.out⟩
end Go.Proofs.YtjhmphokmmmoaaaGreatDoor.L
