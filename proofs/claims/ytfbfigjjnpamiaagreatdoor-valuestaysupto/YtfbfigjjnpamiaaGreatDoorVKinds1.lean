/- What is proved here: the contracts of the rules for ValueAny, ValueFlag, ValueNumber, ValueLength and ValueLink. -/
import Derived.Test.YtfbfigjjnpamiaaGreatDoorBun11
import Derived.Test.YtfbfigjjnpamiaaGreatDoorVTidy
import Derived.Test.YtfbfigjjnpamiaaGreatDoorBun12
import Derived.Test.YtfbfigjjnpamiaaGreatDoorVShelf2
import Derived.Lib.ItoaMem
import Derived.Lib.AppendIntMem
namespace Go.Proofs.YtfbfigjjnpamiaaGreatDoor.V
open Go.RowKit Go.Shelf Go.Proofs.YtfbfigjjnpamiaaGreatDoor.N Go.Proofs.YtfbfigjjnpamiaaGreatDoor.U Go.Proofs.YtfbfigjjnpamiaaGreatDoor.L

/-- What a rule is handed. -/
def askV (s : List UInt8) (wa sa : Option Addr) (wn wc sn sc : Nat) (rel : Bool) : Value := .agg #[.string ⟨s.toArray⟩, .slice wa wn wc, .slice sa sn sc, .bool rel]
def askC (s : List UInt8) (wa sa : Option Addr) (wn wc sn sc : Nat) (rel : Bool) : Array Value := #[.string ⟨s.toArray⟩, .slice wa wn wc, .slice sa sn sc, .bool rel]
/-- What a rule answers. -/
def saysV (o : Option (List UInt8)) : Value := .tuple #[.string ⟨(o.getD []).toArray⟩, .bool o.isSome]
theorem ask_new (w : World) (s : List UInt8) (wa sa : Option Addr) (wn wc sn sc : Nat) (rel : Bool) : ∃ W, w.alloc (.cells #[.string ⟨s.toArray⟩, .slice wa wn wc, .slice sa sn sc, .bool rel] 61) = W ∧ Below w.heap.size w W ∧ w.heap.size < W.heap.size ∧ W.cell? ⟨w.heap.size, 0, none⟩ = some (.string ⟨s.toArray⟩) ∧ W.cell? ⟨w.heap.size, 1, none⟩ = some (.slice wa wn wc) ∧ W.cell? ⟨w.heap.size, 2, none⟩ = some (.slice sa sn sc) ∧ W.cell? ⟨w.heap.size, 3, none⟩ = some (.bool rel) := by
  have h := Blk.new w #[.string ⟨s.toArray⟩, .slice wa wn wc, .slice sa sn sc, .bool rel] 61
  exact ⟨_, rfl, (Below.refl _ w).alloc (Nat.le_refl _) _, by simp, h.cell 0, h.cell 1, h.cell 2, h.cell 3⟩
theorem cell_keeps {w w' : World} {p : Addr} {v : Value} (h : w.cell? p = some v) (hb : Below w.heap.size w w') : w'.cell? p = some v := (hb.cell (cell_lt h)).trans h
set_option maxRecDepth 100000 in
set_option maxHeartbeats 1000000 in
theorem itself_calls (s : List UInt8) (wa sa : Option Addr) (wn wc sn sc : Nat) (rel : Bool) (w : World) : Calls Tryz.prog 45 #[askV s wa sa wn wc sn sc rel] w fun e W' => e = .returned (saysV (some s)) ∧ Below w.heap.size w W' := by
  obtain ⟨W, hW, hb, hz, x0, x1, x2, x3⟩ := ask_new w s wa sa wn wc sn sc rel
  have HW := hid_of hW
  clear hW
  unfold askV saysV
  go_enter Tryz.func45, Tryz.ntmps45
  go_upto_region 1 with fail
  rw [HW.out]
  go_wp2_with fail
  go_ret2
  exact ⟨rfl, hb⟩
set_option maxRecDepth 100000 in
set_option maxHeartbeats 1000000 in
theorem flag_calls (s : List UInt8) (wa sa : Option Addr) (wn wc sn sc : Nat) (rel : Bool) (w : World) : Calls Tryz.prog 53 #[askV s wa sa wn wc sn sc rel] w fun e W' => e = .returned (saysV (some [])) ∧ Below w.heap.size w W' := by
  obtain ⟨W, hW, hb, hz, x0, x1, x2, x3⟩ := ask_new w s wa sa wn wc sn sc rel
  have HW := hid_of hW
  clear hW
  unfold askV saysV
  go_enter Tryz.func53, Tryz.ntmps53
  go_upto_region 1 with fail
  rw [HW.out]
  go_wp2_with fail
  go_ret2
  exact ⟨rfl, hb⟩
theorem below_drV {B : Nat} {a w : World} (h : Below B a w) (n : Nat) : Below B a (w.drewN n) := h.trans ⟨rfl, rfl, rfl, Nat.le_refl _, fun _ _ => rfl⟩
theorem below_growV (w : World) (os : Array Obj) : Below w.heap.size w (Go.Sort.grow w os) := ⟨rfl, rfl, rfl, by simp [Go.Sort.grow], fun k hk => by simp [Go.Sort.grow, Array.getElem?_append_left hk]⟩
theorem pow_below {w w' : World} (h : Pow w) (hb : Below w.heap.size w w') : Pow w' := Lib.tabBelow_of_tabIs h w' hb
theorem itoa_calls (n : Nat) (hn : n < 1000000000) (w : World) (hP : Pow w) : Calls Tryz.prog 66 #[.int .i64 (n : Int)] w fun e w' => e = .returned (.string ⟨(Lib.decDigits n).toArray⟩) ∧ Below w.heap.size w w' := by
  refine (Any.strconv_Itoa Tryz.laysM171 (n : Int) (by omega) (by omega) w hP).mono fun e w' ⟨h1, k, os, h2⟩ => ⟨?_, ?_⟩
  · rw [h1, Lib.itoa_nonneg]
  · rw [h2]
    exact (below_drV (Below.refl _ w) k).trans ((below_growV (w.drewN k) os).mono (below_drV (Below.refl w.heap.size w) k).size)
set_option maxRecDepth 100000 in
set_option maxHeartbeats 2000000 in
/-- **The rule for ValueNumber.** -/
theorem rnum_calls (s : List UInt8) (wa sa : Option Addr) (wn wc sn sc : Nat) (rel : Bool) (w : World) (hP : Pow w) (hs : s.length ≤ 100000000000) : Calls Tryz.prog 48 #[askV s wa sa wn wc sn sc rel] w fun e W' => e = .returned (saysV ((numB s).map Lib.decDigits)) ∧ Below w.heap.size w W' := by
  obtain ⟨W, hW, hb, hz, x0, x1, x2, x3⟩ := ask_new w s wa sa wn wc sn sc rel
  have HW := hid_of hW
  have HP := hid_of (pow_below hP hb)
  have HN := hid_of (number_calls s W hs)
  have HI : Hid (∀ n, numB s = some n → ∀ W, Pow W → Calls Tryz.prog 66 #[.int .i64 (n : Int)] W fun e w' => e = .returned (.string ⟨(Lib.decDigits n).toArray⟩) ∧ Below W.heap.size W w') := fun n hn W hp => itoa_calls n (numB_lt hn) W hp
  obtain ⟨o, ho⟩ : ∃ o, numB s = o := ⟨_, rfl⟩
  rw [ho] at HN HI ⊢
  clear hW hP ho
  unfold askV
  cases o with
  | none =>
    go_enter Tryz.func48, Tryz.ntmps48
    go_upto_region 1 with fail
    rw [HW.out]
    go_wp2_with fail
    (go_at_call 26; refine HN.out.mono ?_; rintro e w2 ⟨rfl, hb2⟩)
    go_wp2_with fail
    go_ret2
    exact ⟨rfl, hb.trans (hb2.mono hb.size)⟩
  | some n =>
    go_enter Tryz.func48, Tryz.ntmps48
    go_upto_region 1 with fail
    rw [HW.out]
    go_wp2_with fail
    (go_at_call 26; refine HN.out.mono ?_; rintro e w2 ⟨rfl, hb2⟩)
    have HI2 := hid_of (HI.out n rfl w2 (pow_below HP.out hb2))
    go_wp2_with fail
    (go_at_call 66; refine HI2.out.mono ?_; rintro e w3 ⟨rfl, hb3⟩)
    go_wp2_with fail
    go_ret2
    exact ⟨rfl, (hb.trans (hb2.mono hb.size)).trans (hb3.mono (by have := hb.size; have := hb2.size; omega))⟩
set_option maxRecDepth 100000 in
set_option maxHeartbeats 2000000 in
/-- **The rule for ValueLength.** -/
theorem rlen_calls (s : List UInt8) (wa sa : Option Addr) (wn wc sn sc : Nat) (rel : Bool) (w : World) (hP : Pow w) (hs : s.length ≤ 100000000000) : Calls Tryz.prog 49 #[askV s wa sa wn wc sn sc rel] w fun e W' => e = .returned (saysV (lenB s)) ∧ Below w.heap.size w W' := by
  obtain ⟨W, hW, hb, hz, x0, x1, x2, x3⟩ := ask_new w s wa sa wn wc sn sc rel
  have HW := hid_of hW
  have HP := hid_of (pow_below hP hb)
  have HCS : Hid (Calls Tryz.prog 67 #[.string ⟨s.toArray⟩, .string ⟨#[37]⟩] W fun e w' => e = .returned (.tuple #[.string ⟨(Lib.trimSuffix s [37]).toArray⟩, .bool (Lib.hasSuffix s [37])]) ∧ w' = W) := Any.strings_CutSuffix Tryz.lays104 ⟨s.toArray⟩ ⟨#[37]⟩ W (by rw [L.arr_size]; omega)
  have HB := hid_of hb
  have htl : (Lib.trimSuffix s [37]).length ≤ s.length := by unfold Lib.trimSuffix; split <;> simp
  have HR : Hid (lenB s = (numB (Lib.trimSuffix s [37])).map fun n => Lib.decDigits n ++ if Lib.hasSuffix s [37] then [37] else []) := rfl
  obtain ⟨R, hR⟩ : ∃ R, lenB s = R := ⟨_, rfl⟩
  rw [hR] at HR ⊢
  obtain ⟨d, hd⟩ : ∃ d, Lib.trimSuffix s [37] = d := ⟨_, rfl⟩
  obtain ⟨pc, hpc⟩ : ∃ pc, Lib.hasSuffix s [37] = pc := ⟨_, rfl⟩
  rw [hd, hpc] at HCS HR
  rw [hd] at htl
  have HN := hid_of (number_calls d W (by omega))
  have HI : Hid (∀ n, numB d = some n → ∀ W, Pow W → Calls Tryz.prog 66 #[.int .i64 (n : Int)] W fun e w' => e = .returned (.string ⟨(Lib.decDigits n).toArray⟩) ∧ Below W.heap.size W w') := fun n hn W hp => itoa_calls n (numB_lt hn) W hp
  have HLN : Hid (∀ n, numB d = some n → (Lib.decDigits n).length ≤ 9) := fun n hn => (dec_len 8 n (by have := numB_lt hn; simpa using this)).2
  obtain ⟨o, ho⟩ : ∃ o, numB d = o := ⟨_, rfl⟩
  rw [ho] at HN HI HR HLN
  clear hW hP ho hd hpc hR hb
  unfold askV
  cases o with
  | none =>
    simp only [Option.map_none] at HR
    go_enter Tryz.func49, Tryz.ntmps49
    go_upto_region 1 with fail
    rw [HW.out]
    go_wp2_with fail
    (go_at_call 67; refine HCS.out.mono ?_; rintro e w' ⟨rfl, hw'⟩; obtain rfl : W = w' := hw'.symm)
    go_wp2_with fail
    (go_at_call 26; refine HN.out.mono ?_; rintro e w2 ⟨rfl, hb2⟩)
    have HB2 := hid_of (HB.out.trans (hb2.mono HB.out.size))
    clear hb2
    go_wp2_with fail
    go_ret2
    exact ⟨by rw [HR.out]; rfl, HB2.out⟩
  | some n =>
    simp only [Option.map_some] at HR
    have hln := HLN.out n rfl
    have sz := L.arr_size (Lib.decDigits n)
    have hcat : (⟨(Lib.decDigits n).toArray⟩ : ByteArray) ++ ⟨#[37]⟩ = ⟨(Lib.decDigits n ++ [37]).toArray⟩ := by
      apply ByteArray.ext
      simp only [ByteArray.data_append]
      simp
    have HI1 := hid_of (HI.out n rfl)
    generalize Lib.decDigits n = T at *
    cases pc
    all_goals go_enter Tryz.func49, Tryz.ntmps49
    all_goals go_upto_region 1 with fail
    all_goals rw [HW.out]
    all_goals go_wp2_with fail
    all_goals (go_at_call 67; refine HCS.out.mono ?_; rintro e w' ⟨rfl, hw'⟩; obtain rfl : W = w' := hw'.symm)
    all_goals go_wp2_with fail
    all_goals (go_at_call 26; refine HN.out.mono ?_; rintro e w2 ⟨rfl, hb2⟩)
    all_goals have HB2 := hid_of (HB.out.trans (hb2.mono HB.out.size))
    all_goals have HI2 := hid_of (HI1.out w2 (pow_below HP.out hb2))
    all_goals clear hb2
    all_goals go_wp2_with fail
    all_goals (go_at_call 66; refine HI2.out.mono ?_; rintro e w3 ⟨rfl, hb3⟩)
    all_goals have HB3 := hid_of (HB2.out.trans (hb3.mono HB2.out.size))
    all_goals clear hb3
    all_goals go_wp2_with fail
    all_goals go_ret2
    · exact ⟨by rw [HR.out, if_neg (by decide), List.append_nil]; rfl, HB3.out⟩
    · exact ⟨by rw [HR.out, if_pos (by decide)]; rfl, HB3.out⟩
/-- Whether a link may be. -/
def linkOk (ss : List (List UInt8)) (rel : Bool) (x : List UInt8) : Bool := ss.all checkOk && (match schemeL x with | none => rel | some s => ss.contains s)
def linkB (ss : List (List UInt8)) (rel : Bool) (s : List UInt8) : Option (List UInt8) := if linkOk ss rel (stripL s) then some (stripL s) else none
theorem allow_ok (ss : List (List UInt8)) (rel : Bool) (x : List UInt8) : ∃ b n, allowV ss x rel = .tuple #[.bool b, .int .i64 (n : Int)] ∧ (b && decide ((n : Int) = 0)) = linkOk ss rel x := by
  unfold allowV linkOk
  split
  · rename_i h
    rw [h]
    cases schemeL x with
    | none => exact ⟨rel, 0, rfl, by simp⟩
    | some s => exact ⟨ss.contains s, 0, rfl, by simp⟩
  · rename_i h
    exact ⟨false, 120, rfl, by rw [show ss.all checkOk = false by simpa using h]; rfl⟩
set_option maxRecDepth 100000 in
set_option maxHeartbeats 2000000 in
/-- **The rule for ValueLink.** -/
theorem rlink_calls (s : List UInt8) (wa sa : Option Addr) (wn wc sc : Nat) (ss : List (List UInt8)) (rel : Bool) (w : World) (hT : Tb w) (hN : Nev w) (hS : TextsAt w sa ss) (hs : s.length ≤ 1000000000) (hl : ss.length ≤ 100000000) (hcap : ss.length ≤ sc) (hx : ∀ x ∈ ss, x.length ≤ 1000000000) :
    Calls Tryz.prog 50 #[askV s wa sa wn wc ss.length sc rel] w fun e W' => e = .returned (saysV (linkB ss rel s)) ∧ Below w.heap.size w W' := by
  obtain ⟨W, hW, hb, hz, x0, x1, x2, x3⟩ := ask_new w s wa sa wn wc ss.length sc rel
  have HW := hid_of hW
  have HB := hid_of hb
  have HST := hid_of (strip_calls s W (hT.below hb) (by omega))
  have hsl : (stripL s).length ≤ 4 * s.length := stripL_le s
  have HAL : Hid (∀ W, Below w.heap.size w W → Calls Tryz.prog 69 #[.string ⟨(stripL s).toArray⟩, .slice sa ss.length sc, .bool rel] W fun e W' => e = .returned (allowV ss (stripL s) rel) ∧ Below W.heap.size W W') := fun W h => by
    have := allowed_calls (stripL s) ss sa sc rel W (hT.below h) (hN.below h) (hS.below h) (by omega) hl hcap hx
    rw [strip_again] at this
    exact this
  obtain ⟨b, n, hbn, hok⟩ := allow_ok ss rel (stripL s)
  rw [hbn] at HAL
  have HR : Hid (linkB ss rel s = if linkOk ss rel (stripL s) then some (stripL s) else none) := rfl
  rw [← hok] at HR
  obtain ⟨R, hR⟩ : ∃ R, linkB ss rel s = R := ⟨_, rfl⟩
  rw [hR] at HR ⊢
  obtain ⟨t, ht⟩ : ∃ t, stripL s = t := ⟨_, rfl⟩
  rw [ht] at HST HAL HR
  have hn0 : ((n : Int) != 0) = !decide ((n : Int) = 0) := by
    by_cases h : (n : Int) = 0
    · rw [h]; rfl
    · rw [decide_eq_false h, bne_iff_ne.2 h]; rfl
  obtain ⟨z, hz0⟩ : ∃ z, decide ((n : Int) = 0) = z := ⟨_, rfl⟩
  rw [hz0] at HR hn0
  clear hW hT hN hS hbn hok hR ht hz0 hb hsl
  unfold askV
  cases b <;> cases z
  all_goals simp only [Bool.not_true, Bool.not_false, Bool.and_true, Bool.and_false, Bool.and_self] at hn0 HR
  all_goals go_enter Tryz.func50, Tryz.ntmps50
  all_goals go_upto_region 1 with fail
  all_goals rw [HW.out]
  all_goals go_wp2_with fail
  all_goals (go_at_call 68; refine HST.out.mono ?_; rintro e w2 ⟨rfl, hb2⟩)
  all_goals have HB2 := hid_of (HB.out.trans (hb2.mono HB.out.size))
  all_goals have y2 := cell_keeps x2 hb2
  all_goals have y3 := cell_keeps x3 hb2
  all_goals clear hb2
  all_goals go_wp2_with fail
  all_goals (go_at_call 69; refine (HAL.out _ HB2.out).mono ?_; rintro e w3 ⟨rfl, hb3⟩)
  all_goals have HB3 := hid_of (HB2.out.trans (hb3.mono HB2.out.size))
  all_goals clear hb3
  all_goals go_wp2_with fail
  all_goals go_ret2
  all_goals exact ⟨by rw [HR.out]; rfl, HB3.out⟩
end Go.Proofs.YtfbfigjjnpamiaaGreatDoor.V
