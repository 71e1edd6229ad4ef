/- What is proved here: the statement LinkStays (stripping, encoding, taking out dots and tidying a second time change nothing; a tidied link is allowed and keeps its scheme and kind) holds for texts up to the size that the statement's narrower form names, with no other condition but what the card says of the listed tables. -/
import Derived.Test.YtjhmphokmmmoaaaDoorCards
import Derived.Test.YtjhmphokmmmoaaaDoorTie
import Derived.Test.YtjhmphokmmmoaaaDoorBun17
import Derived.Test.YtjhmphokmmmoaaaDoorLpTid
import Derived.Test.YtjhmphokmmmoaaaDoorLpDots
import Derived.Test.YtjhmphokmmmoaaaDoorLkDotM
import Derived.Deep.SlicePairs
import Derived.Deep.Strs
import Derived.ChangeSame
import Derived.ProofKit
import Derived.OpenShut
namespace Go.Proofs.YtjhmphokmmmoaaaDoor.LpStays
open Go.ChangeShapes Go.WideShapes Go.ChangeAt Go.RowKit Go.Shelf U N L

theorem bulk_words {H : Type} (S : Nat → ByteArray) : ∀ L : List Nat, L.length ≤ Rows.uptoBulkAll (H := H) (L.map fun i => DataW.lit (.string (S i).data.toList)) ∧ ∀ i ∈ L, (S i).data.toList.length ≤ Rows.uptoBulkAll (H := H) (L.map fun i => DataW.lit (.string (S i).data.toList))
  | [] => ⟨by simp, fun i hi => absurd hi (by simp)⟩
  | i :: r => by
    obtain ⟨h1, h2⟩ := bulk_words (H := H) S r
    simp only [List.map_cons, List.length_cons, Rows.uptoBulkAll, Rows.uptoBulk]
    refine ⟨by omega, fun j hj => ?_⟩
    rcases List.mem_cons.1 hj with rfl | hj
    · omega
    · have := h2 j hj; omega
set_option maxRecDepth 100000 in
/-- A row of words that came in. -/
theorem words_of_trod {H : Type} {enc : TypeId × Value → H} {W : World} {c : Value} {d : DataW H} {p : List MemPlace} {fuel : Nat} (hf : DataW.trod enc Tryd.prog W 0 (fun _ => true) true fuel 37 [c] = some (d, p)) :
    ∃ (a : Option Addr) (cap : Nat) (L : List (List UInt8)), c = .slice a L.length cap ∧ L.length ≤ cap ∧ TextsAt W a L ∧ L.length ≤ Rows.uptoBulk d ∧ ∀ x ∈ L, x.length ≤ Rows.uptoBulk d := by
  rcases Deep.open_strs Tryd.underlying37 Tryd.underlying9 (by kernel_rfl) hf with ⟨hcs, hx⟩ | ⟨a, len, cap, m, S, hcs, _, hl, hmx, hm, hx, hat⟩
  · simp only [List.cons.injEq, and_true] at hcs
    exact ⟨none, 0, [], hcs, by simp, fun j hj => absurd hj (by simp), by simp, fun x hx => absurd hx (by simp)⟩
  · simp only [List.cons.injEq, and_true] at hcs
    simp only [if_true] at hm
    simp only [Prod.mk.injEq] at hx
    obtain ⟨b1, b2⟩ := bulk_words (H := H) S (List.range len)
    rw [List.length_range] at b1
    refine ⟨some a, cap, (List.range len).map fun i => (S i).data.toList, by rw [hcs]; simp, by simpa using hl, fun j hj => ?_, ?_, fun x hx' => ?_⟩
    · have hj' : j < len := by simpa using hj
      obtain ⟨b, off, spot⟩ := a
      have hsp : spot = none := by
        have := (hat 0 (by omega)).1
        cases spot with
        | none => rfl
        | some s => simp [World.cell?, Addr.add] at this; split at this <;> cases this
      subst hsp
      refine ⟨b, off, rfl, ?_⟩
      have g := (hat j (by omega)).1
      rw [add_none] at g
      rw [g]
      simp [hj']
    · rw [hx.1]
      simp only [Rows.uptoBulk, List.length_map, List.length_range]
      omega
    · obtain ⟨i, hi, rfl⟩ := List.mem_map.1 hx'
      have := b2 i hi
      rw [hx.1]
      simp only [Rows.uptoBulk]
      omega
set_option maxRecDepth 100000 in
theorem words_of_read {H : Type} {enc : TypeId × Value → H} {W : World} {v : Value} {d : DataW H} {p : List MemPlace} (hv : ∃ a len cap, v = .slice a len cap) (h : DataW.Trod enc Tryd.prog W 0 (fun _ => true) true 37 v d p) :
    ∃ (a : Option Addr) (cap : Nat) (L : List (List UInt8)), v = .slice a L.length cap ∧ L.length ≤ cap ∧ TextsAt W a L ∧ L.length ≤ Rows.uptoBulk d ∧ ∀ x ∈ L, x.length ≤ Rows.uptoBulk d := by
  obtain ⟨a0, len0, cap0, rfl⟩ := hv
  obtain ⟨fuel, hf0⟩ := h
  have hf : DataW.trod enc Tryd.prog W 0 (fun _ => true) true fuel 37 [.slice a0 len0 cap0] = some (d, p) := hf0
  exact words_of_trod hf
theorem scheme_open (l : List UInt8) : ∃ s b, schemeV l = .tuple #[.string s, .bool b] := by
  unfold schemeV
  cases colonL l with
  | none => exact ⟨_, _, rfl⟩
  | some n => exact ⟨_, _, rfl⟩
theorem allow_three (ss : List (List UInt8)) (x : List UInt8) (rel : Bool) : allowV ss x rel = .tuple #[.bool true, .int .i64 0] ∨ allowV ss x rel = .tuple #[.bool false, .int .i64 0] ∨ allowV ss x rel = .tuple #[.bool false, .int .i64 120] := by
  unfold allowV
  split
  · cases schemeL x with
    | none => cases rel <;> simp
    | some s =>
      show Value.tuple #[.bool (ss.contains s), .int .i64 0] = _ ∨ Value.tuple #[.bool (ss.contains s), .int .i64 0] = _ ∨ _
      cases ss.contains s <;> simp
  · simp
theorem allow_again (ss : List (List UInt8)) (s : List UInt8) (rel : Bool) : allowV ss (stripL (tidyT s)) rel = allowV ss s rel := by
  rw [tidyT_strip]
  unfold allowV
  rw [(tidyT_scheme s).2]
theorem encS_again (v : List UInt8) : encodeM (mendL (encodeM (mendL v))) = encodeM (mendL v) := by
  simp only [encodeM_eq]
  rw [(val_ascii _ (fun c hc => by have := (ascii_parts (encS_ascii _ c hc)).2.1; omega) : Val (encS (mendL v))).mend, enc_again]
theorem dots_again (v : List UInt8) : dotsM (mendL (dotsM (mendL v))) = dotsM (mendL v) := by
  rw [(dotsM_val (val_mend v)).mend, dotsM_again]
theorem tidyT_le (s : List UInt8) : (tidyT s).length ≤ 3 * s.length := by
  have h1 : (tidyX s).length ≤ s.length := by
    unfold tidyX
    split
    · rw [slL_length]; omega
    · rename_i n _
      rw [List.length_append]
      have h2 : (if slasheds.contains (lower (s.take n)) then slL (s.drop n) else s.drop n).length = (s.drop n).length := by split <;> simp [slL_length]
      have h3 : (lower (s.take n)).length = (s.take n).length := by simp [lower]
      rw [h2, h3, List.length_take, List.length_drop]
      omega
  have := encodeM_le (tidyX s)
  rw [encodeM_eq] at this
  unfold tidyT
  omega
set_option maxRecDepth 100000 in
set_option maxHeartbeats 4000000 in
theorem walk_on (w : World) (hT : Tb w) (hN : Nev w) (hS : Sla w) (hM : MaxR w) (v : List UInt8) (hv : v.length ≤ 1048576) (ss : List (List UInt8)) (a : Option Addr) (cap : Nat) (rel : Bool) (hL : TextsAt w a ss) (hl : ss.length ≤ 1048576) (hcap : ss.length ≤ cap) (hx : ∀ x ∈ ss, x.length ≤ 1048576) : Calls Tryd.prog 5 #[.string ⟨v.toArray⟩, .slice a ss.length cap, .bool rel] w fun e w' => e = .returned (.bool true) ∧ Below w.heap.size w w' := by
  have hx' : ∀ x ∈ ss, x.length ≤ 1000000000 := fun x h => by have := hx x h; omega
  have HW : Hid (∀ W, Below w.heap.size w W → Calls Tryd.prog 13 #[] W fun e w' => e = .returned (.bool true) ∧ Below W.heap.size W w') := fun W h => awake_calls W (hT.below h)
  have l1 := stripL_le v
  have l2 := encodeM_le (mendL v)
  have l3 := dotsM_le (mendL v)
  have l4 := mend_le v
  have l5 := tidyT_le (stripL v)
  have HS1 : Hid (∀ W, Below w.heap.size w W → Calls Tryd.prog 14 #[.string ⟨v.toArray⟩] W fun e W' => e = .returned (.string ⟨(stripL v).toArray⟩) ∧ Below W.heap.size W W') := fun W h => strip_calls v W (hT.below h) (by omega)
  have HS2 : Hid (∀ W, Below w.heap.size w W → Calls Tryd.prog 14 #[.string ⟨(stripL v).toArray⟩] W fun e W' => e = .returned (.string ⟨(stripL v).toArray⟩) ∧ Below W.heap.size W W') := fun W h => by
    have := strip_calls (stripL v) W (hT.below h) (by omega)
    rw [strip_again] at this; exact this
  have HE1 : Hid (∀ W, Below w.heap.size w W → Calls Tryd.prog 17 #[.string ⟨v.toArray⟩] W fun e W' => e = .returned (.string ⟨(encodeM (mendL v)).toArray⟩) ∧ Below W.heap.size W W') := fun W h => encode_calls v W (hT.below h) (by omega)
  have HE2 : Hid (∀ W, Below w.heap.size w W → Calls Tryd.prog 17 #[.string ⟨(encodeM (mendL v)).toArray⟩] W fun e W' => e = .returned (.string ⟨(encodeM (mendL v)).toArray⟩) ∧ Below W.heap.size W W') := fun W h => by
    have := encode_calls (encodeM (mendL v)) W (hT.below h) (by omega)
    rw [encS_again] at this; exact this
  have HD1 : Hid (∀ W, Below w.heap.size w W → Calls Tryd.prog 18 #[.string ⟨v.toArray⟩] W fun e W' => e = .returned (.string ⟨(dotsM (mendL v)).toArray⟩) ∧ Below W.heap.size W W') := fun W h => dots_calls v W (hT.below h) (by omega)
  have HD2 : Hid (∀ W, Below w.heap.size w W → Calls Tryd.prog 18 #[.string ⟨(dotsM (mendL v)).toArray⟩] W fun e W' => e = .returned (.string ⟨(dotsM (mendL v)).toArray⟩) ∧ Below W.heap.size W W') := fun W h => by
    have := dots_calls (dotsM (mendL v)) W (hT.below h) (by omega)
    rw [dots_again] at this; exact this
  obtain ⟨sc, sb, hsc⟩ := scheme_open (stripL v)
  have HC1 : Hid (∀ W, Below w.heap.size w W → Calls Tryd.prog 15 #[.string ⟨v.toArray⟩] W fun e W' => e = .returned (.tuple #[.string sc, .bool sb]) ∧ Below W.heap.size W W') := fun W h => by
    have := scheme_calls v W (hT.below h) (by omega)
    rw [hsc] at this; exact this
  have HC2 : Hid (∀ W, Below w.heap.size w W → Calls Tryd.prog 15 #[.string ⟨(tidyT (stripL v)).toArray⟩] W fun e W' => e = .returned (.tuple #[.string sc, .bool sb]) ∧ Below W.heap.size W W') := fun W h => by
    have := scheme_calls (tidyT (stripL v)) W (hT.below h) (by omega)
    rw [tidyT_strip, (tidyT_scheme _).1, hsc] at this; exact this
  obtain ⟨K, hK⟩ : ∃ K : Nat, kindL (stripL v) = K := ⟨_, rfl⟩
  have HK1 : Hid (∀ W, Below w.heap.size w W → Calls Tryd.prog 22 #[.string ⟨v.toArray⟩] W fun e W' => e = .returned (.int .i64 K) ∧ Below W.heap.size W W') := fun W h => by
    have := kind_calls v W (hT.below h) (by omega)
    rw [hK] at this; exact this
  have HK2 : Hid (∀ W, Below w.heap.size w W → Calls Tryd.prog 22 #[.string ⟨(tidyT (stripL v)).toArray⟩] W fun e W' => e = .returned (.int .i64 K) ∧ Below W.heap.size W W') := fun W h => by
    have := kind_calls (tidyT (stripL v)) W (hT.below h) (by omega)
    rw [tidyT_strip, tidyT_kind, hK] at this; exact this
  have HT1 : Hid (∀ (b : Bool) (n : Nat), allowV ss (stripL v) rel = .tuple #[.bool b, .int .i64 (n : Int)] → ∀ W, Below w.heap.size w W → Calls Tryd.prog 19 #[.string ⟨v.toArray⟩, .slice a ss.length cap, .bool rel] W fun e W' => e = .returned (tidV b n (tidyT (stripL v))) ∧ Below W.heap.size W W') := fun b n hab W h =>
    tidy_calls v ss a cap rel b n hab W (hT.below h) (hN.below h) (hS.below h) (hM.below h) (hL.below h) (by omega) (by omega) hcap hx'
  have HT2 : Hid (∀ (b : Bool) (n : Nat), allowV ss (stripL v) rel = .tuple #[.bool b, .int .i64 (n : Int)] → ∀ W, Below w.heap.size w W → Calls Tryd.prog 19 #[.string ⟨(tidyT (stripL v)).toArray⟩, .slice a ss.length cap, .bool rel] W fun e W' => e = .returned (tidV b n (tidyT (stripL v))) ∧ Below W.heap.size W W') := fun b n hab W h => by
    have := tidy_calls (tidyT (stripL v)) ss a cap rel b n (by rw [allow_again]; exact hab) W (hT.below h) (hN.below h) (hS.below h) (hM.below h) (hL.below h) (by omega) (by omega) hcap hx'
    rw [tidyT_strip, tidyT_again] at this; exact this
  have HA2 : Hid (∀ W, Below w.heap.size w W → Calls Tryd.prog 21 #[.string ⟨(tidyT (stripL v)).toArray⟩, .slice a ss.length cap, .bool rel] W fun e W' => e = .returned (allowV ss (stripL v) rel) ∧ Below W.heap.size W W') := fun W h => by
    have := allowed_calls (tidyT (stripL v)) ss a cap rel W (hT.below h) (hN.below h) (hL.below h) (by omega) (by omega) hcap hx'
    rw [allow_again] at this; exact this
  have h3 := allow_three ss (stripL v) rel
  clear hsc hK hT hN hS hM hL hx hx' l1 l2 l3 l4 l5 hv hl hcap
  generalize tidyT (stripL v) = T at *
  generalize hAV : allowV ss (stripL v) rel = AV at *
  clear hAV
  generalize stripL v = S at *
  generalize encodeM (mendL v) = E at *
  generalize dotsM (mendL v) = D at *
  rcases h3 with rfl | rfl | rfl
  case' inl =>
    have HTA : Hid (∀ W, Below w.heap.size w W → Calls Tryd.prog 19 #[.string ⟨v.toArray⟩, .slice a ss.length cap, .bool rel] W fun e W' => e = .returned (.tuple #[.string ⟨T.toArray⟩, .bool true, .int .i64 0]) ∧ Below W.heap.size W W') := HT1.out true 0 rfl
    have HTB : Hid (∀ W, Below w.heap.size w W → Calls Tryd.prog 19 #[.string ⟨T.toArray⟩, .slice a ss.length cap, .bool rel] W fun e W' => e = .returned (.tuple #[.string ⟨T.toArray⟩, .bool true, .int .i64 0]) ∧ Below W.heap.size W W') := HT2.out true 0 rfl
  case' inr.inl =>
    have HTA : Hid (∀ W, Below w.heap.size w W → Calls Tryd.prog 19 #[.string ⟨v.toArray⟩, .slice a ss.length cap, .bool rel] W fun e W' => e = .returned (.tuple #[.string ⟨#[]⟩, .bool false, .int .i64 0]) ∧ Below W.heap.size W W') := HT1.out false 0 rfl
  case' inr.inr =>
    have HTA : Hid (∀ W, Below w.heap.size w W → Calls Tryd.prog 19 #[.string ⟨v.toArray⟩, .slice a ss.length cap, .bool rel] W fun e W' => e = .returned (.tuple #[.string ⟨#[]⟩, .bool false, .int .i64 120]) ∧ Below W.heap.size W W') := HT1.out false 120 rfl
  all_goals clear HT1 HT2
  all_goals go_enter Tryd.func5, Tryd.ntmps5
  all_goals go_wp2_with fail
  all_goals (go_at_call 14; refine (HS1.out _ (Below.refl _ _)).mono ?_; rintro e w1 ⟨rfl, b1⟩)
  all_goals go_wp2_with fail
  all_goals (go_at_call 17; refine (HE1.out _ b1).mono ?_; rintro e w2 ⟨rfl, h2⟩)
  all_goals have b2 := b1.trans (h2.mono b1.size)
  all_goals clear b1 h2
  all_goals go_wp2_with fail
  all_goals (go_at_call 18; refine (HD1.out _ b2).mono ?_; rintro e w3 ⟨rfl, h3⟩)
  all_goals have b3 := b2.trans (h3.mono b2.size)
  all_goals clear b2 h3
  all_goals go_wp2_with fail
  all_goals (go_at_call 14; refine (HS2.out _ b3).mono ?_; rintro e w4 ⟨rfl, h4⟩)
  all_goals have b4 := b3.trans (h4.mono b3.size)
  all_goals clear b3 h4
  all_goals go_wp2_with fail
  all_goals (go_at_call 17; refine (HE2.out _ b4).mono ?_; rintro e w5 ⟨rfl, h5⟩)
  all_goals have b5 := b4.trans (h5.mono b4.size)
  all_goals clear b4 h5
  all_goals go_wp2_with fail
  all_goals (go_at_call 18; refine (HD2.out _ b5).mono ?_; rintro e w6 ⟨rfl, h6⟩)
  all_goals have b6 := b5.trans (h6.mono b5.size)
  all_goals clear b5 h6
  all_goals go_wp2_with fail
  all_goals (go_at_call 19; refine (HTA.out _ b6).mono ?_; rintro e w7 ⟨rfl, h7⟩)
  all_goals have b7 := b6.trans (h7.mono b6.size)
  all_goals clear b6 h7
  all_goals go_wp2_with fail
  all_goals (go_at_call 20; refine (L.num_calls _ _).mono ?_; rintro e w' ⟨rfl, hx⟩; obtain rfl : w7 = w' := hx.symm)
  all_goals go_wp2_with fail
  rotate_left 2
  · (go_at_call 19; refine (HTB.out _ b7).mono ?_; rintro e w8 ⟨rfl, h8⟩)
    have b8 := b7.trans (h8.mono b7.size)
    clear b7 h8
    go_wp2_with fail
    (go_at_call 21; refine (HA2.out _ b8).mono ?_; rintro e w9 ⟨rfl, h9⟩)
    have b9 := b8.trans (h9.mono b8.size)
    clear b8 h9
    go_wp2_with fail
    (go_at_call 15; refine (HC1.out _ b9).mono ?_; rintro e w10 ⟨rfl, h10⟩)
    have b10 := b9.trans (h10.mono b9.size)
    clear b9 h10
    go_wp2_with fail
    (go_at_call 15; refine (HC2.out _ b10).mono ?_; rintro e w11 ⟨rfl, h11⟩)
    have b11 := b10.trans (h11.mono b10.size)
    clear b10 h11
    go_wp2_with fail
    (go_at_call 22; refine (HK2.out _ b11).mono ?_; rintro e w12 ⟨rfl, h12⟩)
    have b12 := b11.trans (h12.mono b11.size)
    clear b11 h12
    go_wp2_with fail
    (go_at_call 22; refine (HK1.out _ b12).mono ?_; rintro e w13 ⟨rfl, h13⟩)
    have b13 := b12.trans (h13.mono b12.size)
    clear b12 h13
    go_wp2_with fail
    (go_at_call 13; refine (HW.out _ b13).mono ?_; rintro e w14 ⟨rfl, h14⟩)
    go_wp2_with fail
    go_ret
    exact ⟨rfl, b13.trans (h14.mono b13.size)⟩
  all_goals (go_at_call 13; refine (HW.out _ b7).mono ?_; rintro e w10 ⟨rfl, h10⟩)
  all_goals go_wp2_with fail
  all_goals go_ret
  all_goals exact ⟨rfl, b7.trans (h10.mono b7.size)⟩
theorem walk (w : World) (hT : Tb w ∧ Nev w ∧ Sla w) (hM : MaxR w) (s : ByteArray) (_hs0 : s.size ≤ 9223372036854775807) (hs : s.size ≤ 1048576) (a : Option Addr) (cap : Nat) (ss : List (List UInt8)) (hcap : ss.length ≤ cap) (hL : TextsAt w a ss) (hl : ss.length ≤ 1048576) (hx : ∀ x ∈ ss, x.length ≤ 1048576) (rel : Bool) :
    Calls Tryd.prog 5 #[.string s, .slice a ss.length cap, .bool rel] w fun e w' => e = .returned (.bool true) ∧ Below w.heap.size w w' := by
  have h := walk_on w hT.1 hT.2.1 hT.2.2 hM s.data.toList (by rw [N.size_data]; exact hs) ss a cap rel hL hl hcap hx
  rw [Lib.mk_data] at h
  exact h

set_option maxRecDepth 100000 in
theorem contract (H : Type) (enc : TypeId × Value → H) (W : World) (base : Nat) (args : Array Value) (ds gs : List (DataW H)) (before : List MemPlace)
    (hval : ∀ (j : Nat) t v, Tryd.f5.params[j]? = some t → args[j]? = some v → Value.okWide Tryd.prog W .any base t v)
    (hW : DataW.Whole enc Tryd.prog Tryd.f5.params.toList Rows.linkStaysSpec.vars false W args.toList ds gs before) (hL : laidMetH Tryd.prog Rows.linkStaysUptoRow.laid W)(hsh : W.ShapedOpen Tryd.prog) (hk : Rows.uptoSmall H (ds ++ gs) = true) :
    Calls Tryd.prog 5 args W fun e W' => ∃ v, e = .returned v ∧ Rows.linkStaysSpec.post enc Tryd.prog Tryd.f5 false true false false W args v W' := by
  have hW' := hW
  have hlt := hW.lt
  obtain ⟨p, q, hA0, hV, rfl, hfz, hnd⟩ := hW
  have hA : DataW.TrodAll enc Tryd.prog W 0 (fun _ => true) true Tryd.f5.params.toList args.toList ds p := hA0
  rw [Tryd.params5] at hA hval
  obtain ⟨v0, vs0, d0, ds0, p0, q0, hargs, rfl, rfl, h0, r0⟩ := trodAll_cons hA
  obtain ⟨v1, vs1, d1, ds1, p1, q1, rfl, rfl, rfl, h1, r1⟩ := trodAll_cons r0
  obtain ⟨v2, vs2, d2, ds2, p2, q2, rfl, rfl, rfl, h2, r2⟩ := trodAll_cons r1
  obtain ⟨rfl, rfl, rfl⟩ := trodAll_nil r2
  obtain rfl : args = #[v0, v1, v2] := by cases args; simp_all
  obtain ⟨rfl, rfl⟩ := trodVars_none hV
  clear hA0
  simp only [List.append_nil] at hW' hlt hk
  have hbulk := of_decide_eq_true hk
  simp only [Rows.uptoBulkAll] at hbulk
  have h0' := h0
  obtain ⟨s0, rfl, rfl, e0, ws0⟩ := Go.ChangeMaps.open_string Tryd.underlying9 (hval 0 9 v0 rfl rfl) h0
  have e1 := okWide_slice Tryd.underlying37 (hval 1 37 v1 rfl rfl)
  obtain ⟨wa1, wc1, ws1, rfl, cw1, hw1, l1, lx1⟩ := words_of_read e1 h1
  have h2' := h2
  obtain ⟨z2, rfl, e2, -⟩ := open_bool Tryd.underlying4 (hval 2 4 v2 rfl rfl) h2
  refine (walk W (tabs4_of_laid hL) (Tryd.laysM155.s1_3 W hsh) s0 ws0 (by simp only [L.bulk_str, N.size_data] at hbulk; omega) wa1 wc1 ws1 cw1 hw1 (by omega) (fun x hx => by have := lx1 x hx; omega) z2).mono fun e W' ⟨he, hb⟩ => ?_
  subst he
  exact ⟨_, rfl, post_below hW' (fun _ _ _ => trodAll_cons_mk (shut_bool Tryd.underlying4 _) trodAll_mk0) (trodAll_cons_mk (stays (by kernel_rfl) (of_decide_eq_true (by kernel_rfl)) h0' hb (fun x hx => hlt x (by simp [hx]))) (trodAll_cons_mk (stays (by kernel_rfl) (of_decide_eq_true (by kernel_rfl)) h1 hb (fun x hx => hlt x (by simp [hx]))) (trodAll_cons_mk (stays (by kernel_rfl) (of_decide_eq_true (by kernel_rfl)) h2' hb (fun x hx => hlt x (by simp [hx]))) trodAll_mk0))) rfl hb⟩

set_option maxRecDepth 100000 in
theorem laid_met (os : Os) : laidMet Tryd.prog Rows.linkStaysUptoRow.laid ((withTabs4 (World.holding Tryd.prog os ⟨#[], #[], []⟩)).forCall (fun _ _ => 0) ⟨#[], #[Value.string ⟨#[]⟩, Value.slice none 0 0, Value.bool false], []⟩).memory :=
  laidMet_of_run' 8 (by kernel_rfl) (by kernel_rfl)
set_option maxRecDepth 100000 in
theorem reads (os : Os) {H : Type} (enc : TypeId × Value → H) : ∃ places, DataW.whole enc Tryd.prog ((withTabs4 (World.holding Tryd.prog os ⟨#[], #[], []⟩)).forCall (fun _ _ => 0) ⟨#[], #[Value.string ⟨#[]⟩, Value.slice none 0 0, Value.bool false], []⟩).memory Tryd.f5.params.toList Rows.linkStaysSpec.vars false #[Value.string ⟨#[]⟩, Value.slice none 0 0, Value.bool false].toList 8 = some ([.lit (.string []), .nil, .lit (.bool false)], [], places) :=
  ⟨[], by kernel_rfl⟩

set_option maxRecDepth 100000 in
theorem lifted (os : Os) (started : os.Started) (H : Type) (enc : TypeId × Value → H) (F : Stop.Interp) :
    ReturnsInHanded {} Tryd.checked os 5 .any ((Rows.OpenSpec.upto Rows.linkStaysSpec).preRow enc Tryd.prog Tryd.f5 Rows.linkStaysUptoRow.domain false Rows.linkStaysUptoRow.laid) (((Rows.OpenSpec.upto Rows.linkStaysSpec).at F).post enc Tryd.prog Tryd.f5 false true false false) := by
  obtain ⟨places, hx⟩ := reads os enc
  refine returnsInHanded_of_row (C := Tryd.checked) (s := Rows.OpenSpec.upto Rows.linkStaysSpec) own started (by kernel_rfl) Tryd.func5
    (witness_row_at (enc := enc) (C := Tryd.checked) false (withTabs4 (World.holding Tryd.prog os ⟨#[], #[], []⟩)) #[Value.string ⟨#[]⟩, Value.slice none 0 0, Value.bool false] rfl (by kernel_rfl) (by kernel_rfl) (by kernel_rfl)
      (OpenSpec.preRow_of_cond 8 hx (by kernel_rfl) (fun k hk => by cases hk; kernel_rfl) (by kernel_rfl) (laid_met os))) ?_
  intro W base args ds gs before hval hW _ hcond _ hL hsh _
  exact contract H enc W base args ds gs before hval hW hL hsh (hcond _ rfl)

set_option maxRecDepth 100000 in
theorem said : Rows.LinkStaysUptoSaid :=
  OpenClaim.holds_of_cond 5 Tryd.f5 rfl rfl rfl rfl rfl rfl rfl ⟨rfl, rfl, rfl, rfl, rfl⟩ rfl rfl rfl rfl rfl (by kernel_rfl) Tryd.func5 (by kernel_rfl)
    (of_decide_eq_true (by kernel_rfl)) (by unfold Func.isWrapper; first | (rw [if_pos (by decide +kernel)]; kernel_rfl) | (rw [if_neg (by decide +kernel)]; exact ⟨rfl, rfl⟩))
    (fun os started H enc _ F => by rw [OpenClaim.pre_eq_preRow]; exact lifted os started H enc F)

theorem plain (f : FuncId) (fn : Func) (hf : Tryd.pinned.checked.prog.funcNamed "sieve/sievelaw12.LinkStays" = some f) (hfn : Tryd.pinned.checked.prog.funcs[f]? = some fn) :
    false = Tryd.pinned.checked.prog.looks [] ∧ ∀ (j : Nat) t, fn.params[j]? = some t → Tryd.pinned.checked.prog.wantsStandIn t = false := by
  obtain rfl : f = 5 := Option.some.inj ((show Tryd.prog.funcNamed "sieve/sievelaw12.LinkStays" = some 5 by kernel_rfl).symm.trans hf) |>.symm
  obtain rfl : fn = Tryd.f5 := (Option.some.inj (Tryd.func5.symm.trans hfn)).symm
  refine ⟨by kernel_rfl, fun j t ht => ?_⟩
  rw [Tryd.params5] at ht
  have hm := Array.mem_of_getElem? ht
  simp only [List.mem_toArray, List.mem_cons, List.not_mem_nil, or_false] at hm
  rcases hm with rfl | rfl | rfl
  · exact (show Tryd.prog.wantsStandIn 9 = false by kernel_rfl)
  · exact (show Tryd.prog.wantsStandIn 37 = false by kernel_rfl)
  · exact (show Tryd.prog.wantsStandIn 4 = false by kernel_rfl)

theorem card : Rows.LinkStaysUptoCardSaid :=
  Claim7.holds_tied_plain_at .later [] _ _ _ _ said (fun _ h => by cases h) (by kernel_rfl) (fun _ h => by cases h) linkStaysUpto_row_tie rfl ⟨rfl, rfl⟩ (by kernel_rfl) rfl plain (by kernel_rfl)

end Go.Proofs.YtjhmphokmmmoaaaDoor.LpStays
