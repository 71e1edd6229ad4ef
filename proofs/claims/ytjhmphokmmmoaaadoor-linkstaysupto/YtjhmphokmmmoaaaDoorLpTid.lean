/- What is proved here: the contract of link.Tidy: a link as it is written, if it is allowed. -/
import Derived.Test.YtjhmphokmmmoaaaDoorBun17
import Derived.Test.YtjhmphokmmmoaaaDoorLpAllow
import Derived.Test.YtjhmphokmmmoaaaDoorLpEnc
import Derived.Test.YtjhmphokmmmoaaaDoorBun18
namespace Go.Proofs.YtjhmphokmmmoaaaDoor.L
open Go.RowKit Go.Shelf Go.Proofs.YtjhmphokmmmoaaaDoor.N Go.Proofs.YtjhmphokmmmoaaaDoor.U

/-- What Allowed answers, opened. -/
theorem allow_two (ss : List (List UInt8)) (x : List UInt8) (rel : Bool) : ∃ (b : Bool) (n : Nat), allowV ss x rel = .tuple #[.bool b, .int .i64 (n : Int)] ∧ (b = true → n = 0) := by
  unfold allowV
  split
  · cases schemeL x with
    | none => exact ⟨rel, 0, rfl, fun _ => rfl⟩
    | some s => exact ⟨ss.contains s, 0, rfl, fun _ => rfl⟩
  · exact ⟨false, 120, rfl, fun h => by cases h⟩
/-- What Tidy answers, by what Allowed answers. -/
def tidV (b : Bool) (n : Nat) (t : List UInt8) : Value := if b then .tuple #[.string ⟨t.toArray⟩, .bool true, .int .i64 0] else .tuple #[.string ⟨#[]⟩, .bool false, .int .i64 (n : Int)]
theorem lower_txt (x : List UInt8) (W : World) (hx : x.length ≤ 4000000000) : Calls Tryd.prog 16 #[.string ⟨x.toArray⟩] W fun e W' => e = .returned (.string ⟨(lower x).toArray⟩) ∧ Below W.heap.size W W' :=
  N.lower_calls ⟨x.toArray⟩ W (by rw [arr_size]; omega)
theorem tidy_parts (s : List UInt8) (hv : Val s) : ∃ n : Nat, n ≤ s.length ∧ (colonZ s = (n : Int) ∨ (colonZ s = -1 ∧ n = 0)) ∧ Val (s.drop n) ∧ tidyX s = lower (s.take n) ++ (if readsB (lower (s.take n)) then slL (s.drop n) else s.drop n) := by
  cases hc : colonL s with
  | none =>
    refine ⟨0, by omega, .inr ⟨by unfold colonZ; rw [hc], rfl⟩, by simpa using hv, ?_⟩
    unfold tidyX
    rw [hc]
    simp [readsB, lower]
  | some n =>
    obtain ⟨X, R, hS, rfl⟩ := colon_parts hc
    have ht := hS.take
    have hd := hS.drop
    have hXv : ∀ c ∈ X, c.toNat < 128 := fun c hcm => (inner_open (hS.inner c hcm)).1
    refine ⟨X.length, by rw [hS.all]; simp, .inl (by unfold colonZ; rw [hc]), hv.drop _ (by rw [ht]; exact hXv), ?_⟩
    unfold tidyX
    rw [hc]
    simp only [ht]
    have hne : (lower X == []) = false := by
      obtain ⟨c, t, e, _⟩ := hS.letter
      rw [e]; rfl
    unfold readsB
    rw [hne, Bool.or_false]
set_option maxRecDepth 100000 in
set_option maxHeartbeats 4000000 in
/-- **Tidy.** -/
theorem tidy_calls (bs : List UInt8) (ss : List (List UInt8)) (a : Option Addr) (cap : Nat) (rel b : Bool) (n : Nat) (hab : allowV ss (stripL bs) rel = .tuple #[.bool b, .int .i64 (n : Int)]) (w : World) (hT : Tb w) (hN : Nev w) (hS : Sla w) (hM : MaxR w) (hL : TextsAt w a ss) (hbs : bs.length ≤ 100000000) (hl : ss.length ≤ 100000000) (hcap : ss.length ≤ cap) (hx : ∀ x ∈ ss, x.length ≤ 1000000000) :
    Calls Tryd.prog 19 #[.string ⟨bs.toArray⟩, .slice a ss.length cap, .bool rel] w fun e W' => e = .returned (tidV b n (tidyT (stripL bs))) ∧ Below w.heap.size w W' := by
  have mixed : Tryd.prog.follows .mixedOrders = true := by kernel_rfl
  have HA : Hid (Calls Tryd.prog 21 #[.string ⟨bs.toArray⟩, .slice a ss.length cap, .bool rel] w fun e W' => e = .returned (.tuple #[.bool b, .int .i64 (n : Int)]) ∧ Below w.heap.size w W') := by
    have h := allowed_calls bs ss a cap rel w hT hN hL (by omega) hl hcap hx
    rw [hab] at h
    exact h
  clear hab
  cases b with
  | false =>
    unfold tidV
    clear hT hN hS hM hL hx
    go_enter Tryd.func19, Tryd.ntmps19
    go_wp2_with fail
    (go_at_call 21; refine HA.out.mono ?_; rintro e w1 ⟨rfl, hb1⟩)
    go_wp2_with fail
    go_ret3
    exact ⟨rfl, hb1⟩
  | true =>
    have HST : Hid (∀ W, Below w.heap.size w W → Calls Tryd.prog 14 #[.string ⟨bs.toArray⟩] W fun e W' => e = .returned (.string ⟨(stripL bs).toArray⟩) ∧ Below W.heap.size W W') := fun W h => strip_calls bs W (hT.below h) (by omega)
    have hsl := stripL_le bs
    have hval := val_strip bs
    obtain ⟨s, hs⟩ : ∃ s, stripL bs = s := ⟨_, rfl⟩
    rw [hs] at HST hsl hval ⊢
    obtain ⟨k, hk, hcz, hvd, hx1⟩ := tidy_parts s hval
    have hvx := tidy_val hval
    have HEN : Hid (∀ W, Below w.heap.size w W → Calls Tryd.prog 17 #[.string ⟨(tidyX s).toArray⟩] W fun e W' => e = .returned (.string ⟨(tidyT s).toArray⟩) ∧ Below W.heap.size W W') := fun W h => by
      have hlx : (tidyX s).length ≤ 10000000000 := by
        rw [hx1, List.length_append]
        have h1 : (lower (s.take k)).length = (s.take k).length := by simp [lower]
        have h2 : (if readsB (lower (s.take k)) then slL (s.drop k) else s.drop k).length = (s.drop k).length := by split <;> simp [slL_length]
        rw [h1, h2, List.length_take, List.length_drop]
        omega
      have hh := encode_calls (tidyX s) W (hT.below h) hlx
      rw [hvx.mend, encodeM_eq] at hh
      exact hh
    have HCO := hid_of (fun W => pcolon_calls s W (by omega))
    have HLO := hid_of (fun W => lower_txt (s.take k) W (by rw [List.length_take]; omega))
    have HRD : Hid (∀ W, Below w.heap.size w W → Calls Tryd.prog 46 #[.string ⟨(lower (s.take k)).toArray⟩] W fun e w' => e = .returned (.bool (readsB (lower (s.take k)))) ∧ w' = W) := fun W h => reads_calls _ W (hS.below h)
    have HTU : Hid (∀ W, Below w.heap.size w W → Calls Tryd.prog 47 #[.string ⟨(s.drop k).toArray⟩] W fun e w' => e = .returned (.string ⟨(slL (s.drop k)).toArray⟩) ∧ Below W.heap.size W w') := fun W h => turn_calls _ hvd W (hM.below h) (by rw [List.length_drop]; omega)
    have y1 := slice_h s k hk (k : Int) rfl
    have y2 := slice_l s k hk (k : Int) rfl
    have hsz := arr_size s
    have zA := arr_size (lower (s.take k))
    have zC := arr_size (s.drop k)
    have zD := arr_size (slL (s.drop k))
    rw [show (lower (s.take k)).length = k by simp [lower]; omega] at zA
    rw [List.length_drop] at zC
    rw [slL_length, List.length_drop] at zD
    have hcatC : (⟨(lower (s.take k)).toArray⟩ : ByteArray) ++ ⟨(s.drop k).toArray⟩ = ⟨(lower (s.take k) ++ s.drop k).toArray⟩ := by
      apply ByteArray.ext; rw [ByteArray.data_append]; simp
    have hcatD : (⟨(lower (s.take k)).toArray⟩ : ByteArray) ++ ⟨(slL (s.drop k)).toArray⟩ = ⟨(lower (s.take k) ++ slL (s.drop k)).toArray⟩ := by
      apply ByteArray.ext; rw [ByteArray.data_append]; simp
    rw [hx1] at HEN
    generalize tidyT s = T at *
    generalize hA : lower (s.take k) = A at *
    generalize slL (s.drop k) = D at *
    generalize s.drop k = C at *
    generalize s.take k = B at *
    clear hT hN hS hM hL hx hs hval hvd hx1 hvx hA
    generalize readsB A = rd at *
    have hmx : max (0 : Int) (k : Int) = (k : Int) := by omega
    unfold tidV
    rcases hcz with hcz | ⟨hcz, hk0⟩
    case' inl => rw [hcz] at HCO; clear hcz
    case' inr => rw [hcz] at HCO; subst hk0; rw [show ((0 : Nat) : Int) = 0 from rfl] at y1 y2; clear hcz hmx; have hmx : max (0 : Int) (-1) = 0 := by decide
    all_goals cases rd
    all_goals simp only [Bool.false_eq_true, if_false, if_true] at HEN
    all_goals go_enter Tryd.func19, Tryd.ntmps19
    all_goals go_wp2_with fail
    all_goals (go_at_call 21; refine HA.out.mono ?_; rintro e w1 ⟨rfl, hb1⟩)
    all_goals have HB1 := hid_of hb1
    all_goals clear hb1
    all_goals go_wp2_with fail
    all_goals (go_at_call 14; refine (HST.out _ HB1.out).mono ?_; rintro e w2 ⟨rfl, hb2⟩)
    all_goals have HB2 := hid_of (HB1.out.trans (hb2.mono HB1.out.size))
    all_goals clear hb2
    all_goals go_wp2_with fail
    all_goals (go_at_call 24; refine (HCO.out _).mono ?_; rintro e w' ⟨rfl, hw'⟩; obtain rfl : w2 = w' := hw'.symm)
    all_goals have D1 : ∀ d os, Below w2.heap.size w2 (Go.Sort.grow (redrawn w2 d) os) := fun d os => below_regrown w2 d os
    all_goals have D' : ∀ d os, Below w.heap.size w (Go.Sort.grow (redrawn w2 d) os) := fun d os => HB2.out.trans ((D1 d os).mono HB2.out.size)
    all_goals have q1 : ∀ d os, Calls Tryd.prog 16 #[.string ⟨B.toArray⟩] (Go.Sort.grow (redrawn w2 d) os) fun e w'' => e = .returned (.string ⟨A.toArray⟩) ∧ ∃ p : Regrown, w'' = Go.Sort.grow (redrawn w2 p.d) p.os := fun d os => Calls.regrown_of (HLO.out _)
    all_goals go_wp2_with fail
    all_goals refine wp_region_quiet_below mixed (by kernel_rfl) ?_
    all_goals repeat (go_big_quiet_step (with_reducible exact q1 _ _))
    all_goals refine wpQuiet_nil ?_
    all_goals intro _ hw'
    all_goals obtain ⟨⟨dr, osr⟩, hw''⟩ := hw'
    all_goals have hb3 := D' dr osr
    all_goals rw [← hw''] at hb3
    all_goals rename_i w3
    all_goals have HB3 := hid_of hb3
    all_goals clear hw'' q1 D1 D' hb3
    all_goals go_wp2_with fail
    all_goals (go_at_call 46; refine (HRD.out _ HB3.out).mono ?_; rintro e w' ⟨rfl, hw'⟩; obtain rfl : w3 = w' := hw'.symm)
    all_goals go_wp2_with (first
      | (go_at_call 47; refine (HTU.out _ HB3.out).mono ?_; rintro e w4 ⟨rfl, hb4⟩)
      | (go_at_call 17; refine (HEN.out _ HB3.out).mono ?_; rintro e w5 ⟨rfl, hb5⟩)
      | (go_at_call 17; refine (HEN.out _ (HB3.out.trans (hb4.mono HB3.out.size))).mono ?_; rintro e w5 ⟨rfl, hb5⟩))
    all_goals go_ret3
    all_goals first
      | exact ⟨rfl, HB3.out.trans (hb5.mono HB3.out.size)⟩
      | exact ⟨rfl, (HB3.out.trans (hb4.mono HB3.out.size)).trans (hb5.mono (by have := HB3.out.size; have := hb4.size; omega))⟩
end Go.Proofs.YtjhmphokmmmoaaaDoor.L
