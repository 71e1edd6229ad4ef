/- What is proved here: the contract of the document's Tidy: a link as it is written, if it is allowed. -/
import Derived.Test.YtjhmphokmmmoaaaGreatDoorBun19
import Derived.Test.YtjhmphokmmmoaaaGreatDoorBun21
import Derived.Test.YtjhmphokmmmoaaaGreatDoorBun13
namespace Go.Proofs.YtjhmphokmmmoaaaGreatDoor.L
open Go.RowKit Go.Shelf Go.Proofs.YtjhmphokmmmoaaaGreatDoor.N Go.Proofs.YtjhmphokmmmoaaaGreatDoor.U

theorem rlower_txt (x : List UInt8) (W : World) (hx : x.length ≤ 4000000000) : Calls Tryz.prog 24 #[.string ⟨x.toArray⟩] W fun e W' => e = .returned (.string ⟨(lower x).toArray⟩) ∧ Below W.heap.size W W' :=
  N.rlower_calls ⟨x.toArray⟩ W (by rw [arr_size]; omega)
/-- Y is S with its backslashes turned where t says so. -/
structure Turned (t : Bool) (S Y : List UInt8) : Prop where
  len : Y.length = S.length
  at' : ∀ i, i < S.length → Y.getD i 0 = if t && (S.getD i 0 == 92) && decide (i < upToL [63, 35] S) then 47 else S.getD i 0
theorem turned_sl (S : List UInt8) : Turned true S (slL S) := ⟨slL_length S, fun i hi => by rw [slL_at S i hi, Bool.true_and]⟩
theorem turned_no (S : List UInt8) : Turned false S S := ⟨rfl, fun i _ => by simp⟩
theorem take_more (Y : List UInt8) (k : Nat) (d : UInt8) (h : k < Y.length) (hd : Y.getD k 0 = d) : Y.take (k + 1) = Y.take k ++ [d] := by
  rw [List.take_succ_eq_append_getElem h, ← hd]
  simp [h]
theorem one_slice (S : List UInt8) (k : Nat) (c : UInt8) (h : k < S.length) (hc : S.getD k 0 = c) (w : World) : (Instr.slice 9 (.string ⟨S.toArray⟩) (some (.int .i64 (k : Int))) (some (.int .i64 ((k : Int) + 1))) none).run Tryz.prog w = .ok (.string ⟨#[c]⟩) w := by
  rw [slice_lh S k (k + 1) (by omega) (by omega) (k : Int) ((k : Int) + 1) rfl (by omega)]
  rw [take_more S k c h hc, List.drop_append, List.drop_eq_nil_of_le (by rw [List.length_take]; omega)]
  have : k - (S.take k).length = 0 := by simp; omega
  rw [this]
  rfl
/-- The document's way to what Tidy encodes. -/
theorem tidy_doc (s : List UInt8) : (colonZ s = -1 ∧ Turned true s (tidyX s)) ∨ ∃ n : Nat, n ≤ s.length ∧ colonZ s = (n : Int) ∧ Turned (slasheds.contains (lower (s.take n))) (lower (s.take n) ++ s.drop n) (tidyX s) := by
  cases hc : colonL s with
  | none =>
    refine .inl ⟨by unfold colonZ; rw [hc], ?_⟩
    have : tidyX s = slL s := by unfold tidyX; rw [hc]
    rw [this]; exact turned_sl s
  | some n =>
    obtain ⟨X, R, hS, rfl⟩ := colon_parts hc
    refine .inr ⟨X.length, by rw [hS.all]; simp, by unfold colonZ; rw [hc], ?_⟩
    have e : tidyX s = if slasheds.contains (lower (s.take X.length)) then slL (lower (s.take X.length) ++ s.drop X.length) else lower (s.take X.length) ++ s.drop X.length := by
      unfold tidyX
      rw [hc]
      simp only [hS.take]
      rw [slL_scheme hS.inner]
      split <;> rfl
    rw [e]
    cases slasheds.contains (lower (s.take X.length)) with
    | true => exact turned_sl _
    | false => exact turned_no _
theorem slash_six (A : List UInt8) : (A = [104, 116, 116, 112] ∨ A = [104, 116, 116, 112, 115] ∨ A = [102, 116, 112] ∨ A = [119, 115] ∨ A = [119, 115, 115]) ∨ ((A == [104, 116, 116, 112]) = false ∧ (A == [104, 116, 116, 112, 115]) = false ∧ (A == [102, 116, 112]) = false ∧ (A == [119, 115]) = false ∧ (A == [119, 115, 115]) = false ∧ slasheds.contains A = false) := by
  by_cases h1 : A = [104, 116, 116, 112]
  · exact .inl (.inl h1)
  by_cases h2 : A = [104, 116, 116, 112, 115]
  · exact .inl (.inr (.inl h2))
  by_cases h3 : A = [102, 116, 112]
  · exact .inl (.inr (.inr (.inl h3)))
  by_cases h4 : A = [119, 115]
  · exact .inl (.inr (.inr (.inr (.inl h4))))
  by_cases h5 : A = [119, 115, 115]
  · exact .inl (.inr (.inr (.inr (.inr h5))))
  · refine .inr ⟨by simpa using h1, by simpa using h2, by simpa using h3, by simpa using h4, by simpa using h5, ?_⟩
    simp [slasheds, h1, h2, h3, h4, h5]
set_option maxRecDepth 100000 in
set_option maxHeartbeats 8000000 in
/-- **Tidy.** -/
theorem rtidy_calls (bs : List UInt8) (ss : List (List UInt8)) (a : Option Addr) (cap : Nat) (rel b : Bool) (n : Nat) (hab : allowV ss (stripL bs) rel = .tuple #[.bool b, .int .i64 (n : Int)]) (hn : n = 0 ∨ n = 120) (hbn : b = true → n = 0) (w : World) (hL : TextsAt w a ss) (hbs : bs.length ≤ 100000000) (hl : ss.length ≤ 100000000) (hx : ∀ x ∈ ss, x.length ≤ 1000000000) :
    Calls Tryz.prog 7 #[.string ⟨bs.toArray⟩, .slice a ss.length cap, .bool rel] w fun e W' => e = .returned (tidV b n (tidyT (stripL bs))) ∧ Below w.heap.size w W' := by
  have HA : Hid (Calls Tryz.prog 5 #[.string ⟨bs.toArray⟩, .slice a ss.length cap, .bool rel] w fun e W' => e = .returned (.tuple #[.bool b, .int .i64 (n : Int)]) ∧ Below w.heap.size w W') := by
    have h := rallows_calls bs ss a cap rel w hL (by omega) hl hx
    rw [hab] at h
    exact h
  clear hab
  cases b with
  | false =>
    unfold tidV
    clear hL hx hbn
    rcases hn with rfl | rfl
    all_goals go_enter Tryz.func7, Tryz.ntmps7
    all_goals go_wp2_with fail
    all_goals (go_at_call 5; refine HA.out.mono ?_; rintro e w1 ⟨rfl, hb1⟩)
    all_goals go_wp2_with fail
    all_goals go_ret3
    all_goals exact ⟨rfl, hb1⟩
  | true =>
    obtain rfl := hbn rfl
    have HA0 : Hid (Calls Tryz.prog 5 #[.string ⟨bs.toArray⟩, .slice a ss.length cap, .bool rel] w fun e W' => e = .returned (.tuple #[.bool true, .int .i64 0]) ∧ Below w.heap.size w W') := HA.out
    clear hn hbn HA
    have HST : Hid (∀ W, Calls Tryz.prog 22 #[.string ⟨bs.toArray⟩] W fun e W' => e = .returned (.string ⟨(stripL bs).toArray⟩) ∧ Below W.heap.size W W') := fun W => rstrip_calls bs W (by omega)
    have hsl := stripL_le bs
    have hval := val_strip bs
    obtain ⟨s, hs⟩ : ∃ s, stripL bs = s := ⟨_, rfl⟩
    rw [hs] at HST hsl hval ⊢
    have hvx := tidy_val hval
    have HEN : Hid ((tidyX s).length ≤ 10000000000 → ∀ W, Calls Tryz.prog 26 #[.string ⟨(tidyX s).toArray⟩] W fun e W' => e = .returned (.string ⟨(tidyT s).toArray⟩) ∧ Below W.heap.size W W') := fun hlx W => by
      have hh := rencode_calls (tidyX s) W hlx
      rw [hvx.mend, encodeM_eq] at hh
      exact hh
    have HCO := hid_of (fun W => colon_calls s W (by omega))
    have hsz := arr_size s
    have htd := tidy_doc s
    generalize tidyT s = T at *
    obtain ⟨Y, hY⟩ : ∃ Y, tidyX s = Y := ⟨_, rfl⟩
    rw [hY] at HEN htd
    clear hL hx hs hval hvx hY
    unfold tidV
    rcases htd with ⟨hcz, hT⟩ | ⟨k0, hk0, hcz, hT⟩
    · rw [hcz] at HCO
      clear hcz
      have hsl : s.length ≤ 400000000 := by omega
      have HT := hid_of hT
      have HU := hid_of (fun W => upTo_calls s [63, 35] W (by omega) (by decide))
      clear hT
      go_enter Tryz.func7, Tryz.ntmps7
      go_wp2_with fail
      (go_at_call 5; refine HA0.out.mono ?_; rintro e w1 ⟨rfl, hb1⟩)
      have HB1 := hid_of hb1
      clear hb1
      go_wp2_with fail
      (go_at_call 22; refine (HST.out _).mono ?_; rintro e w2 ⟨rfl, hb2⟩)
      have HB2 := hid_of (HB1.out.trans (hb2.mono HB1.out.size))
      clear hb2
      go_wp2_with fail
      (go_at_call 23; refine (HCO.out _).mono ?_; rintro e w' ⟨rfl, hw'⟩; obtain rfl : w2 = w' := hw'.symm)
      go_wp2_with fail
      go_loopw [15, 67] (fun vo vi wr => ∃ k : Nat, k ≤ s.length ∧ vi = .int .i64 k ∧ vo = .string ⟨(Y.take k).toArray⟩ ∧ Hid (Below w.heap.size w wr)) (fun _ vi _ => s.length - (intOf vi).toNat)
      case atStart => exact ⟨0, by omega, rfl, rfl, HB2⟩
      case round =>
        obtain ⟨k, hk, rfl, rfl, hB⟩ := hrel
        have sp := arr_size (Y.take k)
        rw [show (Y.take k).length = k by rw [List.length_take, HT.out.len]; omega] at sp
        by_cases hlt : k < s.length
        · obtain ⟨c, hc⟩ : ∃ c, s.getD k 0 = c := ⟨_, rfl⟩
          have hsl1 := one_slice s k c hlt hc
          have HAT := hid_of (HT.out.at' k hlt)
          rw [hc] at HAT
          have hYk : k < Y.length := by rw [HT.out.len]; omega
          have HTK := hid_of (take_more Y k _ hYk rfl)
          generalize Y.getD k 0 = d at HAT HTK
          clear hc hYk
          have hcatd : (⟨(Y.take k).toArray⟩ : ByteArray) ++ ⟨#[d]⟩ = ⟨(Y.take (k + 1)).toArray⟩ := by
            rw [HTK.out]; apply ByteArray.ext; rw [ByteArray.data_append]; simp
          clear HTK
          cases hcc : (c == 92) with
          | false =>
            obtain rfl : d = c := by have h := HAT.out; rw [hcc] at h; exact h
            clear HAT
            have hne : ([d] == [(92 : UInt8)]) = false := by simpa using hcc
            go_wp2_with fail
            exact ⟨⟨k + 1, by omega, by go_num, rfl, hB⟩, by simp [intOf]; omega⟩
          | true =>
            obtain rfl : c = 92 := beq_iff_eq.1 hcc
            clear hcc
            by_cases hu : k < upToL [63, 35] s
            · obtain rfl : d = 47 := by have h := HAT.out; rw [decide_eq_true hu] at h; exact h
              generalize upToL [63, 35] s = U at *
              clear HAT
              go_wp2_with (go_at_call 25; refine (HU.out _).mono ?_; rintro e w9 ⟨rfl, hb9⟩)
              exact ⟨⟨k + 1, by omega, by go_num, rfl, hB.out.trans (hb9.mono hB.out.size)⟩, by simp [intOf]; omega⟩
            · obtain rfl : d = 92 := by have h := HAT.out; rw [decide_eq_false hu] at h; exact h
              generalize upToL [63, 35] s = U at *
              clear HAT
              go_wp2_with (go_at_call 25; refine (HU.out _).mono ?_; rintro e w9 ⟨rfl, hb9⟩)
              exact ⟨⟨k + 1, by omega, by go_num, rfl, hB.out.trans (hb9.mono hB.out.size)⟩, by simp [intOf]; omega⟩
        · obtain rfl : k = s.length := by omega
          have HTA : Hid (Y.take s.length = Y) := by show _ = _; rw [← HT.out.len, List.take_length]
          rw [HTA.out] at sp ⊢
          have HE := hid_of (HEN.out (by rw [HT.out.len]; omega))
          clear HTA HEN HU HT
          go_wp2_with fail
          (go_at_call 26; refine (HE.out _).mono ?_; rintro e w9 ⟨rfl, hb9⟩)
          go_wp2_with fail
          go_ret3
          exact ⟨rfl, hB.out.trans (hb9.mono hB.out.size)⟩
    · rw [hcz] at HCO
      clear hcz
      have HLO := hid_of (fun W => rlower_txt (s.take k0) W (by rw [List.length_take]; omega))
      have y1 := slice_h s k0 hk0 (k0 : Int) rfl
      have y2 := slice_l s k0 hk0 (k0 : Int) rfl
      have zA := arr_size (lower (s.take k0))
      have zC := arr_size (s.drop k0)
      rw [show (lower (s.take k0)).length = k0 by simp [lower]; omega] at zA
      rw [List.length_drop] at zC
      have hcat : (⟨(lower (s.take k0)).toArray⟩ : ByteArray) ++ ⟨(s.drop k0).toArray⟩ = ⟨(lower (s.take k0) ++ s.drop k0).toArray⟩ := by
        apply ByteArray.ext; rw [ByteArray.data_append]; simp
      have hS2l : (lower (s.take k0) ++ s.drop k0).length ≤ 400000000 := by
        rw [List.length_append, show (lower (s.take k0)).length = k0 by simp [lower]; omega, List.length_drop]; omega
      generalize hA : lower (s.take k0) = A at *
      generalize s.drop k0 = C at *
      generalize s.take k0 = B at *
      clear hA
      obtain ⟨S2, hS2⟩ : ∃ S2, A ++ C = S2 := ⟨_, rfl⟩
      rw [hS2] at hcat hS2l hT
      clear hS2
      have HU := hid_of (fun W => upTo_calls S2 [63, 35] W (by omega) (by decide))
      have h6 := slash_six A
      rcases h6 with h5 | ⟨a1, a2, a3, a4, a5, a6⟩
      · rcases h5 with rfl | rfl | rfl | rfl | rfl
        all_goals rw [show slasheds.contains _ = true from by decide +kernel] at hT
        all_goals have HT := hid_of hT
        all_goals clear hT
        all_goals
          go_enter Tryz.func7, Tryz.ntmps7
          go_wp2_with fail
          (go_at_call 5; refine HA0.out.mono ?_; rintro e w1 ⟨rfl, hb1⟩)
          have HB1 := hid_of hb1
          clear hb1
          go_wp2_with fail
          (go_at_call 22; refine (HST.out _).mono ?_; rintro e w2 ⟨rfl, hb2⟩)
          have HB2 := hid_of (HB1.out.trans (hb2.mono HB1.out.size))
          clear hb2
          go_wp2_with fail
          (go_at_call 23; refine (HCO.out _).mono ?_; rintro e w' ⟨rfl, hw'⟩; obtain rfl : w2 = w' := hw'.symm)
          go_wp2_with fail
          (go_at_call 24; refine (HLO.out _).mono ?_; rintro e w3 ⟨rfl, hb3⟩)
          have HB3 := hid_of (HB2.out.trans (hb3.mono HB2.out.size))
          clear hb3
          go_wp2_with fail
          clear hcat y1 y2 zA zC
          go_loopw [15, 67] (fun vo vi wr => ∃ k : Nat, k ≤ S2.length ∧ vi = .int .i64 k ∧ vo = .string ⟨(Y.take k).toArray⟩ ∧ Hid (Below w.heap.size w wr)) (fun _ vi _ => S2.length - (intOf vi).toNat)
          case atStart => exact ⟨0, by omega, rfl, rfl, HB3⟩
          case round =>
            obtain ⟨k, hk, rfl, rfl, hB⟩ := hrel
            have sp := arr_size (Y.take k)
            rw [show (Y.take k).length = k by rw [List.length_take, HT.out.len]; omega] at sp
            by_cases hlt : k < S2.length
            · obtain ⟨c, hc⟩ : ∃ c, S2.getD k 0 = c := ⟨_, rfl⟩
              have hsl1 := one_slice S2 k c hlt hc
              have HAT := hid_of (HT.out.at' k hlt)
              rw [hc] at HAT
              have hYk : k < Y.length := by rw [HT.out.len]; omega
              have HTK := hid_of (take_more Y k _ hYk rfl)
              generalize Y.getD k 0 = d at HAT HTK
              clear hc hYk
              have hcatd : (⟨(Y.take k).toArray⟩ : ByteArray) ++ ⟨#[d]⟩ = ⟨(Y.take (k + 1)).toArray⟩ := by
                rw [HTK.out]; apply ByteArray.ext; rw [ByteArray.data_append]; simp
              clear HTK
              cases hcc : (c == 92) with
              | false =>
                obtain rfl : d = c := by have h := HAT.out; rw [hcc] at h; exact h
                clear HAT
                have hne : ([d] == [(92 : UInt8)]) = false := by simpa using hcc
                go_wp2_with fail
                exact ⟨⟨k + 1, by omega, by go_num, rfl, hB⟩, by simp [intOf]; omega⟩
              | true =>
                obtain rfl : c = 92 := beq_iff_eq.1 hcc
                clear hcc
                by_cases hu : k < upToL [63, 35] S2
                · obtain rfl : d = 47 := by have h := HAT.out; rw [decide_eq_true hu] at h; exact h
                  generalize upToL [63, 35] S2 = U at *
                  clear HAT
                  go_wp2_with (go_at_call 25; refine (HU.out _).mono ?_; rintro e w9 ⟨rfl, hb9⟩)
                  exact ⟨⟨k + 1, by omega, by go_num, rfl, hB.out.trans (hb9.mono hB.out.size)⟩, by simp [intOf]; omega⟩
                · obtain rfl : d = 92 := by have h := HAT.out; rw [decide_eq_false hu] at h; exact h
                  generalize upToL [63, 35] S2 = U at *
                  clear HAT
                  go_wp2_with (go_at_call 25; refine (HU.out _).mono ?_; rintro e w9 ⟨rfl, hb9⟩)
                  exact ⟨⟨k + 1, by omega, by go_num, rfl, hB.out.trans (hb9.mono hB.out.size)⟩, by simp [intOf]; omega⟩
            · obtain rfl : k = S2.length := by omega
              have HTA : Hid (Y.take S2.length = Y) := by show _ = _; rw [← HT.out.len, List.take_length]
              rw [HTA.out] at sp ⊢
              have HE := hid_of (HEN.out (by rw [HT.out.len]; omega))
              clear HTA HEN HU HT
              go_wp2_with fail
              (go_at_call 26; refine (HE.out _).mono ?_; rintro e w9 ⟨rfl, hb9⟩)
              go_wp2_with fail
              go_ret3
              exact ⟨rfl, hB.out.trans (hb9.mono hB.out.size)⟩
      · rw [a6] at hT
        have HT := hid_of hT
        clear hT a6
        go_enter Tryz.func7, Tryz.ntmps7
        go_wp2_with fail
        (go_at_call 5; refine HA0.out.mono ?_; rintro e w1 ⟨rfl, hb1⟩)
        have HB1 := hid_of hb1
        clear hb1
        go_wp2_with fail
        (go_at_call 22; refine (HST.out _).mono ?_; rintro e w2 ⟨rfl, hb2⟩)
        have HB2 := hid_of (HB1.out.trans (hb2.mono HB1.out.size))
        clear hb2
        go_wp2_with fail
        (go_at_call 23; refine (HCO.out _).mono ?_; rintro e w' ⟨rfl, hw'⟩; obtain rfl : w2 = w' := hw'.symm)
        go_wp2_with fail
        (go_at_call 24; refine (HLO.out _).mono ?_; rintro e w3 ⟨rfl, hb3⟩)
        have HB3 := hid_of (HB2.out.trans (hb3.mono HB2.out.size))
        clear hb3
        go_wp2_with fail
        clear hcat y1 y2 zA zC
        go_loopw [15, 67] (fun vo vi wr => ∃ k : Nat, k ≤ S2.length ∧ vi = .int .i64 k ∧ vo = .string ⟨(Y.take k).toArray⟩ ∧ Hid (Below w.heap.size w wr)) (fun _ vi _ => S2.length - (intOf vi).toNat)
        case atStart => exact ⟨0, by omega, rfl, rfl, HB3⟩
        case round =>
          obtain ⟨k, hk, rfl, rfl, hB⟩ := hrel
          have sp := arr_size (Y.take k)
          rw [show (Y.take k).length = k by rw [List.length_take, HT.out.len]; omega] at sp
          by_cases hlt : k < S2.length
          · obtain ⟨c, hc⟩ : ∃ c, S2.getD k 0 = c := ⟨_, rfl⟩
            have hsl1 := one_slice S2 k c hlt hc
            have HAT := hid_of (HT.out.at' k hlt)
            rw [hc] at HAT
            have hYk : k < Y.length := by rw [HT.out.len]; omega
            have HTK := hid_of (take_more Y k _ hYk rfl)
            generalize Y.getD k 0 = d at HAT HTK
            clear hc hYk
            have hcatd : (⟨(Y.take k).toArray⟩ : ByteArray) ++ ⟨#[d]⟩ = ⟨(Y.take (k + 1)).toArray⟩ := by
              rw [HTK.out]; apply ByteArray.ext; rw [ByteArray.data_append]; simp
            clear HTK
            obtain rfl : d = c := HAT.out
            clear HAT
            go_wp2_with fail
            exact ⟨⟨k + 1, by omega, by go_num, rfl, hB⟩, by simp [intOf]; omega⟩
          · obtain rfl : k = S2.length := by omega
            have HTA : Hid (Y.take S2.length = Y) := by show _ = _; rw [← HT.out.len, List.take_length]
            rw [HTA.out] at sp ⊢
            have HE := hid_of (HEN.out (by rw [HT.out.len]; omega))
            clear HTA HEN HU HT
            go_wp2_with fail
            (go_at_call 26; refine (HE.out _).mono ?_; rintro e w9 ⟨rfl, hb9⟩)
            go_wp2_with fail
            go_ret3
            exact ⟨rfl, hB.out.trans (hb9.mono hB.out.size)⟩
end Go.Proofs.YtjhmphokmmmoaaaGreatDoor.L
