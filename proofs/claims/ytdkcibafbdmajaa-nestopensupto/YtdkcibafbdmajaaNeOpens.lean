/- What is proved here: the statement NestOpens (every name in every stack: what it asks, and whether it may stand there) holds for stacks and names up to the size that the statement's narrower form names, with no other condition. -/
import Derived.Test.YtdkcibafbdmajaaNdOpen
import Derived.Test.YtdkcibafbdmajaaNeMay
import Derived.Test.YtdkcibafbdmajaaNeRead7
namespace Go.Proofs.Ytdkcibafbdmajaa.NeOpens
open Go.ChangeShapes Go.WideShapes Go.ChangeAt Go.RowKit Go.Shelf N C E

theorem open_codes (S : List Txt) (x : Txt) : (openCode S x = 161 ∧ rightK S S.length = false) ∨ (openCode S x = 160 ∧ rightK S S.length = true ∧ allowB x = false) ∨ (openCode S x = 0 ∧ rightK S S.length = true ∧ allowB x = true) := by
  unfold openCode
  cases rightK S S.length
  · exact .inl ⟨rfl, rfl⟩
  · cases allowB x
    · exact .inr (.inl ⟨rfl, rfl, rfl⟩)
    · exact .inr (.inr ⟨rfl, rfl, rfl⟩)
theorem open_none {S : List Txt} {x : Txt} (h : openCode S x ≠ 0) : openZ S x = 0 ∧ openI S x = [] ∧ mayB S x = false := by
  refine ⟨?_, ?_, ?_⟩
  · unfold openZ; rw [if_neg h]
  · unfold openI; rw [if_neg h]
  · unfold mayB; rw [decide_eq_false h]; rfl
theorem open_asks {S : List Txt} {x : Txt} (h : openCode S x = 0) (hr : rightK S S.length = true) : (S.length : Int) - ((asksD S S.length x).1 : Int) = openZ S x ∧ (asksD S S.length x).2 = openI S x ∧ mayB S x = nothB (openZ S x) false (openI S x) := by
  have e := asks_element hr S.length (Nat.le_refl _) x
  refine ⟨?_, ?_, ?_⟩
  · unfold openZ; rw [if_pos h, e]
  · unfold openI; rw [if_pos h, e]
  · unfold mayB nothB
    rw [decide_eq_true h, Bool.true_and]
    simp
theorem stack_own {base : Nat} {w w1 : World} {v a : Option Addr} {c1 c : Nat} {S : List Txt} (h : StackAt w a S c) (ho : OwnT base w1 (.slice v S.length c1) S) : StackAt w1 v S c1 := ⟨(texts_own ho).1, (texts_own ho).2.1, h.few, h.len⟩
set_option maxRecDepth 100000 in
set_option maxHeartbeats 40000000 in
theorem walk (w : World) (hm : MaxOk w) (a : Option Addr) (c : Nat) (S : List Txt) (hT : Txts w a S c) (hl : S.length ≤ 1048576) (hx : ∀ x ∈ S, x.length ≤ 1048576) (s : ByteArray) (_hs0 : s.size ≤ 9223372036854775807) (hs : s.size ≤ 1048576) :
    Calls Try.prog 3 #[.slice a S.length c, .string s] w fun e w' => e = .returned (.bool true) ∧ Below w.heap.size w w' := by
  obtain ⟨x, hsx⟩ : ∃ x : Txt, s = ⟨x.toArray⟩ := ⟨s.data.toList, by cases s; simp⟩
  subst hsx
  have hxl : x.length ≤ 1048576 := by simpa [ByteArray.size] using hs
  clear hs _hs0
  have HAW : Hid (∀ W, Below w.heap.size w W → Calls Try.prog 9 #[] W fun e w' => e = .returned (.bool true) ∧ Below W.heap.size W w') := fun W hW => awake_calls W (hm.below hW)
  have HM := hid_of hm
  have HLG : Hid (∀ W, Calls Try.prog 8 #[.slice a S.length c] W fun e w' => e = .returned (.bool (decide (600 < S.length))) ∧ w' = W) := fun W => long_calls a S.length c (by omega) W
  by_cases hlong : 600 < S.length
  · rw [decide_eq_true hlong] at HLG
    clear hm hT hx hlong
    go_enter Try.func3, Try.ntmps3
    go_wp2_with (first
      | (go_at_call 8; refine (HLG.out _).mono ?_; rintro e w' ⟨rfl, rfl⟩)
      | (go_at_call 9; refine (HAW.out _ (Below.refl _ _)).mono ?_; rintro e w2 ⟨rfl, hb2⟩))
    go_ret
    exact ⟨rfl, hb2⟩
  · rw [decide_eq_false hlong] at HLG
    have hst := stack_of hT.cap hT.txt (by omega) hx
    have HST := hid_of hst
    have HX : Hid (x.length ≤ 10000000000) := by show _ ≤ _; omega
    have HOW := hid_of (lown_calls S a c w hT (by omega))
    have HTX := hid_of hT
    have HDR : Hid (∀ W, Below w.heap.size w W → Calls Try.prog 13 #[.slice a S.length c] W fun e w' => e = .returned (.bool (rightK S S.length)) ∧ Below W.heap.size W w') := fun W hW => dRight_calls S a c hst.cap (by omega) W (hT.txt.below hW)
    have HDA := hid_of (fun W => dallowed_calls x W)
    clear hm hT hx hlong
    go_enter Try.func3, Try.ntmps3
    go_upto_region 4 with (first
      | (go_at_call 8; refine (HLG.out _).mono ?_; rintro e w' ⟨rfl, hw'⟩; have hx' := hw'.symm; subst hx')
      | (go_at_call 10; refine HOW.out.mono ?_; rintro e w1 ⟨v1, c1, rfl, ho1, hb1⟩))
    have HG1 := hid_of (stack_own hst ho1)
    have HB1 := hid_of hb1
    clear ho1 hb1 hst HOW HLG
    have HO : Hid (∀ W, Below w1.heap.size w1 W → Calls Try.prog 11 #[.slice v1 S.length c1, .string ⟨x.toArray⟩] W fun e w' => ∃ vi ci, e = .returned (.tuple #[.agg #[.int .i64 (openZ S x), .slice vi (openI S x).length ci, .bool false], .int .i64 (openCode S x)]) ∧ OwnT W.heap.size w' (.slice vi (openI S x).length ci) (openI S x) ∧ Below W.heap.size W w') := fun W hW => Open_calls W ((HM.out.below HB1.out).below hW) v1 S c1 (HG1.out.below hW) x HX.out
    have HMY : Hid (∀ W, Below w1.heap.size w1 W → Calls Try.prog 12 #[.slice v1 S.length c1, .string ⟨x.toArray⟩] W fun e w' => e = .returned (.tuple #[.bool (mayB S x), .int .i64 (openCode S x)]) ∧ Below W.heap.size W w') := fun W hW => May_calls W ((HM.out.below HB1.out).below hW) v1 S c1 (HG1.out.below hW) x HX.out
    have HRI : Hid (∀ W, Below w1.heap.size w1 W → Calls Try.prog 15 #[.slice v1 S.length c1] W fun e w' => e = .returned (.bool (rightK S S.length)) ∧ Below W.heap.size W w') := fun W hW => Right_calls W ((HM.out.below HB1.out).below hW) v1 S c1 (HG1.out.below hW)
    have HSM : Hid (∀ W, Below w1.heap.size w1 W → Calls Try.prog 17 #[.slice v1 S.length c1, .slice a S.length c] W fun e w' => e = .returned (.bool true) ∧ Below W.heap.size W w') := fun W hW => by
      have h := same_calls' S S v1 a c1 c W (by omega) (by omega) (HG1.out.txt.below hW) (HTX.out.txt.below (HB1.out.trans (hW.mono HB1.out.size)))
      rwa [decide_eq_true (rfl : S = S)] at h
    clear HM
    go_upto_region 5 with (go_at_call 11; refine (HO.out _ (Below.refl _ _)).mono ?_; rintro e w2 ⟨vp, cp, rfl, hop, hb2⟩)
    obtain ⟨W2, hW2⟩ : ∃ W, w2.alloc (.cells #[.int .i64 (openZ S x), .slice vp (openI S x).length cp, .bool false] 27) = W := ⟨_, rfl⟩
    have b2 : Below w2.heap.size w2 W2 := by rw [← hW2]; exact (Below.refl _ _).alloc (Nat.le_refl _) _
    have q2 : Blk W2 w2.heap.size #[.int .i64 (openZ S x), .slice vp (openI S x).length cp, .bool false] 27 := by rw [← hW2]; exact Blk.new _ _ _
    rw [hW2]
    have HB2 : Hid (Below w1.heap.size w1 W2) := hb2.trans (b2.mono hb2.size)
    have HQ2 := hid_of q2
    have HOP2 : Hid (OwnT w1.heap.size W2 (.slice vp (openI S x).length cp) (openI S x)) := owns_below hop b2
    have hlo2 : w1.heap.size ≤ w2.heap.size := hb2.size
    have hhi2 : w2.heap.size < W2.heap.size := by rw [← hW2]; simp
    clear hop hb2 b2 q2 hW2
    go_upto_region 6 with (go_at_call 11; refine (HO.out _ HB2.out).mono ?_; rintro e w3 ⟨vq, cq, rfl, hoq, hb3⟩)
    obtain ⟨W3, hW3⟩ : ∃ W, w3.alloc (.cells #[.int .i64 (openZ S x), .slice vq (openI S x).length cq, .bool false] 27) = W := ⟨_, rfl⟩
    have b3 : Below w3.heap.size w3 W3 := by rw [← hW3]; exact (Below.refl _ _).alloc (Nat.le_refl _) _
    have q3 : Blk W3 w3.heap.size #[.int .i64 (openZ S x), .slice vq (openI S x).length cq, .bool false] 27 := by rw [← hW3]; exact Blk.new _ _ _
    rw [hW3]
    have b23 : Below W2.heap.size W2 W3 := hb3.trans (b3.mono hb3.size)
    have HB3 : Hid (Below w1.heap.size w1 W3) := HB2.out.trans (b23.mono HB2.out.size)
    have HQ3 := hid_of q3
    have HOQ3 : Hid (OwnT W2.heap.size W3 (.slice vq (openI S x).length cq) (openI S x)) := owns_below hoq b3
    have HOP3 : Hid (OwnT w1.heap.size W3 (.slice vp (openI S x).length cp) (openI S x)) := owns_below HOP2.out b23
    have HPLT : Hid (∀ j, Value.ownBlock (.slice vp (openI S x).length cp) = some j → j < W2.heap.size) := fun j hj => (HOP2.out.lt j hj).2
    have HQ23 := hid_of (HQ2.out.below b23)
    have hlo3 : W2.heap.size ≤ w3.heap.size := hb3.size
    have hhi3 : w3.heap.size < W3.heap.size := by rw [← hW3]; simp
    clear hoq hb3 b3 q3 hW3 b23 HQ2 HOP2
    go_upto_region 7 with (go_at_call 12; refine (HMY.out _ HB3.out).mono ?_; rintro e w4 ⟨rfl, hb4⟩)
    have HB4 : Hid (Below w1.heap.size w1 w4) := HB3.out.trans (hb4.mono HB3.out.size)
    go_upto_region 8 with (go_at_call 13; refine (HDR.out _ (HB1.out.trans (HB4.out.mono HB1.out.size))).mono ?_; rintro e w5 ⟨rfl, hb5⟩)
    have b35 : Below W3.heap.size W3 w5 := hb4.trans (hb5.mono hb4.size)
    have HB5 : Hid (Below w1.heap.size w1 w5) := HB3.out.trans (b35.mono HB3.out.size)
    have HQ25 := hid_of (HQ23.out.below b35)
    have HQ35 := hid_of (HQ3.out.below b35)
    have HOQ5 : Hid (OwnT W2.heap.size w5 (.slice vq (openI S x).length cq) (openI S x)) := owns_below HOQ3.out b35
    have HOP5 : Hid (OwnT w1.heap.size w5 (.slice vp (openI S x).length cp) (openI S x)) := owns_below HOP3.out b35
    have hs5 : W3.heap.size ≤ w5.heap.size := b35.size
    clear hb4 hb5 b35 HQ23 HQ3 HOQ3 HOP3 HDR HMY HO HB2 HB3 HB4
    rcases open_codes S x with ⟨hcd, hr⟩ | ⟨hcd, hr, hal⟩ | ⟨hcd, hr, hal⟩
    · obtain ⟨oz0, oi0, om0⟩ := open_none (S := S) (x := x) (by rw [hcd]; decide)
      rw [oz0, oi0] at HQ25
      rw [hcd, hr, om0]
      rw [hr] at HRI
      clear HQ35 HOQ5 HOP5 HPLT oz0 oi0 om0 hcd hr
      go_wp2_with fail
      (go_at_call 15; refine (HRI.out _ HB5.out).mono ?_; rintro e w7 ⟨rfl, hb7⟩)
      have HB7 : Hid (Below w1.heap.size w1 w7) := HB5.out.trans (hb7.mono HB5.out.size)
      have HQ27 := hid_of (HQ25.out.below hb7)
      clear hb7 HRI
      go_upto_region 15 with (first
        | (go_at_call 16; refine (num_calls _ _).mono ?_; rintro e w' ⟨rfl, hw'⟩; have hx' := hw'.symm; subst hx')
        | (go_at_call 17; refine (HSM.out _ HB7.out).mono ?_; rintro e w8 ⟨rfl, hb8⟩))
      have HB8 : Hid (Below w1.heap.size w1 w8) := HB7.out.trans (hb8.mono HB7.out.size)
      have q8 := HQ27.out.below hb8
      have d0 : w8.cell? ⟨w2.heap.size, 0, none⟩ = some (.int .i64 0) := q8.cell 0
      have d1 : w8.cell? ⟨w2.heap.size, 1, none⟩ = some (.slice vp 0 cp) := q8.cell 1
      have d2 : w8.cell? ⟨w2.heap.size, 2, none⟩ = some (.bool false) := q8.cell 2
      clear hb8 q8
      go_wp2_with fail
      (go_at_call 18; refine (lnothing_calls 0 false [] vp cp w8 (by simp) (fun j hj => absurd hj (by simp))).mono ?_; rintro e w9 ⟨rfl, hb9⟩; rw [show nothB 0 false [] = true from rfl])
      have HB9 : Hid (Below w1.heap.size w1 w9) := HB8.out.trans (hb9.mono HB8.out.size)
      clear hb9
      go_wp2_with fail
      (go_at_call 9; refine (HAW.out _ (HB1.out.trans (HB9.out.mono HB1.out.size))).mono ?_; rintro e w10 ⟨rfl, hb10⟩)
      go_wp2_with fail
      go_ret
      exact ⟨rfl, (HB1.out.trans (HB9.out.mono HB1.out.size)).trans (hb10.mono (HB1.out.trans (HB9.out.mono HB1.out.size)).size)⟩
    · obtain ⟨oz0, oi0, om0⟩ := open_none (S := S) (x := x) (by rw [hcd]; decide)
      rw [oz0, oi0] at HQ25
      rw [hcd, hr, om0]
      rw [hr] at HRI
      rw [hal] at HDA
      clear hal HQ35 HOQ5 HOP5 HPLT oz0 oi0 om0 hcd hr
      go_upto_region 13 with (go_at_call 14; refine (HDA.out _).mono ?_; rintro e w6 ⟨rfl, hb6⟩)
      have HB6 : Hid (Below w1.heap.size w1 w6) := HB5.out.trans (hb6.mono HB5.out.size)
      have HQ26 := hid_of (HQ25.out.below hb6)
      have hs6 : W3.heap.size ≤ w6.heap.size := Nat.le_trans hs5 hb6.size
      clear hb6 HDA HB5 HQ25 hs5
      go_wp2_with fail
      (go_at_call 15; refine (HRI.out _ HB6.out).mono ?_; rintro e w7 ⟨rfl, hb7⟩)
      have HB7 : Hid (Below w1.heap.size w1 w7) := HB6.out.trans (hb7.mono HB6.out.size)
      have HQ27 := hid_of (HQ26.out.below hb7)
      clear hb7 HRI
      go_upto_region 15 with (first
        | (go_at_call 16; refine (num_calls _ _).mono ?_; rintro e w' ⟨rfl, hw'⟩; have hx' := hw'.symm; subst hx')
        | (go_at_call 17; refine (HSM.out _ HB7.out).mono ?_; rintro e w8 ⟨rfl, hb8⟩))
      have HB8 : Hid (Below w1.heap.size w1 w8) := HB7.out.trans (hb8.mono HB7.out.size)
      have q8 := HQ27.out.below hb8
      have d0 : w8.cell? ⟨w2.heap.size, 0, none⟩ = some (.int .i64 0) := q8.cell 0
      have d1 : w8.cell? ⟨w2.heap.size, 1, none⟩ = some (.slice vp 0 cp) := q8.cell 1
      have d2 : w8.cell? ⟨w2.heap.size, 2, none⟩ = some (.bool false) := q8.cell 2
      clear hb8 q8
      go_wp2_with fail
      (go_at_call 18; refine (lnothing_calls 0 false [] vp cp w8 (by simp) (fun j hj => absurd hj (by simp))).mono ?_; rintro e w9 ⟨rfl, hb9⟩; rw [show nothB 0 false [] = true from rfl])
      have HB9 : Hid (Below w1.heap.size w1 w9) := HB8.out.trans (hb9.mono HB8.out.size)
      clear hb9
      go_wp2_with fail
      (go_at_call 9; refine (HAW.out _ (HB1.out.trans (HB9.out.mono HB1.out.size))).mono ?_; rintro e w10 ⟨rfl, hb10⟩)
      go_wp2_with fail
      go_ret
      exact ⟨rfl, (HB1.out.trans (HB9.out.mono HB1.out.size)).trans (hb10.mono (HB1.out.trans (HB9.out.mono HB1.out.size)).size)⟩
    · obtain ⟨ea, eb, em⟩ := open_asks hcd hr
      have HDO : Hid (∀ W, Below w.heap.size w W → Calls Try.prog 19 #[.slice a S.length c, .string ⟨x.toArray⟩] W fun e w' => ∃ v cv, e = .returned (.agg #[.int .i64 (openZ S x), .slice v (openI S x).length cv, .bool false]) ∧ Txts w' v (openI S x) cv ∧ Below W.heap.size W w' ∧ AboveA W.heap.size v) := fun W hW => by
        have h := dOpen_calls S x a S.length c (Nat.le_refl _) HST.out.cap (by omega) (asks_le hr _ (Nat.le_refl _) x) W (HTX.out.txt.below hW)
        rwa [ea, eb] at h
      have hoi : (openI S x).length ≤ 6 := by
        unfold openI
        split <;> first | exact element_len S S.length x | exact Nat.zero_le _
      rw [hcd, hr, em]
      rw [hr] at HRI
      rw [hal] at HDA
      clear ea eb em hcd hr hal
      generalize openZ S x = oz at *
      generalize openI S x = oi at *
      have HPL : Hid (∀ (v v' : Option Addr) (d d' : Nat) (W : World), TextsAt W v oi → TextsAt W v' oi → Calls Try.prog 20 #[.agg #[.int .i64 oz, .slice v oi.length d, .bool false], .agg #[.int .i64 oz, .slice v' oi.length d', .bool false]] W fun e w' => e = .returned (.bool true) ∧ Below W.heap.size W w') := fun v v' d d' W h1 h2 => by
        have h := lplan_calls oz oz false false oi oi v v' d d' W (by omega) (by omega) h1 h2
        rwa [decide_eq_true (rfl : oz = oz), decide_eq_true (rfl : oi = oi)] at h
      have HNO : Hid (∀ (v : Option Addr) (d : Nat) (W : World), TextsAt W v oi → Calls Try.prog 18 #[.agg #[.int .i64 oz, .slice v oi.length d, .bool false]] W fun e w' => e = .returned (.bool (nothB oz false oi)) ∧ Below W.heap.size W w') := fun v d W h1 => lnothing_calls oz false oi v d W (by omega) h1
      go_upto_region 13 with (go_at_call 14; refine (HDA.out _).mono ?_; rintro e w6 ⟨rfl, hb6⟩)
      go_wp2_with fail
      (go_at_call 15; refine (HRI.out _ (HB5.out.trans (hb6.mono HB5.out.size))).mono ?_; rintro e w7 ⟨rfl, hb7⟩)
      have b57 : Below w5.heap.size w5 w7 := hb6.trans (hb7.mono hb6.size)
      have HB7 : Hid (Below w1.heap.size w1 w7) := HB5.out.trans (b57.mono HB5.out.size)
      have HB57 := hid_of b57
      clear hb6 hb7 HRI HDA b57
      go_upto_region 15 with (first
        | (go_at_call 16; refine (num_calls _ _).mono ?_; rintro e w' ⟨rfl, hw'⟩; have hx' := hw'.symm; subst hx')
        | (go_at_call 17; refine (HSM.out _ HB7.out).mono ?_; rintro e w8 ⟨rfl, hb8⟩))
      have HB58 : Hid (Below w5.heap.size w5 w8) := HB57.out.trans (hb8.mono HB57.out.size)
      have HB8 : Hid (Below w1.heap.size w1 w8) := HB5.out.trans (HB58.out.mono HB5.out.size)
      clear hb8 HB57 HB7
      go_upto_region 18 with (go_at_call 19; refine (HDO.out _ (HB1.out.trans (HB8.out.mono HB1.out.size))).mono ?_; rintro e w9 ⟨vw, cw, rfl, hw9, hb9, ha9⟩)
      obtain ⟨W9, hW9⟩ : ∃ W, w9.alloc (.cells #[.int .i64 oz, .slice vw oi.length cw, .bool false] 27) = W := ⟨_, rfl⟩
      have b9 : Below w9.heap.size w9 W9 := by rw [← hW9]; exact (Below.refl _ _).alloc (Nat.le_refl _) _
      have q9 : Blk W9 w9.heap.size #[.int .i64 oz, .slice vw oi.length cw, .bool false] 27 := by rw [← hW9]; exact Blk.new _ _ _
      rw [hW9]
      have HB59 : Hid (Below w5.heap.size w5 W9) := HB58.out.trans ((hb9.trans (b9.mono hb9.size)).mono HB58.out.size)
      have HB9 : Hid (Below w1.heap.size w1 W9) := HB5.out.trans (HB59.out.mono HB5.out.size)
      have HQ9 := hid_of q9
      have HTW9 := hid_of (hw9.below b9)
      have HQ29 := hid_of (HQ25.out.below HB59.out)
      have HQ39 := hid_of (HQ35.out.below HB59.out)
      have HOQ9 : Hid (OwnT W2.heap.size W9 (.slice vq oi.length cq) oi) := owns_below HOQ5.out HB59.out
      have HOP9 : Hid (OwnT w1.heap.size W9 (.slice vp oi.length cp) oi) := owns_below HOP5.out HB59.out
      have HA9 : Hid (AboveA W2.heap.size vw) := ha9.mono (by have := HB58.out.size; omega)
      have HS9 : Hid (W2.heap.size ≤ w9.heap.size) := by have h1 := HB58.out.size; have h2 := hb9.size; show _ ≤ _; omega
      clear hW9 b9 q9 hw9 hb9 ha9 HQ25 HQ35 HOQ5 HOP5 HB58 HB8 HB5 HDO
      have d0 : W9.cell? ⟨w2.heap.size, 0, none⟩ = some (.int .i64 oz) := HQ29.out.cell 0
      have d1 : W9.cell? ⟨w2.heap.size, 1, none⟩ = some (.slice vp oi.length cp) := HQ29.out.cell 1
      have d2 : W9.cell? ⟨w2.heap.size, 2, none⟩ = some (.bool false) := HQ29.out.cell 2
      have e0 : W9.cell? ⟨w9.heap.size, 0, none⟩ = some (.int .i64 oz) := HQ9.out.cell 0
      have e1 : W9.cell? ⟨w9.heap.size, 1, none⟩ = some (.slice vw oi.length cw) := HQ9.out.cell 1
      have e2 : W9.cell? ⟨w9.heap.size, 2, none⟩ = some (.bool false) := HQ9.out.cell 2
      go_wp2_with fail
      (go_at_call 20; refine (HPL.out vp vw cp cw W9 (txts_own HOP9.out).txt HTW9.out.txt).mono ?_; rintro e w10 ⟨rfl, hb10⟩)
      have HB910 := hid_of hb10
      have q10 := HQ9.out.below hb10
      have f0 : w10.cell? ⟨w9.heap.size, 0, none⟩ = some (.int .i64 oz) := q10.cell 0
      have f1 : w10.cell? ⟨w9.heap.size, 1, none⟩ = some (.slice vw oi.length cw) := q10.cell 1
      have f2 : w10.cell? ⟨w9.heap.size, 2, none⟩ = some (.bool false) := q10.cell 2
      clear hb10 q10 d0 d1 d2 e0 e1 e2
      go_wp2_with fail
      (go_at_call 18; refine (HNO.out vw cw w10 (HTW9.out.txt.below HB910.out)).mono ?_; rintro e w11 ⟨rfl, hb11⟩)
      have HB911 : Hid (Below W9.heap.size W9 w11) := HB910.out.trans (hb11.mono HB910.out.size)
      clear hb11 HB910 f0 f1 f2
      have hnn : (nothB oz false oi != nothB oz false oi) = false := by simp
      have HB11 : Hid (Below w1.heap.size w1 w11) := HB9.out.trans (HB911.out.mono HB9.out.size)
      have HOP11 : Hid (OwnT w1.heap.size w11 (.slice vp oi.length cp) oi) := owns_below HOP9.out HB911.out
      have HOQ11 : Hid (OwnT W2.heap.size w11 (.slice vq oi.length cq) oi) := owns_below HOQ9.out HB911.out
      have HTW11 := hid_of (HTW9.out.below HB911.out)
      have HQ211 := hid_of (HQ29.out.below HB911.out)
      have HQ311 := hid_of (HQ39.out.below HB911.out)
      have HQ911 := hid_of (HQ9.out.below HB911.out)
      clear HOP9 HOQ9 HTW9 HQ29 HQ39 HQ9
      generalize nothB oz false oi = nb at *
      go_upto_region 20 with fail
      have d1 : w11.cell? ⟨w2.heap.size, 1, none⟩ = some (.slice vp oi.length cp) := HQ211.out.cell 1
      go_upto_region 21 with (go_at_call 21; refine (spoil_calls w1.heap.size _ oi w11 (by omega) HOP11.out).mono ?_; rintro e w12 ⟨⟨v12, rfl⟩, L12, hl12, ho12, hg12⟩)
      have hp : ∀ j, Value.ownBlock (.slice vp oi.length cp) = some j → w1.heap.size ≤ j ∧ j < W2.heap.size := fun j hj => ⟨(HOP11.out.lt j hj).1, HPLT.out j hj⟩
      have hs911 := HB911.out.size
      have HB12 : Hid (Below w1.heap.size w1 w12) := HB11.out.grown hg12 HB11.out.size (fun j hj => (hp j hj).1)
      have HOQ12 : Hid (OwnT W2.heap.size w12 (.slice vq oi.length cq) oi) := World.ownsRow.kept HOQ11.out hg12 (by
        cases hb : Value.ownBlock (.slice vq oi.length cq) with
        | none => exact .inl rfl
        | some j => exact .inr (fun e => by have h1 := (HOQ11.out.lt j hb).1; have h2 := (hp j e.symm).2; omega))
      have HTW12 : Hid (TextsAt w12 vw oi) := fun j hj => by
        obtain ⟨b, off, e, hc⟩ := HTW11.out.txt j hj
        refine ⟨b, off, e, hg12.cell hc (fun e2 => ?_)⟩
        have h1 := HA9.out _ e
        have h2 := (hp b e2.symm).2
        exact absurd h1 (Nat.not_le_of_lt h2)
      have far : ∀ (B : Nat) (cs : Array Value), Blk w11 B cs 27 → (∀ j, Value.ownBlock (.slice vp oi.length cp) = some j → B ≠ j) → Blk w12 B cs 27 := fun B cs hB hne => by
        show w12.heap[B]? = _
        rw [hg12.block B (lt_of_block hB) (fun e => hne B e.symm rfl)]
        exact hB
      have hpw2 : ∀ j, Value.ownBlock (.slice vp oi.length cp) = some j → w3.heap.size ≠ j := fun j hj => by have := (hp j hj).2; omega
      have hpw9 : ∀ j, Value.ownBlock (.slice vp oi.length cp) = some j → w9.heap.size ≠ j := fun j hj => by have := (hp j hj).2; have := HS9.out; omega
      have HQ312 := hid_of (far _ _ HQ311.out hpw2)
      have HQ912 := hid_of (far _ _ HQ911.out hpw9)
      have d0 : w12.cell? ⟨w3.heap.size, 0, none⟩ = some (.int .i64 oz) := HQ312.out.cell 0
      have d1 : w12.cell? ⟨w3.heap.size, 1, none⟩ = some (.slice vq oi.length cq) := HQ312.out.cell 1
      have d2 : w12.cell? ⟨w3.heap.size, 2, none⟩ = some (.bool false) := HQ312.out.cell 2
      have e0 : w12.cell? ⟨w9.heap.size, 0, none⟩ = some (.int .i64 oz) := HQ912.out.cell 0
      have e1 : w12.cell? ⟨w9.heap.size, 1, none⟩ = some (.slice vw oi.length cw) := HQ912.out.cell 1
      have e2 : w12.cell? ⟨w9.heap.size, 2, none⟩ = some (.bool false) := HQ912.out.cell 2
      clear hl12 ho12 hg12 far hpw2 hpw9 hp HQ311 HQ911 HQ211 HOP11 HOQ11 HTW11
      go_wp2_with fail
      (go_at_call 20; refine (HPL.out vq vw cq cw w12 (txts_own HOQ12.out).txt HTW12.out).mono ?_; rintro e w13 ⟨rfl, hb13⟩)
      have HB13 : Hid (Below w1.heap.size w1 w13) := HB12.out.trans (hb13.mono HB12.out.size)
      clear hb13 d0 d1 d2 e0 e1 e2
      go_wp2_with fail
      (go_at_call 17; refine (HSM.out _ HB13.out).mono ?_; rintro e w14 ⟨rfl, hb14⟩)
      have HB14 : Hid (Below w1.heap.size w1 w14) := HB13.out.trans (hb14.mono HB13.out.size)
      clear hb14
      go_wp2_with fail
      (go_at_call 9; refine (HAW.out _ (HB1.out.trans (HB14.out.mono HB1.out.size))).mono ?_; rintro e w15 ⟨rfl, hb15⟩)
      go_wp2_with fail
      go_ret
      exact ⟨rfl, (HB1.out.trans (HB14.out.mono HB1.out.size)).trans (hb15.mono (HB1.out.trans (HB14.out.mono HB1.out.size)).size)⟩
set_option maxRecDepth 100000 in
theorem contract (H : Type) (enc : TypeId × Value → H) (W : World) (base : Nat) (args : Array Value) (ds gs : List (DataW H)) (before : List MemPlace)
    (hval : ∀ (j : Nat) t v, Try.f3.params[j]? = some t → args[j]? = some v → Value.okWide Try.prog W .any base t v)
    (hW : DataW.Whole enc Try.prog Try.f3.params.toList Rows.nestOpensSpec.vars false W args.toList ds gs before) (hsh : W.ShapedOpen Try.prog) (hk : Rows.uptoSmall H (ds ++ gs) = true) :
    Calls Try.prog 3 args W fun e W' => ∃ v, e = .returned v ∧ Rows.nestOpensSpec.post enc Try.prog Try.f3 false true false false W args v W' := by
  have hW' := hW
  have hlt := hW.lt
  obtain ⟨p, q, hA0, hV, rfl, hfz, hnd⟩ := hW
  have hA : DataW.TrodAll enc Try.prog W 0 (fun _ => true) true Try.f3.params.toList args.toList ds p := hA0
  rw [Try.params3] at hA hval
  obtain ⟨v0, vs0, d0, ds0, p0, q0, hargs, rfl, rfl, h0, r0⟩ := trodAll_cons hA
  obtain ⟨v1, vs1, d1, ds1, p1, q1, rfl, rfl, rfl, h1, r1⟩ := trodAll_cons r0
  obtain ⟨rfl, rfl, rfl⟩ := trodAll_nil r1
  obtain rfl : args = #[v0, v1] := by cases args; simp_all
  obtain ⟨rfl, rfl⟩ := trodVars_none hV
  clear hA0
  simp only [List.append_nil] at hW' hlt hk
  have hbulk := of_decide_eq_true hk
  simp only [Rows.uptoBulkAll] at hbulk
  have e0 := okWide_slice Try.underlying22 (hval 0 22 v0 rfl rfl)
  obtain ⟨wa0, wc0, ws0, rfl, hw0, l0, lx0⟩ := words7_of_read e0 h0
  have h1' := h1
  obtain ⟨s1, rfl, rfl, e1, ws1⟩ := Go.ChangeMaps.open_string Try.underlying9 (hval 1 9 v1 rfl rfl) h1
  refine (walk W (Try.laysM144.s1_3 W hsh) wa0 wc0 ws0 hw0 (by omega) (fun x hx => by have := lx0 x hx; omega) s1 ws1 (by simp only [N.bulk_str, N.size_data] at hbulk; omega)).mono fun e W' ⟨he, hb⟩ => ?_
  subst he
  exact ⟨_, rfl, post_below hW' (fun _ _ _ => trodAll_cons_mk (shut_bool Try.underlying4 _) trodAll_mk0) (trodAll_cons_mk (stays (by kernel_rfl) (of_decide_eq_true (by kernel_rfl)) h0 hb (fun x hx => hlt x (by simp [hx]))) (trodAll_cons_mk (stays (by kernel_rfl) (of_decide_eq_true (by kernel_rfl)) h1' hb (fun x hx => hlt x (by simp [hx]))) trodAll_mk0)) rfl hb⟩

set_option maxRecDepth 100000 in
theorem laid_met (os : Os) : laidMet Try.prog Rows.nestOpensUptoRow.laid ((World.holding Try.prog os ⟨#[], #[], []⟩).forCall (fun _ _ => 0) ⟨#[], #[Value.slice none 0 0, Value.string ⟨#[]⟩], []⟩).memory :=
  laidMet_of_run' 8 (by kernel_rfl) (by kernel_rfl)
set_option maxRecDepth 100000 in
theorem reads (os : Os) {H : Type} (enc : TypeId × Value → H) : ∃ places, DataW.whole enc Try.prog ((World.holding Try.prog os ⟨#[], #[], []⟩).forCall (fun _ _ => 0) ⟨#[], #[Value.slice none 0 0, Value.string ⟨#[]⟩], []⟩).memory Try.f3.params.toList Rows.nestOpensSpec.vars false #[Value.slice none 0 0, Value.string ⟨#[]⟩].toList 8 = some ([.nil, .lit (.string [])], [], places) :=
  ⟨[], by kernel_rfl⟩

set_option maxRecDepth 100000 in
theorem lifted (os : Os) (started : os.Started) (H : Type) (enc : TypeId × Value → H) (F : Stop.Interp) :
    ReturnsInHanded {} Try.checked os 3 .any ((Rows.OpenSpec.upto Rows.nestOpensSpec).preRow enc Try.prog Try.f3 Rows.nestOpensUptoRow.domain false Rows.nestOpensUptoRow.laid) (((Rows.OpenSpec.upto Rows.nestOpensSpec).at F).post enc Try.prog Try.f3 false true false false) := by
  obtain ⟨places, hx⟩ := reads os enc
  refine returnsInHanded_of_row (C := Try.checked) (s := Rows.OpenSpec.upto Rows.nestOpensSpec) own started (by kernel_rfl) Try.func3
    (witness_row_at (enc := enc) (C := Try.checked) false (World.holding Try.prog os ⟨#[], #[], []⟩) #[Value.slice none 0 0, Value.string ⟨#[]⟩] rfl (by kernel_rfl) (by kernel_rfl) (by kernel_rfl)
      (OpenSpec.preRow_of_cond 8 hx (by kernel_rfl) (fun k hk => by cases hk; kernel_rfl) (by kernel_rfl) (laid_met os))) ?_
  intro W base args ds gs before hval hW _ hcond _ hL hsh _
  exact contract H enc W base args ds gs before hval hW hsh (hcond _ rfl)

set_option maxRecDepth 100000 in
theorem said : Rows.NestOpensUptoSaid :=
  OpenClaim.holds_of_cond 3 Try.f3 rfl rfl rfl rfl rfl rfl rfl ⟨rfl, rfl, rfl, rfl, rfl⟩ rfl rfl rfl rfl rfl (by kernel_rfl) Try.func3 (by kernel_rfl)
    (of_decide_eq_true (by kernel_rfl)) (by unfold Func.isWrapper; first | (rw [if_pos (by decide +kernel)]; kernel_rfl) | (rw [if_neg (by decide +kernel)]; exact ⟨rfl, rfl⟩))
    (fun os started H enc _ F => by rw [OpenClaim.pre_eq_preRow]; exact lifted os started H enc F)


end Go.Proofs.Ytdkcibafbdmajaa.NeOpens
