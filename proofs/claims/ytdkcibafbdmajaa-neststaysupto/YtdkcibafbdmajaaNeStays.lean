/- What is proved here: the statement NestStays (the stack stays right, behind a name, a text, an end tag; and behind a plan nothing more is asked) holds for stacks and names up to the size that the statement's narrower form names, with no other condition. -/
import Derived.Test.YtdkcibafbdmajaaNePush
import Derived.Test.YtdkcibafbdmajaaNeText
import Derived.Test.YtdkcibafbdmajaaBun7
namespace Go.Proofs.Ytdkcibafbdmajaa.NeStays
open Go.ChangeShapes Go.WideShapes Go.ChangeAt Go.RowKit Go.Shelf N C E

theorem text_plan {S : List Txt} (hr : Rt S) (bl : Bool) : 0 ≤ (textP S bl).1 ∧ (textP S bl).1 ≤ S.length ∧ Rt (applyL S (textP S bl).1 (textP S bl).2.1) ∧ (textP S bl).2.1.length ≤ 3 ∧ (∀ y ∈ (textP S bl).2.1, y.length ≤ 10000000000) ∧ ((textP S bl).2.2 = false → textP (applyL S (textP S bl).1 (textP S bl).2.1) bl = (0, [], false)) ∧ ((textP S bl).2.2 = true → (textP S bl).1 = 0 ∧ (textP S bl).2.1 = []) := by
  have hr' : rightK S S.length = true := hr
  obtain ⟨h1, h2⟩ := text_stay hr
  by_cases hc : (bl && !textN S) = true
  · have e : textP S bl = (0, [], true) := by unfold textP; rw [hr', if_pos rfl, if_pos hc]
    rw [e]
    refine ⟨by decide, by omega, by rw [apply_none]; exact hr, by simp, fun y hy => absurd hy (by simp), fun h => absurd h (by decide), fun _ => ⟨rfl, rfl⟩⟩
  · have e : textP S bl = ((S.length : Int) - ((textK S S.length).1 : Int), (textK S S.length).2, false) := by unfold textP; rw [hr', if_pos rfl, if_neg hc]
    have hle : (textK S S.length).1 ≤ S.length := standN_le S S.length
    rw [e]
    simp only
    rw [apply_app S _ hle]
    refine ⟨by omega, by omega, h1, ?_, ?_, fun _ => ?_, fun h => absurd h (by decide)⟩
    · show ([] ++ standI (topK S S.length)).length ≤ 3
      rw [List.nil_append]
      exact standI_len _
    · show ∀ y ∈ [] ++ standI (topK S S.length), _
      rw [List.nil_append]
      exact stand_small _
    · generalize app S (textK S S.length) = V at *
      have hV : rightK V V.length = true := h1
      unfold textP textN
      rw [hV, if_pos rfl, h2]
      cases bl <;> simp
theorem end_rest {S : List Txt} (hr : Rt S) (x : Txt) : 0 ≤ endN S x ∧ endN S x ≤ S.length ∧ Rt (S.take (S.length - (endN S x).toNat)) := by
  have h1 := ended_ge S S.length x
  have h2 := ended_lt S S.length x
  have h : 0 ≤ endN S x ∧ endN S x ≤ S.length := by
    unfold endN
    rw [show rightK S S.length = true from hr, if_pos rfl]
    split <;> omega
  exact ⟨h.1, h.2, hr.take (by omega)⟩
theorem open_plan {S : List Txt} {x : Txt} (h : openCode S x = 0) : 0 ≤ openZ S x ∧ openZ S x ≤ S.length ∧ (openI S x).length ≤ 6 ∧ (∀ y ∈ openI S x, y.length ≤ 10000000000) ∧ Rt (applyL S (openZ S x) (openI S x)) ∧ mayB (applyL S (openZ S x) (openI S x)) x = true ∧ openCode (applyL S (openZ S x) (openI S x)) x = 0 ∧ Rt (pushL S (openZ S x) (openI S x) x) ∧ x ≠ [] := by
  have hra : Rt S ∧ allowB x = true := by
    unfold openCode at h
    cases hr : rightK S S.length
    · rw [hr] at h; cases h
    · rw [hr] at h
      cases ha : allowB x
      · rw [ha] at h; cases h
      · exact ⟨hr, rfl⟩
  obtain ⟨s1, s2⟩ := element_stay hra.1 x
  have hle := element_le S S.length x
  have ez : openZ S x = (S.length : Int) - ((elementK S S.length x).1 : Int) := by unfold openZ; rw [if_pos h]
  have ei : openI S x = (elementK S S.length x).2 := by unfold openI; rw [if_pos h]
  have ea : applyL S (openZ S x) (openI S x) = app S (elementK S S.length x) := by rw [ez, ei, apply_app S _ hle]
  have ec : openCode (app S (elementK S S.length x)) x = 0 := by
    unfold openCode
    rw [show rightK _ _ = true from s1, hra.2]
    rfl
  refine ⟨by rw [ez]; omega, by rw [ez]; omega, by rw [ei]; exact element_len S S.length x, by rw [ei]; exact ins_small S S.length x, by rw [ea]; exact s1, ?_, by rw [ea]; exact ec, ?_, ?_⟩
  · rw [ea]
    have s2' : elementK (app S (elementK S S.length x)) (app S (elementK S S.length x)).length x = ((app S (elementK S S.length x)).length, []) := s2
    unfold mayB openZ openI
    rw [if_pos ec, if_pos ec, ec, s2']
    simp
  · unfold pushL
    rw [ea]
    cases hv : voidB x
    · rw [if_neg (by decide)]
      exact s1.put hra.2 hv s2
    · rw [if_pos rfl, List.append_nil]
      exact s1
  · rintro rfl
    exact absurd hra.2 (by decide +kernel)
theorem stack_new {S T : List Txt} {base k cv : Nat} {W : World} {v : Option Addr} (hf : Few S) (hS : S.length ≤ 600) (hT : T.length ≤ 50) (hb : ∀ y ∈ T, y.length ≤ 10000000000) (ho : OwnT base W (.slice v (S.take k ++ T).length cv) (S.take k ++ T)) : StackAt W v (S.take k ++ T) cv :=
  ⟨(texts_own ho).1, (texts_own ho).2.1, few_app hf k T (by omega) (by omega) hb, by rw [List.length_append, List.length_take]; omega⟩
theorem stack_take {S : List Txt} {a : Option Addr} {c : Nat} {W : World} (h : StackAt W a S c) (k : Nat) : StackAt W a (S.take k) c := by
  have e : S.take k = S.take k ++ [] := by rw [List.append_nil]
  refine ⟨fun j hj => ?_, by rw [List.length_take]; have := h.cap; omega, by rw [e]; exact few_app h.few k [] (by simp) (by have := h.len; omega) (fun y hy => absurd hy (by simp)), by rw [List.length_take]; have := h.len; omega⟩
  have hj' : j < k ∧ j < S.length := by rw [List.length_take] at hj; omega
  obtain ⟨b, off, e2, hc⟩ := h.txt j hj'.2
  refine ⟨b, off, e2, ?_⟩
  rw [hc]
  have := agree_take S k j hj'.1
  rw [this]
set_option maxRecDepth 100000 in
set_option maxHeartbeats 40000000 in
theorem walk (w : World) (hm : MaxOk w) (a : Option Addr) (c : Nat) (S : List Txt) (hT : Txts w a S c) (hl : S.length ≤ 1048576) (hx : ∀ x ∈ S, x.length ≤ 1048576) (s : ByteArray) (_hs0 : s.size ≤ 9223372036854775807) (hs : s.size ≤ 1048576) (bl : Bool) :
    Calls Try.prog 6 #[.slice a S.length c, .string s, .bool bl] w fun e w' => e = .returned (.bool true) ∧ Below w.heap.size w w' := by
  obtain ⟨x, hsx⟩ : ∃ x : Txt, s = ⟨x.toArray⟩ := ⟨s.data.toList, by cases s; simp⟩
  subst hsx
  have hxl : x.length ≤ 1048576 := by simpa [ByteArray.size] using hs
  clear hs _hs0
  have HAW : Hid (∀ W, Below w.heap.size w W → Calls Try.prog 9 #[] W fun e w' => e = .returned (.bool true) ∧ Below W.heap.size W w') := fun W hW => awake_calls W (hm.below hW)
  have HM := hid_of hm
  have HLG : Hid (∀ W, Calls Try.prog 8 #[.slice a S.length c] W fun e w' => e = .returned (.bool (decide (600 < S.length))) ∧ w' = W) := fun W => long_calls a S.length c (by omega) W
  by_cases hlong : 600 < S.length
  · rw [decide_eq_true hlong] at HLG
    clear hm hT hx hlong
    go_enter Try.func6, Try.ntmps6
    go_wp2_with (first
      | (go_at_call 8; refine (HLG.out _).mono ?_; rintro e w' ⟨rfl, rfl⟩)
      | (go_at_call 9; refine (HAW.out _ (Below.refl _ _)).mono ?_; rintro e w2 ⟨rfl, hb2⟩))
    go_ret
    exact ⟨rfl, hb2⟩
  · rw [decide_eq_false hlong] at HLG
    have hst := stack_of hT.cap hT.txt (by omega) hx
    have HST := hid_of hst
    have HTX := hid_of hT
    have HRI := hid_of (Right_calls w hm a S c hst)
    have hl600 : S.length ≤ 600 := by omega
    clear hm hT hx hlong hst
    cases hr : rightK S S.length
    · rw [hr] at HRI
      clear hr
      go_enter Try.func6, Try.ntmps6
      go_wp2_with (first
        | (go_at_call 8; refine (HLG.out _).mono ?_; rintro e w' ⟨rfl, hw'⟩; have hx' := hw'.symm; subst hx')
        | (go_at_call 15; refine HRI.out.mono ?_; rintro e w1 ⟨rfl, hb1⟩)
        | (go_at_call 9; refine (HAW.out _ hb1).mono ?_; rintro e w2 ⟨rfl, hb2⟩))
      go_ret
      exact ⟨rfl, hb1.trans (hb2.mono hb1.size)⟩
    · rw [hr] at HRI
      have hR : Rt S := hr
      have HR := hid_of hR
      obtain ⟨p1, p2, p3, p4, p5, p6, p7⟩ := text_plan hR bl
      obtain ⟨q1, q2, q3⟩ := end_rest hR x
      have HC0 : Hid (endCode S = 0) := by show _ = _; unfold endCode; rw [hr]; rfl
      have HEQ : Hid (openCode S x = 0 → True) := fun _ => trivial
      have HCD : Hid (openCode S x = 0 ∨ (openCode S x = 160 ∧ allowB x = false)) := by
        show _ ∨ _
        unfold openCode
        rw [hr, if_pos rfl]
        cases allowB x
        · exact .inr ⟨rfl, rfl⟩
        · exact .inl rfl
      clear hr HEQ
      have HX := hid_of (fun W hW => Text_calls W (HM.out.below hW) a S c (HST.out.below hW) bl)
      rw [HC0.out] at HX
      have HE : Hid (∀ W, Below w.heap.size w W → Calls Try.prog 23 #[.slice a S.length c, .string ⟨x.toArray⟩] W fun e w' => e = .returned (.tuple #[.int .i64 (endN S x), .int .i64 0]) ∧ Below W.heap.size W w') := fun W hW => by
        have h := End_calls W (HM.out.below hW) a S c (HST.out.below hW) x (by omega)
        rwa [HC0.out] at h
      have HQ3 := hid_of q3
      have HP3 := hid_of p3
      have HP5 := hid_of p5
      have HP6 := hid_of p6
      have HP7 := hid_of p7
      clear p3 p5 p6 p7 q3
      obtain ⟨tp, htp⟩ : ∃ tp, textP S bl = tp := ⟨_, rfl⟩
      rw [htp] at HX HP3 HP5 HP6 HP7 p1 p2 p4
      obtain ⟨t1, t2, t3⟩ := tp
      simp only at p1 p2 p4 HX
      have HP3 : Hid (Rt (applyL S t1 t2)) := HP3.out
      have HP5 : Hid (∀ y ∈ t2, y.length ≤ 10000000000) := HP5.out
      have HP6 : Hid (t3 = false → textP (applyL S t1 t2) bl = (0, [], false)) := HP6.out
      have HP7 : Hid (t3 = true → t1 = 0 ∧ t2 = []) := HP7.out
      clear htp
      generalize endN S x = en at *
      obtain ⟨m, rfl⟩ : ∃ m : Nat, en = (m : Int) := ⟨en.toNat, by omega⟩
      have hmL : m ≤ S.length := by omega
      have hd1 : decide ((m : Int) < 0) = false := decide_eq_false (by omega)
      have hd2 : decide ((m : Int) > (S.length : Int)) = false := decide_eq_false (by omega)
      have hwm : IntKind.i64.wrap ((S.length : Int) - (m : Int)) = ((S.length - m : Nat) : Int) := by rw [IntKind.wrap_i64]; omega
      have hm0 : (0 : Int) ≤ ((S.length - m : Nat) : Int) := by omega
      have hmc : ((S.length - m : Nat) : Int) ≤ (c : Int) := by have := HST.out.cap; omega
      have HQ3 : Hid (Rt (S.take (S.length - m))) := HQ3.out
      clear q1 q2
      go_enter Try.func6, Try.ntmps6
      go_upto_region 3 with (first
        | (go_at_call 8; refine (HLG.out _).mono ?_; rintro e w' ⟨rfl, hw'⟩; have hx' := hw'.symm; subst hx')
        | (go_at_call 15; refine HRI.out.mono ?_; rintro e w1 ⟨rfl, hb1⟩))
      have HB1 := hid_of hb1
      clear hb1 HRI HLG
      go_upto_region 4 with (go_at_call 22; refine (HX.out _ HB1.out).mono ?_; rintro e w2 ⟨v2, c2, rfl, ho2, hb2⟩)
      obtain ⟨W2, hW2⟩ : ∃ W, w2.alloc (.cells #[.int .i64 t1, .slice v2 t2.length c2, .bool t3] 27) = W := ⟨_, rfl⟩
      have b2 : Below w2.heap.size w2 W2 := by rw [← hW2]; exact (Below.refl _ _).alloc (Nat.le_refl _) _
      have k2 : Blk W2 w2.heap.size #[.int .i64 t1, .slice v2 t2.length c2, .bool t3] 27 := by rw [← hW2]; exact Blk.new _ _ _
      rw [hW2]
      have HB2 : Hid (Below w.heap.size w W2) := HB1.out.trans ((hb2.trans (b2.mono hb2.size)).mono HB1.out.size)
      have HK2 := hid_of k2
      have HT2 := hid_of ((txts_own ho2).below b2)
      clear hW2 b2 k2 ho2 hb2 HB1
      go_upto_region 5 with (go_at_call 23; refine (HE.out _ HB2.out).mono ?_; rintro e w3 ⟨rfl, hb3⟩)
      have HB3 : Hid (Below w.heap.size w w3) := HB2.out.trans (hb3.mono HB2.out.size)
      have HK3 := hid_of (HK2.out.below hb3)
      have HT3 := hid_of (HT2.out.below hb3)
      clear hb3 HB2 HK2 HT2 HE
      have d0 : w3.cell? ⟨w2.heap.size, 0, none⟩ = some (.int .i64 t1) := HK3.out.cell 0
      have d1 : w3.cell? ⟨w2.heap.size, 1, none⟩ = some (.slice v2 t2.length c2) := HK3.out.cell 1
      have d2 : w3.cell? ⟨w2.heap.size, 2, none⟩ = some (.bool t3) := HK3.out.cell 2
      have HPN := hid_of (push_none S t2 t1 t3 a v2 c c2 w3 (HTX.out.below HB3.out) HT3.out (by omega) (by omega) p1 p2)
      go_upto_region 8 with (first
        | (go_at_call 16; refine (num_calls _ _).mono ?_; rintro e w' ⟨rfl, hw'⟩; have hx' := hw'.symm; subst hx')
        | (go_at_call 30; refine HPN.out.mono ?_; rintro e w4 ⟨v4, c4, rfl, ho4, hb4⟩))
      have HB4 : Hid (Below w.heap.size w w4) := HB3.out.trans (hb4.mono HB3.out.size)
      have HK4 := hid_of (HK3.out.below hb4)
      have hs4 : StackAt w4 v4 (applyL S t1 t2) c4 := stack_new HST.out.few hl600 (by omega) HP5.out (by unfold applyL at ho4; exact ho4)
      have HS4 := hid_of hs4
      clear ho4 hb4 HPN HB3 HK3 HT3 d0 d1 d2
      have HRA := hid_of (Right_calls w4 (HM.out.below HB4.out) v4 _ c4 hs4)
      rw [show rightK (applyL S t1 t2) (applyL S t1 t2).length = true from HP3.out] at HRA
      clear hs4
      go_upto_region 10 with (first
        | (go_at_call 15; refine HRA.out.mono ?_; rintro e w5 ⟨rfl, hb5⟩; have HB5 : Hid (Below w.heap.size w w5) := HB4.out.trans (hb5.mono HB4.out.size); have HK5 := hid_of (HK4.out.below hb5); have HS5 := hid_of (HS4.out.below hb5); have HRB := hid_of (by
            have h := Right_calls w5 (HM.out.below HB5.out) a (S.take (S.length - m)) c (stack_take (HST.out.below HB5.out) _)
            rw [show rightK (S.take (S.length - m)) (S.take (S.length - m)).length = true from HQ3.out, List.length_take, Nat.min_eq_left (Nat.sub_le _ _)] at h
            exact h); clear hb5)
        | (go_at_call 15; refine HRB.out.mono ?_; rintro e w6 ⟨rfl, hb6⟩))
      have HB6 : Hid (Below w.heap.size w w6) := HB5.out.trans (hb6.mono HB5.out.size)
      have HK6 := hid_of (HK5.out.below hb6)
      have HS6 := hid_of (HS5.out.below hb6)
      clear hb6 HRA HRB HB4 HK4 HS4 HB5 HK5 HS5
      have HX6 := hid_of (Text_calls w6 (HM.out.below HB6.out) v4 _ c4 HS6.out bl)
      rw [show endCode (applyL S t1 t2) = 0 by unfold endCode; rw [show rightK (applyL S t1 t2) (applyL S t1 t2).length = true from HP3.out]; rfl] at HX6
      obtain ⟨tq, htq⟩ : ∃ tq, textP (applyL S t1 t2) bl = tq := ⟨_, rfl⟩
      rw [htq] at HX6
      have HP6T : Hid (t3 = false → tq = (0, [], false)) := fun h => htq.symm.trans (HP6.out h)
      obtain ⟨u1, u2, u3⟩ := tq
      simp only at HX6
      clear htq
      generalize applyL S t1 t2 = A at *
      go_upto_region 11 with (go_at_call 22; refine HX6.out.mono ?_; rintro e w7 ⟨v7, c7, rfl, ho7, hb7⟩)
      obtain ⟨W7, hW7⟩ : ∃ W, w7.alloc (.cells #[.int .i64 u1, .slice v7 u2.length c7, .bool u3] 27) = W := ⟨_, rfl⟩
      have b7 : Below w7.heap.size w7 W7 := by rw [← hW7]; exact (Below.refl _ _).alloc (Nat.le_refl _) _
      have k7 : Blk W7 w7.heap.size #[.int .i64 u1, .slice v7 u2.length c7, .bool u3] 27 := by rw [← hW7]; exact Blk.new _ _ _
      rw [hW7]
      have HB7 : Hid (Below w.heap.size w W7) := HB6.out.trans ((hb7.trans (b7.mono hb7.size)).mono HB6.out.size)
      have HK7 := hid_of (HK6.out.below (hb7.trans (b7.mono hb7.size)))
      have d0 : W7.cell? ⟨w2.heap.size, 0, none⟩ = some (.int .i64 t1) := HK7.out.cell 0
      have d1 : W7.cell? ⟨w2.heap.size, 1, none⟩ = some (.slice v2 t2.length c2) := HK7.out.cell 1
      have d2 : W7.cell? ⟨w2.heap.size, 2, none⟩ = some (.bool t3) := HK7.out.cell 2
      have e0 : W7.cell? ⟨w7.heap.size, 0, none⟩ = some (.int .i64 u1) := k7.cell 0
      have e1 : W7.cell? ⟨w7.heap.size, 1, none⟩ = some (.slice v7 u2.length c7) := k7.cell 1
      have e2 : W7.cell? ⟨w7.heap.size, 2, none⟩ = some (.bool u3) := k7.cell 2
      clear hW7 b7 k7 ho7 hb7 HB6 HK6 HX6 HS6
      go_cut [113] from 19 (fun v wx => v = .bool false ∧ Hid (Below w.heap.size w wx))
      case first =>
        cases t3
        · have h6 : (u1, u2, u3) = (0, [], false) := HP6T.out rfl
          cases h6
          go_wp2_with (go_at_call 16; refine (num_calls _ _).mono ?_; rintro e w' ⟨rfl, hw'⟩; have hx' := hw'.symm; subst hx')
          (go_at_call 18; refine (lnothing_calls 0 false [] v7 c7 _ (by simp) (fun j hj => absurd hj (by simp))).mono ?_; rintro e w8 ⟨rfl, hb8⟩; rw [show nothB 0 false [] = true from rfl])
          have HB8 : Hid (Below w.heap.size w w8) := HB7.out.trans (hb8.mono HB7.out.size)
          have g2 : w8.cell? ⟨w2.heap.size, 2, none⟩ = some (.bool false) := (HK7.out.below hb8).cell 2
          clear hb8
          go_wp2_with fail
          go_meet
          all_goals exact ⟨rfl, HB8⟩
        · obtain ⟨z1, z2⟩ := HP7.out rfl
          subst z1 z2
          go_wp2_with (go_at_call 16; refine (num_calls _ _).mono ?_; rintro e w' ⟨rfl, hw'⟩; have hx' := hw'.symm; subst hx')
          go_meet
          all_goals exact ⟨rfl, HB7⟩
      case rest =>
        obtain ⟨rfl, HBC⟩ := hcut
        clear d0 d1 d2 e0 e1 e2 HK7 HP6 HP7 HB7
        have HOP := hid_of (Open_calls wc (HM.out.below HBC.out) a S c (HST.out.below HBC.out) x (by omega))
        rcases HCD.out with hcd | ⟨hcd, hal⟩
        rotate_left
        · rw [hcd] at HOP
          have HIN : Hid (∀ W, MaxOk W → Calls Try.prog 31 #[.string ⟨x.toArray⟩, .int .i64 15] W fun e w' => e = .returned (.bool false) ∧ w' = W) := fun W hm => by
            have := in_calls ⟨x.toArray⟩ 15 W (by show x.toArray.size ≤ _; simp; omega) hm
            rw [show (⟨x.toArray⟩ : ByteArray).data.toList = x from rfl, show inZ 15 x = false from hal] at this
            exact this
          clear hcd hal
          go_upto_region 14 with (go_at_call 11; refine HOP.out.mono ?_; rintro e w9 ⟨v9, c9, rfl, ho9, hb9⟩)
          obtain ⟨W9, hW9⟩ : ∃ W, w9.alloc (.cells #[.int .i64 (openZ S x), .slice v9 (openI S x).length c9, .bool false] 27) = W := ⟨_, rfl⟩
          have b9 : Below w9.heap.size w9 W9 := by rw [← hW9]; exact (Below.refl _ _).alloc (Nat.le_refl _) _
          rw [hW9]
          have HB9 : Hid (Below w.heap.size w W9) := HBC.out.trans ((hb9.trans (b9.mono hb9.size)).mono HBC.out.size)
          have HM9 := hid_of (HM.out.below HB9.out)
          clear hW9 b9 ho9 hb9
          go_wp2_with (first
            | (go_at_call 16; refine (num_calls _ _).mono ?_; rintro e w' ⟨rfl, hw'⟩; have hx' := hw'.symm; subst hx')
            | (go_at_call 31; refine (HIN.out _ HM9.out).mono ?_; rintro e w' ⟨rfl, hw'⟩; have hx' := hw'.symm; subst hx')
            | (go_at_call 9; refine (HAW.out _ HB9.out).mono ?_; rintro e w10 ⟨rfl, hb10⟩))
          go_ret
          exact ⟨rfl, HB9.out.trans (hb10.mono HB9.out.size)⟩
        · obtain ⟨o1, o2, o3, o4, o5, o6, o7, o8, o9⟩ := open_plan hcd
          rw [hcd] at HOP
          have HO4 := hid_of o4
          have HO5 := hid_of o5
          have HO6 := hid_of o6
          have HO7 := hid_of o7
          have HO8 := hid_of o8
          clear o4 o5 o6 o7 o8 hcd
          have HPSH : Hid (pushL S (openZ S x) (openI S x) x = S.take (S.length - (openZ S x).toNat) ++ (openI S x ++ (if voidB x then [] else [x]))) := by show _ = _; unfold pushL applyL; rw [List.append_assoc]
          have HAPP : Hid (applyL S (openZ S x) (openI S x) = S.take (S.length - (openZ S x).toNat) ++ openI S x) := rfl
          generalize openZ S x = oz at *
          generalize openI S x = oi at *
          go_upto_region 14 with (go_at_call 11; refine HOP.out.mono ?_; rintro e w9 ⟨v9, c9, rfl, ho9, hb9⟩)
          obtain ⟨W9, hW9⟩ : ∃ W, w9.alloc (.cells #[.int .i64 oz, .slice v9 oi.length c9, .bool false] 27) = W := ⟨_, rfl⟩
          have b9 : Below w9.heap.size w9 W9 := by rw [← hW9]; exact (Below.refl _ _).alloc (Nat.le_refl _) _
          have k9 : Blk W9 w9.heap.size #[.int .i64 oz, .slice v9 oi.length c9, .bool false] 27 := by rw [← hW9]; exact Blk.new _ _ _
          rw [hW9]
          have HB9 : Hid (Below w.heap.size w W9) := HBC.out.trans ((hb9.trans (b9.mono hb9.size)).mono HBC.out.size)
          have HK9 := hid_of k9
          have HT9 := hid_of ((txts_own ho9).below b9)
          clear hW9 b9 k9 ho9 hb9 HOP
          have d0 : W9.cell? ⟨w9.heap.size, 0, none⟩ = some (.int .i64 oz) := HK9.out.cell 0
          have d1 : W9.cell? ⟨w9.heap.size, 1, none⟩ = some (.slice v9 oi.length c9) := HK9.out.cell 1
          have d2 : W9.cell? ⟨w9.heap.size, 2, none⟩ = some (.bool false) := HK9.out.cell 2
          have HPN := hid_of (push_none S oi oz false a v9 c c9 W9 (HTX.out.below HB9.out) HT9.out (by omega) (by omega) o1 o2)
          go_upto_region 17 with (first
            | (go_at_call 16; refine (num_calls _ _).mono ?_; rintro e w' ⟨rfl, hw'⟩; have hx' := hw'.symm; subst hx')
            | (go_at_call 30; refine HPN.out.mono ?_; rintro e w10 ⟨v10, c10, rfl, ho10, hb10⟩))
          have HB10 : Hid (Below w.heap.size w w10) := HB9.out.trans (hb10.mono HB9.out.size)
          have HK10 := hid_of (HK9.out.below hb10)
          have HT10 := hid_of (HT9.out.below hb10)
          have HS10 : Hid (StackAt w10 v10 (applyL S oz oi) c10) := stack_new HST.out.few hl600 (by omega) HO4.out (by rw [HAPP.out] at ho10; exact ho10)
          clear ho10 hb10 HPN HB9 HK9 HT9 d0 d1 d2
          have HRA := hid_of (Right_calls w10 (HM.out.below HB10.out) v10 _ c10 HS10.out)
          rw [show rightK (applyL S oz oi) (applyL S oz oi).length = true from HO5.out] at HRA
          go_upto_region 19 with (go_at_call 15; refine HRA.out.mono ?_; rintro e w11 ⟨rfl, hb11⟩)
          have HB11 : Hid (Below w.heap.size w w11) := HB10.out.trans (hb11.mono HB10.out.size)
          have HMY := hid_of (May_calls w11 (HM.out.below HB11.out) v10 _ c10 (HS10.out.below hb11) x (by omega))
          rw [HO6.out, HO7.out] at HMY
          have HK11 := hid_of (HK10.out.below hb11)
          have HT11 := hid_of (HT10.out.below hb11)
          clear hb11 HRA HK10 HT10 HS10 HB10
          go_upto_region 20 with (go_at_call 12; refine HMY.out.mono ?_; rintro e w12 ⟨rfl, hb12⟩)
          have HB12 : Hid (Below w.heap.size w w12) := HB11.out.trans (hb12.mono HB11.out.size)
          have HK12 := hid_of (HK11.out.below hb12)
          have HT12 := hid_of (HT11.out.below hb12)
          clear hb12 HMY HK11 HT11 HB11
          have d0 : w12.cell? ⟨w9.heap.size, 0, none⟩ = some (.int .i64 oz) := HK12.out.cell 0
          have d1 : w12.cell? ⟨w9.heap.size, 1, none⟩ = some (.slice v9 oi.length c9) := HK12.out.cell 1
          have d2 : w12.cell? ⟨w9.heap.size, 2, none⟩ = some (.bool false) := HK12.out.cell 2
          have HPM := hid_of (push_name S oi oz false a v9 c c9 x o9 (by omega) w12 (HM.out.below HB12.out) (HTX.out.below HB12.out) HT12.out (by omega) (by omega) o1 o2)
          go_upto_region 21 with (go_at_call 30; refine HPM.out.mono ?_; rintro e w13 ⟨v13, c13, rfl, ho13, hb13⟩)
          have HB13 : Hid (Below w.heap.size w w13) := HB12.out.trans (hb13.mono HB12.out.size)
          have HS13 : Hid (StackAt w13 v13 (pushL S oz oi x) c13) := by
            have h : StackAt w13 v13 (S.take (S.length - oz.toNat) ++ (oi ++ (if voidB x then [] else [x]))) c13 := stack_new HST.out.few hl600 (by split <;> simp <;> omega) (fun y hy => by
              rcases List.mem_append.1 hy with hy | hy
              · exact HO4.out y hy
              · split at hy
                · cases hy
                · obtain rfl := List.mem_singleton.1 hy
                  omega) (by rw [HPSH.out] at ho13; exact ho13)
            rw [← HPSH.out] at h
            exact h
          have HRC := hid_of (Right_calls w13 (HM.out.below HB13.out) v13 _ c13 HS13.out)
          rw [show rightK (pushL S oz oi x) (pushL S oz oi x).length = true from HO8.out] at HRC
          clear ho13 hb13 HPM HB12 HK12 HT12 d0 d1 d2 HS13
          go_wp2_with fail
          (go_at_call 16; refine (num_calls _ _).mono ?_; rintro e w' ⟨rfl, hw'⟩; have hx' := hw'.symm; subst hx')
          go_wp2_with fail
          (go_at_call 15; refine HRC.out.mono ?_; rintro e w14 ⟨rfl, hb14⟩)
          have HB14 : Hid (Below w.heap.size w w14) := HB13.out.trans (hb14.mono HB13.out.size)
          go_wp2_with fail
          (go_at_call 9; refine (HAW.out _ HB14.out).mono ?_; rintro e w15 ⟨rfl, hb15⟩)
          go_wp2_with fail
          go_ret
          exact ⟨rfl, HB14.out.trans (hb15.mono HB14.out.size)⟩
set_option maxRecDepth 100000 in
theorem contract (H : Type) (enc : TypeId × Value → H) (W : World) (base : Nat) (args : Array Value) (ds gs : List (DataW H)) (before : List MemPlace)
    (hval : ∀ (j : Nat) t v, Try.f6.params[j]? = some t → args[j]? = some v → Value.okWide Try.prog W .any base t v)
    (hW : DataW.Whole enc Try.prog Try.f6.params.toList Rows.nestStaysSpec.vars false W args.toList ds gs before) (hsh : W.ShapedOpen Try.prog) (hk : Rows.uptoSmall H (ds ++ gs) = true) :
    Calls Try.prog 6 args W fun e W' => ∃ v, e = .returned v ∧ Rows.nestStaysSpec.post enc Try.prog Try.f6 false true false false W args v W' := by
  have hW' := hW
  have hlt := hW.lt
  obtain ⟨p, q, hA0, hV, rfl, hfz, hnd⟩ := hW
  have hA : DataW.TrodAll enc Try.prog W 0 (fun _ => true) true Try.f6.params.toList args.toList ds p := hA0
  rw [Try.params6] at hA hval
  obtain ⟨v0, vs0, d0, ds0, p0, q0, hargs, rfl, rfl, h0, r0⟩ := trodAll_cons hA
  obtain ⟨v1, vs1, d1, ds1, p1, q1, rfl, rfl, rfl, h1, r1⟩ := trodAll_cons r0
  obtain ⟨v2, vs2, d2, ds2, p2, q2, rfl, rfl, rfl, h2, r2⟩ := trodAll_cons r1
  obtain ⟨rfl, rfl, rfl⟩ := trodAll_nil r2
  obtain rfl : args = #[v0, v1, v2] := by cases args; simp_all
  obtain ⟨rfl, rfl⟩ := trodVars_none hV
  clear hA0
  simp only [List.append_nil] at hW' hlt hk
  have hbulk := of_decide_eq_true hk
  simp only [Rows.uptoBulkAll] at hbulk
  have e0 := okWide_slice Try.underlying22 (hval 0 22 v0 rfl rfl)
  obtain ⟨wa0, wc0, ws0, rfl, hw0, l0, lx0⟩ := words7_of_read e0 h0
  have h1' := h1
  obtain ⟨s1, rfl, rfl, e1, ws1⟩ := Go.ChangeMaps.open_string Try.underlying9 (hval 1 9 v1 rfl rfl) h1
  have h2' := h2
  obtain ⟨z2, rfl, e2, -⟩ := open_bool Try.underlying4 (hval 2 4 v2 rfl rfl) h2
  refine (walk W (Try.laysM144.s1_3 W hsh) wa0 wc0 ws0 hw0 (by omega) (fun x hx => by have := lx0 x hx; omega) s1 ws1 (by simp only [N.bulk_str, N.size_data] at hbulk; omega) z2).mono fun e W' ⟨he, hb⟩ => ?_
  subst he
  exact ⟨_, rfl, post_below hW' (fun _ _ _ => trodAll_cons_mk (shut_bool Try.underlying4 _) trodAll_mk0) (trodAll_cons_mk (stays (by kernel_rfl) (of_decide_eq_true (by kernel_rfl)) h0 hb (fun x hx => hlt x (by simp [hx]))) (trodAll_cons_mk (stays (by kernel_rfl) (of_decide_eq_true (by kernel_rfl)) h1' hb (fun x hx => hlt x (by simp [hx]))) (trodAll_cons_mk (stays (by kernel_rfl) (of_decide_eq_true (by kernel_rfl)) h2' hb (fun x hx => hlt x (by simp [hx]))) trodAll_mk0))) rfl hb⟩

set_option maxRecDepth 100000 in
theorem laid_met (os : Os) : laidMet Try.prog Rows.nestStaysUptoRow.laid ((World.holding Try.prog os ⟨#[], #[], []⟩).forCall (fun _ _ => 0) ⟨#[], #[Value.slice none 0 0, Value.string ⟨#[]⟩, Value.bool false], []⟩).memory :=
  laidMet_of_run' 8 (by kernel_rfl) (by kernel_rfl)
set_option maxRecDepth 100000 in
theorem reads (os : Os) {H : Type} (enc : TypeId × Value → H) : ∃ places, DataW.whole enc Try.prog ((World.holding Try.prog os ⟨#[], #[], []⟩).forCall (fun _ _ => 0) ⟨#[], #[Value.slice none 0 0, Value.string ⟨#[]⟩, Value.bool false], []⟩).memory Try.f6.params.toList Rows.nestStaysSpec.vars false #[Value.slice none 0 0, Value.string ⟨#[]⟩, Value.bool false].toList 8 = some ([.nil, .lit (.string []), .lit (.bool false)], [], places) :=
  ⟨[], by kernel_rfl⟩

set_option maxRecDepth 100000 in
theorem lifted (os : Os) (started : os.Started) (H : Type) (enc : TypeId × Value → H) (F : Stop.Interp) :
    ReturnsInHanded {} Try.checked os 6 .any ((Rows.OpenSpec.upto Rows.nestStaysSpec).preRow enc Try.prog Try.f6 Rows.nestStaysUptoRow.domain false Rows.nestStaysUptoRow.laid) (((Rows.OpenSpec.upto Rows.nestStaysSpec).at F).post enc Try.prog Try.f6 false true false false) := by
  obtain ⟨places, hx⟩ := reads os enc
  refine returnsInHanded_of_row (C := Try.checked) (s := Rows.OpenSpec.upto Rows.nestStaysSpec) own started (by kernel_rfl) Try.func6
    (witness_row_at (enc := enc) (C := Try.checked) false (World.holding Try.prog os ⟨#[], #[], []⟩) #[Value.slice none 0 0, Value.string ⟨#[]⟩, Value.bool false] rfl (by kernel_rfl) (by kernel_rfl) (by kernel_rfl)
      (OpenSpec.preRow_of_cond 8 hx (by kernel_rfl) (fun k hk => by cases hk; kernel_rfl) (by kernel_rfl) (laid_met os))) ?_
  intro W base args ds gs before hval hW _ hcond _ hL hsh _
  exact contract H enc W base args ds gs before hval hW hsh (hcond _ rfl)

set_option maxRecDepth 100000 in
theorem said : Rows.NestStaysUptoSaid :=
  OpenClaim.holds_of_cond 6 Try.f6 rfl rfl rfl rfl rfl rfl rfl ⟨rfl, rfl, rfl, rfl, rfl⟩ rfl rfl rfl rfl rfl (by kernel_rfl) Try.func6 (by kernel_rfl)
    (of_decide_eq_true (by kernel_rfl)) (by unfold Func.isWrapper; first | (rw [if_pos (by decide +kernel)]; kernel_rfl) | (rw [if_neg (by decide +kernel)]; exact ⟨rfl, rfl⟩))
    (fun os started H enc _ F => by rw [OpenClaim.pre_eq_preRow]; exact lifted os started H enc F)


end Go.Proofs.Ytdkcibafbdmajaa.NeStays
