/- What is proved here: New, behind, follow, finish, handOut, the end of no ghosts, and own of no attributes, of a balancer. -/
import Derived.BigQuiet
import Derived.Deep.CutRange
import Derived.Test.YtdkcibafbdmajaaGreatDoorBun9
namespace Go.Proofs.YtdkcibafbdmajaaGreatDoor.B
open Go.RowKit Go.Shelf Go.WideMaps Go.Maps Go.Proofs.YtdkcibafbdmajaaGreatDoor.N Go.Proofs.YtdkcibafbdmajaaGreatDoor.C Go.Proofs.YtdkcibafbdmajaaGreatDoor.E

def newS (d : Int) : BSt := ⟨[], [], [], false, d, false⟩
set_option maxRecDepth 100000 in
set_option maxHeartbeats 4000000 in
/-- **New**, of a depth that may be. -/
theorem new_calls (d : Int) (h1 : 1 ≤ d) (h2 : d ≤ 512) (w : World) :
    Calls Tryz.prog 9 #[.int .i64 d] w fun r w' => r = .returned (.tuple #[.pointer (some ⟨w.heap.size, 0, none⟩), .int .i64 0]) ∧ BalAt w.heap.size w.heap.size (newS d) w' ∧ Below w.heap.size w w' := by
  have g1 : decide (d < 1) = false := decide_eq_false (by omega)
  have g2 : decide (d > 512) = false := decide_eq_false (by omega)
  go_enter Tryz.func9, Tryz.ntmps9
  go_wp2
  go_ret2
  exact ⟨rfl, ⟨⟨.slice none 0 0, .slice none 0 0, .slice none 0 0, Blk.new _ _ _, World.ownsRow_nil _ _ _ _, World.ownsRow_nil _ _ _ _, World.ownsRow_nil _ _ _ _⟩, Nat.le_refl _⟩, (Below.refl _ w).alloc (Nat.le_refl _) _⟩
set_option maxRecDepth 100000 in
set_option maxHeartbeats 4000000 in
/-- **New**, of no such depth. -/
theorem new_bad (d : Int) (h : d < 1 ∨ 512 < d) (w : World) :
    Calls Tryz.prog 9 #[.int .i64 d] w fun r w' => r = .returned (.tuple #[.pointer none, .int .i64 1]) ∧ w' = w := by
  by_cases h1 : d < 1
  · have g1 : decide (d < 1) = true := decide_eq_true h1
    clear h h1
    go_enter Tryz.func9, Tryz.ntmps9
    go_wp2
    go_ret2
    exact ⟨rfl, rfl⟩
  · have g1 : decide (d < 1) = false := decide_eq_false h1
    have g2 : decide (d > 512) = true := decide_eq_true (by omega)
    clear h h1
    go_enter Tryz.func9, Tryz.ntmps9
    go_wp2
    go_ret2
    exact ⟨rfl, rfl⟩
set_option maxRecDepth 100000 in
set_option maxHeartbeats 4000000 in
/-- **behind.** -/
theorem behind_calls (n B : Nat) (s : BSt) (z : Int) (va : Option Addr) (m vc : Nat) (d : Bool) (hz0 : 0 ≤ z) (hz1 : z ≤ 1000000000) (hS : s.S.length ≤ 1000000000) (hm : m ≤ 1000000000) (w : World) (h : BalAt n B s w) :
    Calls Tryz.prog 26 #[.pointer (some ⟨B, 0, none⟩), .agg #[.int .i64 z, .slice va m vc, .bool d]] w fun r w' => r = .returned (.int .i64 ((s.S.length : Int) - z + (m : Int))) ∧ Below w.heap.size w w' := by
  obtain ⟨W1, hW1⟩ : ∃ W, w.alloc (.cells #[.int .i64 z, .slice va m vc, .bool d] 70) = W := ⟨_, rfl⟩
  have b1 : Below w.heap.size w W1 := by rw [← hW1]; exact (Below.refl _ w).alloc (Nat.le_refl _) _
  have q1 : Blk W1 w.heap.size #[.int .i64 z, .slice va m vc, .bool d] 70 := by rw [← hW1]; exact Blk.new _ _ _
  have h1 := h.below b1
  obtain ⟨v0, v1, v2, hb, o0, o1, o2⟩ := h1.blk
  obtain ⟨ua, uc, rfl⟩ := owns_slice o2
  have c2 : W1.cell? ⟨B, 2, none⟩ = some (.slice ua s.S.length uc) := hb.cell 2
  have c0 : W1.cell? ⟨w.heap.size, 0, none⟩ = some (.int .i64 z) := q1.cell 0
  have c1 : W1.cell? ⟨w.heap.size, 1, none⟩ = some (.slice va m vc) := q1.cell 1
  have HW : Hid (w.alloc (.cells #[.int .i64 z, .slice va m vc, .bool d] 70) = W1) := hW1
  have HB1 := hid_of b1
  have hw1 : IntKind.i64.wrap ((s.S.length : Int) - z) = (s.S.length : Int) - z := by rw [IntKind.wrap_i64]; omega
  have hw2 : IntKind.i64.wrap ((s.S.length : Int) - z + (m : Int)) = (s.S.length : Int) - z + (m : Int) := by rw [IntKind.wrap_i64]; omega
  clear h h1 hb o0 o1 o2 b1 q1 hW1
  go_enter Tryz.func26, Tryz.ntmps26
  go_upto_region 1 with fail
  rw [HW.out]
  go_quiet (fail)
  go_wp2
  go_ret
  exact ⟨rfl, HB1.out.trans ⟨rfl, rfl, rfl, Nat.le_refl _, fun _ _ => rfl⟩⟩
/-- What is found and told of a name that is put in. -/
def put1 (s : BSt) (pl : Int × Int × Int) (x : Txt) : BSt := { s with E := s.E ++ [⟨1, x, [], .slice none 0 0⟩], F := s.F ++ [⟨pl.1, pl.2.1, pl.2.2, 9, x⟩], S := s.S ++ [x], fr := freshB x }
def putS (s : BSt) (pl : Int × Int × Int) (L : List Txt) : BSt := L.foldl (fun s x => put1 s pl x) s
theorem putS_snoc (s : BSt) (pl : Int × Int × Int) (L : List Txt) (x : Txt) : putS s pl (L ++ [x]) = put1 (putS s pl L) pl x := by unfold putS; rw [List.foldl_append]; rfl
theorem putS_len (s : BSt) (pl : Int × Int × Int) : ∀ L : List Txt, (putS s pl L).E.length = s.E.length + L.length ∧ (putS s pl L).F.length = s.F.length + L.length ∧ (putS s pl L).S.length = s.S.length + L.length := fun L => by
  induction L generalizing s with
  | nil => exact ⟨rfl, rfl, rfl⟩
  | cons x r ih =>
    obtain ⟨h1, h2, h3⟩ := ih (put1 s pl x)
    show (putS (put1 s pl x) pl r).E.length = _ ∧ (putS (put1 s pl x) pl r).F.length = _ ∧ (putS (put1 s pl x) pl r).S.length = _
    rw [h1, h2, h3]
    simp [put1]
    omega
def followS (s : BSt) (k : Nat) (pl : Int × Int × Int) (L : List Txt) : BSt := putS (closedS s k) pl L
/-- A row of texts that is none of the balancer's. -/
structure Far (B : Nat) (w : World) (a : Option Addr) (L : List Txt) : Prop where
  txt : TextsAt w a L
  far : ∀ b off, a = some ⟨b, off, none⟩ → 0 < L.length → ¬ Rows B w b
theorem Far.fr {B : Nat} {w w' : World} {a : Option Addr} {L : List Txt} (h : Far B w a L) (hf : Fr B w w') : Far B w' a L := ⟨fun j hj => by
  obtain ⟨b, off, e, hc⟩ := h.txt j hj
  exact ⟨b, off, e, (World.cell?_of_block (hf.keep b (cell_lt hc) (h.far b off e (by omega))).1).trans hc⟩, fun b off e h0 => by
  obtain ⟨b', off', e', hc⟩ := h.txt 0 h0
  rw [e] at e'
  cases e'
  exact (hf.keep b (cell_lt hc) (h.far b off e h0)).2⟩
theorem new_far {B : Nat} {s : BSt} {n : Nat} {w : World} (h : BalAt n B s w) {j : Nat} (hj : w.heap.size ≤ j) : ¬ Rows B w j := fun hr => by
  have hl := h.lt
  obtain ⟨v0, v1, v2, hb, o0, o1, o2⟩ := h.blk
  rcases hr with e | ⟨i, v, hi, hc, hv⟩
  · omega
  · rw [hb.cell] at hc
    match i, hi, hc with
    | 0, _, hc => injection hc with hc; subst hc; have := (o0.lt j hv).2; omega
    | 1, _, hc => injection hc with hc; subst hc; have := (o1.lt j hv).2; omega
    | 2, _, hc => injection hc with hc; subst hc; have := (o2.lt j hv).2; omega
/-- What was no row stays none behind new memory. -/
theorem rows_below {B j : Nat} {w w' : World} (hB : B < w.heap.size) (hb : Below w.heap.size w w') (h : ¬ Rows B w j) : ¬ Rows B w' j := fun hr => h (by
  rcases hr with e | ⟨i, v, hi, hc, hv⟩
  · exact .inl e
  · exact .inr ⟨i, v, hi, (hb.cell (p := ⟨B, i, none⟩) hB).symm.trans hc, hv⟩)
set_option maxRecDepth 100000 in
set_option maxHeartbeats 4000000 in
/-- **follow.** -/
theorem follow_calls (n B : Nat) (s : BSt) (k : Nat) (va : Option Addr) (L : List Txt) (vc : Nat) (d : Bool) (p0 p1 p2 : Int) (hk : k ≤ s.S.length) (hE : s.E.length + k + L.length ≤ 900000000) (hF : s.F.length + L.length ≤ 900000000) (hS : s.S.length + L.length ≤ 900000000) (w : World) (h : BalAt n B s w) (hn : n ≤ w.heap.size) (hT : Far B w va L) :
    Calls Tryz.prog 28 #[.pointer (some ⟨B, 0, none⟩), .agg #[.int .i64 k, .slice va L.length vc, .bool d], .agg #[.int .i64 p0, .int .i64 p1, .int .i64 p2]] w fun r w' => (∃ v, r = .returned v) ∧ BalAt n B (followS s k (p0, p1, p2) L) w' ∧ Fr B w w' := by
  obtain ⟨W0, hW0⟩ : ∃ W, w.alloc (.cells #[.int .i64 k, .slice va L.length vc, .bool d] 70) = W := ⟨_, rfl⟩
  obtain ⟨W1, hW1⟩ : ∃ W, W0.alloc (.cells #[.int .i64 p0, .int .i64 p1, .int .i64 p2] 31) = W := ⟨_, rfl⟩
  have b0 : Below w.heap.size w W0 := by rw [← hW0]; exact (Below.refl _ w).alloc (Nat.le_refl _) _
  have b01 : Below W0.heap.size W0 W1 := by rw [← hW1]; exact (Below.refl _ W0).alloc (Nat.le_refl _) _
  have b1 : Below w.heap.size w W1 := b0.trans (b01.mono b0.size)
  have z0 : W0.heap.size = w.heap.size + 1 := by rw [← hW0]; simp
  have q0 : Blk W1 w.heap.size #[.int .i64 k, .slice va L.length vc, .bool d] 70 := by
    have h0 : Blk W0 w.heap.size #[.int .i64 k, .slice va L.length vc, .bool d] 70 := by rw [← hW0]; exact Blk.new _ _ _
    exact h0.below b01
  have q1 : Blk W1 (w.heap.size + 1) #[.int .i64 p0, .int .i64 p1, .int .i64 p2] 31 := by rw [← hW1, ← z0]; exact Blk.new _ _ _
  have HFA0 : Hid (¬ Rows B W1 w.heap.size) := rows_below h.lt b1 (new_far h (Nat.le_refl _))
  have HFA1 : Hid (¬ Rows B W1 (w.heap.size + 1)) := rows_below h.lt b1 (new_far h (Nat.le_succ _))
  have HTX : Hid (Far B W1 va L) := hT.fr (Fr.of_below h.lt b1)
  have HH1 := hid_of (h.below b1)
  have hB := h.hB
  have HNW : Hid (n ≤ W1.heap.size) := Nat.le_trans hn b1.size
  have HFR1 : Hid (Fr B w W1) := Fr.of_below h.lt b1
  have c0 : W1.cell? ⟨w.heap.size, 0, none⟩ = some (.int .i64 k) := q0.cell 0
  have HQ0 := hid_of q0
  have HQ1 := hid_of q1
  have HW : Hid ((w.alloc (.cells #[.int .i64 k, .slice va L.length vc, .bool d] 70)).alloc (.cells #[.int .i64 p0, .int .i64 p1, .int .i64 p2] 31) = W1) := by rw [← hW1, ← hW0]; rfl
  have HCL := hid_of (fun W (hW : BalAt n B s W) (hnW : n ≤ W.heap.size) => close_calls n B s k hk (by omega) (by omega) W hW hnW)
  have HCE : Hid ((closedS s k).E.length = s.E.length + k ∧ (closedS s k).F.length = s.F.length ∧ (closedS s k).S.length ≤ s.S.length) := ⟨by show (s.E ++ clE s.S k).length = _; rw [List.length_append, clE_len], rfl, by show (s.S.take _).length ≤ _; rw [List.length_take]; omega⟩
  clear h hT hW0 hW1 b0 b01 b1 q0 q1 z0
  go_enter Tryz.func28, Tryz.ntmps28
  go_upto_region 1 with fail
  rw [HW.out]
  clear HW
  go_cut [] from 8 (fun wx => Hid (BalAt n B (closedS s k) wx) ∧ Hid (Fr B W1 wx))
  case first =>
    go_region_with (go_at_call 19; refine (HCL.out _ (HH1.out.below (by first | exact Below.refl _ _ | exact (Below.refl _ _).drew)) (by first | exact HNW.out | (simp; exact HNW.out))).mono ?_; rintro e w4 ⟨⟨v4, rfl⟩, hb4, hk4⟩; have hk5 : Fr B W1 w4 := (by first | exact hk4 | exact (Fr.of_below HH1.out.lt (Below.refl _ W1).drew).trans hk4))
    all_goals go_wp2_with fail
    all_goals go_meet
    all_goals exact ⟨hb4, hk5⟩
  case rest =>
    obtain ⟨HB2, HF2⟩ := hcut
    have q0 := HF2.out.blk HFA0.out HQ0.out
    have c1 : wc.cell? ⟨w.heap.size, 1, none⟩ = some (.slice va L.length vc) := q0.cell 1
    have HN2 : Hid (n ≤ wc.heap.size) := Nat.le_trans HNW.out HF2.out.size
    clear q0 c0
    go_wp2_with fail
    go_loopw [7, 17] (fun _ i wr => ∃ j : Nat, j ≤ L.length ∧ i = .int .i64 j ∧ Hid (BalAt n B (putS (closedS s k) (p0, p1, p2) (L.take j)) wr) ∧ Hid (Fr B W1 wr)) (fun _ i _ => L.length - (intOf i).toNat)
    case atStart => exact ⟨0, by omega, rfl, HB2.out, HF2.out⟩
    case round =>
      obtain ⟨j, hj, rfl, hA, hK⟩ := hrel
      by_cases hlt : j < L.length
      · obtain ⟨b, off, rfl, hc⟩ := (HTX.out.fr hK.out).txt j hlt
        have q1 := hK.out.blk HFA1.out HQ1.out
        have e0 : wr.cell? ⟨w.heap.size + 1, 0, none⟩ = some (.int .i64 p0) := q1.cell 0
        have e1 : wr.cell? ⟨w.heap.size + 1, 1, none⟩ = some (.int .i64 p1) := q1.cell 1
        have e2 : wr.cell? ⟨w.heap.size + 1, 2, none⟩ = some (.int .i64 p2) := q1.cell 2
        have HTK : Hid (L.take (j + 1) = L.take j ++ [L.getD j []]) := by
          show _ = _
          rw [List.take_succ_eq_append_getElem hlt]
          simp [hlt]
        obtain ⟨l1, l2, l3⟩ := putS_len (closedS s k) (p0, p1, p2) (L.take j)
        rw [List.length_take] at l1 l2 l3
        have HP1 : Hid (putS (closedS s k) (p0, p1, p2) (L.take (j + 1)) = put1 (putS (closedS s k) (p0, p1, p2) (L.take j)) (p0, p1, p2) (L.getD j [])) := by show _ = _; rw [HTK.out, putS_snoc]
        generalize L.getD j [] = x at *
        generalize putS (closedS s k) (p0, p1, p2) (L.take j) = t at *
        have hce := HCE.out
        have HNR : Hid (n ≤ wr.heap.size) := Nat.le_trans HNW.out hK.out.size
        have HFI : Hid (∀ W, BalAt n B t W → n ≤ W.heap.size → Calls Tryz.prog 24 #[.pointer (some ⟨B, 0, none⟩), .agg #[.int .i64 p0, .int .i64 p1, .int .i64 p2], .int .i64 9, .string ⟨x.toArray⟩] W fun r w' => (∃ v, r = .returned v) ∧ BalAt n B { t with F := t.F ++ [⟨p0, p1, p2, 9, x⟩] } w' ∧ Fr B W w') := fun W hW hnW => find_calls n B t ⟨p0, p1, p2, 9, x⟩ (by omega) W hW hnW
        have HOP : Hid (∀ W, BalAt n B { t with F := t.F ++ [⟨p0, p1, p2, 9, x⟩] } W → n ≤ W.heap.size → Calls Tryz.prog 31 #[.pointer (some ⟨B, 0, none⟩), .string ⟨x.toArray⟩, .slice none 0 0] W fun r w' => (∃ v, r = .returned v) ∧ BalAt n B (put1 t (p0, p1, p2) x) w' ∧ Fr B W w') := fun W hW hnW => open_calls n B { t with F := t.F ++ [⟨p0, p1, p2, 9, x⟩] } x none 0 0 (by show t.E.length ≤ _; omega) (by show t.S.length ≤ _; omega) W hW hnW
        clear q1 l1 l2 l3 hce
        go_upto_region 5 with fail
        go_cut [] from 18 to 33 (fun wx => Hid (BalAt n B { t with F := t.F ++ [⟨p0, p1, p2, 9, x⟩] } wx) ∧ Hid (Fr B W1 wx))
        case first =>
          go_region_with (go_at_call 24; refine (HFI.out _ (hA.out.below (by first | exact Below.refl _ _ | exact (Below.refl _ _).drew)) (by first | exact HNR.out | (simp; exact HNR.out))).mono ?_; rintro e w4 ⟨⟨v4, rfl⟩, hb4, hk4⟩; have hk5 : Fr B W1 w4 := hK.out.trans (by first | exact hk4 | exact (Fr.of_below hA.out.lt (Below.refl _ wr).drew).trans hk4))
          all_goals go_wp2_with fail
          all_goals go_meet
          all_goals exact ⟨hb4, hk5⟩
        case rest =>
          obtain ⟨HB5, HF5⟩ := hcut
          have HN5 : Hid (n ≤ wc.heap.size) := Nat.le_trans HNW.out HF5.out.size
          clear e0 e1 e2 hc
          go_wp2_with fail
          (go_at_call 31; refine (HOP.out _ HB5.out HN5.out).mono ?_; rintro e w6 ⟨⟨v6, rfl⟩, hb6, hk6⟩)
          have hfin : BalAt n B (putS (closedS s k) (p0, p1, p2) (L.take (j + 1))) w6 := by rw [HP1.out]; exact hb6
          have hfr : Fr B W1 w6 := HF5.out.trans hk6
          go_wp2_with fail
          all_goals first
            | exact ⟨⟨j + 1, by omega, by go_num, hfin, hfr⟩, by simp [intOf]; omega⟩
            | (go_roundw
               case rel => first
                 | exact ⟨j + 1, by omega, by go_num, hfin, hfr⟩
                 | repeat (first | exact ⟨⟨j + 1, by omega, by go_num, hfin, hfr⟩, rfl⟩ | apply Exists.intro)
               case measure => simp [intOf]; omega)
      · obtain rfl : j = L.length := by omega
        rw [List.take_length] at hA
        go_wp2
        go_end0
        exact ⟨⟨_, rfl⟩, hA.out, HFR1.out.trans hK.out⟩
end Go.Proofs.YtdkcibafbdmajaaGreatDoor.B
