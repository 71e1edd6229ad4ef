/- What is proved here: the statement NestApplies (any plan on any stack) holds for stacks and plans up to the size that the statement's narrower form names, with no other condition. -/
import Derived.Test.YtgiefjkdekckaaaNeApply2
namespace Go.Proofs.Ytgiefjkdekckaaa.NeApplies
open Go.ChangeShapes Go.WideShapes Go.ChangeAt Go.RowKit Go.Shelf N C E

theorem cell_far {w : World} {g g' j j' : Nat} {v : Value} (h : g ≠ g') : (w.setCell ⟨g', j', none⟩ v).cell? ⟨g, j, none⟩ = w.cell? ⟨g, j, none⟩ := by
  simp only [World.cell?]
  rw [Below.heap_setCell _ _ _ _ (fun e => h e)]
set_option maxRecDepth 100000 in
set_option maxHeartbeats 8000000 in
theorem walk (w : World) (hm : MaxOk w) (a : Option Addr) (c : Nat) (S : List Txt) (hT : Txts w a S c) (hS : S.length ≤ 1048576) (z : Int) (la : Option Addr) (lc : Nat) (L : List Txt) (d : Bool) (hQ : Txts w la L lc) (hL : L.length ≤ 1048576) :
    Calls Try.prog 6 #[.slice a S.length c, .agg #[.int .i64 z, .slice la L.length lc, .bool d]] w fun e w' => e = .returned (.bool true) ∧ Below w.heap.size w w' := by
  have HAW : Hid (∀ W, Below w.heap.size w W → Calls Try.prog 10 #[] W fun e w' => e = .returned (.bool true) ∧ Below W.heap.size W w') := fun W hW => awake_calls W (hm.below hW)
  obtain ⟨W1, hW1⟩ : ∃ W, w.alloc (.cells #[.int .i64 z, .slice la L.length lc, .bool d] 29) = W := ⟨_, rfl⟩
  have b1 : Below w.heap.size w W1 := by rw [← hW1]; exact (Below.refl _ w).alloc (Nat.le_refl _) _
  have q1 : Blk W1 w.heap.size #[.int .i64 z, .slice la L.length lc, .bool d] 29 := by rw [← hW1]; exact Blk.new _ _ _
  have HW : Hid (w.alloc (.cells #[.int .i64 z, .slice la L.length lc, .bool d] 29) = W1) := hW1
  have HB1 := hid_of b1
  have HQ1 := hid_of q1
  have HT1 := hid_of (hT.below b1)
  have HL1 := hid_of (hQ.below b1)
  clear hm hT hQ b1 q1 hW1
  go_enter Try.func6, Try.ntmps6
  go_upto_region 1 with fail
  rw [HW.out]
  clear HW
  go_upto_region 2 with (go_at_call 12; refine (lown_calls S a c W1 HT1.out (by omega)).mono ?_; rintro e w2 ⟨v2, c2, rfl, ho2, hb2⟩)
  have HO2 := hid_of ho2
  have HB2 : Hid (Below w.heap.size w w2) := HB1.out.trans (hb2.mono HB1.out.size)
  have HQ2 := hid_of (HQ1.out.below hb2)
  have HT2 := hid_of (HT1.out.below hb2)
  have HL2 := hid_of (HL1.out.below hb2)
  have c0 : w2.cell? ⟨w.heap.size, 0, none⟩ = some (.int .i64 z) := HQ2.out.cell 0
  have c1 : w2.cell? ⟨w.heap.size, 1, none⟩ = some (.slice la L.length lc) := HQ2.out.cell 1
  have c2' : w2.cell? ⟨w.heap.size, 2, none⟩ = some (.bool d) := HQ2.out.cell 2
  have hne : w.heap.size ≠ w2.heap.size := by have := HQ2.out.lt; omega
  clear ho2 hb2 HB1 HQ1 HT1 HL1
  go_cut [6] from 14 (fun p wx => ∃ n6 v3 c3, p = .pointer (some ⟨n6, 0, none⟩) ∧ w2.heap.size ≤ n6 ∧ Hid (Blk wx n6 #[.int .i64 z, .slice v3 L.length c3, .bool d] 29) ∧ Hid (OwnT w2.heap.size wx (.slice v3 L.length c3) L) ∧ Hid (Below w2.heap.size w2 wx))
  case first =>
    go_region_held3 (fun w' => w'.cell? ⟨w.heap.size, 0, none⟩ = some (.int .i64 z) ∧ w'.cell? ⟨w.heap.size, 1, none⟩ = some (.slice la L.length lc) ∧ w'.cell? ⟨w.heap.size, 2, none⟩ = some (.bool d)) (first | exact ⟨c0, c1, c2'⟩ | exact ⟨d0, d1, d2⟩ | (refine ⟨?_, ?_, ?_⟩ <;> rw [cell_far hne, cell_far hne, cell_far hne] <;> first | exact d0 | exact d1 | exact d2) | go_keep) ((go_at_call 12; refine (lown_calls L la lc _ (HL2.out.below (by first | exact Below.refl _ w2 | exact (Below.refl _ w2).drew | exact (Below.refl _ w2).drew.alloc (by simp) _ | exact (Below.refl _ w2).alloc (by simp) _)) (by omega)).mono ?_; rintro e w3 ⟨v3, c3, rfl, ho3, hb3⟩; have HK3 : Hid (Below w2.heap.size w2 w3) := (by first | exact (Below.refl w2.heap.size w2).drew.trans hb3 | exact ((Below.refl w2.heap.size w2).alloc (Nat.le_refl _) _).drew.trans (hb3.mono (by simp)) | exact (((Below.refl w2.heap.size w2).drew).alloc (Nat.le_refl _) _).trans (hb3.mono (by simp))); (try (have n3 : Blk w3 w2.heap.size zeroPlan 29 := (hb3.block w2.heap.size (by simp)).trans (Blk.new w2 zeroPlan 29); have m0 : w3.cell? ⟨w2.heap.size, 0, none⟩ = some (.int .i64 0) := n3.cell 0; have m1 : w3.cell? ⟨w2.heap.size, 1, none⟩ = some (.slice none 0 0) := n3.cell 1; have m2 : w3.cell? ⟨w2.heap.size, 2, none⟩ = some (.bool false) := n3.cell 2; have f0 := n3.frozen 0; have f1 := n3.frozen 1; have f2 := n3.frozen 2)); have q3 := HQ2.out.below HK3.out; have d0 : w3.cell? ⟨w.heap.size, 0, none⟩ = some (.int .i64 z) := q3.cell 0; have d1 : w3.cell? ⟨w.heap.size, 1, none⟩ = some (.slice la L.length lc) := q3.cell 1; have d2 : w3.cell? ⟨w.heap.size, 2, none⟩ = some (.bool d) := q3.cell 2; clear q3))
    · go_wp2_with fail
      go_meet
      case rel => exact ⟨w3.heap.size, v3, c3, rfl, HK3.out.size, Blk.new _ _ _, (own_low ho3 (Nat.le_refl _)).alloc _, HK3.out.alloc HK3.out.size _⟩
    · go_wp2_with fail
      go_meet
      case rel => exact ⟨w2.heap.size, v3, c3, rfl, Nat.le_refl _, Blk.put3 n3 _ _ _, own_low (base' := w2.heap.size) (own_set (own_set (own_set ho3 (by simp) _ _) (by simp) _ _) (by simp) _ _) (by simp), below_put3 HK3.out (Nat.le_refl _) _ _ _⟩
  case rest =>
    obtain ⟨n6, v3, c3, rfl, hn6, hq6, ho6, hb6⟩ := hcut
    have HB6 : Hid (Below w.heap.size w wc) := HB2.out.trans (hb6.out.mono HB2.out.size)
    have HTX := hid_of (HT2.out.below hb6.out)
    have HLX := hid_of (HL2.out.below hb6.out)
    have HQX := hid_of (HQ2.out.below hb6.out)
    have HG := hid_of ((txts_own HO2.out).below hb6.out)
    have HH := hid_of (txts_own ho6.out)
    have k0 : wc.cell? ⟨n6, 0, none⟩ = some (.int .i64 z) := hq6.out.cell 0
    have k1 : wc.cell? ⟨n6, 1, none⟩ = some (.slice v3 L.length c3) := hq6.out.cell 1
    have k2 : wc.cell? ⟨n6, 2, none⟩ = some (.bool d) := hq6.out.cell 2
    clear hb6 ho6 HO2 HB2 HQ2 HT2 HL2 c0 c1 c2' hne hn6
    by_cases hz : z < 0 ∨ (S.length : Int) < z
    · have HBAD := hid_of (Apply_bad S L z d v2 v3 c2 c3 wc hz)
      by_cases hz0 : z < 0
      · have hd : decide (z < 0) = true := decide_eq_true hz0
        clear hz0 hz
        go_upto_region 4 with (go_at_call 27; refine HBAD.out.mono ?_; rintro e w4 ⟨rfl, hb4⟩)
        have HB4 := hid_of (HB6.out.trans (hb4.mono HB6.out.size))
        have e0 : w4.cell? ⟨w.heap.size, 0, none⟩ = some (.int .i64 z) := (HQX.out.below hb4).cell 0
        clear hb4
        go_wp2_with (first
          | (go_at_call 9; refine (num_calls _ _).mono ?_; rintro e w' ⟨rfl, hw'⟩; have hx' := hw'.symm; subst hx')
          | (go_at_call 10; refine (HAW.out _ HB4.out).mono ?_; rintro e w5 ⟨rfl, hb5⟩))
        go_ret
        exact ⟨rfl, HB4.out.trans (hb5.mono HB4.out.size)⟩
      · have hd : decide (z < 0) = false := decide_eq_false hz0
        have hd2 : decide (z > (S.length : Int)) = true := decide_eq_true (by omega)
        clear hz0 hz
        go_upto_region 4 with (go_at_call 27; refine HBAD.out.mono ?_; rintro e w4 ⟨rfl, hb4⟩)
        have HB4 := hid_of (HB6.out.trans (hb4.mono HB6.out.size))
        have e0 : w4.cell? ⟨w.heap.size, 0, none⟩ = some (.int .i64 z) := (HQX.out.below hb4).cell 0
        clear hb4
        go_wp2_with (first
          | (go_at_call 9; refine (num_calls _ _).mono ?_; rintro e w' ⟨rfl, hw'⟩; have hx' := hw'.symm; subst hx')
          | (go_at_call 10; refine (HAW.out _ HB4.out).mono ?_; rintro e w5 ⟨rfl, hb5⟩))
        go_ret
        exact ⟨rfl, HB4.out.trans (hb5.mono HB4.out.size)⟩
    · have hz0 : 0 ≤ z := by omega
      have hz1 : z ≤ S.length := by omega
      have hd : decide (z < 0) = false := decide_eq_false (by omega)
      have hd2 : decide (z > (S.length : Int)) = false := decide_eq_false (by omega)
      have HA1 : Hid (∀ W, Below wc.heap.size wc W → Calls Try.prog 27 #[.slice v2 S.length c2, .agg #[.int .i64 z, .slice v3 L.length c3, .bool d]] W fun e w' => ∃ v cv, e = .returned (.tuple #[.slice v (applyL S z L).length cv, .int .i64 0]) ∧ OwnT W.heap.size w' (.slice v (applyL S z L).length cv) (applyL S z L) ∧ Below W.heap.size W w') := fun W hW =>
        Apply_any S L z d v2 v3 c2 c3 W (HG.out.below hW) (HH.out.below hW) (by omega) (by omega) hz0 hz1
      have HA2 : Hid (∀ W, Below wc.heap.size wc W → Calls Try.prog 28 #[.slice a S.length c, .agg #[.int .i64 z, .slice la L.length lc, .bool d]] W fun e w' => ∃ v cv, e = .returned (.slice v (applyL S z L).length cv) ∧ OwnT W.heap.size w' (.slice v (applyL S z L).length cv) (applyL S z L) ∧ Below W.heap.size W w') := fun W hW =>
        LApply_any S L z d a la c lc W (HTX.out.below hW) (HLX.out.below hW) (by omega) (by omega) hz0 hz1
      have hal : (applyL S z L).length ≤ 3000000 := by unfold applyL; rw [List.length_append, List.length_take]; omega
      generalize applyL S z L = A at *
      have hwa : IntKind.i64.wrap ((A.length : Int) + 1) = (A.length : Int) + 1 := by rw [IntKind.wrap_i64]; omega
      clear hz hz0 hz1
      go_upto_region 4 with (go_at_call 27; refine (HA1.out _ (Below.refl _ _)).mono ?_; rintro e w4 ⟨v4, c4, rfl, ho4, hb4⟩)
      have e0 : w4.cell? ⟨w.heap.size, 0, none⟩ = some (.int .i64 z) := (HQX.out.below hb4).cell 0
      have l0 : w4.cell? ⟨n6, 0, none⟩ = some (.int .i64 z) := (hq6.out.below hb4).cell 0
      have l1 : w4.cell? ⟨n6, 1, none⟩ = some (.slice v3 L.length c3) := (hq6.out.below hb4).cell 1
      have l2 : w4.cell? ⟨n6, 2, none⟩ = some (.bool d) := (hq6.out.below hb4).cell 2
      have HO4 := hid_of ho4
      have HB4 := hid_of hb4
      clear ho4 hb4 k0 k1 k2
      go_upto_region 7 with (go_at_call 27; refine (HA1.out _ HB4.out).mono ?_; rintro e w5 ⟨v5, c5, rfl, ho5, hb5⟩)
      have HB5 : Hid (Below wc.heap.size wc w5) := HB4.out.trans (hb5.mono HB4.out.size)
      have e0 : w5.cell? ⟨w.heap.size, 0, none⟩ = some (.int .i64 z) := (HQX.out.below HB5.out).cell 0
      have e1 : w5.cell? ⟨w.heap.size, 1, none⟩ = some (.slice la L.length lc) := (HQX.out.below HB5.out).cell 1
      have e2 : w5.cell? ⟨w.heap.size, 2, none⟩ = some (.bool d) := (HQX.out.below HB5.out).cell 2
      have HO5 := hid_of ho5
      have HO45 : Hid (OwnT wc.heap.size w5 (.slice v4 A.length c4) A) := owns_below HO4.out hb5
      have hs5 : w4.heap.size ≤ w5.heap.size := hb5.size
      clear ho5 hb5 l0 l1 l2
      go_upto_region 8 with (go_at_call 28; refine (HA2.out _ HB5.out).mono ?_; rintro e w6 ⟨v6, c6, rfl, ho6, hb6⟩)
      have HB6X : Hid (Below wc.heap.size wc w6) := HB5.out.trans (hb6.mono HB5.out.size)
      have HO6 := hid_of ho6
      have HO56 : Hid (OwnT w4.heap.size w6 (.slice v5 A.length c5) A) := owns_below HO5.out hb6
      have HO46 : Hid (OwnT wc.heap.size w6 (.slice v4 A.length c4) A) := owns_below HO45.out hb6
      have HLT4 : Hid (∀ j, Value.ownBlock (.slice v4 A.length c4) = some j → wc.heap.size ≤ j ∧ j < w4.heap.size) := HO4.out.lt
      have hs6 : w4.heap.size ≤ w6.heap.size := Nat.le_trans hs5 hb6.size
      have HSM := hid_of (same_calls' A A v4 v6 c4 c6 w6 (by omega) (by omega) (txts_own HO46.out).txt (txts_own HO6.out).txt)
      rw [decide_eq_true (rfl : A = A)] at HSM
      clear ho6 hb6 e0 e1 e2
      go_upto_region 10 with (first
        | (go_at_call 9; refine (num_calls _ _).mono ?_; rintro e w' ⟨rfl, hw'⟩; have hx' := hw'.symm; subst hx')
        | (go_at_call 18; refine HSM.out.mono ?_; rintro e w7 ⟨rfl, hb7⟩))
      have HB7 : Hid (Below wc.heap.size wc w7) := HB6X.out.trans (hb7.mono HB6X.out.size)
      have HO57 : Hid (OwnT w4.heap.size w7 (.slice v5 A.length c5) A) := owns_below HO56.out hb7
      have HO67 : Hid (OwnT w5.heap.size w7 (.slice v6 A.length c6) A) := owns_below HO6.out hb7
      have HO47 : Hid (OwnT wc.heap.size w7 (.slice v4 A.length c4) A) := owns_below HO46.out hb7
      have hs7 : w4.heap.size ≤ w7.heap.size := Nat.le_trans hs6 hb7.size
      clear hb7 hs6
      go_upto_region 11 with (go_at_call 22; refine (spoil_calls wc.heap.size _ A w7 (by omega) HO47.out).mono ?_; rintro e w8 ⟨⟨v8, rfl⟩, L8, hl8, ho8, hg8⟩)
      have HL8 := hid_of hl8
      have HO8 := hid_of ho8
      have HB8 : Hid (Below wc.heap.size wc w8) := HB7.out.grown hg8 HB7.out.size (fun j hj => (HLT4.out j hj).1)
      have hne5 : ∀ j, Value.ownBlock (.slice v5 A.length c5) = some j → w4.heap.size ≤ j := fun j hj => (HO5.out.lt j hj).1
      have hne6 : ∀ j, Value.ownBlock (.slice v6 A.length c6) = some j → w4.heap.size ≤ j := fun j hj => Nat.le_trans hs5 (HO6.out.lt j hj).1
      have HNE : Hid (∀ v : Value, (∀ j, v.ownBlock = some j → w4.heap.size ≤ j) → v.ownBlock = none ∨ v.ownBlock ≠ Value.ownBlock (.slice v4 A.length c4)) := fun v hv => by
        cases hb : v.ownBlock with
        | none => exact .inl rfl
        | some j => exact .inr (fun e => by have h1 := hv j hb; have h2 := (HLT4.out j e.symm).2; omega)
      have HO58 : Hid (OwnT w4.heap.size w8 (.slice v5 A.length c5) A) := World.ownsRow.kept HO57.out hg8 (HNE.out _ hne5)
      have HO68 : Hid (OwnT w5.heap.size w8 (.slice v6 A.length c6) A) := World.ownsRow.kept HO67.out hg8 (HNE.out _ hne6)
      have HN5 := hid_of hne5
      have HN6 := hid_of hne6
      clear hl8 ho8 hg8 hne5 hne6
      have HX9 : Hid (Txts (w8.alloc (.cells #[.string ⟨#[109, 111, 114, 101]⟩] 9)) (some ⟨w8.heap.size, 0, none⟩) [[109, 111, 114, 101]] 1) := ⟨lit_texts w8 [[109, 111, 114, 101]] _ rfl, Nat.le_refl _, fun e => by cases e⟩
      have HO8A : Hid (OwnT wc.heap.size (w8.alloc (.cells #[.string ⟨#[109, 111, 114, 101]⟩] 9)) (.slice v4 A.length c4) L8) := World.ownsRow.alloc HO8.out _
      have HB8A : Hid (Below wc.heap.size wc (w8.alloc (.cells #[.string ⟨#[109, 111, 114, 101]⟩] 9))) := HB8.out.alloc HB8.out.size _
      have HLE : Hid ((L8 ++ [[109, 111, 114, 101]]).length = A.length + 1) := by show _ = _; rw [List.length_append, HL8.out]; rfl
      have hleq : (((A.length + 1 : Nat) : Int) == (A.length : Int) + 1) = true := by rw [beq_iff_eq]; omega
      go_upto_region 12 with (at_builtin; refine append_texts rfl _ _ rfl wc.heap.size _ L8 rfl HO8A.out (some ⟨w8.heap.size, 0, none⟩) 1 [[109, 111, 114, 101]] rfl HX9.out (by rw [HL8.out]; simp; omega) HB8A.out.size ?_; intro v' w9 hown9 hgrow9; obtain ⟨v9, c9, rfl⟩ := owns_slice hown9; have HB9 : Hid (Below wc.heap.size wc w9) := HB8A.out.grown hgrow9 HB8A.out.size (fun j hj => (HLT4.out j hj).1); have HO59 : Hid (OwnT w4.heap.size w9 (.slice v5 A.length c5) A) := World.ownsRow.kept (World.ownsRow.alloc HO58.out _) hgrow9 (HNE.out _ HN5.out); have HO69 : Hid (OwnT w5.heap.size w9 (.slice v6 A.length c6) A) := World.ownsRow.kept (World.ownsRow.alloc HO68.out _) hgrow9 (HNE.out _ HN6.out); clear hown9 hgrow9; rw [HLE.out])
      have HS1 := hid_of (same_calls' A A v5 v6 c5 c6 w9 (by omega) (by omega) (txts_own HO59.out).txt (txts_own HO69.out).txt)
      rw [decide_eq_true (rfl : A = A)] at HS1
      have HS2 : Hid (∀ W, Below wc.heap.size wc W → Calls Try.prog 18 #[.slice v2 S.length c2, .slice a S.length c] W fun e w' => e = .returned (.bool true) ∧ Below W.heap.size W w') := fun W hW => by
        have h := same_calls' S S v2 a c2 c W (by omega) (by omega) (HG.out.below hW).txt (HTX.out.below hW).txt
        rwa [decide_eq_true (rfl : S = S)] at h
      have HS3 : Hid (∀ W, Below wc.heap.size wc W → Calls Try.prog 18 #[.slice v3 L.length c3, .slice la L.length lc] W fun e w' => e = .returned (.bool true) ∧ Below W.heap.size W w') := fun W hW => by
        have h := same_calls' L L v3 la c3 lc W (by omega) (by omega) (HH.out.below hW).txt (HLX.out.below hW).txt
        rwa [decide_eq_true (rfl : L = L)] at h
      clear hs5 hs7
      go_wp2_with fail
      (go_at_call 18; refine HS1.out.mono ?_; rintro e w10 ⟨rfl, hb10⟩; have HB10 : Hid (Below wc.heap.size wc w10) := HB9.out.trans (hb10.mono HB9.out.size); clear hb10)
      go_wp2_with fail
      (go_at_call 18; refine (HS2.out _ HB10.out).mono ?_; rintro e w11 ⟨rfl, hb11⟩; have HB11 : Hid (Below wc.heap.size wc w11) := HB10.out.trans (hb11.mono HB10.out.size); have l1 : w11.cell? ⟨n6, 1, none⟩ = some (.slice v3 L.length c3) := (hq6.out.below HB11.out).cell 1; have e1 : w11.cell? ⟨w.heap.size, 1, none⟩ = some (.slice la L.length lc) := (HQX.out.below HB11.out).cell 1; clear hb11)
      go_wp2_with fail
      (go_at_call 18; refine (HS3.out _ HB11.out).mono ?_; rintro e w12 ⟨rfl, hb12⟩; have HB12 : Hid (Below wc.heap.size wc w12) := HB11.out.trans (hb12.mono HB11.out.size); clear hb12)
      go_wp2_with fail
      (go_at_call 10; refine (HAW.out _ (HB6.out.trans (HB12.out.mono HB6.out.size))).mono ?_; rintro e w13 ⟨rfl, hb13⟩)
      go_wp2_with fail
      go_ret
      exact ⟨rfl, (HB6.out.trans (HB12.out.mono HB6.out.size)).trans (hb13.mono (HB6.out.trans (HB12.out.mono HB6.out.size)).size)⟩
set_option maxRecDepth 100000 in
theorem contract (H : Type) (enc : TypeId × Value → H) (W : World) (base : Nat) (args : Array Value) (ds gs : List (DataW H)) (before : List MemPlace)
    (hval : ∀ (j : Nat) t v, Try.f6.params[j]? = some t → args[j]? = some v → Value.okWide Try.prog W .any base t v)
    (hW : DataW.Whole enc Try.prog Try.f6.params.toList Rows.nestAppliesSpec.vars false W args.toList ds gs before) (hsh : W.ShapedOpen Try.prog) (hk : Rows.uptoSmall H (ds ++ gs) = true) :
    Calls Try.prog 6 args W fun e W' => ∃ v, e = .returned v ∧ Rows.nestAppliesSpec.post enc Try.prog Try.f6 false true false false W args v W' := by
  have hW' := hW
  have hlt := hW.lt
  obtain ⟨p, q, hA0, hV, rfl, hfz, hnd⟩ := hW
  have hA : DataW.TrodAll enc Try.prog W 0 (fun _ => true) true Try.f6.params.toList args.toList ds p := hA0
  rw [Try.params6] at hA hval
  obtain ⟨v0, vs0, d0, ds0, p0, q0, hargs, rfl, rfl, h0, r0⟩ := trodAll_cons hA
  obtain ⟨v1, vs1, d1, ds1, p1, q1, rfl, rfl, rfl, h1, r1⟩ := trodAll_cons r0
  obtain ⟨rfl, rfl, rfl⟩ := trodAll_nil r1
  obtain rfl : args = #[v0, v1] := by cases args; simp_all
  obtain ⟨rfl, rfl⟩ := trodVars_none hV
  clear hA0
  simp only [List.append_nil] at hW' hlt hk
  have hbulk := of_decide_eq_true hk
  simp only [Rows.uptoBulkAll] at hbulk
  have e0 := okWide_slice Try.underlying25 (hval 0 25 v0 rfl rfl)
  obtain ⟨wa0, wc0, ws0, rfl, hw0, l0⟩ := txts_of_read e0 h0
  obtain ⟨pz1, pa1, pc1, pl1, pb1, rfl, hp1, l1⟩ := plan_of_read (hval 1 29 v1 rfl rfl) h1
  refine (walk W (Try.laysM144.s1_3 W hsh) wa0 wc0 ws0 hw0 (by omega) pz1 pa1 pc1 pl1 pb1 hp1 (by omega)).mono fun e W' ⟨he, hb⟩ => ?_
  subst he
  exact ⟨_, rfl, post_below hW' (fun _ _ _ => trodAll_cons_mk (shut_bool Try.underlying4 _) trodAll_mk0) (trodAll_cons_mk (stays (by kernel_rfl) (of_decide_eq_true (by kernel_rfl)) h0 hb (fun x hx => hlt x (by simp [hx]))) (trodAll_cons_mk (stays (by kernel_rfl) (of_decide_eq_true (by kernel_rfl)) h1 hb (fun x hx => hlt x (by simp [hx]))) trodAll_mk0)) rfl hb⟩

set_option maxRecDepth 100000 in
theorem laid_met (os : Os) : laidMet Try.prog Rows.nestAppliesUptoRow.laid ((World.holding Try.prog os ⟨#[], #[], []⟩).forCall (fun _ _ => 0) ⟨#[], #[Value.slice none 0 0, Value.agg #[.int .i64 0, .slice none 0 0, .bool false]], []⟩).memory :=
  laidMet_of_run' 8 (by kernel_rfl) (by kernel_rfl)
set_option maxRecDepth 100000 in
theorem reads (os : Os) {H : Type} (enc : TypeId × Value → H) : ∃ places, DataW.whole enc Try.prog ((World.holding Try.prog os ⟨#[], #[], []⟩).forCall (fun _ _ => 0) ⟨#[], #[Value.slice none 0 0, Value.agg #[.int .i64 0, .slice none 0 0, .bool false]], []⟩).memory Try.f6.params.toList Rows.nestAppliesSpec.vars false #[Value.slice none 0 0, Value.agg #[.int .i64 0, .slice none 0 0, .bool false]].toList 8 = some ([.nil, .agg [.lit (.int .i64 0), .nil, .lit (.bool false)]], [], places) :=
  ⟨[], by kernel_rfl⟩

set_option maxRecDepth 100000 in
theorem lifted (os : Os) (started : os.Started) (H : Type) (enc : TypeId × Value → H) (F : Stop.Interp) :
    ReturnsInHanded {} Try.checked os 6 .any ((Rows.OpenSpec.upto Rows.nestAppliesSpec).preRow enc Try.prog Try.f6 Rows.nestAppliesUptoRow.domain false Rows.nestAppliesUptoRow.laid) (((Rows.OpenSpec.upto Rows.nestAppliesSpec).at F).post enc Try.prog Try.f6 false true false false) := by
  obtain ⟨places, hx⟩ := reads os enc
  refine returnsInHanded_of_row (C := Try.checked) (s := Rows.OpenSpec.upto Rows.nestAppliesSpec) own started (by kernel_rfl) Try.func6
    (witness_row_at (enc := enc) (C := Try.checked) false (World.holding Try.prog os ⟨#[], #[], []⟩) #[Value.slice none 0 0, Value.agg #[.int .i64 0, .slice none 0 0, .bool false]] rfl (by kernel_rfl) (by kernel_rfl) (by kernel_rfl)
      (OpenSpec.preRow_of_cond 8 hx (by kernel_rfl) (fun k hk => by cases hk; kernel_rfl) (by kernel_rfl) (laid_met os))) ?_
  intro W base args ds gs before hval hW _ hcond _ hL hsh _
  exact contract H enc W base args ds gs before hval hW hsh (hcond _ rfl)

set_option maxRecDepth 100000 in
theorem said : Rows.NestAppliesUptoSaid :=
  OpenClaim.holds_of_cond 6 Try.f6 rfl rfl rfl rfl rfl rfl rfl ⟨rfl, rfl, rfl, rfl, rfl⟩ rfl rfl rfl rfl rfl (by kernel_rfl) Try.func6 (by kernel_rfl)
    (of_decide_eq_true (by kernel_rfl)) (by unfold Func.isWrapper; first | (rw [if_pos (by decide +kernel)]; kernel_rfl) | (rw [if_neg (by decide +kernel)]; exact ⟨rfl, rfl⟩))
    (fun os started H enc _ F => by rw [OpenClaim.pre_eq_preRow]; exact lifted os started H enc F)


end Go.Proofs.Ytgiefjkdekckaaa.NeApplies
