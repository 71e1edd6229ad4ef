/- What is proved here: a text, given to a balancer that is not fresh and that it does not make too deep; take; finish; handOut. -/
import Derived.Test.YtdkcibafbdmajabGreatDoorBaText
namespace Go.Proofs.YtdkcibafbdmajabGreatDoor.B
open Go.RowKit Go.Shelf Go.WideMaps Go.Maps Go.Proofs.YtdkcibafbdmajabGreatDoor.N Go.Proofs.YtdkcibafbdmajabGreatDoor.C Go.Proofs.YtdkcibafbdmajabGreatDoor.E

/-- What a text does that stands. -/
def textS (s : BSt) (tx : Txt) (pl : Int × Int × Int) : BSt :=
  { followS s (textP s.S (trim tx).isEmpty).1.toNat pl (textP s.S (trim tx).isEmpty).2.1 with E := (followS s (textP s.S (trim tx).isEmpty).1.toNat pl (textP s.S (trim tx).isEmpty).2.1).E ++ [⟨0, [], tx, .slice none 0 0⟩], fr := false }
set_option maxRecDepth 100000 in
set_option maxHeartbeats 40000000 in
/-- **text.** -/
theorem text_calls (n B : Nat) (s : BSt) (nm tx : Txt) (sf : Bool) (p0 p1 p2 : Int) (hfr : s.fr = false) (htx : tx ≠ []) (hcd : endCode s.S = 0) (hdr : (textP s.S (trim tx).isEmpty).2.2 = false) (hf : Few s.S) (hlen : s.S.length ≤ 600) (hx : tx.length ≤ 1000000000) (hd : (s.S.length : Int) - (textP s.S (trim tx).isEmpty).1 + ((textP s.S (trim tx).isEmpty).2.1.length : Int) ≤ s.d) (hE : s.E.length ≤ 800000000) (hF : s.F.length ≤ 800000000) (w : World) (h : BalAt n B s w) (hn : n ≤ w.heap.size) (hm : ∀ W, Below n w W → MaxOk W) :
    Calls Tryz.prog 46 #[.pointer (some ⟨B, 0, none⟩), .agg #[.int .i64 0, .string ⟨nm.toArray⟩, .string ⟨tx.toArray⟩, .slice none 0 0, .bool sf, .int .i64 p0, .int .i64 p1, .int .i64 p2]] w fun r w' => (∃ v, r = .returned v) ∧ BalAt n B (textS s tx (p0, p1, p2)) w' ∧ Fr B w w' := by
  obtain ⟨W1, hW1⟩ : ∃ W, w.alloc (.cells #[.int .i64 0, .string ⟨nm.toArray⟩, .string ⟨tx.toArray⟩, .slice none 0 0, .bool sf, .int .i64 p0, .int .i64 p1, .int .i64 p2] 37) = W := ⟨_, rfl⟩
  have b1 : Below w.heap.size w W1 := by rw [← hW1]; exact (Below.refl _ w).alloc (Nat.le_refl _) _
  have q1 : Blk W1 w.heap.size #[.int .i64 0, .string ⟨nm.toArray⟩, .string ⟨tx.toArray⟩, .slice none 0 0, .bool sf, .int .i64 p0, .int .i64 p1, .int .i64 p2] 37 := by rw [← hW1]; exact Blk.new _ _ _
  have HFA : Hid (¬ Rows B W1 w.heap.size) := rows_below h.lt b1 (new_far h (Nat.le_refl _))
  have HH1 := hid_of (h.below b1)
  have HNW : Hid (n ≤ W1.heap.size) := Nat.le_trans hn b1.size
  have HF1 : Hid (Fr B w W1) := Fr.of_below h.lt b1
  have HM1 : Hid (∀ W, Below W1.heap.size W1 W → MaxOk W) := fun W hW => hm W ((b1.mono hn).trans (hW.mono HNW.out))
  have htz : 0 ≤ (textP s.S (trim tx).isEmpty).1 ∧ (textP s.S (trim tx).isEmpty).1 ≤ s.S.length ∧ (textP s.S (trim tx).isEmpty).2.1.length ≤ 3 := by
    have h1 : (textK s.S s.S.length).1 ≤ s.S.length := standN_le s.S s.S.length
    have h2 : (textK s.S s.S.length).2.length ≤ 3 := by
      show ([] ++ standI (topK s.S s.S.length)).length ≤ 3
      rw [List.nil_append]
      exact standI_len _
    unfold textP
    split
    · split
      · exact ⟨by decide, by omega, by decide⟩
      · exact ⟨by simp only; omega, by simp only; omega, h2⟩
    · exact ⟨by decide, by omega, by decide⟩
  obtain ⟨v0, v1, v2, hb, o0, o1, o2⟩ := HH1.out.blk
  obtain ⟨va, vc, rfl⟩ := owns_slice o2
  have hst := stack_bal o2 hf hlen
  have c2 : W1.cell? ⟨B, 2, none⟩ = some (.slice va s.S.length vc) := hb.cell 2
  have c5 : W1.cell? ⟨B, 5, none⟩ = some (.bool false) := by rw [← hfr]; exact hb.cell 5
  have e2 : W1.cell? ⟨w.heap.size, 2, none⟩ = some (.string ⟨tx.toArray⟩) := q1.cell 2
  have HOP : Hid (∀ W, Below W1.heap.size W1 W → Calls Tryz.prog 79 #[.slice va s.S.length vc, .bool (trim tx).isEmpty] W fun e w' => ∃ vi ci, e = .returned (.tuple #[.agg #[.int .i64 (textP s.S (trim tx).isEmpty).1, .slice vi (textP s.S (trim tx).isEmpty).2.1.length ci, .bool false], .int .i64 0]) ∧ OwnT W.heap.size w' (.slice vi (textP s.S (trim tx).isEmpty).2.1.length ci) (textP s.S (trim tx).isEmpty).2.1 ∧ Below W.heap.size W w') := fun W hW => by
    have h := Text_calls W (HM1.out W hW) va s.S vc (hst.below hW) (trim tx).isEmpty
    rwa [hcd, hdr] at h
  have HTR : Hid (∀ W, Calls Tryz.prog 80 #[.string ⟨tx.toArray⟩] W fun e w' => e = .returned (.string ⟨(trim tx).toArray⟩) ∧ w' = W) := fun W => trim_calls ⟨tx.toArray⟩ W (by show tx.toArray.size ≤ _; simp; omega)
  have htx' : tx.isEmpty = false := by cases tx; exact absurd rfl htx; rfl
  have HS : Hid (textS s tx (p0, p1, p2) = { followS s (textP s.S (trim tx).isEmpty).1.toNat (p0, p1, p2) (textP s.S (trim tx).isEmpty).2.1 with E := (followS s (textP s.S (trim tx).isEmpty).1.toNat (p0, p1, p2) (textP s.S (trim tx).isEmpty).2.1).E ++ [⟨0, [], tx, .slice none 0 0⟩], fr := false }) := rfl
  have HW : Hid (w.alloc (.cells #[.int .i64 0, .string ⟨nm.toArray⟩, .string ⟨tx.toArray⟩, .slice none 0 0, .bool sf, .int .i64 p0, .int .i64 p1, .int .i64 p2] 37) = W1) := hW1
  have HQ := hid_of q1
  have hltB := HH1.out.lt
  have HLB := hid_of hltB
  have hneB : B ≠ W1.heap.size := by omega
  clear h hm hb o0 o1 o2 hst b1 q1 hW1 hf hcd hdr htx
  obtain ⟨k, hk⟩ : ∃ k : Nat, (textP s.S (trim tx).isEmpty).1 = (k : Int) := ⟨(textP s.S (trim tx).isEmpty).1.toNat, by omega⟩
  rw [hk] at HS HOP hd htz
  rw [show ((k : Int)).toNat = k from rfl] at HS
  generalize textS s tx (p0, p1, p2) = R at *
  generalize (textP s.S (trim tx).isEmpty).2.1 = I at *
  generalize trim tx = T at *
  clear hk
  go_enter Tryz.func46, Tryz.ntmps46
  go_upto_region 1 with fail
  rw [HW.out]
  clear HW
  go_upto_region 5 with fail
  go_cut [5, 6] from 7 (fun p c wx => ∃ hp vi ci, p = .pointer (some ⟨hp, 0, none⟩) ∧ c = .int .i64 0 ∧ Hid (¬ Rows B wx hp) ∧ Hid (Blk wx hp #[.int .i64 (k : Int), .slice vi I.length ci, .bool false] 93) ∧ Hid (Far B wx vi I) ∧ Hid (Below W1.heap.size W1 wx))
  case first =>
    go_region_held3 (fun w' => w'.cell? ⟨B, 2, none⟩ = some (.slice va s.S.length vc)) (first | exact c2 | exact d2 | (rw [cell_far hneB, cell_far hneB, cell_far hneB]; exact d2) | go_keep) (first | (go_at_call 80; refine (HTR.out _).mono ?_; rintro e w' ⟨rfl, hw'⟩; have hx' := hw'.symm; subst hx') | (go_at_call 79; refine (HOP.out _ (by first | exact Below.refl _ W1 | exact (Below.refl _ W1).drew | exact (Below.refl _ W1).drew.alloc (by simp) _ | exact (Below.refl _ W1).alloc (by simp) _)).mono ?_; rintro e w3 ⟨v3, c3, rfl, ho3, hb3⟩; have HK3 : Hid (Below W1.heap.size W1 w3) := (by first | exact (Below.refl W1.heap.size W1).drew.trans hb3 | exact ((Below.refl W1.heap.size W1).alloc (Nat.le_refl _) _).drew.trans (hb3.mono (by simp)) | exact (((Below.refl W1.heap.size W1).drew).alloc (Nat.le_refl _) _).trans (hb3.mono (by simp))); (try (have n3 : Blk w3 W1.heap.size zeroPlan 93 := (hb3.block W1.heap.size (by simp)).trans (Blk.new W1 zeroPlan 93); have m0 : w3.cell? ⟨W1.heap.size, 0, none⟩ = some (.int .i64 0) := n3.cell 0; have m1 : w3.cell? ⟨W1.heap.size, 1, none⟩ = some (.slice none 0 0) := n3.cell 1; have m2 : w3.cell? ⟨W1.heap.size, 2, none⟩ = some (.bool false) := n3.cell 2; have f0 := n3.frozen 0; have f1 := n3.frozen 1; have f2 := n3.frozen 2)); have d2 : w3.cell? ⟨B, 2, none⟩ = some (.slice va s.S.length vc) := (HK3.out.cell (p := ⟨B, 2, none⟩) HLB.out).trans c2))
    all_goals go_wp2_with fail
    all_goals go_meet
    all_goals first
      | exact ⟨w3.heap.size, v3, c3, rfl, rfl, rows_below (HH1.out.below HK3.out).lt ((Below.refl _ w3).alloc (Nat.le_refl _) _) (new_far (HH1.out.below HK3.out) (Nat.le_refl _)), Blk.new _ _ _, ⟨(texts_own ho3).1.below ((Below.refl _ w3).alloc (Nat.le_refl _) _), fun b off e h0 => rows_below HLB.out (HK3.out.alloc HK3.out.size _) (new_far HH1.out (by subst e; have h := (ho3.lt b rfl).1; simpa using h))⟩, HK3.out.alloc HK3.out.size _⟩
      | exact ⟨W1.heap.size, v3, c3, rfl, rfl, rows_put3 hneB (rows_below HLB.out HK3.out (new_far HH1.out (Nat.le_refl _))), Blk.put3 n3 _ _ _, ⟨(texts_own (own_low (base' := W1.heap.size) (own_set (own_set (own_set ho3 (by simp) _ _) (by simp) _ _) (by simp) _ _) (by simp))).1, fun b off e h0 => rows_put3 hneB (rows_below HLB.out HK3.out (new_far HH1.out (by subst e; have h := (ho3.lt b rfl).1; simp at h; omega)))⟩, below_put3 HK3.out (Nat.le_refl _) _ _ _⟩
      | sorry
  case rest =>
    obtain ⟨hp, vi, ci, rfl, rfl, HRH, HPL, HFR, HBW⟩ := hcut
    have HH2 := hid_of (HH1.out.below HBW.out)
    have HF2 : Hid (Fr B w wc) := HF1.out.trans (Fr.of_below HLB.out HBW.out)
    have HQ2 := hid_of (HQ.out.below HBW.out)
    have HFA2 : Hid (¬ Rows B wc w.heap.size) := rows_below HLB.out HBW.out HFA.out
    have HN2 : Hid (n ≤ wc.heap.size) := Nat.le_trans HNW.out HBW.out.size
    have HLB2 := hid_of HH2.out.lt
    have HBE := hid_of (fun W (hW : BalAt n B s W) => behind_calls n B s (k : Int) vi I.length ci false (by omega) (by omega) (by omega) (by omega) W hW)
    have HFO := hid_of (fun W (hW : BalAt n B s W) (hnW : n ≤ W.heap.size) (hF : Far B W vi I) => follow_calls n B s k vi I ci false p0 p1 p2 (by omega) (by omega) (by omega) (by omega) W hW hnW hF)
    have p0' : wc.cell? ⟨hp, 0, none⟩ = some (.int .i64 (k : Int)) := HPL.out.cell 0
    have p1' : wc.cell? ⟨hp, 1, none⟩ = some (.slice vi I.length ci) := HPL.out.cell 1
    have p2' : wc.cell? ⟨hp, 2, none⟩ = some (.bool false) := HPL.out.cell 2
    have HC6 : Hid (∀ W, Below wc.heap.size wc W → W.cell? ⟨B, 6, none⟩ = some (.int .i64 s.d)) := fun W hW => by
      obtain ⟨_, _, _, hb, _⟩ := (HH2.out.below hW).blk
      exact hb.cell 6
    have c6 := HC6.out _ (Below.refl _ _)
    have hdd : decide ((s.S.length : Int) - (k : Int) + (I.length : Int) > s.d) = false := decide_eq_false (by omega)
    have HLE : Hid ((followS s k (p0, p1, p2) I).E.length ≤ 900000000 ∧ (followS s k (p0, p1, p2) I).S.length ≤ 900000000) := by
      obtain ⟨l1, l2, l3⟩ := putS_len (closedS s k) (p0, p1, p2) I
      have e1 : (closedS s k).E.length = s.E.length + k := by show (s.E ++ clE s.S k).length = _; rw [List.length_append, clE_len]
      have e2 : (closedS s k).S.length ≤ s.S.length := by show (s.S.take _).length ≤ _; rw [List.length_take]; omega
      constructor
      · show (putS (closedS s k) (p0, p1, p2) I).E.length ≤ _; omega
      · show (putS (closedS s k) (p0, p1, p2) I).S.length ≤ _; omega
    clear c2 hneB hltB HOP HTR HM1
    rename World => wd
    go_upto_region 9 with fail
    go_cut [44] from 45 (fun v wx => v = .bool false ∧ Hid (Below wd.heap.size wd wx))
    case first =>
      go_region_with (go_at_call 72; refine (HBE.out _ (HH2.out.below (by first | exact Below.refl _ _ | exact (Below.refl _ _).drew))).mono ?_; rintro e w4 ⟨rfl, hb4⟩; have hk4 : Below wd.heap.size wd w4 := (by first | exact hb4 | exact (Below.refl _ wd).drew.trans hb4); have c6' := HC6.out _ hk4)
      all_goals go_wp2_with fail
      all_goals go_meet
      all_goals exact ⟨rfl, hk4⟩
    case rest =>
      obtain ⟨rfl, HB3⟩ := hcut
      have HH3 := hid_of (HH2.out.below HB3.out)
      have HF3 : Hid (Fr B w wc) := HF2.out.trans (Fr.of_below HLB2.out HB3.out)
      have HQ3 := hid_of (HQ2.out.below HB3.out)
      have HN3 : Hid (n ≤ wc.heap.size) := Nat.le_trans HN2.out HB3.out.size
      have q3 := HPL.out.below HB3.out
      have HFR3 : Hid (Far B wc vi I) := HFR.out.fr (Fr.of_below HLB2.out HB3.out)
      have r0 : wc.cell? ⟨hp, 0, none⟩ = some (.int .i64 (k : Int)) := q3.cell 0
      have r1 : wc.cell? ⟨hp, 1, none⟩ = some (.slice vi I.length ci) := q3.cell 1
      have r2 : wc.cell? ⟨hp, 2, none⟩ = some (.bool false) := q3.cell 2
      have s5 : wc.cell? ⟨w.heap.size, 5, none⟩ = some (.int .i64 p0) := HQ3.out.cell 5
      have s6 : wc.cell? ⟨w.heap.size, 6, none⟩ = some (.int .i64 p1) := HQ3.out.cell 6
      have s7 : wc.cell? ⟨w.heap.size, 7, none⟩ = some (.int .i64 p2) := HQ3.out.cell 7
      have HFO3 := hid_of (HFO.out wc HH3.out HN3.out HFR3.out)
      clear q3 p0' p1' p2' HBE HFO HC6 c6 hdd HH2 HF2 HQ2 HN2 HPL HFR HBW HRH
      rename World => we
      generalize followS s k (p0, p1, p2) I = t at *
      go_wp2_with fail
      (go_at_call 74; refine HFO3.out.mono ?_; rintro e w5 ⟨⟨v5, rfl⟩, hb5, hk5⟩)
      have HH5 := hid_of hb5
      have HF5 : Hid (Fr B w w5) := HF3.out.trans hk5
      have HN5 : Hid (n ≤ w5.heap.size) := Nat.le_trans HN3.out hk5.size
      have HSTD : Hid (∀ W, BalAt n B t W → n ≤ W.heap.size → Calls Tryz.prog 75 #[.pointer (some ⟨B, 0, none⟩), .agg #[.int .i64 0, .string ⟨#[]⟩, .string ⟨tx.toArray⟩, .slice none 0 0]] W fun r w' => (∃ v, r = .returned v) ∧ BalAt n B { t with E := t.E ++ [⟨0, [], tx, .slice none 0 0⟩], fr := false } w' ∧ Fr B W w') := fun W hW hnW => stand_calls n B t ⟨0, [], tx, .slice none 0 0⟩ rfl (by have := HLE.out.1; omega) W hW hnW
      clear hb5 hk5 r0 r1 r2 s5 s6 s7
      go_wp2_with fail
      (go_at_call 75; refine (HSTD.out _ HH5.out HN5.out).mono ?_; rintro e w6 ⟨⟨v6, rfl⟩, hb6, hk6⟩)
      go_wp2_with fail
      go_end0
      exact ⟨⟨_, rfl⟩, by rw [HS.out]; exact hb6, HF5.out.trans hk6⟩
end Go.Proofs.YtdkcibafbdmajabGreatDoor.B
