/- What is proved here: the contract of link.Split: a link in its parts. -/
import Derived.Test.YthkigcpbckjhjaaDoorBun8
import Derived.Test.YthkigcpbckjhjaaDoorLpCut
import Derived.Test.YthkigcpbckjhjaaDoorLpDotB
namespace Go.Proofs.YthkigcpbckjhjaaDoor.L
open Go.RowKit Go.Shelf Go.Proofs.YthkigcpbckjhjaaDoor.N Go.Proofs.YthkigcpbckjhjaaDoor.U

theorem results_split {tmps : Array Value} {W : World} {A : Nat} {v0 v1 v2 v3 v4 v5 v6 v7 v8 : Value} {t : TypeId} (h2 : tmps[2]?.getD undef = .pointer (some ⟨A, 0, none⟩)) (h : Blk W A #[v0, v1, v2, v3, v4, v5, v6, v7, v8] t) :
    (results Tryd.f11 tmps).run Tryd.prog W = .ok (.agg #[v0, v1, v2, v3, v4, v5, v6, v7, v8]) W := by
  obtain ⟨c0, c1, c2, c3, c4, c5, c6, c7, c8, -⟩ := h.nine
  simp [results, Tryd.results11, go_sem, h2, c0, c1, c2, c3, c4, c5, c6, c7, c8]
theorem lower_text (x : List UInt8) (W : World) (hx : x.length ≤ 4000000000) : Calls Tryd.prog 23 #[.string ⟨x.toArray⟩] W fun e W' => e = .returned (.string ⟨(lower x).toArray⟩) ∧ Below W.heap.size W W' :=
  N.lower_calls ⟨x.toArray⟩ W (by rw [arr_size]; omega)
set_option maxRecDepth 100000 in
set_option maxHeartbeats 4000000 in
/-- **Split.** -/
theorem split_calls (bs : List UInt8) (w : World) (hT : Tb w) (hm : MaxOk w) (hl : bs.length ≤ 1000000000) : Calls Tryd.prog 11 #[.string ⟨bs.toArray⟩] w fun e W' => e = .returned (splitK (stripL bs)).v ∧ Below w.heap.size w W' := by
  have HT := hid_of hT
  have HM := hid_of hm
  have HS : Hid (∀ W, Below w.heap.size w W → Calls Tryd.prog 21 #[.string ⟨bs.toArray⟩] W fun e W' => e = .returned (.string ⟨(stripL bs).toArray⟩) ∧ Below W.heap.size W W') := fun W h => strip_calls bs W (hT.below h) (by omega)
  have hsl := stripL_le bs
  obtain ⟨s, hs⟩ : ∃ s, stripL bs = s := ⟨_, rfl⟩
  rw [hs] at HS hsl ⊢
  clear hs hT hm
  have hsl4 : s.length ≤ 4000000000 := by omega
  have HCO := hid_of (fun W => pcolon_calls s W (by omega))
  have HLO : Hid (∀ (x : List UInt8) W, x.length ≤ 4000000000 → Calls Tryd.prog 23 #[.string ⟨x.toArray⟩] W fun e W' => e = .returned (.string ⟨(lower x).toArray⟩) ∧ Below W.heap.size W W') := fun x W hx => lower_text x W hx
  have HCU : Hid (∀ (x : List UInt8) (p : UInt8) W, Below w.heap.size w W → x.length ≤ 4000000000 → Calls Tryd.prog 24 #[.string ⟨x.toArray⟩, .string ⟨#[p]⟩] W fun e w' => e = .returned (.tuple #[.string ⟨(x.take (upToL [p] x)).toArray⟩, .string ⟨(x.drop (upToL [p] x + 1)).toArray⟩, .bool (decide (upToL [p] x < x.length))]) ∧ Below W.heap.size W w') := fun x p W h hx => cut_calls x p W (by omega) (HM.out.below h)
  have hb0 : Below w.heap.size w ((w.alloc (.cells noLink 24)).alloc (.cells noLink 24)) := ((Below.refl _ w).alloc (Nat.le_refl _) _).alloc (by simp) _
  have HA0 : Hid (Blk ((w.alloc (.cells noLink 24)).alloc (.cells noLink 24)) w.heap.size noLink 24) := (Blk.new w _ _).alloc _
  have HA1 : Hid (Blk ((w.alloc (.cells noLink 24)).alloc (.cells noLink 24)) (w.heap.size + 1) noLink 24) := by
    have := Blk.new (w.alloc (.cells noLink 24)) noLink 24
    rw [show (w.alloc (.cells noLink 24)).heap.size = w.heap.size + 1 from Array.size_push _] at this
    exact this
  unfold noLink at hb0 HA0 HA1
  obtain ⟨V, hV⟩ : ∃ V, (splitK s).v = V := ⟨_, rfl⟩
  rw [hV]
  cases hc : colonL s
  case' none =>
    have ecz : colonZ s = -1 := by unfold colonZ; rw [hc]
    rw [ecz] at HCO
    have HV : Hid (V = (partsK [] false s).v) := by show _ = _; rw [← hV, split_none hc]
    obtain ⟨r, rfl⟩ : ∃ r, r = s := ⟨_, rfl⟩
    have hrl : r.length ≤ 4000000000 := hsl4
    clear ecz hc hsl hV HLO
    go_enter Tryd.func11, Tryd.ntmps11
    go_wp2_with fail
    (go_at_call 21; refine (HS.out _ hb0).mono ?_; rintro e w2 ⟨rfl, h1⟩)
    have HK0 := hid_of (HA0.out.below h1)
    have HK1 := hid_of (HA1.out.below h1)
    have HB := hid_of (hb0.trans (h1.mono hb0.size))
    clear h1 hb0 HA0 HA1
    go_wp2_with fail
    (go_at_call 22; refine (HCO.out _).mono ?_; rintro e w' ⟨rfl, hx⟩; obtain rfl : w2 = w' := hx.symm)
    go_wp2_with fail
    obtain ⟨sc, hsc⟩ : ∃ sc : List UInt8, [] = sc := ⟨_, rfl⟩
    obtain ⟨hb, hhb⟩ : ∃ hb, false = hb := ⟨_, rfl⟩
    have HK : Hid (Blk w2 (w.heap.size + 1) #[.string ⟨sc.toArray⟩, .string ⟨#[]⟩, .string ⟨#[]⟩, .string ⟨#[]⟩, .string ⟨#[]⟩, .bool hb, .bool false, .bool false, .bool false] 24) := by rw [← hsc, ← hhb]; exact HK1
    rw [hsc, hhb] at HV
    clear hsc hhb HK1
  case' some n =>
    have ecz : colonZ s = n := by unfold colonZ; rw [hc]
    rw [ecz] at HCO
    have HV0 : Hid (V = (partsK (lower (s.take n)) true (s.drop (n + 1))).v) := by show _ = _; rw [← hV, split_some hc]
    have hn := colonL_lt hc
    have hlo := HLO.out (s.take n)
    have hs1 := slice_h s n (by omega) (n : Int) rfl
    have hs2 := slice_l s (n + 1) (by omega) ((n : Int) + 1) (by omega)
    have hrl : (s.drop (n + 1)).length ≤ 4000000000 := by simp; omega
    have htl : (s.take n).length ≤ 4000000000 := by simp; omega
    obtain ⟨r, hr⟩ : ∃ r, s.drop (n + 1) = r := ⟨_, rfl⟩
    obtain ⟨x, hx⟩ : ∃ x, s.take n = x := ⟨_, rfl⟩
    obtain ⟨sc, hsc⟩ : ∃ sc, lower x = sc := ⟨_, rfl⟩
    rw [hr] at HV0 hs2 hrl
    rw [hx] at HV0 hlo hs1 htl
    rw [hsc] at HV0 hlo
    have HLW := hid_of hlo
    have n0 : (0 : Int) ≤ (n : Int) := by omega
    clear ecz hc hsl hV HLO hr hx hsc hlo
    go_enter Tryd.func11, Tryd.ntmps11
    go_wp2_with fail
    (go_at_call 21; refine (HS.out _ hb0).mono ?_; rintro e w1 ⟨rfl, h1⟩)
    have HK0 := hid_of (HA0.out.below h1)
    have HK1 := hid_of (HA1.out.below h1)
    have HB := hid_of (hb0.trans (h1.mono hb0.size))
    clear h1 hb0 HA0 HA1
    go_wp2_with fail
    (go_at_call 22; refine (HCO.out _).mono ?_; rintro e w' ⟨rfl, hx⟩; obtain rfl : w1 = w' := hx.symm)
    go_wp2_with fail
    (go_at_call 23; refine (HLW.out _ htl).mono ?_; rintro e w3 ⟨rfl, h3⟩)
    have HK01 := hid_of (HK0.out.below h3)
    have HK11 := hid_of (HK1.out.below h3)
    have HB1 := hid_of (HB.out.trans (h3.mono HB.out.size))
    clear HK0 HK1 HB h3
    obtain ⟨c0, c1, c2, c3, c4, c5, c6, c7, c8, fz⟩ := HK11.out.nine
    go_wp2_with fail
    have HB := hid_of (below_setCell (below_setCell HB1.out (show w.heap.size ≤ w.heap.size + 1 by omega) 0 (.string ⟨sc.toArray⟩)) (show w.heap.size ≤ w.heap.size + 1 by omega) 5 (.bool true))
    have HK0 := hid_of ((HK01.out.other (show w.heap.size ≠ w.heap.size + 1 by omega) 0 (.string ⟨sc.toArray⟩)).other (show w.heap.size ≠ w.heap.size + 1 by omega) 5 (.bool true))
    have HK : Hid (Blk _ (w.heap.size + 1) #[.string ⟨sc.toArray⟩, .string ⟨#[]⟩, .string ⟨#[]⟩, .string ⟨#[]⟩, .string ⟨#[]⟩, .bool true, .bool false, .bool false, .bool false] 24) := (HK11.out.set 0 (.string ⟨sc.toArray⟩)).set 5 (.bool true)
    clear HB1 HK01 HK11 c0 c1 c2 c3 c4 c5 c6 c7 c8 fz hs1 hs2 n0 hn HCO
    generalize ((w3.setCell ⟨w.heap.size + 1, 0, none⟩ (.string ⟨sc.toArray⟩)).setCell ⟨w.heap.size + 1, 5, none⟩ (.bool true)) = w2 at *
    obtain ⟨hb, hhb⟩ : ∃ hb, true = hb := ⟨_, rfl⟩
    rw [hhb] at HK
    have HV : Hid (V = (partsK sc hb r).v) := by rw [← hhb]; exact HV0
    clear hhb HV0
  all_goals
    obtain ⟨A, F, hf, B, Q, hq, eA, eF, ehf, eB, eQ, ehq, eV, lA, lB⟩ := parts_v sc hb r
    have HVV := hid_of (HV.out.trans eV)
    have HC1 := hid_of (HCU.out r 35 w2 HB.out hrl)
    have HC2 : Hid (∀ W, Below w.heap.size w W → Calls Tryd.prog 24 #[.string ⟨A.toArray⟩, .string ⟨#[63]⟩] W fun e w' => e = .returned (.tuple #[.string ⟨B.toArray⟩, .string ⟨Q.toArray⟩, .bool hq]) ∧ Below W.heap.size W w') := fun W h => by
      have := HCU.out A 63 W h (by omega)
      rw [eB, eQ, ehq] at this
      exact this
    rw [eA, eF, ehf] at HC1
    have hBl : B.length ≤ 4000000000 := by omega
    clear eA eF ehf eB eQ ehq eV lA lB HV HCU hrl
    (go_at_call 24; refine HC1.out.mono ?_; rintro e w4 ⟨rfl, h4⟩)
    have HK04 := hid_of (HK0.out.below h4)
    have HK4 := hid_of (HK.out.below h4)
    have HB4 := hid_of (HB.out.trans (h4.mono HB.out.size))
    clear HK0 HK HB h4
    obtain ⟨c0, c1, c2, c3, c4, c5, c6, c7, c8, fz⟩ := HK4.out.nine
    go_wp2_with fail
    have HB5 := hid_of (below_setCell (below_setCell HB4.out (show w.heap.size ≤ w.heap.size + 1 by omega) 4 (.string ⟨F.toArray⟩)) (show w.heap.size ≤ w.heap.size + 1 by omega) 8 (.bool hf))
    have HK05 := hid_of ((HK04.out.other (show w.heap.size ≠ w.heap.size + 1 by omega) 4 (.string ⟨F.toArray⟩)).other (show w.heap.size ≠ w.heap.size + 1 by omega) 8 (.bool hf))
    have HK5 : Hid (Blk _ (w.heap.size + 1) #[.string ⟨sc.toArray⟩, .string ⟨#[]⟩, .string ⟨#[]⟩, .string ⟨#[]⟩, .string ⟨F.toArray⟩, .bool hb, .bool false, .bool false, .bool hf] 24) := (HK4.out.set 4 (.string ⟨F.toArray⟩)).set 8 (.bool hf)
    clear HB4 HK04 HK4 c0 c1 c2 c3 c4 c5 c6 c7 c8 fz
    generalize ((w4.setCell ⟨w.heap.size + 1, 4, none⟩ (.string ⟨F.toArray⟩)).setCell ⟨w.heap.size + 1, 8, none⟩ (.bool hf)) = w5 at *
    (go_at_call 24; refine (HC2.out _ HB5.out).mono ?_; rintro e w6 ⟨rfl, h6⟩)
    have HK06 := hid_of (HK05.out.below h6)
    have HK6 := hid_of (HK5.out.below h6)
    have HB6 := hid_of (HB5.out.trans (h6.mono HB5.out.size))
    clear HK05 HK5 HB5 h6
    obtain ⟨c0, c1, c2, c3, c4, c5, c6, c7, c8, fz⟩ := HK6.out.nine
    go_wp2_with fail
    have HB7 := hid_of (below_setCell (below_setCell HB6.out (show w.heap.size ≤ w.heap.size + 1 by omega) 3 (.string ⟨Q.toArray⟩)) (show w.heap.size ≤ w.heap.size + 1 by omega) 7 (.bool hq))
    have HK07 := hid_of ((HK06.out.other (show w.heap.size ≠ w.heap.size + 1 by omega) 3 (.string ⟨Q.toArray⟩)).other (show w.heap.size ≠ w.heap.size + 1 by omega) 7 (.bool hq))
    have HK7 : Hid (Blk _ (w.heap.size + 1) #[.string ⟨sc.toArray⟩, .string ⟨#[]⟩, .string ⟨#[]⟩, .string ⟨Q.toArray⟩, .string ⟨F.toArray⟩, .bool hb, .bool false, .bool hq, .bool hf] 24) := (HK6.out.set 3 (.string ⟨Q.toArray⟩)).set 7 (.bool hq)
    clear HB6 HK06 HK6 c0 c1 c2 c3 c4 c5 c6 c7 c8 fz
    generalize ((w6.setCell ⟨w.heap.size + 1, 3, none⟩ (.string ⟨Q.toArray⟩)).setCell ⟨w.heap.size + 1, 7, none⟩ (.bool hq)) = w7 at *
    obtain ⟨c0, c1, c2, c3, c4, c5, c6, c7, c8, fz⟩ := HK7.out.nine
    obtain ⟨d0, d1, d2, d3, d4, d5, d6, d7, d8, dz⟩ := HK07.out.nine
    rcases hostK_cases B with ⟨h1, h2, h3⟩ | ⟨C, rfl, hC⟩
    · have HCP := hid_of (nohost_calls B h1 w7)
      rw [h1, h2, h3] at HVV
      clear h1 h2 h3
      (go_at_call 25; refine HCP.out.mono ?_; rintro e w' ⟨rfl, hx⟩; obtain rfl : w7 = w' := hx.symm)
      go_wp2_with fail
      exact bodyPost_ret (results_split rfl (Blk.put9 (HK07.out.other (show w.heap.size ≠ w.heap.size + 1 by omega) 2 _) _ _ _ _ _ _ _ _ _)) rfl ⟨by rw [HVV.out], below_put9 (below_setCell HB7.out (show w.heap.size ≤ w.heap.size + 1 by omega) 2 _) (Nat.le_refl _) _ _ _ _ _ _ _ _ _⟩
    · have HCP := hid_of (host_calls C w7)
      have HSA := hid_of (slashAt_calls C w7 (by simp at hBl; omega))
      have hle := upToL_le [47] C
      obtain ⟨m, hmm⟩ : ∃ m, upToL [47] C = m := ⟨_, rfl⟩
      rw [hC] at HVV
      rw [hmm] at HVV HSA hle
      have q1 := slice_h C m hle (m : Int) rfl
      have q2 := slice_l C m hle (m : Int) rfl
      obtain ⟨H, hH⟩ : ∃ H, C.take m = H := ⟨_, rfl⟩
      obtain ⟨P, hP⟩ : ∃ P, C.drop m = P := ⟨_, rfl⟩
      simp only [hH, hP] at HVV q1 q2
      clear hH hP hmm hC
      (go_at_call 25; refine HCP.out.mono ?_; rintro e w' ⟨rfl, hx⟩; obtain rfl : w7 = w' := hx.symm)
      go_wp2_with fail
      (go_at_call 26; refine HSA.out.mono ?_; rintro e w' ⟨rfl, hx⟩; obtain rfl : w7 = w' := hx.symm)
      go_wp2_with fail
      exact bodyPost_ret (results_split rfl (Blk.put9 (((HK07.out.other (show w.heap.size ≠ w.heap.size + 1 by omega) 1 _).other (show w.heap.size ≠ w.heap.size + 1 by omega) 6 _).other (show w.heap.size ≠ w.heap.size + 1 by omega) 2 _) _ _ _ _ _ _ _ _ _)) rfl ⟨by rw [HVV.out], below_put9 (below_setCell (below_setCell (below_setCell HB7.out (show w.heap.size ≤ w.heap.size + 1 by omega) 1 _) (show w.heap.size ≤ w.heap.size + 1 by omega) 6 _) (show w.heap.size ≤ w.heap.size + 1 by omega) 2 _) (Nat.le_refl _) _ _ _ _ _ _ _ _ _⟩
end Go.Proofs.YthkigcpbckjhjaaDoor.L
