/- What is proved here: the contract of link.candidate: the one that a text begins with, and what is left behind it. -/
import Derived.Test.YtmfhhpacojodkaaGreatDoorBun15
import Derived.Lib.QuietBelow
import Derived.Deep.RegionHeld3
import Derived.BigQuiet
namespace Go.Proofs.YtmfhhpacojodkaaGreatDoor.L
open Go.RowKit Go.Shelf Go.Proofs.YtmfhhpacojodkaaGreatDoor.N Go.Proofs.YtmfhhpacojodkaaGreatDoor.U

def candV (x : Two × List UInt8) : Value := .tuple #[.agg #[.string ⟨x.1.1.toArray⟩, .string ⟨x.1.2.toArray⟩], .string ⟨x.2.toArray⟩]
theorem results_cand {tmps : Array Value} {W : World} {A : Nat} {v0 v1 v3 : Value} (h2 : tmps[2]?.getD undef = .pointer (some ⟨A, 0, none⟩)) (h3 : tmps[3]?.getD undef = v3) (c0 : W.cell? ⟨A, 0, none⟩ = some v0) (c1 : W.cell? ⟨A, 1, none⟩ = some v1) :
    (results Tryz.f21 tmps).run Tryz.prog W = .ok (.tuple #[.agg #[v0, v1], v3]) W := by
  simp [results, Tryz.results21, go_sem, h2, h3, c0, c1]
set_option maxRecDepth 100000 in
set_option maxHeartbeats 4000000 in
/-- **candidate.** -/
theorem candidate_calls (r : List UInt8) (w : World) (hl : r.length ≤ 1000000000) : Calls Tryz.prog 21 #[.string ⟨r.toArray⟩] w fun e w' => e = .returned (candV (candK r)) ∧ Below w.heap.size w w' := by
  have mixed : Tryz.prog.follows .mixedOrders = true := by kernel_rfl
  have ss := arr_size r
  have hle := yesN_le gapS r
  have HI := hid_of (fun W => indexGap_calls r W)
  have HC : Hid (candK r = if Lib.trimRightB (r.take (yesN gapS r)) 44 != r.take (yesN gapS r) then ((Lib.trimRightB (r.take (yesN gapS r)) 44, []), r.drop (yesN gapS r))
    else ((r.take (yesN gapS r), (sqF gapS ((r.drop (yesN gapS r)).take (descN (r.drop (yesN gapS r)) false))).1), (r.drop (yesN gapS r)).drop (descN (r.drop (yesN gapS r)) false))) := rfl
  obtain ⟨n, hn⟩ : ∃ n, yesN gapS r = n := ⟨_, rfl⟩
  rw [hn] at hle HI HC
  clear hn
  have y1 := slice_h r n hle (n : Int) rfl
  have y2 := slice_l r n hle (n : Int) rfl
  have hkl : (r.take n).length ≤ 1000000000 := by rw [List.length_take]; omega
  have hql : (r.drop n).length ≤ 1000000000 := by rw [List.length_drop]; omega
  obtain ⟨k, hk⟩ : ∃ k, r.take n = k := ⟨_, rfl⟩
  obtain ⟨q, hq⟩ : ∃ q, r.drop n = q := ⟨_, rfl⟩
  rw [hk] at y1 hkl HC
  rw [hq] at y2 hql HC
  clear hk hq
  have HT := hid_of (fun W => trimComma_calls k W (by omega))
  obtain ⟨b, hb⟩ : ∃ b, Lib.trimRightB k 44 = b := ⟨_, rfl⟩
  rw [hb] at HT HC
  clear hb
  have hde := descN_le q false
  have HD := hid_of (fun W => descEnd_calls q W (by omega))
  obtain ⟨e, he⟩ : ∃ e, descN q false = e := ⟨_, rfl⟩
  rw [he] at hde HD HC
  clear he
  have sq := arr_size q
  have x1 := slice_h q e hde (e : Int) rfl
  have x2 := slice_l q e hde (e : Int) rfl
  have hel : (q.take e).length ≤ 1000000000 := by rw [List.length_take]; omega
  obtain ⟨p, hp⟩ : ∃ p, q.take e = p := ⟨_, rfl⟩
  obtain ⟨z, hz⟩ : ∃ z, q.drop e = z := ⟨_, rfl⟩
  rw [hp] at x1 hel HC
  rw [hz] at x2 HC
  clear hp hz
  have HF := hid_of (fun W => fieldsGap_calls p W (by omega))
  have HJ := hid_of (fun A W h1 h2 => joinWords_calls p A W (by omega) h1 h2)
  obtain ⟨d, hd⟩ : ∃ d, (sqF gapS p).1 = d := ⟨_, rfl⟩
  rw [hd] at HJ HC
  clear hd
  obtain ⟨C, hC⟩ : ∃ C, candK r = C := ⟨_, rfl⟩
  rw [hC] at HC ⊢
  clear hC
  have HIF : ∃ x : Int, (if n < r.length then (n : Int) else -1) = x ∧ ((decide (x < 0) = false ∧ x = (n : Int)) ∨ (decide (x < 0) = true ∧ n = r.length)) := by
    by_cases h : n < r.length
    · exact ⟨n, by rw [if_pos h], .inl ⟨by rw [decide_eq_false_iff_not]; omega, rfl⟩⟩
    · exact ⟨-1, by rw [if_neg h], .inr ⟨by decide, by omega⟩⟩
  obtain ⟨x, hx, hcase⟩ := HIF
  rw [hx] at HI
  clear hx
  obtain ⟨W0, hW0⟩ : ∃ W0, w.alloc (.cells #[.string ⟨#[]⟩, .string ⟨#[]⟩] 27) = W0 := ⟨_, rfl⟩
  have HB0 : Hid (Below w.heap.size w W0) := by rw [← hW0]; exact (Below.refl _ w).alloc (Nat.le_refl _) _
  have HK0 : Hid (W0.heap[w.heap.size]? = some (.cells #[.string ⟨#[]⟩, .string ⟨#[]⟩] 27 (0, 0))) := by rw [← hW0]; exact World.alloc_heap_new w _
  have HZ0 : Hid (w.heap.size < W0.heap.size) := by rw [← hW0]; show _ < _; simp
  have HW0 := hid_of hW0
  clear hW0
  rcases hcase with ⟨c0, hxp⟩ | ⟨c0, hps⟩
  case' inl => rw [hxp] at HI c0; clear hxp
  case' inr => subst hps
  all_goals go_enter Tryz.func21, Tryz.ntmps21
  all_goals go_wp2_with fail
  all_goals rw [HW0.out]
  all_goals (go_at_call 48; refine (HI.out W0).mono ?_; rintro e w1 ⟨rfl, hb1⟩)
  all_goals have HB1 := hid_of (HB0.out.trans (hb1.mono HB0.out.size))
  all_goals have HK1 : Hid (w1.heap[w.heap.size]? = some (.cells #[.string ⟨#[]⟩, .string ⟨#[]⟩] 27 (0, 0))) := (hb1.block _ HZ0.out).trans HK0.out
  all_goals have HZ1 : Hid (w.heap.size < w1.heap.size) := Nat.lt_of_lt_of_le HZ0.out hb1.size
  all_goals clear hb1 HB0 HK0 HZ0 HW0 HI
  all_goals go_wp2_with fail
  all_goals have D1 : ∀ dd os, Below w1.heap.size w1 (Go.Sort.grow (redrawn w1 dd) os) := fun dd os => below_regrown w1 dd os
  all_goals refine wp_region_quiet_below mixed (by kernel_rfl) ?_
  all_goals repeat (go_big_quiet_step (fail))
  all_goals refine wpQuiet_nil ?_
  all_goals intro W2 hw'
  all_goals obtain ⟨⟨dq, osq⟩, hw''⟩ := hw'
  all_goals have hb2 : Below w1.heap.size w1 W2 := by rw [hw'']; exact D1 dq osq
  all_goals have HB2 := hid_of (HB1.out.trans (hb2.mono HB1.out.size))
  all_goals have HK2 : Hid (W2.heap[w.heap.size]? = some (.cells #[.string ⟨#[]⟩, .string ⟨#[]⟩] 27 (0, 0))) := (hb2.block _ HZ1.out).trans HK1.out
  all_goals have HZ2 : Hid (w.heap.size < W2.heap.size) := Nat.lt_of_lt_of_le HZ1.out hb2.size
  all_goals clear hw'' D1 hb2 HB1 HK1 HZ1 y1 y2 c0
  all_goals go_wp2_with fail
  all_goals (go_at_call 49; refine (HT.out W2).mono ?_; rintro e w' ⟨rfl, hx⟩; obtain rfl : W2 = w' := hx.symm)
  all_goals cases hbk : (b == k) with
    | false =>
      have hne : (b != k) = true := by show (!(b == k)) = true; rw [hbk]; rfl
      have HC2 : Hid (C = ((b, []), q)) := by show _ = _; rw [HC.out, hne]; rfl
      have c20 : W2.cell? ⟨w.heap.size, 0, none⟩ = some (.string ⟨#[]⟩) := by rw [cell_of_row _ _ _ _ _ _ HK2.out]; rfl
      have c21 : W2.cell? ⟨w.heap.size, 1, none⟩ = some (.string ⟨#[]⟩) := by rw [cell_of_row _ _ _ _ _ _ HK2.out]; rfl
      have f20 : W2.frozen? ⟨w.heap.size, 0, none⟩ = false := by simp [World.frozen?, HK2.out]
      have f21 : W2.frozen? ⟨w.heap.size, 1, none⟩ = false := by simp [World.frozen?, HK2.out]
      clear hne
      go_wp2_with fail
      refine bodyPost_ret (results_cand rfl rfl (by rw [cs_other (by simp)]; exact cs_same c20) (cs_same (by rw [cs_other (by simp)]; exact c21))) rfl ?_
      exact ⟨by rw [HC2.out]; rfl, (HB2.out.setCell (Nat.le_refl _) _).setCell (Nat.le_refl _) _⟩
    | true =>
      have hne : (b != k) = false := by show (!(b == k)) = false; rw [hbk]; rfl
      have HC2 : Hid (C = ((k, d), z)) := by show _ = _; rw [HC.out, hne]; rfl
      clear hne HC
      go_wp2_with fail
      (go_at_call 50; refine (HD.out W2).mono ?_; rintro e w' ⟨rfl, hx⟩; obtain rfl : W2 = w' := hx.symm)
      go_wp2_with fail
      (go_at_call 52; refine (HF.out W2).mono ?_; rintro e w3 ⟨A, rfl, hA, hcs, hb3⟩)
      have HB3 := hid_of (HB2.out.trans (hb3.mono HB2.out.size))
      have HK3 : Hid (w3.heap[w.heap.size]? = some (.cells #[.string ⟨#[]⟩, .string ⟨#[]⟩] 27 (0, 0))) := (hb3.block _ HZ2.out).trans HK2.out
      have HZ3 : Hid (w.heap.size < w3.heap.size) := Nat.lt_of_lt_of_le HZ2.out hb3.size
      have HJ3 := hid_of (HJ.out A w3 hA hcs)
      clear hb3 HB2 HK2 HZ2 HJ hA hcs
      go_wp2_with fail
      (go_at_call 51; refine HJ3.out.mono ?_; rintro e w4 ⟨rfl, hb4⟩)
      have HB4 := hid_of (HB3.out.trans (hb4.mono HB3.out.size))
      have HK4 : Hid (w4.heap[w.heap.size]? = some (.cells #[.string ⟨#[]⟩, .string ⟨#[]⟩] 27 (0, 0))) := (hb4.block _ HZ3.out).trans HK3.out
      clear hb4 HB3 HK3 HZ3 HJ3 x1
      have c40 : w4.cell? ⟨w.heap.size, 0, none⟩ = some (.string ⟨#[]⟩) := by rw [cell_of_row _ _ _ _ _ _ HK4.out]; rfl
      have c41 : w4.cell? ⟨w.heap.size, 1, none⟩ = some (.string ⟨#[]⟩) := by rw [cell_of_row _ _ _ _ _ _ HK4.out]; rfl
      have f40 : w4.frozen? ⟨w.heap.size, 0, none⟩ = false := by simp [World.frozen?, HK4.out]
      have f41 : w4.frozen? ⟨w.heap.size, 1, none⟩ = false := by simp [World.frozen?, HK4.out]
      go_wp2_with fail
      go_region
      all_goals go_wp2_with fail
      all_goals
        have hc0 : ((w4.setCell ⟨w.heap.size, 0, none⟩ (.string ⟨k.toArray⟩)).setCell ⟨w.heap.size, 1, none⟩ (.string ⟨d.toArray⟩)).cell? ⟨w.heap.size, 0, none⟩ = some (.string ⟨k.toArray⟩) := by rw [cs_other (by simp)]; exact cs_same c40
        have hc1 : ((w4.setCell ⟨w.heap.size, 0, none⟩ (.string ⟨k.toArray⟩)).setCell ⟨w.heap.size, 1, none⟩ (.string ⟨d.toArray⟩)).cell? ⟨w.heap.size, 1, none⟩ = some (.string ⟨d.toArray⟩) := cs_same (by rw [cs_other (by simp)]; exact c41)
        refine bodyPost_ret (results_cand rfl rfl hc0 hc1) rfl ?_
        exact ⟨by rw [HC2.out]; rfl, ((HB4.out.setCell (Nat.le_refl _) _).setCell (Nat.le_refl _) _).drew⟩
end Go.Proofs.YtmfhhpacojodkaaGreatDoor.L
