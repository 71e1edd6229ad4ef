/- What is proved here: laws and contracts of LkSetS, LpCand, one behind the other (each says its own). -/
import Derived.Test.YthjjigobkndgjaaGreatDoorBun15
import Derived.Lib.QuietBelow
import Derived.Deep.RegionHeld3
import Derived.BigQuiet
/- What is proved here: a srcset's candidates, one behind the other, as lists. No program in it. -/
namespace Go.Proofs.YthjjigobkndgjaaGreatDoor.L
open Go.RowKit Go.Shelf Go.Proofs.YthjjigobkndgjaaGreatDoor.N Go.Proofs.YthjjigobkndgjaaGreatDoor.U

/-- The candidate that a text begins with, and what is left. -/
def candK (r : List UInt8) : Two × List UInt8 :=
  if Lib.trimRightB (r.take (yesN gapS r)) 44 != r.take (yesN gapS r) then ((Lib.trimRightB (r.take (yesN gapS r)) 44, []), r.drop (yesN gapS r))
  else ((r.take (yesN gapS r), (sqF gapS ((r.drop (yesN gapS r)).take (descN (r.drop (yesN gapS r)) false))).1), (r.drop (yesN gapS r)).drop (descN (r.drop (yesN gapS r)) false))
def trimK (s : List UInt8) : List UInt8 := s.drop (noN betS s)
theorem while_stop (q : UInt8 → Bool) : ∀ (s : List UInt8) (c : UInt8) (t : List UInt8), s.drop (s.takeWhile q).length = c :: t → q c = false
  | [], c, t, h => by simp at h
  | a :: s, c, t, h => by
    cases ha : q a with
    | true =>
      rw [List.takeWhile_cons, if_pos ha, List.length_cons, List.drop_succ_cons] at h
      exact while_stop q s c t h
    | false =>
      rw [List.takeWhile_cons, if_neg (by rw [ha]; decide)] at h
      simp at h
      rw [← h.1]; exact ha
theorem trimK_head (s : List UInt8) (c : UInt8) (t : List UInt8) (h : trimK s = c :: t) : gapS c = false ∧ (c == 44) = false := by
  have := while_stop betS s c t h
  unfold betS at this
  simpa using this
theorem yesN_pos (c : UInt8) (t : List UInt8) (h : gapS c = false) : 1 ≤ yesN gapS (c :: t) := by
  unfold yesN
  rw [List.takeWhile_cons, if_pos (by rw [h]; rfl), List.length_cons]
  omega
theorem cand_less (c : UInt8) (t : List UInt8) (h : gapS c = false) : (candK (c :: t)).2.length < (c :: t).length := by
  have h1 := yesN_pos c t h
  have h2 := yesN_le gapS (c :: t)
  unfold candK
  split
  · simp only [List.length_drop]; omega
  · simp only [List.length_drop]; omega
theorem trimK_le (s : List UInt8) : (trimK s).length ≤ s.length := by unfold trimK; rw [List.length_drop]; omega
def srcF : Nat → List UInt8 → List Two × Bool
  | 0, _ => ([], true)
  | f + 1, s => match trimK s with
    | [] => ([], true)
    | c :: t => ((candK (c :: t)).1 :: (srcF f (candK (c :: t)).2).1, goodP (candK (c :: t)).1.2 && (srcF f (candK (c :: t)).2).2)
theorem srcF_enough : ∀ (n : Nat) (s : List UInt8), s.length ≤ n → ∀ f, n < f → srcF f s = srcF (n + 1) s
  | n, s, hn, 0, hf => by omega
  | n, s, hn, f + 1, hf => by
    unfold srcF
    cases ht : trimK s with
    | nil => rfl
    | cons c t =>
      simp only
      obtain ⟨hg, _⟩ := trimK_head s c t ht
      have hl := cand_less c t hg
      have hle := trimK_le s
      rw [ht] at hle
      cases n with
      | zero => simp at hle; omega
      | succ n =>
        have h1 := srcF_enough n (candK (c :: t)).2 (by omega) f (by omega)
        rw [h1]
/-- The candidates of a text that is mended, and whether each one is good. -/
def srcK (s : List UInt8) : List Two × Bool := srcF (s.length + 1) s
theorem srcK_nil (s : List UInt8) (h : trimK s = []) : srcK s = ([], true) := by unfold srcK srcF; rw [h]
theorem srcK_step (s : List UInt8) (h : trimK s ≠ []) : srcK s = ((candK (trimK s)).1 :: (srcK (candK (trimK s)).2).1, goodP (candK (trimK s)).1.2 && (srcK (candK (trimK s)).2).2) ∧ (candK (trimK s)).2.length < s.length := by
  cases ht : trimK s with
  | nil => exact absurd ht h
  | cons c t =>
    obtain ⟨hg, _⟩ := trimK_head s c t ht
    have hl := cand_less c t hg
    have hle := trimK_le s
    rw [ht] at hle
    refine ⟨?_, by omega⟩
    have e : srcF s.length (candK (c :: t)).2 = srcK (candK (c :: t)).2 := srcF_enough _ _ (Nat.le_refl _) s.length (by omega)
    unfold srcK
    rw [srcF, ht]
    simp only
    rw [e]
    rfl
theorem srcF_le : ∀ (f : Nat) (s : List UInt8), (srcF f s).1.length ≤ f
  | 0, _ => by simp [srcF]
  | f + 1, s => by
    unfold srcF
    cases trimK s with
    | nil => simp
    | cons c t => have := srcF_le f (candK (c :: t)).2; simp; omega
/-- A srcset of candidates. -/
def cC (l : List Two) (i : Nat) : List UInt8 := (if i = 0 then [] else [44, 32]) ++ mendL (l.getD i ([], [])).1 ++ (if (l.getD i ([], [])).2 == [] then [] else [32] ++ mendL (l.getD i ([], [])).2)
def cPre (l : List Two) (k : Nat) : List UInt8 := (List.range k).flatMap (cC l)
theorem cPre_succ (l : List Two) (k : Nat) : cPre l (k + 1) = cPre l k ++ cC l k := by
  unfold cPre
  rw [List.range_succ, List.flatMap_append]
  simp
def setK (l : List Two) : List UInt8 := cPre l l.length
theorem cC_le (l : List Two) (N i : Nat) (hN : ∀ x ∈ l, x.1.length + x.2.length ≤ N) : (cC l i).length ≤ 4 * N + 3 := by
  have hx : (l.getD i ([], [])).1.length + (l.getD i ([], [])).2.length ≤ N := by
    by_cases h : i < l.length
    · rw [List.getD_eq_getElem?_getD, List.getElem?_eq_getElem h]
      exact hN _ (List.getElem_mem h)
    · rw [List.getD_eq_getElem?_getD, List.getElem?_eq_none (by omega)]
      simp
  have h1 := mend_le (l.getD i ([], [])).1
  have h2 := mend_le (l.getD i ([], [])).2
  have hd : (if i = 0 then ([] : List UInt8) else [44, 32]).length ≤ 2 := by split <;> simp
  have hd2 : (if (l.getD i ([], [])).2 == [] then ([] : List UInt8) else [32] ++ mendL (l.getD i ([], [])).2).length ≤ 1 + (mendL (l.getD i ([], [])).2).length := by split <;> simp <;> omega
  unfold cC
  simp only [List.length_append]
  omega
theorem cPre_le (l : List Two) (N : Nat) (hN : ∀ x ∈ l, x.1.length + x.2.length ≤ N) : ∀ k, (cPre l k).length ≤ k * (4 * N + 3)
  | 0 => by simp [cPre]
  | k + 1 => by
    have h1 := cPre_le l N hN k
    have h2 := cC_le l N k hN
    rw [cPre_succ, List.length_append, Nat.succ_mul]
    omega
end Go.Proofs.YthjjigobkndgjaaGreatDoor.L

/- What is proved here: the contract of link.candidate: the one that a text begins with, and what is left behind it. -/
namespace Go.Proofs.YthjjigobkndgjaaGreatDoor.L
open Go.RowKit Go.Shelf Go.Proofs.YthjjigobkndgjaaGreatDoor.N Go.Proofs.YthjjigobkndgjaaGreatDoor.U

def candV (x : Two × List UInt8) : Value := .tuple #[.agg #[.string ⟨x.1.1.toArray⟩, .string ⟨x.1.2.toArray⟩], .string ⟨x.2.toArray⟩]
theorem results_cand {tmps : Array Value} {W : World} {A : Nat} {v0 v1 v3 : Value} (h2 : tmps[2]?.getD undef = .pointer (some ⟨A, 0, none⟩)) (h3 : tmps[3]?.getD undef = v3) (c0 : W.cell? ⟨A, 0, none⟩ = some v0) (c1 : W.cell? ⟨A, 1, none⟩ = some v1) :
    (results Tryz.f23 tmps).run Tryz.prog W = .ok (.tuple #[.agg #[v0, v1], v3]) W := by
  simp [results, Tryz.results23, go_sem, h2, h3, c0, c1]
set_option maxRecDepth 100000 in
set_option maxHeartbeats 4000000 in
/-- **candidate.** -/
theorem candidate_calls (r : List UInt8) (w : World) (hl : r.length ≤ 1000000000) : Calls Tryz.prog 23 #[.string ⟨r.toArray⟩] w fun e w' => e = .returned (candV (candK r)) ∧ Below w.heap.size w w' := by
  have mixed : Tryz.prog.follows .mixedOrders = true := by kernel_rfl
  have ss := arr_size r
  have hle := yesN_le gapS r
  have HI := hid_of (fun W => indexGap_calls r W)
  have HC : Hid (candK r = if Lib.trimRightB (r.take (yesN gapS r)) 44 != r.take (yesN gapS r) then ((Lib.trimRightB (r.take (yesN gapS r)) 44, []), r.drop (yesN gapS r))
    else ((r.take (yesN gapS r), (sqF gapS ((r.drop (yesN gapS r)).take (descN (r.drop (yesN gapS r)) false))).1), (r.drop (yesN gapS r)).drop (descN (r.drop (yesN gapS r)) false))) := rfl
  obtain ⟨n, hn⟩ : ∃ n, yesN gapS r = n := ⟨_, rfl⟩
  rw [hn] at hle HI HC
  clear hn
  have y1 := slice_h r n hle (n : Int) rfl
  have y2 := slice_l r n hle (n : Int) rfl
  have hkl : (r.take n).length ≤ 1000000000 := by rw [List.length_take]; omega
  have hql : (r.drop n).length ≤ 1000000000 := by rw [List.length_drop]; omega
  obtain ⟨k, hk⟩ : ∃ k, r.take n = k := ⟨_, rfl⟩
  obtain ⟨q, hq⟩ : ∃ q, r.drop n = q := ⟨_, rfl⟩
  rw [hk] at y1 hkl HC
  rw [hq] at y2 hql HC
  clear hk hq
  have HT := hid_of (fun W => trimComma_calls k W (by omega))
  obtain ⟨b, hb⟩ : ∃ b, Lib.trimRightB k 44 = b := ⟨_, rfl⟩
  rw [hb] at HT HC
  clear hb
  have hde := descN_le q false
  have HD := hid_of (fun W => descEnd_calls q W (by omega))
  obtain ⟨e, he⟩ : ∃ e, descN q false = e := ⟨_, rfl⟩
  rw [he] at hde HD HC
  clear he
  have sq := arr_size q
  have x1 := slice_h q e hde (e : Int) rfl
  have x2 := slice_l q e hde (e : Int) rfl
  have hel : (q.take e).length ≤ 1000000000 := by rw [List.length_take]; omega
  obtain ⟨p, hp⟩ : ∃ p, q.take e = p := ⟨_, rfl⟩
  obtain ⟨z, hz⟩ : ∃ z, q.drop e = z := ⟨_, rfl⟩
  rw [hp] at x1 hel HC
  rw [hz] at x2 HC
  clear hp hz
  have HF := hid_of (fun W => fieldsGap_calls p W (by omega))
  have HJ := hid_of (fun A W h1 h2 => joinWords_calls p A W (by omega) h1 h2)
  obtain ⟨d, hd⟩ : ∃ d, (sqF gapS p).1 = d := ⟨_, rfl⟩
  rw [hd] at HJ HC
  clear hd
  obtain ⟨C, hC⟩ : ∃ C, candK r = C := ⟨_, rfl⟩
  rw [hC] at HC ⊢
  clear hC
  have HIF : ∃ x : Int, (if n < r.length then (n : Int) else -1) = x ∧ ((decide (x < 0) = false ∧ x = (n : Int)) ∨ (decide (x < 0) = true ∧ n = r.length)) := by
    by_cases h : n < r.length
    · exact ⟨n, by rw [if_pos h], .inl ⟨by rw [decide_eq_false_iff_not]; omega, rfl⟩⟩
    · exact ⟨-1, by rw [if_neg h], .inr ⟨by decide, by omega⟩⟩
  obtain ⟨x, hx, hcase⟩ := HIF
  rw [hx] at HI
  clear hx
  obtain ⟨W0, hW0⟩ : ∃ W0, w.alloc (.cells #[.string ⟨#[]⟩, .string ⟨#[]⟩] 27) = W0 := ⟨_, rfl⟩
  have HB0 : Hid (Below w.heap.size w W0) := by rw [← hW0]; exact (Below.refl _ w).alloc (Nat.le_refl _) _
  have HK0 : Hid (W0.heap[w.heap.size]? = some (.cells #[.string ⟨#[]⟩, .string ⟨#[]⟩] 27 (0, 0))) := by rw [← hW0]; exact World.alloc_heap_new w _
  have HZ0 : Hid (w.heap.size < W0.heap.size) := by rw [← hW0]; show _ < _; simp
  have HW0 := hid_of hW0
  clear hW0
  rcases hcase with ⟨c0, hxp⟩ | ⟨c0, hps⟩
  case' inl => rw [hxp] at HI c0; clear hxp
  case' inr => subst hps
  all_goals go_enter Tryz.func23, Tryz.ntmps23
  all_goals go_wp2_with fail
  all_goals rw [HW0.out]
  all_goals (go_at_call 53; refine (HI.out W0).mono ?_; rintro e w1 ⟨rfl, hb1⟩)
  all_goals have HB1 := hid_of (HB0.out.trans (hb1.mono HB0.out.size))
  all_goals have HK1 : Hid (w1.heap[w.heap.size]? = some (.cells #[.string ⟨#[]⟩, .string ⟨#[]⟩] 27 (0, 0))) := (hb1.block _ HZ0.out).trans HK0.out
  all_goals have HZ1 : Hid (w.heap.size < w1.heap.size) := Nat.lt_of_lt_of_le HZ0.out hb1.size
  all_goals clear hb1 HB0 HK0 HZ0 HW0 HI
  all_goals go_wp2_with fail
  all_goals have D1 : ∀ dd os, Below w1.heap.size w1 (Go.Sort.grow (redrawn w1 dd) os) := fun dd os => below_regrown w1 dd os
  all_goals refine wp_region_quiet_below mixed (by kernel_rfl) ?_
  all_goals repeat (go_big_quiet_step (fail))
  all_goals refine wpQuiet_nil ?_
  all_goals intro W2 hw'
  all_goals obtain ⟨⟨dq, osq⟩, hw''⟩ := hw'
  all_goals have hb2 : Below w1.heap.size w1 W2 := by rw [hw'']; exact D1 dq osq
  all_goals have HB2 := hid_of (HB1.out.trans (hb2.mono HB1.out.size))
  all_goals have HK2 : Hid (W2.heap[w.heap.size]? = some (.cells #[.string ⟨#[]⟩, .string ⟨#[]⟩] 27 (0, 0))) := (hb2.block _ HZ1.out).trans HK1.out
  all_goals have HZ2 : Hid (w.heap.size < W2.heap.size) := Nat.lt_of_lt_of_le HZ1.out hb2.size
  all_goals clear hw'' D1 hb2 HB1 HK1 HZ1 y1 y2 c0
  all_goals go_wp2_with fail
  all_goals (go_at_call 54; refine (HT.out W2).mono ?_; rintro e w' ⟨rfl, hx⟩; obtain rfl : W2 = w' := hx.symm)
  all_goals cases hbk : (b == k) with
    | false =>
      have hne : (b != k) = true := by show (!(b == k)) = true; rw [hbk]; rfl
      have HC2 : Hid (C = ((b, []), q)) := by show _ = _; rw [HC.out, hne]; rfl
      have c20 : W2.cell? ⟨w.heap.size, 0, none⟩ = some (.string ⟨#[]⟩) := by rw [cell_of_row _ _ _ _ _ _ HK2.out]; rfl
      have c21 : W2.cell? ⟨w.heap.size, 1, none⟩ = some (.string ⟨#[]⟩) := by rw [cell_of_row _ _ _ _ _ _ HK2.out]; rfl
      have f20 : W2.frozen? ⟨w.heap.size, 0, none⟩ = false := by simp [World.frozen?, HK2.out]
      have f21 : W2.frozen? ⟨w.heap.size, 1, none⟩ = false := by simp [World.frozen?, HK2.out]
      clear hne
      go_wp2_with fail
      refine bodyPost_ret (results_cand rfl rfl (by rw [cs_other (by simp)]; exact cs_same c20) (cs_same (by rw [cs_other (by simp)]; exact c21))) rfl ?_
      exact ⟨by rw [HC2.out]; rfl, (HB2.out.setCell (Nat.le_refl _) _).setCell (Nat.le_refl _) _⟩
    | true =>
      have hne : (b != k) = false := by show (!(b == k)) = false; rw [hbk]; rfl
      have HC2 : Hid (C = ((k, d), z)) := by show _ = _; rw [HC.out, hne]; rfl
      clear hne HC
      go_wp2_with fail
      (go_at_call 55; refine (HD.out W2).mono ?_; rintro e w' ⟨rfl, hx⟩; obtain rfl : W2 = w' := hx.symm)
      go_wp2_with fail
      (go_at_call 57; refine (HF.out W2).mono ?_; rintro e w3 ⟨A, rfl, hA, hcs, hb3⟩)
      have HB3 := hid_of (HB2.out.trans (hb3.mono HB2.out.size))
      have HK3 : Hid (w3.heap[w.heap.size]? = some (.cells #[.string ⟨#[]⟩, .string ⟨#[]⟩] 27 (0, 0))) := (hb3.block _ HZ2.out).trans HK2.out
      have HZ3 : Hid (w.heap.size < w3.heap.size) := Nat.lt_of_lt_of_le HZ2.out hb3.size
      have HJ3 := hid_of (HJ.out A w3 hA hcs)
      clear hb3 HB2 HK2 HZ2 HJ hA hcs
      go_wp2_with fail
      (go_at_call 56; refine HJ3.out.mono ?_; rintro e w4 ⟨rfl, hb4⟩)
      have HB4 := hid_of (HB3.out.trans (hb4.mono HB3.out.size))
      have HK4 : Hid (w4.heap[w.heap.size]? = some (.cells #[.string ⟨#[]⟩, .string ⟨#[]⟩] 27 (0, 0))) := (hb4.block _ HZ3.out).trans HK3.out
      clear hb4 HB3 HK3 HZ3 HJ3 x1
      have c40 : w4.cell? ⟨w.heap.size, 0, none⟩ = some (.string ⟨#[]⟩) := by rw [cell_of_row _ _ _ _ _ _ HK4.out]; rfl
      have c41 : w4.cell? ⟨w.heap.size, 1, none⟩ = some (.string ⟨#[]⟩) := by rw [cell_of_row _ _ _ _ _ _ HK4.out]; rfl
      have f40 : w4.frozen? ⟨w.heap.size, 0, none⟩ = false := by simp [World.frozen?, HK4.out]
      have f41 : w4.frozen? ⟨w.heap.size, 1, none⟩ = false := by simp [World.frozen?, HK4.out]
      go_wp2_with fail
      go_region
      all_goals go_wp2_with fail
      all_goals
        have hc0 : ((w4.setCell ⟨w.heap.size, 0, none⟩ (.string ⟨k.toArray⟩)).setCell ⟨w.heap.size, 1, none⟩ (.string ⟨d.toArray⟩)).cell? ⟨w.heap.size, 0, none⟩ = some (.string ⟨k.toArray⟩) := by rw [cs_other (by simp)]; exact cs_same c40
        have hc1 : ((w4.setCell ⟨w.heap.size, 0, none⟩ (.string ⟨k.toArray⟩)).setCell ⟨w.heap.size, 1, none⟩ (.string ⟨d.toArray⟩)).cell? ⟨w.heap.size, 1, none⟩ = some (.string ⟨d.toArray⟩) := cs_same (by rw [cs_other (by simp)]; exact c41)
        refine bodyPost_ret (results_cand rfl rfl hc0 hc1) rfl ?_
        exact ⟨by rw [HC2.out]; rfl, ((HB4.out.setCell (Nat.le_refl _) _).setCell (Nat.le_refl _) _).drew⟩
end Go.Proofs.YthjjigobkndgjaaGreatDoor.L
