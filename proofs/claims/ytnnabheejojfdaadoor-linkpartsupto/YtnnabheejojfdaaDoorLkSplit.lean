/- What is proved here: the contract of the document's Split of layer 12: a link in its parts. -/
import Derived.Test.YtnnabheejojfdaaDoorLkBlk
namespace Go.Proofs.YtnnabheejojfdaaDoor.L
open Go.RowKit Go.Shelf Go.Proofs.YtnnabheejojfdaaDoor.N Go.Proofs.YtnnabheejojfdaaDoor.U

theorem results_rsplit {tmps : Array Value} {W : World} {A : Nat} {v0 v1 v2 v3 v4 v5 v6 v7 v8 : Value} {t : TypeId} (h2 : tmps[2]?.getD undef = .pointer (some ⟨A, 0, none⟩)) (h : Blk W A #[v0, v1, v2, v3, v4, v5, v6, v7, v8] t) :
    (results Tryd.f19 tmps).run Tryd.prog W = .ok (.agg #[v0, v1, v2, v3, v4, v5, v6, v7, v8]) W := by
  obtain ⟨c0, c1, c2, c3, c4, c5, c6, c7, c8, -⟩ := h.nine
  simp [results, Tryd.results19, go_sem, h2, c0, c1, c2, c3, c4, c5, c6, c7, c8]
theorem rlower_text (x : List UInt8) (W : World) (hx : x.length ≤ 4000000000) : Calls Tryd.prog 49 #[.string ⟨x.toArray⟩] W fun e W' => e = .returned (.string ⟨(lower x).toArray⟩) ∧ Below W.heap.size W W' :=
  N.rlower_calls ⟨x.toArray⟩ W (by rw [arr_size]; omega)
theorem take_app (a b : List UInt8) : (a ++ b).take a.length = a := by simp
theorem drop_app (a b : List UInt8) : (a ++ b).drop a.length = b := by simp
/-- What stands ahead of the path. -/
theorem host_part {r B Q F : List UInt8} (h : Three r B Q F) (C : List UInt8) (e : B = 47 :: 47 :: C) : 1 < r.length ∧ r.getD 0 0 = 47 ∧ r.getD 1 0 = 47 ∧ upToL [47, 63, 35] (r.drop 2) = upToL [47] C ∧ (r.take (2 + upToL [47] C)).drop 2 = C.take (upToL [47] C) ∧ r.drop (2 + upToL [47] C) = C.drop (upToL [47] C) ++ (Q ++ F) ∧ 2 + upToL [47] C ≤ r.length := by
  have hh := h.host C (fun c hc => by rw [e]; simp [hc])
  have hle := upToL_le [47] C
  have ha := h.all
  rw [e] at ha
  generalize upToL [47] C = m at *
  have ha' : r = 47 :: 47 :: (C ++ (Q ++ F)) := by rw [ha]; rfl
  subst ha'
  refine ⟨by simp, rfl, rfl, hh, ?_, ?_, by simp; omega⟩
  · rw [show 2 + m = m + 2 by omega]
    simp only [List.take_succ_cons, List.drop_succ_cons, List.drop_zero]
    rw [List.take_append_of_le_length hle]
  · rw [show 2 + m = m + 2 by omega]
    simp only [List.drop_succ_cons]
    rw [List.drop_append_of_le_length hle]
theorem path_part {r B Q F : List UInt8} (h : Three r B Q F) (P : List UInt8) (hP : ∀ c ∈ P, c ∈ B) : upToL [63, 35] (P ++ (Q ++ F)) = P.length ∧ (P ++ (Q ++ F)).take P.length = P ∧ (P ++ (Q ++ F)).drop P.length = Q ++ F := ⟨h.path P hP, take_app _ _, drop_app _ _⟩
-- GEN
set_option maxRecDepth 100000 in
set_option maxHeartbeats 8000000 in
/-- **The document's Split.** -/
theorem rsplit_calls (bs : List UInt8) (w : World) (hl : bs.length ≤ 1000000000) : Calls Tryd.prog 19 #[.string ⟨bs.toArray⟩] w fun e W' => e = .returned (splitK (stripL bs)).v ∧ Below w.heap.size w W' := by
  have HS : Hid (∀ W, Calls Tryd.prog 47 #[.string ⟨bs.toArray⟩] W fun e W' => e = .returned (.string ⟨(stripL bs).toArray⟩) ∧ Below W.heap.size W W') := fun W => rstrip_calls bs W (by omega)
  have hsl := stripL_le bs
  obtain ⟨s, hs⟩ : ∃ s, stripL bs = s := ⟨_, rfl⟩
  rw [hs] at HS hsl ⊢
  clear hs
  have hsl4 : s.length ≤ 4000000000 := by omega
  have HCO := hid_of (fun W => colon_calls s W (by omega))
  have HLO : Hid (∀ (x : List UInt8) W, x.length ≤ 4000000000 → Calls Tryd.prog 49 #[.string ⟨x.toArray⟩] W fun e W' => e = .returned (.string ⟨(lower x).toArray⟩) ∧ Below W.heap.size W W') := fun x W hx => rlower_text x W hx
  have HUP : Hid (∀ (x so : List UInt8) (k : Nat) W, x.length ≤ 4000000000 → so.length ≤ 3 → upToL so x = k → Calls Tryd.prog 50 #[.string ⟨x.toArray⟩, .string ⟨so.toArray⟩] W fun e w' => e = .returned (.int .i64 k) ∧ Below W.heap.size W w') := fun x so k W hx hso hk => by
    have := upTo_calls x so W (by omega) (by omega)
    rw [hk] at this
    exact this
  have HA0 : Hid (Blk (w.alloc (.cells noLink 40)) w.heap.size noLink 40) := Blk.new w _ _
  have HB0 : Hid (Below w.heap.size w (w.alloc (.cells noLink 40))) := (Below.refl _ w).alloc (Nat.le_refl _) _
  unfold noLink at HA0 HB0
  obtain ⟨V, hV⟩ : ∃ V, (splitK s).v = V := ⟨_, rfl⟩
  rw [hV]
  cases hc : colonL s
  case none =>
    have ecz : colonZ s = -1 := by unfold colonZ; rw [hc]
    rw [ecz] at HCO
    have HV0 : Hid (V = (partsK [] false s).v) := by show _ = _; rw [← hV, split_none hc]
    obtain ⟨r, rfl⟩ : ∃ r, r = s := ⟨_, rfl⟩
    have hrl : r.length ≤ 4000000000 := hsl4
    clear ecz hc hsl hV HLO
    go_enter Tryd.func19, Tryd.ntmps19
    go_wp2_with fail
    (go_at_call 47; refine (HS.out _).mono ?_; rintro e w1 ⟨rfl, h1⟩)
    have HK0 := hid_of (HA0.out.below h1)
    have HB := hid_of (HB0.out.trans (h1.mono HB0.out.size))
    have hLg : w.heap.size < w1.heap.size := HK0.out.lt
    clear h1 HB0 HA0
    go_wp2_with fail
    (go_at_call 48; refine (HCO.out _).mono ?_; rintro e w' ⟨rfl, hx⟩; subst hx)
    have HK01 := hid_of (HK0.out.alloc (.cells noLink 40))
    have HK1 := hid_of (Blk.new w1 noLink 40)
    have HB1 := hid_of (HB.out.alloc HB.out.size (.cells noLink 40))
    unfold noLink at HK01 HK1 HB1
    clear HK0 HB HCO
    obtain ⟨L, hL⟩ : ∃ L, w1.heap.size = L := ⟨_, rfl⟩
    rw [hL] at hLg HK1 ⊢
    clear hL
    generalize w1.alloc (.cells #[.string ⟨#[]⟩, .string ⟨#[]⟩, .string ⟨#[]⟩, .string ⟨#[]⟩, .string ⟨#[]⟩, .bool false, .bool false, .bool false, .bool false] 40) = w2 at *
    obtain ⟨sc, hsc⟩ : ∃ sc : List UInt8, [] = sc := ⟨_, rfl⟩
    obtain ⟨hb, hhb⟩ : ∃ hb, false = hb := ⟨_, rfl⟩
    have HKL : Hid (Blk w2 L #[.string ⟨sc.toArray⟩, .string ⟨#[]⟩, .string ⟨#[]⟩, .string ⟨#[]⟩, .string ⟨#[]⟩, .bool hb, .bool false, .bool false, .bool false] 40) := by rw [← hsc, ← hhb]; exact HK1
    have HV := HV0
    rw [hsc, hhb] at HV
    have HKG := HK01
    have HB := HB1
    clear hsc hhb HK1 HV0 HK01 HB1
    have hgL : w.heap.size ≠ L := by omega
    have hgl : w.heap.size ≤ L := by omega
    obtain ⟨B, Q, F, h3, eV⟩ := parts_three sc hb r
    have HVV := hid_of (HV.out.trans eV)
    have sr := arr_size r
    clear HV eV
    rcases hostK_cases B with ⟨k1, k2, k3⟩ | ⟨C, eB, hC⟩
    · obtain ⟨p1, p2, p3⟩ := path_part h3 B (fun c hc => hc)
      rw [k1, k2, k3] at HVV
      rw [← h3.all] at p1 p2 p3
      have hBl : B.length ≤ r.length := by rw [h3.all]; simp
      have hu := HUP.out r [63, 35] B.length
      have HU := hid_of (fun W => hu W hrl (by decide) p1)
      have z1 := slice_h r B.length hBl (B.length : Int) rfl
      have z2 := slice_l r B.length hBl (B.length : Int) rfl
      rw [p2] at z1
      rw [p3] at z2
      have hno := nohost_r h3 k1
      have H3 := hid_of h3
      have htl2 : (Q ++ F).length ≤ 4000000000 := by have := congrArg List.length h3.all; simp at this ⊢; omega
      clear p1 p2 p3 hu k1 k2 k3 h3
      rcases hno with n1 | ⟨n1, n2⟩ | ⟨n1, n2, n3⟩
      case' inl =>
        have g1 : decide ((r.length : Int) > 1) = false := by simp; omega
      case' inr.inl =>
        have g1 : decide ((r.length : Int) > 1) = true := by simp; omega
        have y0 := byte_at r 0 (r.getD 0 0) (by omega) rfl 0 rfl
        have g2 : (((r.getD 0 0).toNat : Int) == 47) = false := by rw [← n2]; exact eq_byte _ 47
        generalize r.getD 0 0 = b0 at y0 g2
      case' inr.inr =>
        have g1 : decide ((r.length : Int) > 1) = true := by simp; omega
        have y0 := byte_at r 0 (r.getD 0 0) (by omega) rfl 0 rfl
        have g2 : (((r.getD 0 0).toNat : Int) == 47) = true := by rw [← n2]; exact eq_byte _ 47
        have y1 := byte_at r 1 (r.getD 1 0) (by omega) rfl 1 rfl
        have g3 : (((r.getD 1 0).toNat : Int) == 47) = false := by rw [← n3]; exact eq_byte _ 47
        generalize r.getD 0 0 = b0 at y0 g2
        generalize r.getD 1 0 = b1 at y1 g3
      all_goals
        go_wp2_with fail
        (go_at_call 50; refine (HU.out _).mono ?_; rintro e w4 ⟨rfl, h4⟩)
        have HKGn := hid_of (HKG.out.below h4)
        have HKLn : Hid (Blk _ L #[.string ⟨sc.toArray⟩, .string ⟨#[]⟩, .string ⟨#[]⟩, .string ⟨#[]⟩, .string ⟨#[]⟩, .bool hb, .bool false, .bool false, .bool false] 40) := Blk.below HKL.out h4
        have HBn := hid_of (HB.out.trans (h4.mono HB.out.size))
        clear HKG HKL HB h4
        try clear c0 c1 c2 c3 c4 c5 c6 c7 c8 fz
        try clear d0 d1 d2 d3 d4 d5 d6 d7 d8 dz
        rename Hid (Blk _ w.heap.size _ _) => HKG
        rename Hid (Blk _ L _ _) => HKL
        rename Hid (Below w.heap.size w _) => HB
        obtain ⟨c0, c1, c2, c3, c4, c5, c6, c7, c8, fz⟩ := HKL.out.nine
        obtain ⟨d0, d1, d2, d3, d4, d5, d6, d7, d8, dz⟩ := HKG.out.nine
        rcases H3.out.isQ with e | ⟨q, e⟩ <;> rcases H3.out.isF with e' | ⟨f, e'⟩ <;> subst e <;> subst e'
        · simp only [List.nil_append] at z2
          go_wp2_with fail
          exact bodyPost_ret (results_rsplit rfl (Blk.put9 (HKG.out.other hgL 2 _) _ _ _ _ _ _ _ _ _)) rfl ⟨congrArg Ending.returned HVV.out.symm, below_put9 (below_setCell HB.out hgl 2 _) (Nat.le_refl _) _ _ _ _ _ _ _ _ _⟩
        · simp only [List.nil_append] at z2
          have y2 := byte_at (35 :: f) 0 35 (by simp) rfl 0 rfl
          have z3 := slice_l (35 :: f) 1 (by simp) 1 rfl
          rw [show (35 :: f).drop 1 = f from rfl] at z3
          obtain ⟨t, ht⟩ : ∃ t, 35 :: f = t := ⟨_, rfl⟩
          have hne : (t == []) = false := by rw [← ht]; rfl
          rw [ht] at z2 y2 z3
          clear ht
          go_wp2_with fail
          exact bodyPost_ret (results_rsplit rfl (Blk.put9 (((HKG.out.other hgL 2 _).other hgL 4 _).other hgL 8 _) _ _ _ _ _ _ _ _ _)) rfl ⟨congrArg Ending.returned HVV.out.symm, below_put9 (below_setCell (below_setCell (below_setCell HB.out hgl 2 _) hgl 4 _) hgl 8 _) (Nat.le_refl _) _ _ _ _ _ _ _ _ _⟩
        · have hq := H3.out.query
          have y2 := byte_at (63 :: (q ++ ([] : List UInt8))) 0 63 (by simp) rfl 0 rfl
          have z3 := slice_lh (63 :: (q ++ ([] : List UInt8))) 1 (q.length + 1) (by omega) (by simp) 1 ((q.length : Int) + 1) rfl (by omega)
          have z4 := slice_l (63 :: (q ++ ([] : List UInt8))) (q.length + 1) (by simp) ((q.length : Int) + 1) (by omega)
          rw [show ((63 :: (q ++ ([] : List UInt8))).take (q.length + 1)).drop 1 = q by simp] at z3
          rw [show (63 :: (q ++ ([] : List UInt8))).drop (q.length + 1) = [] by simp] at z4
          have hu := HUP.out (63 :: (q ++ ([] : List UInt8))) [35] (q.length + 1)
          have HU3 := hid_of (fun W => hu W (by simpa using htl2) (by decide) hq)
          rw [List.cons_append] at z2
          obtain ⟨t, ht⟩ : ∃ t, 63 :: (q ++ ([] : List UInt8)) = t := ⟨_, rfl⟩
          have hne : (t == []) = false := by rw [← ht]; rfl
          rw [ht] at z2 y2 z3 z4 HU3
          have hcast : ((q.length + 1 : Nat) : Int) = (q.length : Int) + 1 := by omega
          rw [hcast] at HU3
          clear ht hq hu hcast
          go_wp2_with fail
          (go_at_call 50; refine (HU3.out _).mono ?_; rintro e w6 ⟨rfl, h6⟩)
          have HKGn := hid_of ((HKG.out.other hgL 2 (.string ⟨B.toArray⟩)).below h6)
          have HKLn : Hid (Blk _ L #[.string ⟨sc.toArray⟩, .string ⟨#[]⟩, .string ⟨B.toArray⟩, .string ⟨#[]⟩, .string ⟨#[]⟩, .bool hb, .bool false, .bool false, .bool false] 40) := Blk.below (HKL.out.set 2 (.string ⟨B.toArray⟩)) h6
          have HBn := hid_of ((below_setCell HB.out hgl 2 (.string ⟨B.toArray⟩)).trans (h6.mono (by have := HB.out.size; simpa [World.setCell] using this)))
          clear HKG HKL HB h6
          try clear c0 c1 c2 c3 c4 c5 c6 c7 c8 fz
          try clear d0 d1 d2 d3 d4 d5 d6 d7 d8 dz
          rename Hid (Blk _ w.heap.size _ _) => HKG
          rename Hid (Blk _ L _ _) => HKL
          rename Hid (Below w.heap.size w _) => HB
          obtain ⟨c0, c1, c2, c3, c4, c5, c6, c7, c8, fz⟩ := HKL.out.nine
          obtain ⟨d0, d1, d2, d3, d4, d5, d6, d7, d8, dz⟩ := HKG.out.nine
          go_wp2_with fail
          exact bodyPost_ret (results_rsplit rfl (Blk.put9 ((HKG.out.other hgL 3 _).other hgL 7 _) _ _ _ _ _ _ _ _ _)) rfl ⟨congrArg Ending.returned HVV.out.symm, below_put9 (below_setCell (below_setCell HB.out hgl 3 _) hgl 7 _) (Nat.le_refl _) _ _ _ _ _ _ _ _ _⟩
        · have hq := H3.out.query
          have y2 := byte_at (63 :: (q ++ 35 :: f)) 0 63 (by simp) rfl 0 rfl
          have z3 := slice_lh (63 :: (q ++ 35 :: f)) 1 (q.length + 1) (by omega) (by simp) 1 ((q.length : Int) + 1) rfl (by omega)
          have z4 := slice_l (63 :: (q ++ 35 :: f)) (q.length + 1) (by simp) ((q.length : Int) + 1) (by omega)
          rw [show ((63 :: (q ++ 35 :: f)).take (q.length + 1)).drop 1 = q by simp] at z3
          rw [show (63 :: (q ++ 35 :: f)).drop (q.length + 1) = 35 :: f by simp] at z4
          have hu := HUP.out (63 :: (q ++ 35 :: f)) [35] (q.length + 1)
          have HU3 := hid_of (fun W => hu W (by simpa using htl2) (by decide) hq)
          rw [List.cons_append] at z2
          obtain ⟨t, ht⟩ : ∃ t, 63 :: (q ++ 35 :: f) = t := ⟨_, rfl⟩
          have hne : (t == []) = false := by rw [← ht]; rfl
          rw [ht] at z2 y2 z3 z4 HU3
          have hcast : ((q.length + 1 : Nat) : Int) = (q.length : Int) + 1 := by omega
          rw [hcast] at HU3
          have z5 := slice_l (35 :: f) 1 (by simp) 1 rfl
          rw [show (35 :: f).drop 1 = f from rfl] at z5
          obtain ⟨t3, ht3⟩ : ∃ t3, 35 :: f = t3 := ⟨_, rfl⟩
          have hne3 : (t3 == []) = false := by rw [← ht3]; rfl
          rw [ht3] at z4 z5
          clear ht3
          clear ht hq hu hcast
          go_wp2_with fail
          (go_at_call 50; refine (HU3.out _).mono ?_; rintro e w6 ⟨rfl, h6⟩)
          have HKGn := hid_of ((HKG.out.other hgL 2 (.string ⟨B.toArray⟩)).below h6)
          have HKLn : Hid (Blk _ L #[.string ⟨sc.toArray⟩, .string ⟨#[]⟩, .string ⟨B.toArray⟩, .string ⟨#[]⟩, .string ⟨#[]⟩, .bool hb, .bool false, .bool false, .bool false] 40) := Blk.below (HKL.out.set 2 (.string ⟨B.toArray⟩)) h6
          have HBn := hid_of ((below_setCell HB.out hgl 2 (.string ⟨B.toArray⟩)).trans (h6.mono (by have := HB.out.size; simpa [World.setCell] using this)))
          clear HKG HKL HB h6
          try clear c0 c1 c2 c3 c4 c5 c6 c7 c8 fz
          try clear d0 d1 d2 d3 d4 d5 d6 d7 d8 dz
          rename Hid (Blk _ w.heap.size _ _) => HKG
          rename Hid (Blk _ L _ _) => HKL
          rename Hid (Below w.heap.size w _) => HB
          obtain ⟨c0, c1, c2, c3, c4, c5, c6, c7, c8, fz⟩ := HKL.out.nine
          obtain ⟨d0, d1, d2, d3, d4, d5, d6, d7, d8, dz⟩ := HKG.out.nine
          go_wp2_with fail
          exact bodyPost_ret (results_rsplit rfl (Blk.put9 ((((HKG.out.other hgL 3 _).other hgL 7 _).other hgL 4 _).other hgL 8 _) _ _ _ _ _ _ _ _ _)) rfl ⟨congrArg Ending.returned HVV.out.symm, below_put9 (below_setCell (below_setCell (below_setCell (below_setCell HB.out hgl 3 _) hgl 7 _) hgl 4 _) hgl 8 _) (Nat.le_refl _) _ _ _ _ _ _ _ _ _⟩
    · obtain ⟨n1, n2, n3, u1, u2, u3, u4⟩ := host_part h3 C eB
      have hmem : ∀ c ∈ C.drop (upToL [47] C), c ∈ B := fun c hc => by rw [eB]; simp [List.mem_of_mem_drop hc]
      obtain ⟨p1, p2, p3⟩ := path_part h3 (C.drop (upToL [47] C)) hmem
      rw [hC] at HVV
      simp only at HVV
      have htl2 : (Q ++ F).length ≤ 4000000000 := by have := congrArg List.length h3.all; simp at this ⊢; omega
      have H3 := hid_of h3
      clear h3 eB hC hmem
      obtain ⟨m, hm⟩ : ∃ m, upToL [47] C = m := ⟨_, rfl⟩
      rw [hm] at u1 u2 u3 u4 p1 p2 p3 HVV
      clear hm
      have g1 : decide ((r.length : Int) > 1) = true := by simp; omega
      have y0 := byte_at r 0 47 (by omega) n2 0 rfl
      have y1 := byte_at r 1 47 n1 n3 1 rfl
      have x2 := slice_l r 2 (by omega) 2 rfl
      have hu0 := HUP.out (r.drop 2) [47, 63, 35] m
      have HU0 := hid_of (fun W => hu0 W (by simp; omega) (by decide) u1)
      have x3 := slice_lh r 2 (2 + m) (by omega) u4 2 (2 + (m : Int)) rfl (by omega)
      have x4 := slice_l r (2 + m) u4 (2 + (m : Int)) (by omega)
      rw [u2] at x3
      rw [u3] at x4
      have hPl : (C.drop m).length ≤ (C.drop m ++ (Q ++ F)).length := by simp
      have hr1 : (C.drop m ++ (Q ++ F)).length ≤ 4000000000 := by rw [← u3]; simp; omega
      have z1 := slice_h (C.drop m ++ (Q ++ F)) (C.drop m).length hPl ((C.drop m).length : Int) rfl
      have z2 := slice_l (C.drop m ++ (Q ++ F)) (C.drop m).length hPl ((C.drop m).length : Int) rfl
      rw [p2] at z1
      rw [p3] at z2
      have hu := HUP.out (C.drop m ++ (Q ++ F)) [63, 35] (C.drop m).length
      have HU := hid_of (fun W => hu W hr1 (by decide) p1)
      clear u1 u2 u3 p1 p2 p3 hu hu0 hPl hr1
      obtain ⟨r1, hr1⟩ : ∃ r1, C.drop m ++ (Q ++ F) = r1 := ⟨_, rfl⟩
      rw [hr1] at x4 z1 z2 HU
      clear hr1
      obtain ⟨P, hP⟩ : ∃ P, C.drop m = P := ⟨_, rfl⟩
      obtain ⟨H, hH⟩ : ∃ H, C.take m = H := ⟨_, rfl⟩
      rw [hP] at z1 z2 HU HVV
      rw [hH] at x3 HVV
      clear hP hH
      obtain ⟨r2, hr2⟩ : ∃ r2, r.drop 2 = r2 := ⟨_, rfl⟩
      rw [hr2] at x2 HU0
      clear hr2
      have w2m : IntKind.i64.wrap (2 + (m : Int)) = 2 + (m : Int) := by rw [IntKind.wrap_i64]; omega
      go_wp2_with fail
      (go_at_call 50; refine (HU0.out _).mono ?_; rintro e w4 ⟨rfl, h4⟩)
      have HKGn := hid_of (HKG.out.below h4)
      have HKLn : Hid (Blk _ L #[.string ⟨sc.toArray⟩, .string ⟨#[]⟩, .string ⟨#[]⟩, .string ⟨#[]⟩, .string ⟨#[]⟩, .bool hb, .bool false, .bool false, .bool false] 40) := Blk.below HKL.out h4
      have HBn := hid_of (HB.out.trans (h4.mono HB.out.size))
      clear HKG HKL HB h4
      try clear c0 c1 c2 c3 c4 c5 c6 c7 c8 fz
      try clear d0 d1 d2 d3 d4 d5 d6 d7 d8 dz
      rename Hid (Blk _ w.heap.size _ _) => HKG
      rename Hid (Blk _ L _ _) => HKL
      rename Hid (Below w.heap.size w _) => HB
      obtain ⟨c0, c1, c2, c3, c4, c5, c6, c7, c8, fz⟩ := HKL.out.nine
      obtain ⟨d0, d1, d2, d3, d4, d5, d6, d7, d8, dz⟩ := HKG.out.nine
      go_wp2_with fail
      (go_at_call 50; refine (HU.out _).mono ?_; rintro e w5 ⟨rfl, h5⟩)
      have HKGn := hid_of (((HKG.out.other hgL 1 (.string ⟨H.toArray⟩)).other hgL 6 (.bool true)).below h5)
      have HKLn : Hid (Blk _ L #[.string ⟨sc.toArray⟩, .string ⟨H.toArray⟩, .string ⟨#[]⟩, .string ⟨#[]⟩, .string ⟨#[]⟩, .bool hb, .bool true, .bool false, .bool false] 40) := Blk.below ((HKL.out.set 1 (.string ⟨H.toArray⟩)).set 6 (.bool true)) h5
      have HBn := hid_of ((below_setCell (below_setCell HB.out hgl 1 (.string ⟨H.toArray⟩)) hgl 6 (.bool true)).trans (h5.mono (by have := HB.out.size; simpa [World.setCell] using this)))
      clear HKG HKL HB h5
      try clear c0 c1 c2 c3 c4 c5 c6 c7 c8 fz
      try clear d0 d1 d2 d3 d4 d5 d6 d7 d8 dz
      rename Hid (Blk _ w.heap.size _ _) => HKG
      rename Hid (Blk _ L _ _) => HKL
      rename Hid (Below w.heap.size w _) => HB
      obtain ⟨c0, c1, c2, c3, c4, c5, c6, c7, c8, fz⟩ := HKL.out.nine
      obtain ⟨d0, d1, d2, d3, d4, d5, d6, d7, d8, dz⟩ := HKG.out.nine
      rcases H3.out.isQ with e | ⟨q, e⟩ <;> rcases H3.out.isF with e' | ⟨f, e'⟩ <;> subst e <;> subst e'
      · simp only [List.nil_append] at z2
        go_wp2_with fail
        exact bodyPost_ret (results_rsplit rfl (Blk.put9 (HKG.out.other hgL 2 _) _ _ _ _ _ _ _ _ _)) rfl ⟨congrArg Ending.returned HVV.out.symm, below_put9 (below_setCell HB.out hgl 2 _) (Nat.le_refl _) _ _ _ _ _ _ _ _ _⟩
      · simp only [List.nil_append] at z2
        have y2 := byte_at (35 :: f) 0 35 (by simp) rfl 0 rfl
        have z3 := slice_l (35 :: f) 1 (by simp) 1 rfl
        rw [show (35 :: f).drop 1 = f from rfl] at z3
        obtain ⟨t, ht⟩ : ∃ t, 35 :: f = t := ⟨_, rfl⟩
        have hne : (t == []) = false := by rw [← ht]; rfl
        rw [ht] at z2 y2 z3
        clear ht
        go_wp2_with fail
        exact bodyPost_ret (results_rsplit rfl (Blk.put9 (((HKG.out.other hgL 2 _).other hgL 4 _).other hgL 8 _) _ _ _ _ _ _ _ _ _)) rfl ⟨congrArg Ending.returned HVV.out.symm, below_put9 (below_setCell (below_setCell (below_setCell HB.out hgl 2 _) hgl 4 _) hgl 8 _) (Nat.le_refl _) _ _ _ _ _ _ _ _ _⟩
      · have hq := H3.out.query
        have y2 := byte_at (63 :: (q ++ ([] : List UInt8))) 0 63 (by simp) rfl 0 rfl
        have z3 := slice_lh (63 :: (q ++ ([] : List UInt8))) 1 (q.length + 1) (by omega) (by simp) 1 ((q.length : Int) + 1) rfl (by omega)
        have z4 := slice_l (63 :: (q ++ ([] : List UInt8))) (q.length + 1) (by simp) ((q.length : Int) + 1) (by omega)
        rw [show ((63 :: (q ++ ([] : List UInt8))).take (q.length + 1)).drop 1 = q by simp] at z3
        rw [show (63 :: (q ++ ([] : List UInt8))).drop (q.length + 1) = [] by simp] at z4
        have hu := HUP.out (63 :: (q ++ ([] : List UInt8))) [35] (q.length + 1)
        have HU3 := hid_of (fun W => hu W (by simpa using htl2) (by decide) hq)
        rw [List.cons_append] at z2
        obtain ⟨t, ht⟩ : ∃ t, 63 :: (q ++ ([] : List UInt8)) = t := ⟨_, rfl⟩
        have hne : (t == []) = false := by rw [← ht]; rfl
        rw [ht] at z2 y2 z3 z4 HU3
        have hcast : ((q.length + 1 : Nat) : Int) = (q.length : Int) + 1 := by omega
        rw [hcast] at HU3
        clear ht hq hu hcast
        go_wp2_with fail
        (go_at_call 50; refine (HU3.out _).mono ?_; rintro e w6 ⟨rfl, h6⟩)
        have HKGn := hid_of ((HKG.out.other hgL 2 (.string ⟨P.toArray⟩)).below h6)
        have HKLn : Hid (Blk _ L #[.string ⟨sc.toArray⟩, .string ⟨H.toArray⟩, .string ⟨P.toArray⟩, .string ⟨#[]⟩, .string ⟨#[]⟩, .bool hb, .bool true, .bool false, .bool false] 40) := Blk.below (HKL.out.set 2 (.string ⟨P.toArray⟩)) h6
        have HBn := hid_of ((below_setCell HB.out hgl 2 (.string ⟨P.toArray⟩)).trans (h6.mono (by have := HB.out.size; simpa [World.setCell] using this)))
        clear HKG HKL HB h6
        try clear c0 c1 c2 c3 c4 c5 c6 c7 c8 fz
        try clear d0 d1 d2 d3 d4 d5 d6 d7 d8 dz
        rename Hid (Blk _ w.heap.size _ _) => HKG
        rename Hid (Blk _ L _ _) => HKL
        rename Hid (Below w.heap.size w _) => HB
        obtain ⟨c0, c1, c2, c3, c4, c5, c6, c7, c8, fz⟩ := HKL.out.nine
        obtain ⟨d0, d1, d2, d3, d4, d5, d6, d7, d8, dz⟩ := HKG.out.nine
        go_wp2_with fail
        exact bodyPost_ret (results_rsplit rfl (Blk.put9 ((HKG.out.other hgL 3 _).other hgL 7 _) _ _ _ _ _ _ _ _ _)) rfl ⟨congrArg Ending.returned HVV.out.symm, below_put9 (below_setCell (below_setCell HB.out hgl 3 _) hgl 7 _) (Nat.le_refl _) _ _ _ _ _ _ _ _ _⟩
      · have hq := H3.out.query
        have y2 := byte_at (63 :: (q ++ 35 :: f)) 0 63 (by simp) rfl 0 rfl
        have z3 := slice_lh (63 :: (q ++ 35 :: f)) 1 (q.length + 1) (by omega) (by simp) 1 ((q.length : Int) + 1) rfl (by omega)
        have z4 := slice_l (63 :: (q ++ 35 :: f)) (q.length + 1) (by simp) ((q.length : Int) + 1) (by omega)
        rw [show ((63 :: (q ++ 35 :: f)).take (q.length + 1)).drop 1 = q by simp] at z3
        rw [show (63 :: (q ++ 35 :: f)).drop (q.length + 1) = 35 :: f by simp] at z4
        have hu := HUP.out (63 :: (q ++ 35 :: f)) [35] (q.length + 1)
        have HU3 := hid_of (fun W => hu W (by simpa using htl2) (by decide) hq)
        rw [List.cons_append] at z2
        obtain ⟨t, ht⟩ : ∃ t, 63 :: (q ++ 35 :: f) = t := ⟨_, rfl⟩
        have hne : (t == []) = false := by rw [← ht]; rfl
        rw [ht] at z2 y2 z3 z4 HU3
        have hcast : ((q.length + 1 : Nat) : Int) = (q.length : Int) + 1 := by omega
        rw [hcast] at HU3
        have z5 := slice_l (35 :: f) 1 (by simp) 1 rfl
        rw [show (35 :: f).drop 1 = f from rfl] at z5
        obtain ⟨t3, ht3⟩ : ∃ t3, 35 :: f = t3 := ⟨_, rfl⟩
        have hne3 : (t3 == []) = false := by rw [← ht3]; rfl
        rw [ht3] at z4 z5
        clear ht3
        clear ht hq hu hcast
        go_wp2_with fail
        (go_at_call 50; refine (HU3.out _).mono ?_; rintro e w6 ⟨rfl, h6⟩)
        have HKGn := hid_of ((HKG.out.other hgL 2 (.string ⟨P.toArray⟩)).below h6)
        have HKLn : Hid (Blk _ L #[.string ⟨sc.toArray⟩, .string ⟨H.toArray⟩, .string ⟨P.toArray⟩, .string ⟨#[]⟩, .string ⟨#[]⟩, .bool hb, .bool true, .bool false, .bool false] 40) := Blk.below (HKL.out.set 2 (.string ⟨P.toArray⟩)) h6
        have HBn := hid_of ((below_setCell HB.out hgl 2 (.string ⟨P.toArray⟩)).trans (h6.mono (by have := HB.out.size; simpa [World.setCell] using this)))
        clear HKG HKL HB h6
        try clear c0 c1 c2 c3 c4 c5 c6 c7 c8 fz
        try clear d0 d1 d2 d3 d4 d5 d6 d7 d8 dz
        rename Hid (Blk _ w.heap.size _ _) => HKG
        rename Hid (Blk _ L _ _) => HKL
        rename Hid (Below w.heap.size w _) => HB
        obtain ⟨c0, c1, c2, c3, c4, c5, c6, c7, c8, fz⟩ := HKL.out.nine
        obtain ⟨d0, d1, d2, d3, d4, d5, d6, d7, d8, dz⟩ := HKG.out.nine
        go_wp2_with fail
        exact bodyPost_ret (results_rsplit rfl (Blk.put9 ((((HKG.out.other hgL 3 _).other hgL 7 _).other hgL 4 _).other hgL 8 _) _ _ _ _ _ _ _ _ _)) rfl ⟨congrArg Ending.returned HVV.out.symm, below_put9 (below_setCell (below_setCell (below_setCell (below_setCell HB.out hgl 3 _) hgl 7 _) hgl 4 _) hgl 8 _) (Nat.le_refl _) _ _ _ _ _ _ _ _ _⟩
  case some n =>
    have ecz : colonZ s = n := by unfold colonZ; rw [hc]
    rw [ecz] at HCO
    have HV0 : Hid (V = (partsK (lower (s.take n)) true (s.drop (n + 1))).v) := by show _ = _; rw [← hV, split_some hc]
    have hn := colonL_lt hc
    have hlo := HLO.out (s.take n)
    have hs1 := slice_h s n (by omega) (n : Int) rfl
    have hs2 := slice_l s (n + 1) (by omega) ((n : Int) + 1) (by omega)
    have hrl : (s.drop (n + 1)).length ≤ 4000000000 := by simp; omega
    have htl : (s.take n).length ≤ 4000000000 := by simp; omega
    obtain ⟨r, hr⟩ : ∃ r, s.drop (n + 1) = r := ⟨_, rfl⟩
    obtain ⟨x, hx⟩ : ∃ x, s.take n = x := ⟨_, rfl⟩
    obtain ⟨sc, hsc⟩ : ∃ sc, lower x = sc := ⟨_, rfl⟩
    rw [hr] at HV0 hs2 hrl
    rw [hx] at HV0 hlo hs1 htl
    rw [hsc] at HV0 hlo
    have HLW := hid_of hlo
    have n0 : (0 : Int) ≤ (n : Int) := by omega
    clear ecz hc hsl hV HLO hr hx hsc hlo
    go_enter Tryd.func19, Tryd.ntmps19
    go_wp2_with fail
    (go_at_call 47; refine (HS.out _).mono ?_; rintro e w1 ⟨rfl, h1⟩)
    have HK0 := hid_of (HA0.out.below h1)
    have HB := hid_of (HB0.out.trans (h1.mono HB0.out.size))
    have hLg : w.heap.size < w1.heap.size := HK0.out.lt
    clear h1 HB0 HA0
    go_wp2_with fail
    (go_at_call 48; refine (HCO.out _).mono ?_; rintro e w' ⟨rfl, hx⟩; subst hx)
    have HK01 := hid_of (HK0.out.alloc (.cells noLink 40))
    have HK1 := hid_of (Blk.new w1 noLink 40)
    have HB1 := hid_of (HB.out.alloc HB.out.size (.cells noLink 40))
    unfold noLink at HK01 HK1 HB1
    clear HK0 HB HCO
    obtain ⟨L, hL⟩ : ∃ L, w1.heap.size = L := ⟨_, rfl⟩
    rw [hL] at hLg HK1 ⊢
    clear hL
    go_wp2_with fail
    (go_at_call 49; refine (HLW.out _ htl).mono ?_; rintro e w3 ⟨rfl, h3⟩)
    have HK02 := hid_of (HK01.out.below h3)
    have HK2 := hid_of (HK1.out.below h3)
    have HB2 := hid_of (HB1.out.trans (h3.mono HB1.out.size))
    clear HK01 HK1 HB1 h3
    obtain ⟨c0, c1, c2, c3, c4, c5, c6, c7, c8, fz⟩ := HK2.out.nine
    have HKG := HK02
    have HKL := HK2
    have HB := HB2
    have HV := HV0
    clear HK02 HK2 HB2 HV0
    have hgL : w.heap.size ≠ L := by omega
    have hgl : w.heap.size ≤ L := by omega
    obtain ⟨B, Q, F, h3, eV⟩ := parts_three sc true r
    have HVV := hid_of (HV.out.trans eV)
    have sr := arr_size r
    clear HV eV
    rcases hostK_cases B with ⟨k1, k2, k3⟩ | ⟨C, eB, hC⟩
    · obtain ⟨p1, p2, p3⟩ := path_part h3 B (fun c hc => hc)
      rw [k1, k2, k3] at HVV
      rw [← h3.all] at p1 p2 p3
      have hBl : B.length ≤ r.length := by rw [h3.all]; simp
      have hu := HUP.out r [63, 35] B.length
      have HU := hid_of (fun W => hu W hrl (by decide) p1)
      have z1 := slice_h r B.length hBl (B.length : Int) rfl
      have z2 := slice_l r B.length hBl (B.length : Int) rfl
      rw [p2] at z1
      rw [p3] at z2
      have hno := nohost_r h3 k1
      have H3 := hid_of h3
      have htl2 : (Q ++ F).length ≤ 4000000000 := by have := congrArg List.length h3.all; simp at this ⊢; omega
      clear p1 p2 p3 hu k1 k2 k3 h3
      rcases hno with n1 | ⟨n1, n2⟩ | ⟨n1, n2, n3⟩
      case' inl =>
        have g1 : decide ((r.length : Int) > 1) = false := by simp; omega
      case' inr.inl =>
        have g1 : decide ((r.length : Int) > 1) = true := by simp; omega
        have y0 := byte_at r 0 (r.getD 0 0) (by omega) rfl 0 rfl
        have g2 : (((r.getD 0 0).toNat : Int) == 47) = false := by rw [← n2]; exact eq_byte _ 47
        generalize r.getD 0 0 = b0 at y0 g2
      case' inr.inr =>
        have g1 : decide ((r.length : Int) > 1) = true := by simp; omega
        have y0 := byte_at r 0 (r.getD 0 0) (by omega) rfl 0 rfl
        have g2 : (((r.getD 0 0).toNat : Int) == 47) = true := by rw [← n2]; exact eq_byte _ 47
        have y1 := byte_at r 1 (r.getD 1 0) (by omega) rfl 1 rfl
        have g3 : (((r.getD 1 0).toNat : Int) == 47) = false := by rw [← n3]; exact eq_byte _ 47
        generalize r.getD 0 0 = b0 at y0 g2
        generalize r.getD 1 0 = b1 at y1 g3
      all_goals
        go_wp2_with fail
        (go_at_call 50; refine (HU.out _).mono ?_; rintro e w4 ⟨rfl, h4⟩)
        have HKGn := hid_of (((HKG.out.other hgL 0 (.string ⟨sc.toArray⟩)).other hgL 5 (.bool true)).below h4)
        have HKLn : Hid (Blk _ L #[.string ⟨sc.toArray⟩, .string ⟨#[]⟩, .string ⟨#[]⟩, .string ⟨#[]⟩, .string ⟨#[]⟩, .bool true, .bool false, .bool false, .bool false] 40) := Blk.below ((HKL.out.set 0 (.string ⟨sc.toArray⟩)).set 5 (.bool true)) h4
        have HBn := hid_of ((below_setCell (below_setCell HB.out hgl 0 (.string ⟨sc.toArray⟩)) hgl 5 (.bool true)).trans (h4.mono (by have := HB.out.size; simpa [World.setCell] using this)))
        clear HKG HKL HB h4
        try clear c0 c1 c2 c3 c4 c5 c6 c7 c8 fz
        try clear d0 d1 d2 d3 d4 d5 d6 d7 d8 dz
        rename Hid (Blk _ w.heap.size _ _) => HKG
        rename Hid (Blk _ L _ _) => HKL
        rename Hid (Below w.heap.size w _) => HB
        obtain ⟨c0, c1, c2, c3, c4, c5, c6, c7, c8, fz⟩ := HKL.out.nine
        obtain ⟨d0, d1, d2, d3, d4, d5, d6, d7, d8, dz⟩ := HKG.out.nine
        rcases H3.out.isQ with e | ⟨q, e⟩ <;> rcases H3.out.isF with e' | ⟨f, e'⟩ <;> subst e <;> subst e'
        · simp only [List.nil_append] at z2
          go_wp2_with fail
          exact bodyPost_ret (results_rsplit rfl (Blk.put9 (HKG.out.other hgL 2 _) _ _ _ _ _ _ _ _ _)) rfl ⟨congrArg Ending.returned HVV.out.symm, below_put9 (below_setCell HB.out hgl 2 _) (Nat.le_refl _) _ _ _ _ _ _ _ _ _⟩
        · simp only [List.nil_append] at z2
          have y2 := byte_at (35 :: f) 0 35 (by simp) rfl 0 rfl
          have z3 := slice_l (35 :: f) 1 (by simp) 1 rfl
          rw [show (35 :: f).drop 1 = f from rfl] at z3
          obtain ⟨t, ht⟩ : ∃ t, 35 :: f = t := ⟨_, rfl⟩
          have hne : (t == []) = false := by rw [← ht]; rfl
          rw [ht] at z2 y2 z3
          clear ht
          go_wp2_with fail
          exact bodyPost_ret (results_rsplit rfl (Blk.put9 (((HKG.out.other hgL 2 _).other hgL 4 _).other hgL 8 _) _ _ _ _ _ _ _ _ _)) rfl ⟨congrArg Ending.returned HVV.out.symm, below_put9 (below_setCell (below_setCell (below_setCell HB.out hgl 2 _) hgl 4 _) hgl 8 _) (Nat.le_refl _) _ _ _ _ _ _ _ _ _⟩
        · have hq := H3.out.query
          have y2 := byte_at (63 :: (q ++ ([] : List UInt8))) 0 63 (by simp) rfl 0 rfl
          have z3 := slice_lh (63 :: (q ++ ([] : List UInt8))) 1 (q.length + 1) (by omega) (by simp) 1 ((q.length : Int) + 1) rfl (by omega)
          have z4 := slice_l (63 :: (q ++ ([] : List UInt8))) (q.length + 1) (by simp) ((q.length : Int) + 1) (by omega)
          rw [show ((63 :: (q ++ ([] : List UInt8))).take (q.length + 1)).drop 1 = q by simp] at z3
          rw [show (63 :: (q ++ ([] : List UInt8))).drop (q.length + 1) = [] by simp] at z4
          have hu := HUP.out (63 :: (q ++ ([] : List UInt8))) [35] (q.length + 1)
          have HU3 := hid_of (fun W => hu W (by simpa using htl2) (by decide) hq)
          rw [List.cons_append] at z2
          obtain ⟨t, ht⟩ : ∃ t, 63 :: (q ++ ([] : List UInt8)) = t := ⟨_, rfl⟩
          have hne : (t == []) = false := by rw [← ht]; rfl
          rw [ht] at z2 y2 z3 z4 HU3
          have hcast : ((q.length + 1 : Nat) : Int) = (q.length : Int) + 1 := by omega
          rw [hcast] at HU3
          clear ht hq hu hcast
          go_wp2_with fail
          (go_at_call 50; refine (HU3.out _).mono ?_; rintro e w6 ⟨rfl, h6⟩)
          have HKGn := hid_of ((HKG.out.other hgL 2 (.string ⟨B.toArray⟩)).below h6)
          have HKLn : Hid (Blk _ L #[.string ⟨sc.toArray⟩, .string ⟨#[]⟩, .string ⟨B.toArray⟩, .string ⟨#[]⟩, .string ⟨#[]⟩, .bool true, .bool false, .bool false, .bool false] 40) := Blk.below (HKL.out.set 2 (.string ⟨B.toArray⟩)) h6
          have HBn := hid_of ((below_setCell HB.out hgl 2 (.string ⟨B.toArray⟩)).trans (h6.mono (by have := HB.out.size; simpa [World.setCell] using this)))
          clear HKG HKL HB h6
          try clear c0 c1 c2 c3 c4 c5 c6 c7 c8 fz
          try clear d0 d1 d2 d3 d4 d5 d6 d7 d8 dz
          rename Hid (Blk _ w.heap.size _ _) => HKG
          rename Hid (Blk _ L _ _) => HKL
          rename Hid (Below w.heap.size w _) => HB
          obtain ⟨c0, c1, c2, c3, c4, c5, c6, c7, c8, fz⟩ := HKL.out.nine
          obtain ⟨d0, d1, d2, d3, d4, d5, d6, d7, d8, dz⟩ := HKG.out.nine
          go_wp2_with fail
          exact bodyPost_ret (results_rsplit rfl (Blk.put9 ((HKG.out.other hgL 3 _).other hgL 7 _) _ _ _ _ _ _ _ _ _)) rfl ⟨congrArg Ending.returned HVV.out.symm, below_put9 (below_setCell (below_setCell HB.out hgl 3 _) hgl 7 _) (Nat.le_refl _) _ _ _ _ _ _ _ _ _⟩
        · have hq := H3.out.query
          have y2 := byte_at (63 :: (q ++ 35 :: f)) 0 63 (by simp) rfl 0 rfl
          have z3 := slice_lh (63 :: (q ++ 35 :: f)) 1 (q.length + 1) (by omega) (by simp) 1 ((q.length : Int) + 1) rfl (by omega)
          have z4 := slice_l (63 :: (q ++ 35 :: f)) (q.length + 1) (by simp) ((q.length : Int) + 1) (by omega)
          rw [show ((63 :: (q ++ 35 :: f)).take (q.length + 1)).drop 1 = q by simp] at z3
          rw [show (63 :: (q ++ 35 :: f)).drop (q.length + 1) = 35 :: f by simp] at z4
          have hu := HUP.out (63 :: (q ++ 35 :: f)) [35] (q.length + 1)
          have HU3 := hid_of (fun W => hu W (by simpa using htl2) (by decide) hq)
          rw [List.cons_append] at z2
          obtain ⟨t, ht⟩ : ∃ t, 63 :: (q ++ 35 :: f) = t := ⟨_, rfl⟩
          have hne : (t == []) = false := by rw [← ht]; rfl
          rw [ht] at z2 y2 z3 z4 HU3
          have hcast : ((q.length + 1 : Nat) : Int) = (q.length : Int) + 1 := by omega
          rw [hcast] at HU3
          have z5 := slice_l (35 :: f) 1 (by simp) 1 rfl
          rw [show (35 :: f).drop 1 = f from rfl] at z5
          obtain ⟨t3, ht3⟩ : ∃ t3, 35 :: f = t3 := ⟨_, rfl⟩
          have hne3 : (t3 == []) = false := by rw [← ht3]; rfl
          rw [ht3] at z4 z5
          clear ht3
          clear ht hq hu hcast
          go_wp2_with fail
          (go_at_call 50; refine (HU3.out _).mono ?_; rintro e w6 ⟨rfl, h6⟩)
          have HKGn := hid_of ((HKG.out.other hgL 2 (.string ⟨B.toArray⟩)).below h6)
          have HKLn : Hid (Blk _ L #[.string ⟨sc.toArray⟩, .string ⟨#[]⟩, .string ⟨B.toArray⟩, .string ⟨#[]⟩, .string ⟨#[]⟩, .bool true, .bool false, .bool false, .bool false] 40) := Blk.below (HKL.out.set 2 (.string ⟨B.toArray⟩)) h6
          have HBn := hid_of ((below_setCell HB.out hgl 2 (.string ⟨B.toArray⟩)).trans (h6.mono (by have := HB.out.size; simpa [World.setCell] using this)))
          clear HKG HKL HB h6
          try clear c0 c1 c2 c3 c4 c5 c6 c7 c8 fz
          try clear d0 d1 d2 d3 d4 d5 d6 d7 d8 dz
          rename Hid (Blk _ w.heap.size _ _) => HKG
          rename Hid (Blk _ L _ _) => HKL
          rename Hid (Below w.heap.size w _) => HB
          obtain ⟨c0, c1, c2, c3, c4, c5, c6, c7, c8, fz⟩ := HKL.out.nine
          obtain ⟨d0, d1, d2, d3, d4, d5, d6, d7, d8, dz⟩ := HKG.out.nine
          go_wp2_with fail
          exact bodyPost_ret (results_rsplit rfl (Blk.put9 ((((HKG.out.other hgL 3 _).other hgL 7 _).other hgL 4 _).other hgL 8 _) _ _ _ _ _ _ _ _ _)) rfl ⟨congrArg Ending.returned HVV.out.symm, below_put9 (below_setCell (below_setCell (below_setCell (below_setCell HB.out hgl 3 _) hgl 7 _) hgl 4 _) hgl 8 _) (Nat.le_refl _) _ _ _ _ _ _ _ _ _⟩
    · obtain ⟨n1, n2, n3, u1, u2, u3, u4⟩ := host_part h3 C eB
      have hmem : ∀ c ∈ C.drop (upToL [47] C), c ∈ B := fun c hc => by rw [eB]; simp [List.mem_of_mem_drop hc]
      obtain ⟨p1, p2, p3⟩ := path_part h3 (C.drop (upToL [47] C)) hmem
      rw [hC] at HVV
      simp only at HVV
      have htl2 : (Q ++ F).length ≤ 4000000000 := by have := congrArg List.length h3.all; simp at this ⊢; omega
      have H3 := hid_of h3
      clear h3 eB hC hmem
      obtain ⟨m, hm⟩ : ∃ m, upToL [47] C = m := ⟨_, rfl⟩
      rw [hm] at u1 u2 u3 u4 p1 p2 p3 HVV
      clear hm
      have g1 : decide ((r.length : Int) > 1) = true := by simp; omega
      have y0 := byte_at r 0 47 (by omega) n2 0 rfl
      have y1 := byte_at r 1 47 n1 n3 1 rfl
      have x2 := slice_l r 2 (by omega) 2 rfl
      have hu0 := HUP.out (r.drop 2) [47, 63, 35] m
      have HU0 := hid_of (fun W => hu0 W (by simp; omega) (by decide) u1)
      have x3 := slice_lh r 2 (2 + m) (by omega) u4 2 (2 + (m : Int)) rfl (by omega)
      have x4 := slice_l r (2 + m) u4 (2 + (m : Int)) (by omega)
      rw [u2] at x3
      rw [u3] at x4
      have hPl : (C.drop m).length ≤ (C.drop m ++ (Q ++ F)).length := by simp
      have hr1 : (C.drop m ++ (Q ++ F)).length ≤ 4000000000 := by rw [← u3]; simp; omega
      have z1 := slice_h (C.drop m ++ (Q ++ F)) (C.drop m).length hPl ((C.drop m).length : Int) rfl
      have z2 := slice_l (C.drop m ++ (Q ++ F)) (C.drop m).length hPl ((C.drop m).length : Int) rfl
      rw [p2] at z1
      rw [p3] at z2
      have hu := HUP.out (C.drop m ++ (Q ++ F)) [63, 35] (C.drop m).length
      have HU := hid_of (fun W => hu W hr1 (by decide) p1)
      clear u1 u2 u3 p1 p2 p3 hu hu0 hPl hr1
      obtain ⟨r1, hr1⟩ : ∃ r1, C.drop m ++ (Q ++ F) = r1 := ⟨_, rfl⟩
      rw [hr1] at x4 z1 z2 HU
      clear hr1
      obtain ⟨P, hP⟩ : ∃ P, C.drop m = P := ⟨_, rfl⟩
      obtain ⟨H, hH⟩ : ∃ H, C.take m = H := ⟨_, rfl⟩
      rw [hP] at z1 z2 HU HVV
      rw [hH] at x3 HVV
      clear hP hH
      obtain ⟨r2, hr2⟩ : ∃ r2, r.drop 2 = r2 := ⟨_, rfl⟩
      rw [hr2] at x2 HU0
      clear hr2
      have w2m : IntKind.i64.wrap (2 + (m : Int)) = 2 + (m : Int) := by rw [IntKind.wrap_i64]; omega
      go_wp2_with fail
      (go_at_call 50; refine (HU0.out _).mono ?_; rintro e w4 ⟨rfl, h4⟩)
      have HKGn := hid_of (((HKG.out.other hgL 0 (.string ⟨sc.toArray⟩)).other hgL 5 (.bool true)).below h4)
      have HKLn : Hid (Blk _ L #[.string ⟨sc.toArray⟩, .string ⟨#[]⟩, .string ⟨#[]⟩, .string ⟨#[]⟩, .string ⟨#[]⟩, .bool true, .bool false, .bool false, .bool false] 40) := Blk.below ((HKL.out.set 0 (.string ⟨sc.toArray⟩)).set 5 (.bool true)) h4
      have HBn := hid_of ((below_setCell (below_setCell HB.out hgl 0 (.string ⟨sc.toArray⟩)) hgl 5 (.bool true)).trans (h4.mono (by have := HB.out.size; simpa [World.setCell] using this)))
      clear HKG HKL HB h4
      try clear c0 c1 c2 c3 c4 c5 c6 c7 c8 fz
      try clear d0 d1 d2 d3 d4 d5 d6 d7 d8 dz
      rename Hid (Blk _ w.heap.size _ _) => HKG
      rename Hid (Blk _ L _ _) => HKL
      rename Hid (Below w.heap.size w _) => HB
      obtain ⟨c0, c1, c2, c3, c4, c5, c6, c7, c8, fz⟩ := HKL.out.nine
      obtain ⟨d0, d1, d2, d3, d4, d5, d6, d7, d8, dz⟩ := HKG.out.nine
      go_wp2_with fail
      (go_at_call 50; refine (HU.out _).mono ?_; rintro e w5 ⟨rfl, h5⟩)
      have HKGn := hid_of (((HKG.out.other hgL 1 (.string ⟨H.toArray⟩)).other hgL 6 (.bool true)).below h5)
      have HKLn : Hid (Blk _ L #[.string ⟨sc.toArray⟩, .string ⟨H.toArray⟩, .string ⟨#[]⟩, .string ⟨#[]⟩, .string ⟨#[]⟩, .bool true, .bool true, .bool false, .bool false] 40) := Blk.below ((HKL.out.set 1 (.string ⟨H.toArray⟩)).set 6 (.bool true)) h5
      have HBn := hid_of ((below_setCell (below_setCell HB.out hgl 1 (.string ⟨H.toArray⟩)) hgl 6 (.bool true)).trans (h5.mono (by have := HB.out.size; simpa [World.setCell] using this)))
      clear HKG HKL HB h5
      try clear c0 c1 c2 c3 c4 c5 c6 c7 c8 fz
      try clear d0 d1 d2 d3 d4 d5 d6 d7 d8 dz
      rename Hid (Blk _ w.heap.size _ _) => HKG
      rename Hid (Blk _ L _ _) => HKL
      rename Hid (Below w.heap.size w _) => HB
      obtain ⟨c0, c1, c2, c3, c4, c5, c6, c7, c8, fz⟩ := HKL.out.nine
      obtain ⟨d0, d1, d2, d3, d4, d5, d6, d7, d8, dz⟩ := HKG.out.nine
      rcases H3.out.isQ with e | ⟨q, e⟩ <;> rcases H3.out.isF with e' | ⟨f, e'⟩ <;> subst e <;> subst e'
      · simp only [List.nil_append] at z2
        go_wp2_with fail
        exact bodyPost_ret (results_rsplit rfl (Blk.put9 (HKG.out.other hgL 2 _) _ _ _ _ _ _ _ _ _)) rfl ⟨congrArg Ending.returned HVV.out.symm, below_put9 (below_setCell HB.out hgl 2 _) (Nat.le_refl _) _ _ _ _ _ _ _ _ _⟩
      · simp only [List.nil_append] at z2
        have y2 := byte_at (35 :: f) 0 35 (by simp) rfl 0 rfl
        have z3 := slice_l (35 :: f) 1 (by simp) 1 rfl
        rw [show (35 :: f).drop 1 = f from rfl] at z3
        obtain ⟨t, ht⟩ : ∃ t, 35 :: f = t := ⟨_, rfl⟩
        have hne : (t == []) = false := by rw [← ht]; rfl
        rw [ht] at z2 y2 z3
        clear ht
        go_wp2_with fail
        exact bodyPost_ret (results_rsplit rfl (Blk.put9 (((HKG.out.other hgL 2 _).other hgL 4 _).other hgL 8 _) _ _ _ _ _ _ _ _ _)) rfl ⟨congrArg Ending.returned HVV.out.symm, below_put9 (below_setCell (below_setCell (below_setCell HB.out hgl 2 _) hgl 4 _) hgl 8 _) (Nat.le_refl _) _ _ _ _ _ _ _ _ _⟩
      · have hq := H3.out.query
        have y2 := byte_at (63 :: (q ++ ([] : List UInt8))) 0 63 (by simp) rfl 0 rfl
        have z3 := slice_lh (63 :: (q ++ ([] : List UInt8))) 1 (q.length + 1) (by omega) (by simp) 1 ((q.length : Int) + 1) rfl (by omega)
        have z4 := slice_l (63 :: (q ++ ([] : List UInt8))) (q.length + 1) (by simp) ((q.length : Int) + 1) (by omega)
        rw [show ((63 :: (q ++ ([] : List UInt8))).take (q.length + 1)).drop 1 = q by simp] at z3
        rw [show (63 :: (q ++ ([] : List UInt8))).drop (q.length + 1) = [] by simp] at z4
        have hu := HUP.out (63 :: (q ++ ([] : List UInt8))) [35] (q.length + 1)
        have HU3 := hid_of (fun W => hu W (by simpa using htl2) (by decide) hq)
        rw [List.cons_append] at z2
        obtain ⟨t, ht⟩ : ∃ t, 63 :: (q ++ ([] : List UInt8)) = t := ⟨_, rfl⟩
        have hne : (t == []) = false := by rw [← ht]; rfl
        rw [ht] at z2 y2 z3 z4 HU3
        have hcast : ((q.length + 1 : Nat) : Int) = (q.length : Int) + 1 := by omega
        rw [hcast] at HU3
        clear ht hq hu hcast
        go_wp2_with fail
        (go_at_call 50; refine (HU3.out _).mono ?_; rintro e w6 ⟨rfl, h6⟩)
        have HKGn := hid_of ((HKG.out.other hgL 2 (.string ⟨P.toArray⟩)).below h6)
        have HKLn : Hid (Blk _ L #[.string ⟨sc.toArray⟩, .string ⟨H.toArray⟩, .string ⟨P.toArray⟩, .string ⟨#[]⟩, .string ⟨#[]⟩, .bool true, .bool true, .bool false, .bool false] 40) := Blk.below (HKL.out.set 2 (.string ⟨P.toArray⟩)) h6
        have HBn := hid_of ((below_setCell HB.out hgl 2 (.string ⟨P.toArray⟩)).trans (h6.mono (by have := HB.out.size; simpa [World.setCell] using this)))
        clear HKG HKL HB h6
        try clear c0 c1 c2 c3 c4 c5 c6 c7 c8 fz
        try clear d0 d1 d2 d3 d4 d5 d6 d7 d8 dz
        rename Hid (Blk _ w.heap.size _ _) => HKG
        rename Hid (Blk _ L _ _) => HKL
        rename Hid (Below w.heap.size w _) => HB
        obtain ⟨c0, c1, c2, c3, c4, c5, c6, c7, c8, fz⟩ := HKL.out.nine
        obtain ⟨d0, d1, d2, d3, d4, d5, d6, d7, d8, dz⟩ := HKG.out.nine
        go_wp2_with fail
        exact bodyPost_ret (results_rsplit rfl (Blk.put9 ((HKG.out.other hgL 3 _).other hgL 7 _) _ _ _ _ _ _ _ _ _)) rfl ⟨congrArg Ending.returned HVV.out.symm, below_put9 (below_setCell (below_setCell HB.out hgl 3 _) hgl 7 _) (Nat.le_refl _) _ _ _ _ _ _ _ _ _⟩
      · have hq := H3.out.query
        have y2 := byte_at (63 :: (q ++ 35 :: f)) 0 63 (by simp) rfl 0 rfl
        have z3 := slice_lh (63 :: (q ++ 35 :: f)) 1 (q.length + 1) (by omega) (by simp) 1 ((q.length : Int) + 1) rfl (by omega)
        have z4 := slice_l (63 :: (q ++ 35 :: f)) (q.length + 1) (by simp) ((q.length : Int) + 1) (by omega)
        rw [show ((63 :: (q ++ 35 :: f)).take (q.length + 1)).drop 1 = q by simp] at z3
        rw [show (63 :: (q ++ 35 :: f)).drop (q.length + 1) = 35 :: f by simp] at z4
        have hu := HUP.out (63 :: (q ++ 35 :: f)) [35] (q.length + 1)
        have HU3 := hid_of (fun W => hu W (by simpa using htl2) (by decide) hq)
        rw [List.cons_append] at z2
        obtain ⟨t, ht⟩ : ∃ t, 63 :: (q ++ 35 :: f) = t := ⟨_, rfl⟩
        have hne : (t == []) = false := by rw [← ht]; rfl
        rw [ht] at z2 y2 z3 z4 HU3
        have hcast : ((q.length + 1 : Nat) : Int) = (q.length : Int) + 1 := by omega
        rw [hcast] at HU3
        have z5 := slice_l (35 :: f) 1 (by simp) 1 rfl
        rw [show (35 :: f).drop 1 = f from rfl] at z5
        obtain ⟨t3, ht3⟩ : ∃ t3, 35 :: f = t3 := ⟨_, rfl⟩
        have hne3 : (t3 == []) = false := by rw [← ht3]; rfl
        rw [ht3] at z4 z5
        clear ht3
        clear ht hq hu hcast
        go_wp2_with fail
        (go_at_call 50; refine (HU3.out _).mono ?_; rintro e w6 ⟨rfl, h6⟩)
        have HKGn := hid_of ((HKG.out.other hgL 2 (.string ⟨P.toArray⟩)).below h6)
        have HKLn : Hid (Blk _ L #[.string ⟨sc.toArray⟩, .string ⟨H.toArray⟩, .string ⟨P.toArray⟩, .string ⟨#[]⟩, .string ⟨#[]⟩, .bool true, .bool true, .bool false, .bool false] 40) := Blk.below (HKL.out.set 2 (.string ⟨P.toArray⟩)) h6
        have HBn := hid_of ((below_setCell HB.out hgl 2 (.string ⟨P.toArray⟩)).trans (h6.mono (by have := HB.out.size; simpa [World.setCell] using this)))
        clear HKG HKL HB h6
        try clear c0 c1 c2 c3 c4 c5 c6 c7 c8 fz
        try clear d0 d1 d2 d3 d4 d5 d6 d7 d8 dz
        rename Hid (Blk _ w.heap.size _ _) => HKG
        rename Hid (Blk _ L _ _) => HKL
        rename Hid (Below w.heap.size w _) => HB
        obtain ⟨c0, c1, c2, c3, c4, c5, c6, c7, c8, fz⟩ := HKL.out.nine
        obtain ⟨d0, d1, d2, d3, d4, d5, d6, d7, d8, dz⟩ := HKG.out.nine
        go_wp2_with fail
        exact bodyPost_ret (results_rsplit rfl (Blk.put9 ((((HKG.out.other hgL 3 _).other hgL 7 _).other hgL 4 _).other hgL 8 _) _ _ _ _ _ _ _ _ _)) rfl ⟨congrArg Ending.returned HVV.out.symm, below_put9 (below_setCell (below_setCell (below_setCell (below_setCell HB.out hgl 3 _) hgl 7 _) hgl 4 _) hgl 8 _) (Nat.le_refl _) _ _ _ _ _ _ _ _ _⟩
end Go.Proofs.YtnnabheejojfdaaDoor.L
