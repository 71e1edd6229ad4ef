/- What is proved here: the contract of the document's Resolve of layer 12. -/
import Derived.Test.YtnnajpdliokodaaDoorBun9
import Derived.Test.YtnnajpdliokodaaDoorLkDots
import Derived.Deep.RegionWith
import Derived.Deep.CutRange
import Derived.Deep.RegionHeld3
namespace Go.Proofs.YtnnajpdliokodaaDoor.L
open Go.RowKit Go.Shelf Go.Proofs.YtnnajpdliokodaaDoor.N Go.Proofs.YtnnajpdliokodaaDoor.U

theorem results_rresolve {tmps : Array Value} {W : World} {A : Nat} {v0 v1 v2 v3 v4 v5 v6 v7 v8 : Value} {t : TypeId} (h2 : tmps[4]?.getD undef = .pointer (some ⟨A, 0, none⟩)) (h : Blk W A #[v0, v1, v2, v3, v4, v5, v6, v7, v8] t) :
    (results Tryd.f8 tmps).run Tryd.prog W = .ok (.agg #[v0, v1, v2, v3, v4, v5, v6, v7, v8]) W := by
  obtain ⟨c0, c1, c2, c3, c4, c5, c6, c7, c8, -⟩ := h.nine
  simp [results, Tryd.results8, go_sem, h2, c0, c1, c2, c3, c4, c5, c6, c7, c8]
/-- What lies where behind the first statements. -/
structure RResAt (w W : World) (b r : Array Value) : Prop where
  hb : Blk W w.heap.size b 23
  hr : Blk W (w.heap.size + 1) r 23
  ho : Blk W (w.heap.size + 1 + 1) #[.string ⟨#[]⟩, .string ⟨#[]⟩, .string ⟨#[]⟩, .string ⟨#[]⟩, .string ⟨#[]⟩, .bool false, .bool false, .bool false, .bool false] 23
  below : Below w.heap.size w W
theorem RResAt.next {w W W' : World} {b r : Array Value} (h : RResAt w W b r) (hb : Below W.heap.size W W') : RResAt w W' b r := ⟨h.hb.below hb, h.hr.below hb, h.ho.below hb, h.below.trans (hb.mono h.below.size)⟩
theorem rresAt_new (w : World) (b r : Array Value) : RResAt w (((w.alloc (.cells b 23)).alloc (.cells r 23)).alloc (.cells #[.string ⟨#[]⟩, .string ⟨#[]⟩, .string ⟨#[]⟩, .string ⟨#[]⟩, .string ⟨#[]⟩, .bool false, .bool false, .bool false, .bool false] 23)) b r := by
  have z1 : (w.alloc (.cells b 23)).heap.size = w.heap.size + 1 := Array.size_push _
  have z2 : ((w.alloc (.cells b 23)).alloc (.cells r 23)).heap.size = w.heap.size + 1 + 1 := (Array.size_push _).trans (by rw [z1])
  refine ⟨((Blk.new w _ _).alloc _).alloc _, ?_, ?_, (((Below.refl _ w).alloc (Nat.le_refl _) _).alloc (by omega) _).alloc (by omega) _⟩
  · have := (Blk.new (w.alloc (.cells b 23)) r 23).alloc (.cells #[.string ⟨#[]⟩, .string ⟨#[]⟩, .string ⟨#[]⟩, .string ⟨#[]⟩, .string ⟨#[]⟩, .bool false, .bool false, .bool false, .bool false] 23)
    rw [z1] at this
    exact this
  · have := Blk.new ((w.alloc (.cells b 23)).alloc (.cells r 23)) #[.string ⟨#[]⟩, .string ⟨#[]⟩, .string ⟨#[]⟩, .string ⟨#[]⟩, .string ⟨#[]⟩, .bool false, .bool false, .bool false, .bool false] 23
    rw [z2] at this
    exact this
theorem cell_other {W : World} {g L : Nat} (h : g ≠ L) (j i : Nat) (v : Value) : (W.setCell ⟨L, i, none⟩ v).cell? ⟨g, j, none⟩ = W.cell? ⟨g, j, none⟩ := by
  apply World.cell?_setCell_other
  intro e
  injection e with e1
  exact h e1.symm
set_option maxRecDepth 100000 in
set_option maxHeartbeats 8000000 in
/-- **The document's Resolve.** -/
theorem rresolve_calls (b r : Lk) (w : World) (hb : b.Small 1000000000) (hr : r.Small 1000000000) : Calls Tryd.prog 8 #[b.v, r.v] w fun e W' => e = .returned (resolveK b r).v ∧ Below w.heap.size w W' := by
  have mixed : Tryd.prog.follows .mixedOrders = true := by kernel_rfl
  have HDO : Hid (∀ (p : List UInt8) W, p.length ≤ 4000000000 → Calls Tryd.prog 17 #[.string ⟨p.toArray⟩] W fun e W' => e = .returned (.string ⟨(dotsM p).toArray⟩) ∧ Below W.heap.size W W') := fun p W hp => rdots_calls p W (by omega)
  have hfl := folder_le b
  have l1 := hb.pa
  have l2 := hr.pa
  have HD1 := hid_of (fun W => HDO.out r.pa W (by omega))
  have HD2 := hid_of (fun W => HDO.out (folderK b ++ r.pa) W (by simp; omega))
  clear hb hr HDO
  obtain ⟨V, hV⟩ : ∃ V, resolveK b r = V := ⟨_, rfl⟩
  rw [hV]
  have HV : Hid (resolveK b r = V) := hV
  clear hV
  obtain ⟨fo, hfo⟩ : ∃ fo, folderK b = fo := ⟨_, rfl⟩
  rw [hfo] at HD2 hfl
  have HFK := hid_of hfo
  clear hfo
  obtain ⟨bsc, bho, bpa, bqu, bfr, bhs, bhh, bhq, bhf⟩ := b
  obtain ⟨rsc, rho, rpa, rqu, rfr, rhs, rhh, rhq, rhf⟩ := r
  simp only at l1 l2 HD1 HD2 hfl
  have HR0 : Hid (RResAt w _ #[.string ⟨bsc.toArray⟩, .string ⟨bho.toArray⟩, .string ⟨bpa.toArray⟩, .string ⟨bqu.toArray⟩, .string ⟨bfr.toArray⟩, .bool bhs, .bool bhh, .bool bhq, .bool bhf] #[.string ⟨rsc.toArray⟩, .string ⟨rho.toArray⟩, .string ⟨rpa.toArray⟩, .string ⟨rqu.toArray⟩, .string ⟨rfr.toArray⟩, .bool rhs, .bool rhh, .bool rhq, .bool rhf]) := rresAt_new w _ _
  unfold Lk.v at *
  simp only at *
  go_enter Tryd.func8, Tryd.ntmps8
  go_upto_region 1 with fail
  generalize (((w.alloc (.cells #[.string ⟨bsc.toArray⟩, .string ⟨bho.toArray⟩, .string ⟨bpa.toArray⟩, .string ⟨bqu.toArray⟩, .string ⟨bfr.toArray⟩, .bool bhs, .bool bhh, .bool bhq, .bool bhf] 23)).alloc (.cells #[.string ⟨rsc.toArray⟩, .string ⟨rho.toArray⟩, .string ⟨rpa.toArray⟩, .string ⟨rqu.toArray⟩, .string ⟨rfr.toArray⟩, .bool rhs, .bool rhh, .bool rhq, .bool rhf] 23)).alloc (.cells #[.string ⟨#[]⟩, .string ⟨#[]⟩, .string ⟨#[]⟩, .string ⟨#[]⟩, .string ⟨#[]⟩, .bool false, .bool false, .bool false, .bool false] 23)) = wc at *
  have HR := hid_of (HR0.out.next ((Below.refl _ wc).alloc (Nat.le_refl _) (.cells #[.string ⟨#[]⟩, .string ⟨#[]⟩, .string ⟨#[]⟩, .string ⟨rqu.toArray⟩, .string ⟨rfr.toArray⟩, .bool false, .bool false, .bool rhq, .bool rhf] 23)))
  have HKL := hid_of (Blk.new wc #[.string ⟨#[]⟩, .string ⟨#[]⟩, .string ⟨#[]⟩, .string ⟨rqu.toArray⟩, .string ⟨rfr.toArray⟩, .bool false, .bool false, .bool rhq, .bool rhf] 23)
  have hL : w.heap.size + 1 + 1 < wc.heap.size := HR0.out.ho.lt
  obtain ⟨L, hLL⟩ : ∃ L, wc.heap.size = L := ⟨_, rfl⟩
  rw [hLL] at HKL hL
  have neL : w.heap.size + 1 + 1 ≠ L := by omega
  have neB : w.heap.size ≠ L := by omega
  have neR : w.heap.size + 1 ≠ L := by omega
  have leL : w.heap.size ≤ L := by omega
  obtain ⟨x0, x1, x2, x3, x4, x5, x6, x7, x8, -⟩ := HR0.out.hr.nine
  clear HR0
  go_upto_region 2 with fail
  generalize wc.alloc (.cells #[.string ⟨#[]⟩, .string ⟨#[]⟩, .string ⟨#[]⟩, .string ⟨rqu.toArray⟩, .string ⟨rfr.toArray⟩, .bool false, .bool false, .bool rhq, .bool rhf] 23) = w2 at *
  clear x0 x1 x2 x3 x4 x5 x6 x7 x8 hLL
  cases rhs
  case true =>
    have HE : Hid (Ending.returned (.agg #[.string ⟨rsc.toArray⟩, .string ⟨rho.toArray⟩, .string ⟨(dotsM rpa).toArray⟩, .string ⟨rqu.toArray⟩, .string ⟨rfr.toArray⟩, .bool true, .bool rhh, .bool rhq, .bool rhf]) = Ending.returned (.agg #[.string ⟨V.sc.toArray⟩, .string ⟨V.ho.toArray⟩, .string ⟨V.pa.toArray⟩, .string ⟨V.qu.toArray⟩, .string ⟨V.fr.toArray⟩, .bool V.hs, .bool V.hh, .bool V.hq, .bool V.hf])) := by show _ = _; rw [← HV.out]; rfl
    obtain ⟨c0, c1, c2, c3, c4, c5, c6, c7, c8, cz⟩ := HR.out.hb.nine
    obtain ⟨d0, d1, d2, d3, d4, d5, d6, d7, d8, dz⟩ := HR.out.hr.nine
    obtain ⟨e0, e1, e2, e3, e4, e5, e6, e7, e8, ez⟩ := HKL.out.nine
    obtain ⟨f0, f1, f2, f3, f4, f5, f6, f7, f8, fz⟩ := HR.out.ho.nine
    go_wp2_with fail
    have dd0 : w2.drew.cell? ⟨w.heap.size + 1, 0, none⟩ = some (.string ⟨rsc.toArray⟩) := d0
    have dd1 : w2.drew.cell? ⟨w.heap.size + 1, 1, none⟩ = some (.string ⟨rho.toArray⟩) := d1
    have dd2 : w2.drew.cell? ⟨w.heap.size + 1, 2, none⟩ = some (.string ⟨rpa.toArray⟩) := d2
    have dd6 : w2.drew.cell? ⟨w.heap.size + 1, 6, none⟩ = some (.bool rhh) := d6
    go_region_held3 (fun w' => w'.cell? ⟨w.heap.size + 1, 0, none⟩ = some (.string ⟨rsc.toArray⟩) ∧ w'.cell? ⟨w.heap.size + 1, 1, none⟩ = some (.string ⟨rho.toArray⟩) ∧ w'.cell? ⟨w.heap.size + 1, 2, none⟩ = some (.string ⟨rpa.toArray⟩) ∧ w'.cell? ⟨w.heap.size + 1, 6, none⟩ = some (.bool rhh)) (first | with_reducible exact ⟨dd0, dd1, dd2, dd6⟩ | with_reducible exact ⟨p0, p1, p2, p6⟩ | (refine ⟨?_, ?_, ?_, ?_⟩ <;> (repeat rw [cell_other neR]) <;> first | with_reducible exact p0 | with_reducible exact p1 | with_reducible exact p2 | with_reducible exact p6)) (first | (go_at_call 17; refine (HD1.out _).mono ?_; rintro e w3 ⟨rfl, h3⟩; have HRb := hid_of ((HR.out.next (Below.refl _ _).drew).next h3); have HKb := hid_of ((HKL.out.below (Below.refl _ _).drew).below h3); obtain ⟨o0, o1, o2, o3, o4, o5, o6, o7, o8, oz⟩ := HRb.out.hb.nine; obtain ⟨p0, p1, p2, p3, p4, p5, p6, p7, p8, pz⟩ := HRb.out.hr.nine; obtain ⟨q0, q1, q2, q3, q4, q5, q6, q7, q8, qz⟩ := HKb.out.nine; obtain ⟨t0, t1, t2, t3, t4, t5, t6, t7, t8, tz⟩ := HRb.out.ho.nine; clear h3))
    all_goals go_wp2_with fail
    all_goals exact bodyPost_ret (results_rresolve rfl (Blk.put9 (((((HRb.out.ho.other neL 0 _).other neL 5 _).other neL 1 _).other neL 6 _).other neL 2 _) _ _ _ _ _ _ _ _ _)) rfl ⟨HE.out, (below_put9 (below_setCell (below_setCell (below_setCell (below_setCell (below_setCell HRb.out.below leL 0 _) leL 5 _) leL 1 _) leL 6 _) leL 2 _) (by omega) _ _ _ _ _ _ _ _ _)⟩
  case false =>
    cases rhh
    case true =>
      have HE : Hid (Ending.returned (.agg #[.string ⟨bsc.toArray⟩, .string ⟨rho.toArray⟩, .string ⟨(dotsM rpa).toArray⟩, .string ⟨rqu.toArray⟩, .string ⟨rfr.toArray⟩, .bool bhs, .bool true, .bool rhq, .bool rhf]) = Ending.returned (.agg #[.string ⟨V.sc.toArray⟩, .string ⟨V.ho.toArray⟩, .string ⟨V.pa.toArray⟩, .string ⟨V.qu.toArray⟩, .string ⟨V.fr.toArray⟩, .bool V.hs, .bool V.hh, .bool V.hq, .bool V.hf])) := by show _ = _; rw [← HV.out]; rfl
      obtain ⟨c0, c1, c2, c3, c4, c5, c6, c7, c8, cz⟩ := HR.out.hb.nine
      obtain ⟨d0, d1, d2, d3, d4, d5, d6, d7, d8, dz⟩ := HR.out.hr.nine
      obtain ⟨e0, e1, e2, e3, e4, e5, e6, e7, e8, ez⟩ := HKL.out.nine
      obtain ⟨f0, f1, f2, f3, f4, f5, f6, f7, f8, fz⟩ := HR.out.ho.nine
      go_wp2_with fail
      go_region
      go_wp2_with fail
      have HRm : Hid (RResAt w ((w2.setCell ⟨L, 0, none⟩ (.string ⟨bsc.toArray⟩)).setCell ⟨L, 5, none⟩ (.bool bhs)).drew _ _) := ⟨((HR.out.hb.other neB 0 _).other neB 5 _), ((HR.out.hr.other neR 0 _).other neR 5 _), ((HR.out.ho.other neL 0 _).other neL 5 _), (below_setCell (below_setCell HR.out.below leL 0 _) leL 5 _).drew⟩
      have HKm : Hid (Blk ((w2.setCell ⟨L, 0, none⟩ (.string ⟨bsc.toArray⟩)).setCell ⟨L, 5, none⟩ (.bool bhs)).drew L #[.string ⟨bsc.toArray⟩, .string ⟨#[]⟩, .string ⟨#[]⟩, .string ⟨rqu.toArray⟩, .string ⟨rfr.toArray⟩, .bool bhs, .bool false, .bool rhq, .bool rhf] 23) := ((HKL.out.set 0 _).set 5 _)
      clear HR HKL c0 c1 c2 c3 c4 c5 c6 c7 c8 cz d0 d1 d2 d3 d4 d5 d6 d7 d8 dz e0 e1 e2 e3 e4 e5 e6 e7 e8 ez f0 f1 f2 f3 f4 f5 f6 f7 f8 fz
      rename Hid (RResAt _ _ _ _) => HR
      rename Hid (Blk _ L _ _) => HKL
      generalize ((w2.setCell ⟨L, 0, none⟩ (.string ⟨bsc.toArray⟩)).setCell ⟨L, 5, none⟩ (.bool bhs)).drew = w4 at *
      obtain ⟨c0, c1, c2, c3, c4, c5, c6, c7, c8, cz⟩ := HR.out.hb.nine
      obtain ⟨d0, d1, d2, d3, d4, d5, d6, d7, d8, dz⟩ := HR.out.hr.nine
      obtain ⟨e0, e1, e2, e3, e4, e5, e6, e7, e8, ez⟩ := HKL.out.nine
      obtain ⟨f0, f1, f2, f3, f4, f5, f6, f7, f8, fz⟩ := HR.out.ho.nine
      have dd0 : w4.drew.cell? ⟨w.heap.size + 1, 1, none⟩ = some (.string ⟨rho.toArray⟩) := d1
      have dd1 : w4.drew.cell? ⟨w.heap.size + 1, 2, none⟩ = some (.string ⟨rpa.toArray⟩) := d2
      go_region_held3 (fun w' => w'.cell? ⟨w.heap.size + 1, 1, none⟩ = some (.string ⟨rho.toArray⟩) ∧ w'.cell? ⟨w.heap.size + 1, 2, none⟩ = some (.string ⟨rpa.toArray⟩)) (first | with_reducible exact ⟨dd0, dd1⟩ | with_reducible exact ⟨p1, p2⟩ | (refine ⟨?_, ?_⟩ <;> (repeat (first | rw [cell_other neR] | rw [cell_other neB])) <;> first | with_reducible exact p1 | with_reducible exact p2)) (first | (go_at_call 17; refine (HD1.out _).mono ?_; rintro e w5 ⟨rfl, h3⟩; have HRb := hid_of ((HR.out.next (Below.refl _ _).drew).next h3); have HKb := hid_of ((HKL.out.below (Below.refl _ _).drew).below h3); obtain ⟨o0, o1, o2, o3, o4, o5, o6, o7, o8, oz⟩ := HRb.out.hb.nine; obtain ⟨p0, p1, p2, p3, p4, p5, p6, p7, p8, pz⟩ := HRb.out.hr.nine; obtain ⟨q0, q1, q2, q3, q4, q5, q6, q7, q8, qz⟩ := HKb.out.nine; obtain ⟨t0, t1, t2, t3, t4, t5, t6, t7, t8, tz⟩ := HRb.out.ho.nine; clear h3))
      all_goals go_wp2_with fail
      all_goals exact bodyPost_ret (results_rresolve rfl (Blk.put9 (((HRb.out.ho.other neL 1 _).other neL 6 _).other neL 2 _) _ _ _ _ _ _ _ _ _)) rfl ⟨HE.out, (below_put9 (below_setCell (below_setCell (below_setCell HRb.out.below leL 1 _) leL 6 _) leL 2 _) (by omega) _ _ _ _ _ _ _ _ _)⟩
    case false =>
      obtain ⟨c0, c1, c2, c3, c4, c5, c6, c7, c8, cz⟩ := HR.out.hb.nine
      obtain ⟨d0, d1, d2, d3, d4, d5, d6, d7, d8, dz⟩ := HR.out.hr.nine
      obtain ⟨e0, e1, e2, e3, e4, e5, e6, e7, e8, ez⟩ := HKL.out.nine
      obtain ⟨f0, f1, f2, f3, f4, f5, f6, f7, f8, fz⟩ := HR.out.ho.nine
      go_wp2_with fail
      go_region
      go_wp2_with fail
      go_region
      have HRm : Hid (RResAt w ((((w2.setCell ⟨L, 0, none⟩ (.string ⟨bsc.toArray⟩)).setCell ⟨L, 5, none⟩ (.bool bhs)).setCell ⟨L, 1, none⟩ (.string ⟨bho.toArray⟩)).setCell ⟨L, 6, none⟩ (.bool bhh)).drew.drew _ _) := ⟨((((HR.out.hb.other neB 0 _).other neB 5 _).other neB 1 _).other neB 6 _), ((((HR.out.hr.other neR 0 _).other neR 5 _).other neR 1 _).other neR 6 _), ((((HR.out.ho.other neL 0 _).other neL 5 _).other neL 1 _).other neL 6 _), (below_setCell (below_setCell (below_setCell (below_setCell HR.out.below leL 0 _) leL 5 _) leL 1 _) leL 6 _).drew.drew⟩
      have HKm : Hid (Blk ((((w2.setCell ⟨L, 0, none⟩ (.string ⟨bsc.toArray⟩)).setCell ⟨L, 5, none⟩ (.bool bhs)).setCell ⟨L, 1, none⟩ (.string ⟨bho.toArray⟩)).setCell ⟨L, 6, none⟩ (.bool bhh)).drew.drew L #[.string ⟨bsc.toArray⟩, .string ⟨bho.toArray⟩, .string ⟨#[]⟩, .string ⟨rqu.toArray⟩, .string ⟨rfr.toArray⟩, .bool bhs, .bool bhh, .bool rhq, .bool rhf] 23) := ((((HKL.out.set 0 _).set 5 _).set 1 _).set 6 _)
      clear HR HKL c0 c1 c2 c3 c4 c5 c6 c7 c8 cz d0 d1 d2 d3 d4 d5 d6 d7 d8 dz e0 e1 e2 e3 e4 e5 e6 e7 e8 ez f0 f1 f2 f3 f4 f5 f6 f7 f8 fz
      rename Hid (RResAt _ _ _ _) => HR
      rename Hid (Blk _ L _ _) => HKL
      generalize ((((w2.setCell ⟨L, 0, none⟩ (.string ⟨bsc.toArray⟩)).setCell ⟨L, 5, none⟩ (.bool bhs)).setCell ⟨L, 1, none⟩ (.string ⟨bho.toArray⟩)).setCell ⟨L, 6, none⟩ (.bool bhh)).drew.drew = w4 at *
      obtain ⟨c0, c1, c2, c3, c4, c5, c6, c7, c8, cz⟩ := HR.out.hb.nine
      obtain ⟨d0, d1, d2, d3, d4, d5, d6, d7, d8, dz⟩ := HR.out.hr.nine
      obtain ⟨e0, e1, e2, e3, e4, e5, e6, e7, e8, ez⟩ := HKL.out.nine
      obtain ⟨f0, f1, f2, f3, f4, f5, f6, f7, f8, fz⟩ := HR.out.ho.nine
      cases hpe : (rpa == [])
      case true =>
        have HPE := hid_of hpe
        clear HD1 HD2
        cases rhq
        case true =>
          have HE : Hid (Ending.returned (.agg #[.string ⟨bsc.toArray⟩, .string ⟨bho.toArray⟩, .string ⟨bpa.toArray⟩, .string ⟨rqu.toArray⟩, .string ⟨rfr.toArray⟩, .bool bhs, .bool bhh, .bool true, .bool rhf]) = Ending.returned (.agg #[.string ⟨V.sc.toArray⟩, .string ⟨V.ho.toArray⟩, .string ⟨V.pa.toArray⟩, .string ⟨V.qu.toArray⟩, .string ⟨V.fr.toArray⟩, .bool V.hs, .bool V.hh, .bool V.hq, .bool V.hf])) := by show _ = _; rw [← HV.out]; unfold resolveK; simp only [Bool.false_eq_true, if_false]; rw [if_pos HPE.out]; first | done | simp
          go_wp2_with fail
          exact bodyPost_ret (results_rresolve rfl (Blk.put9 (HR.out.ho.other neL 2 _) _ _ _ _ _ _ _ _ _)) rfl ⟨HE.out, (below_put9 (below_setCell HR.out.below leL 2 _) (by omega) _ _ _ _ _ _ _ _ _)⟩
        case false =>
          have HE : Hid (Ending.returned (.agg #[.string ⟨bsc.toArray⟩, .string ⟨bho.toArray⟩, .string ⟨bpa.toArray⟩, .string ⟨bqu.toArray⟩, .string ⟨rfr.toArray⟩, .bool bhs, .bool bhh, .bool bhq, .bool rhf]) = Ending.returned (.agg #[.string ⟨V.sc.toArray⟩, .string ⟨V.ho.toArray⟩, .string ⟨V.pa.toArray⟩, .string ⟨V.qu.toArray⟩, .string ⟨V.fr.toArray⟩, .bool V.hs, .bool V.hh, .bool V.hq, .bool V.hf])) := by show _ = _; rw [← HV.out]; unfold resolveK; simp only [Bool.false_eq_true, if_false]; rw [if_pos HPE.out]; first | done | simp
          go_wp2_with fail
          go_region
          go_wp2_with fail
          exact bodyPost_ret (results_rresolve rfl (Blk.drew (Blk.put9 (((HR.out.ho.other neL 2 _).other neL 3 _).other neL 7 _) _ _ _ _ _ _ _ _ _))) rfl ⟨HE.out, (below_put9 (below_setCell (below_setCell (below_setCell HR.out.below leL 2 _) leL 3 _) leL 7 _) (by omega) _ _ _ _ _ _ _ _ _).drew⟩
      case false =>
        have HPE := hid_of hpe
        have hp1 : 0 < rpa.length := by
          rcases Nat.eq_zero_or_pos rpa.length with e | e
          · rw [List.eq_nil_of_length_eq_zero e] at hpe; cases hpe
          · exact e
        have y0 := byte_at rpa 0 (rpa.getD 0 0) hp1 rfl 0 rfl
        have g0 : (((rpa.getD 0 0).toNat : Int) == 47) = (rpa.getD 0 0 == 47) := eq_byte _ 47
        have sp := arr_size rpa
        cases hpc : (rpa.getD 0 0 == 47)
        case true =>
          rw [hpc] at g0
          have HPC := hid_of hpc
          clear hpc
          generalize rpa.getD 0 0 = c0x at y0 g0
          have HE : Hid (Ending.returned (.agg #[.string ⟨bsc.toArray⟩, .string ⟨bho.toArray⟩, .string ⟨(dotsM rpa).toArray⟩, .string ⟨rqu.toArray⟩, .string ⟨rfr.toArray⟩, .bool bhs, .bool bhh, .bool rhq, .bool rhf]) = Ending.returned (.agg #[.string ⟨V.sc.toArray⟩, .string ⟨V.ho.toArray⟩, .string ⟨V.pa.toArray⟩, .string ⟨V.qu.toArray⟩, .string ⟨V.fr.toArray⟩, .bool V.hs, .bool V.hh, .bool V.hq, .bool V.hf])) := by show _ = _; rw [← HV.out]; unfold resolveK; simp only [Bool.false_eq_true, if_false]; rw [if_neg (by rw [HPE.out]; decide), if_pos HPC.out]
          go_wp2_with fail
          (go_at_call 17; refine (HD1.out _).mono ?_; rintro e w5 ⟨rfl, h3⟩)
          have HRn := hid_of (HR.out.next h3)
          have HKLn := hid_of (HKL.out.below h3)
          clear HR HKL h3 c0 c1 c2 c3 c4 c5 c6 c7 c8 cz d0 d1 d2 d3 d4 d5 d6 d7 d8 dz e0 e1 e2 e3 e4 e5 e6 e7 e8 ez f0 f1 f2 f3 f4 f5 f6 f7 f8 fz
          rename Hid (RResAt _ _ _ _) => HR
          rename Hid (Blk _ L _ _) => HKL
          obtain ⟨c0, c1, c2, c3, c4, c5, c6, c7, c8, cz⟩ := HR.out.hb.nine
          obtain ⟨d0, d1, d2, d3, d4, d5, d6, d7, d8, dz⟩ := HR.out.hr.nine
          obtain ⟨e0, e1, e2, e3, e4, e5, e6, e7, e8, ez⟩ := HKL.out.nine
          obtain ⟨f0, f1, f2, f3, f4, f5, f6, f7, f8, fz⟩ := HR.out.ho.nine
          go_wp2_with fail
          exact bodyPost_ret (results_rresolve rfl (Blk.put9 (HR.out.ho.other neL 2 _) _ _ _ _ _ _ _ _ _)) rfl ⟨HE.out, (below_put9 (below_setCell HR.out.below leL 2 _) (by omega) _ _ _ _ _ _ _ _ _)⟩
        case false =>
          rw [hpc] at g0
          have HPC := hid_of hpc
          clear hpc
          generalize rpa.getD 0 0 = c0x at y0 g0
          cases bhh
          case false =>
            have hbe : (false && (bpa == [])) = false := rfl
            have HE : Hid (Ending.returned (.agg #[.string ⟨bsc.toArray⟩, .string ⟨bho.toArray⟩, .string ⟨(dotsM (fo ++ rpa)).toArray⟩, .string ⟨rqu.toArray⟩, .string ⟨rfr.toArray⟩, .bool bhs, .bool false, .bool rhq, .bool rhf]) = Ending.returned (.agg #[.string ⟨V.sc.toArray⟩, .string ⟨V.ho.toArray⟩, .string ⟨V.pa.toArray⟩, .string ⟨V.qu.toArray⟩, .string ⟨V.fr.toArray⟩, .bool V.hs, .bool V.hh, .bool V.hq, .bool V.hf])) := by show _ = _; rw [← HV.out]; unfold resolveK; simp only [Bool.false_eq_true, if_false]; rw [if_neg (by rw [HPE.out]; decide), if_neg (by rw [HPC.out]; decide)]; simp only; rw [HFK.out]
            have hfn : bpa.take (folderN bpa) = fo := by rw [← HFK.out]; unfold folderK; simp only; rw [hbe]; rfl
            have HFN := hid_of hfn
            have hfl2 : fo.length ≤ bpa.length := by rw [← hfn]; simp; omega
            clear hfn hbe
            have hcat : (⟨fo.toArray⟩ : ByteArray) ++ ⟨rpa.toArray⟩ = ⟨(fo ++ rpa).toArray⟩ := by apply ByteArray.ext; rw [ByteArray.data_append]; simp
            have sb := arr_size bpa
            have gz : ¬ 9223372036854775807 < fo.length + rpa.length := by omega
            go_wp2_with fail
            go_loopw [6] (fun vi wr => ∃ n : Nat, n ≤ bpa.length ∧ vi = .int .i64 n ∧ wr = w4 ∧ Hid (∀ j, n ≤ j → j < bpa.length → (bpa.getD j 0 == 47) = false)) (fun vi _ => (intOf vi).toNat)
            case atStart => exact ⟨bpa.length, Nat.le_refl _, rfl, by trivial, fun j h1 h2 => by omega⟩
            case round =>
              obtain ⟨n, hn, rfl, hwr, hP⟩ := hrel
              obtain rfl : w4 = wr := hwr.symm
              clear hwr
              have out : ∀ (k : Nat), k = n → (k = 0 ∨ (bpa.getD (k - 1) 0 == 47) = true) → bpa.take n = fo := fun k hk h => by
                subst hk
                rw [← HFN.out, folderN_at bpa k hn hP.out h]
              have OUT := hid_of out
              clear out
              have z1 := slice_h bpa n hn (n : Int) rfl
              by_cases hn0 : n = 0
              · subst hn0
                have ht := OUT.out 0 rfl (.inl rfl)
                have z0 := slice_h bpa 0 (by omega) 0 rfl
                rw [ht] at z0
                clear z1
                clear ht OUT
                go_wp2_with fail
                have dd0 : w4.drew.cell? ⟨w.heap.size, 2, none⟩ = some (.string ⟨bpa.toArray⟩) := c2
                have dd1 : w4.drew.cell? ⟨w.heap.size + 1, 2, none⟩ = some (.string ⟨rpa.toArray⟩) := d2
                go_region_held3 (fun w' => w'.cell? ⟨w.heap.size, 2, none⟩ = some (.string ⟨bpa.toArray⟩) ∧ w'.cell? ⟨w.heap.size + 1, 2, none⟩ = some (.string ⟨rpa.toArray⟩)) (first | with_reducible exact ⟨dd0, dd1⟩ | with_reducible exact ⟨o2, p2⟩ | (refine ⟨?_, ?_⟩ <;> (repeat (first | rw [cell_other neR] | rw [cell_other neB])) <;> first | with_reducible exact o2 | with_reducible exact p2)) (first | (go_at_call 17; refine (HD2.out _).mono ?_; rintro e w5 ⟨rfl, h3⟩; have HRb := hid_of ((HR.out.next (Below.refl _ _).drew).next h3); have HKb := hid_of ((HKL.out.below (Below.refl _ _).drew).below h3); obtain ⟨o0, o1, o2, o3, o4, o5, o6, o7, o8, oz⟩ := HRb.out.hb.nine; obtain ⟨p0, p1, p2, p3, p4, p5, p6, p7, p8, pz⟩ := HRb.out.hr.nine; obtain ⟨q0, q1, q2, q3, q4, q5, q6, q7, q8, qz⟩ := HKb.out.nine; obtain ⟨t0, t1, t2, t3, t4, t5, t6, t7, t8, tz⟩ := HRb.out.ho.nine; clear h3))
                all_goals go_wp2_with fail
                all_goals exact bodyPost_ret (results_rresolve rfl (Blk.put9 (HRb.out.ho.other neL 2 _) _ _ _ _ _ _ _ _ _)) rfl ⟨HE.out, (below_put9 (below_setCell HRb.out.below leL 2 _) (by omega) _ _ _ _ _ _ _ _ _)⟩
              · have hix := byte_at bpa (n - 1) (bpa.getD (n - 1) 0) (by omega) rfl ((n : Int) - 1) (by omega)
                have g47 : (((bpa.getD (n - 1) 0).toNat : Int) != 47) = !(bpa.getD (n - 1) 0 == 47) := by rw [← eq_byte (bpa.getD (n - 1) 0) 47]; rfl
                have n1 : decide ((n : Int) > 0) = true := by simp; omega
                have wn : IntKind.i64.wrap ((n : Int) - 1) = (n : Int) - 1 := by rw [IntKind.wrap_i64]; omega
                cases hc : (bpa.getD (n - 1) 0 == 47) with
                | true =>
                  have ht := OUT.out n rfl (.inr hc)
                  rw [ht] at z1
                  rw [hc] at g47
                  clear ht OUT hc
                  generalize bpa.getD (n - 1) 0 = cx at hix g47
                  go_wp2_with fail
                  have dd0 : w4.drew.cell? ⟨w.heap.size, 2, none⟩ = some (.string ⟨bpa.toArray⟩) := c2
                  have dd1 : w4.drew.cell? ⟨w.heap.size + 1, 2, none⟩ = some (.string ⟨rpa.toArray⟩) := d2
                  go_region_held3 (fun w' => w'.cell? ⟨w.heap.size, 2, none⟩ = some (.string ⟨bpa.toArray⟩) ∧ w'.cell? ⟨w.heap.size + 1, 2, none⟩ = some (.string ⟨rpa.toArray⟩)) (first | with_reducible exact ⟨dd0, dd1⟩ | with_reducible exact ⟨o2, p2⟩ | (refine ⟨?_, ?_⟩ <;> (repeat (first | rw [cell_other neR] | rw [cell_other neB])) <;> first | with_reducible exact o2 | with_reducible exact p2)) (first | (go_at_call 17; refine (HD2.out _).mono ?_; rintro e w5 ⟨rfl, h3⟩; have HRb := hid_of ((HR.out.next (Below.refl _ _).drew).next h3); have HKb := hid_of ((HKL.out.below (Below.refl _ _).drew).below h3); obtain ⟨o0, o1, o2, o3, o4, o5, o6, o7, o8, oz⟩ := HRb.out.hb.nine; obtain ⟨p0, p1, p2, p3, p4, p5, p6, p7, p8, pz⟩ := HRb.out.hr.nine; obtain ⟨q0, q1, q2, q3, q4, q5, q6, q7, q8, qz⟩ := HKb.out.nine; obtain ⟨t0, t1, t2, t3, t4, t5, t6, t7, t8, tz⟩ := HRb.out.ho.nine; clear h3))
                  all_goals go_wp2_with fail
                  all_goals exact bodyPost_ret (results_rresolve rfl (Blk.put9 (HRb.out.ho.other neL 2 _) _ _ _ _ _ _ _ _ _)) rfl ⟨HE.out, (below_put9 (below_setCell HRb.out.below leL 2 _) (by omega) _ _ _ _ _ _ _ _ _)⟩
                | false =>
                  have HP2 : Hid (∀ j, n - 1 ≤ j → j < bpa.length → (bpa.getD j 0 == 47) = false) := fun j h1 h2 => by
                    by_cases e : j = n - 1
                    · rw [e]; exact hc
                    · exact hP.out j (by omega) h2
                  rw [hc] at g47
                  clear hc OUT
                  generalize bpa.getD (n - 1) 0 = cx at hix g47
                  go_wp2_with fail
                  exact ⟨⟨n - 1, by omega, by have : ((n - 1 : Nat) : Int) = (n : Int) - 1 := by omega
                                              rw [this], by trivial, HP2⟩, by simp [intOf]; omega⟩
          case true =>
            cases hbp : (bpa == [])
            case true =>
              have hbe : (true && (bpa == [])) = true := by rw [hbp]; rfl
              have HE : Hid (Ending.returned (.agg #[.string ⟨bsc.toArray⟩, .string ⟨bho.toArray⟩, .string ⟨(dotsM (fo ++ rpa)).toArray⟩, .string ⟨rqu.toArray⟩, .string ⟨rfr.toArray⟩, .bool bhs, .bool true, .bool rhq, .bool rhf]) = Ending.returned (.agg #[.string ⟨V.sc.toArray⟩, .string ⟨V.ho.toArray⟩, .string ⟨V.pa.toArray⟩, .string ⟨V.qu.toArray⟩, .string ⟨V.fr.toArray⟩, .bool V.hs, .bool V.hh, .bool V.hq, .bool V.hf])) := by show _ = _; rw [← HV.out]; unfold resolveK; simp only [Bool.false_eq_true, if_false]; rw [if_neg (by rw [HPE.out]; decide), if_neg (by rw [HPC.out]; decide)]; simp only; rw [HFK.out]
              have hfo : fo = [47] := by rw [← HFK.out]; unfold folderK; simp only; rw [hbe]; rfl
              have hcat : (⟨#[47]⟩ : ByteArray) ++ ⟨rpa.toArray⟩ = ⟨(fo ++ rpa).toArray⟩ := by rw [hfo]; apply ByteArray.ext; rw [ByteArray.data_append]; simp
              clear hfo
              go_wp2_with fail
              (go_at_call 17; refine (HD2.out _).mono ?_; rintro e w5 ⟨rfl, h3⟩)
              have HRn := hid_of (HR.out.next h3)
              have HKLn := hid_of (HKL.out.below h3)
              clear HR HKL h3 c0 c1 c2 c3 c4 c5 c6 c7 c8 cz d0 d1 d2 d3 d4 d5 d6 d7 d8 dz e0 e1 e2 e3 e4 e5 e6 e7 e8 ez f0 f1 f2 f3 f4 f5 f6 f7 f8 fz
              rename Hid (RResAt _ _ _ _) => HR
              rename Hid (Blk _ L _ _) => HKL
              obtain ⟨c0, c1, c2, c3, c4, c5, c6, c7, c8, cz⟩ := HR.out.hb.nine
              obtain ⟨d0, d1, d2, d3, d4, d5, d6, d7, d8, dz⟩ := HR.out.hr.nine
              obtain ⟨e0, e1, e2, e3, e4, e5, e6, e7, e8, ez⟩ := HKL.out.nine
              obtain ⟨f0, f1, f2, f3, f4, f5, f6, f7, f8, fz⟩ := HR.out.ho.nine
              go_wp2_with fail
              exact bodyPost_ret (results_rresolve rfl (Blk.put9 (HR.out.ho.other neL 2 _) _ _ _ _ _ _ _ _ _)) rfl ⟨HE.out, (below_put9 (below_setCell HR.out.below leL 2 _) (by omega) _ _ _ _ _ _ _ _ _)⟩
            case false =>
              have hbe : (true && (bpa == [])) = false := by rw [hbp]; rfl
              have HE : Hid (Ending.returned (.agg #[.string ⟨bsc.toArray⟩, .string ⟨bho.toArray⟩, .string ⟨(dotsM (fo ++ rpa)).toArray⟩, .string ⟨rqu.toArray⟩, .string ⟨rfr.toArray⟩, .bool bhs, .bool true, .bool rhq, .bool rhf]) = Ending.returned (.agg #[.string ⟨V.sc.toArray⟩, .string ⟨V.ho.toArray⟩, .string ⟨V.pa.toArray⟩, .string ⟨V.qu.toArray⟩, .string ⟨V.fr.toArray⟩, .bool V.hs, .bool V.hh, .bool V.hq, .bool V.hf])) := by show _ = _; rw [← HV.out]; unfold resolveK; simp only [Bool.false_eq_true, if_false]; rw [if_neg (by rw [HPE.out]; decide), if_neg (by rw [HPC.out]; decide)]; simp only; rw [HFK.out]
              have hfn : bpa.take (folderN bpa) = fo := by rw [← HFK.out]; unfold folderK; simp only; rw [hbe]; rfl
              have HFN := hid_of hfn
              have hfl2 : fo.length ≤ bpa.length := by rw [← hfn]; simp; omega
              clear hfn hbe
              have hcat : (⟨fo.toArray⟩ : ByteArray) ++ ⟨rpa.toArray⟩ = ⟨(fo ++ rpa).toArray⟩ := by apply ByteArray.ext; rw [ByteArray.data_append]; simp
              have sb := arr_size bpa
              have gz : ¬ 9223372036854775807 < fo.length + rpa.length := by omega
              go_wp2_with fail
              go_loopw [6] (fun vi wr => ∃ n : Nat, n ≤ bpa.length ∧ vi = .int .i64 n ∧ wr = w4 ∧ Hid (∀ j, n ≤ j → j < bpa.length → (bpa.getD j 0 == 47) = false)) (fun vi _ => (intOf vi).toNat)
              case atStart => exact ⟨bpa.length, Nat.le_refl _, rfl, by trivial, fun j h1 h2 => by omega⟩
              case round =>
                obtain ⟨n, hn, rfl, hwr, hP⟩ := hrel
                obtain rfl : w4 = wr := hwr.symm
                clear hwr
                have out : ∀ (k : Nat), k = n → (k = 0 ∨ (bpa.getD (k - 1) 0 == 47) = true) → bpa.take n = fo := fun k hk h => by
                  subst hk
                  rw [← HFN.out, folderN_at bpa k hn hP.out h]
                have OUT := hid_of out
                clear out
                have z1 := slice_h bpa n hn (n : Int) rfl
                by_cases hn0 : n = 0
                · subst hn0
                  have ht := OUT.out 0 rfl (.inl rfl)
                  have z0 := slice_h bpa 0 (by omega) 0 rfl
                  rw [ht] at z0
                  clear z1
                  clear ht OUT
                  go_wp2_with fail
                  have dd0 : w4.drew.cell? ⟨w.heap.size, 2, none⟩ = some (.string ⟨bpa.toArray⟩) := c2
                  have dd1 : w4.drew.cell? ⟨w.heap.size + 1, 2, none⟩ = some (.string ⟨rpa.toArray⟩) := d2
                  go_region_held3 (fun w' => w'.cell? ⟨w.heap.size, 2, none⟩ = some (.string ⟨bpa.toArray⟩) ∧ w'.cell? ⟨w.heap.size + 1, 2, none⟩ = some (.string ⟨rpa.toArray⟩)) (first | with_reducible exact ⟨dd0, dd1⟩ | with_reducible exact ⟨o2, p2⟩ | (refine ⟨?_, ?_⟩ <;> (repeat (first | rw [cell_other neR] | rw [cell_other neB])) <;> first | with_reducible exact o2 | with_reducible exact p2)) (first | (go_at_call 17; refine (HD2.out _).mono ?_; rintro e w5 ⟨rfl, h3⟩; have HRb := hid_of ((HR.out.next (Below.refl _ _).drew).next h3); have HKb := hid_of ((HKL.out.below (Below.refl _ _).drew).below h3); obtain ⟨o0, o1, o2, o3, o4, o5, o6, o7, o8, oz⟩ := HRb.out.hb.nine; obtain ⟨p0, p1, p2, p3, p4, p5, p6, p7, p8, pz⟩ := HRb.out.hr.nine; obtain ⟨q0, q1, q2, q3, q4, q5, q6, q7, q8, qz⟩ := HKb.out.nine; obtain ⟨t0, t1, t2, t3, t4, t5, t6, t7, t8, tz⟩ := HRb.out.ho.nine; clear h3))
                  all_goals go_wp2_with fail
                  all_goals exact bodyPost_ret (results_rresolve rfl (Blk.put9 (HRb.out.ho.other neL 2 _) _ _ _ _ _ _ _ _ _)) rfl ⟨HE.out, (below_put9 (below_setCell HRb.out.below leL 2 _) (by omega) _ _ _ _ _ _ _ _ _)⟩
                · have hix := byte_at bpa (n - 1) (bpa.getD (n - 1) 0) (by omega) rfl ((n : Int) - 1) (by omega)
                  have g47 : (((bpa.getD (n - 1) 0).toNat : Int) != 47) = !(bpa.getD (n - 1) 0 == 47) := by rw [← eq_byte (bpa.getD (n - 1) 0) 47]; rfl
                  have n1 : decide ((n : Int) > 0) = true := by simp; omega
                  have wn : IntKind.i64.wrap ((n : Int) - 1) = (n : Int) - 1 := by rw [IntKind.wrap_i64]; omega
                  cases hc : (bpa.getD (n - 1) 0 == 47) with
                  | true =>
                    have ht := OUT.out n rfl (.inr hc)
                    rw [ht] at z1
                    rw [hc] at g47
                    clear ht OUT hc
                    generalize bpa.getD (n - 1) 0 = cx at hix g47
                    go_wp2_with fail
                    have dd0 : w4.drew.cell? ⟨w.heap.size, 2, none⟩ = some (.string ⟨bpa.toArray⟩) := c2
                    have dd1 : w4.drew.cell? ⟨w.heap.size + 1, 2, none⟩ = some (.string ⟨rpa.toArray⟩) := d2
                    go_region_held3 (fun w' => w'.cell? ⟨w.heap.size, 2, none⟩ = some (.string ⟨bpa.toArray⟩) ∧ w'.cell? ⟨w.heap.size + 1, 2, none⟩ = some (.string ⟨rpa.toArray⟩)) (first | with_reducible exact ⟨dd0, dd1⟩ | with_reducible exact ⟨o2, p2⟩ | (refine ⟨?_, ?_⟩ <;> (repeat (first | rw [cell_other neR] | rw [cell_other neB])) <;> first | with_reducible exact o2 | with_reducible exact p2)) (first | (go_at_call 17; refine (HD2.out _).mono ?_; rintro e w5 ⟨rfl, h3⟩; have HRb := hid_of ((HR.out.next (Below.refl _ _).drew).next h3); have HKb := hid_of ((HKL.out.below (Below.refl _ _).drew).below h3); obtain ⟨o0, o1, o2, o3, o4, o5, o6, o7, o8, oz⟩ := HRb.out.hb.nine; obtain ⟨p0, p1, p2, p3, p4, p5, p6, p7, p8, pz⟩ := HRb.out.hr.nine; obtain ⟨q0, q1, q2, q3, q4, q5, q6, q7, q8, qz⟩ := HKb.out.nine; obtain ⟨t0, t1, t2, t3, t4, t5, t6, t7, t8, tz⟩ := HRb.out.ho.nine; clear h3))
                    all_goals go_wp2_with fail
                    all_goals exact bodyPost_ret (results_rresolve rfl (Blk.put9 (HRb.out.ho.other neL 2 _) _ _ _ _ _ _ _ _ _)) rfl ⟨HE.out, (below_put9 (below_setCell HRb.out.below leL 2 _) (by omega) _ _ _ _ _ _ _ _ _)⟩
                  | false =>
                    have HP2 : Hid (∀ j, n - 1 ≤ j → j < bpa.length → (bpa.getD j 0 == 47) = false) := fun j h1 h2 => by
                      by_cases e : j = n - 1
                      · rw [e]; exact hc
                      · exact hP.out j (by omega) h2
                    rw [hc] at g47
                    clear hc OUT
                    generalize bpa.getD (n - 1) 0 = cx at hix g47
                    go_wp2_with fail
                    exact ⟨⟨n - 1, by omega, by have : ((n - 1 : Nat) : Int) = (n : Int) - 1 := by omega
                                                rw [this], by trivial, HP2⟩, by simp [intOf]; omega⟩
end Go.Proofs.YtnnajpdliokodaaDoor.L
