/- What is proved here: the contract of the document's Mended of layer 12: a link whose texts are mended. -/
import Derived.Test.YthkigcpbckjhjaaDoorBun8
import Derived.Deep.RegionWith
import Derived.Deep.CutRange
namespace Go.Proofs.YthkigcpbckjhjaaDoor.L
open Go.RowKit Go.Shelf Go.Proofs.YthkigcpbckjhjaaDoor.N Go.Proofs.YthkigcpbckjhjaaDoor.U

theorem results_rmended {tmps : Array Value} {W : World} {A : Nat} {v0 v1 v2 v3 v4 v5 v6 v7 v8 : Value} {t : TypeId} (h2 : tmps[2]?.getD undef = .pointer (some ⟨A, 0, none⟩)) (h : Blk W A #[v0, v1, v2, v3, v4, v5, v6, v7, v8] t) :
    (results Tryd.f9 tmps).run Tryd.prog W = .ok (.agg #[v0, v1, v2, v3, v4, v5, v6, v7, v8]) W := by
  obtain ⟨c0, c1, c2, c3, c4, c5, c6, c7, c8, -⟩ := h.nine
  simp [results, Tryd.results9, go_sem, h2, c0, c1, c2, c3, c4, c5, c6, c7, c8]
set_option maxRecDepth 100000 in
set_option maxHeartbeats 8000000 in
/-- **Mended.** -/
theorem rmended_calls (l : Lk) (w : World) (hl : l.Small 1000000000) : Calls Tryd.prog 9 #[l.v] w fun e W' => e = .returned l.mend.v ∧ Below w.heap.size w W' := by
  obtain ⟨sc, ho, pa, qu, fr, h1, h2, h3, h4⟩ := l
  have HM : Hid (∀ (x : List UInt8) W, Below w.heap.size w W → x.length ≤ 1000000000 → Calls Tryd.prog 18 #[.string ⟨x.toArray⟩] W fun e W' => e = .returned (.string ⟨(mendL x).toArray⟩) ∧ Below W.heap.size W W') := fun x W _ hx => R.rmend_calls x W (by omega)
  obtain ⟨l0, l1, l2, l3, l4⟩ := hl
  have HM0 := hid_of (fun W h => HM.out sc W h l0)
  have HM1 := hid_of (fun W h => HM.out ho W h l1)
  have HM2 := hid_of (fun W h => HM.out pa W h l2)
  have HM3 := hid_of (fun W h => HM.out qu W h l3)
  have HM4 := hid_of (fun W h => HM.out fr W h l4)
  unfold Lk.v Lk.mend
  simp only
  generalize mendL sc = sc' at *
  generalize mendL ho = ho' at *
  generalize mendL pa = pa' at *
  generalize mendL qu = qu' at *
  generalize mendL fr = fr' at *
  clear HM l0 l1 l2 l3 l4
  have hgn : w.heap.size + 1 ≠ w.heap.size := by omega
  have mixed : Tryd.prog.follows .mixedOrders = true := by kernel_rfl
  have HB0 : Hid (Below w.heap.size w ((w.alloc (.cells #[.string ⟨sc.toArray⟩, .string ⟨ho.toArray⟩, .string ⟨pa.toArray⟩, .string ⟨qu.toArray⟩, .string ⟨fr.toArray⟩, .bool h1, .bool h2, .bool h3, .bool h4] 23)).alloc (.cells noLink 23))) := ((Below.refl _ w).alloc (Nat.le_refl _) _).alloc (by simp) _
  have HA0 : Hid (Blk ((w.alloc (.cells #[.string ⟨sc.toArray⟩, .string ⟨ho.toArray⟩, .string ⟨pa.toArray⟩, .string ⟨qu.toArray⟩, .string ⟨fr.toArray⟩, .bool h1, .bool h2, .bool h3, .bool h4] 23)).alloc (.cells noLink 23)) w.heap.size _ 23) := (Blk.new w _ _).alloc _
  have HA1 : Hid (Blk ((w.alloc (.cells #[.string ⟨sc.toArray⟩, .string ⟨ho.toArray⟩, .string ⟨pa.toArray⟩, .string ⟨qu.toArray⟩, .string ⟨fr.toArray⟩, .bool h1, .bool h2, .bool h3, .bool h4] 23)).alloc (.cells noLink 23)) (w.heap.size + 1) noLink 23) := by
    have := Blk.new (w.alloc (.cells #[.string ⟨sc.toArray⟩, .string ⟨ho.toArray⟩, .string ⟨pa.toArray⟩, .string ⟨qu.toArray⟩, .string ⟨fr.toArray⟩, .bool h1, .bool h2, .bool h3, .bool h4] 23)) noLink 23
    rw [show (w.alloc (.cells #[.string ⟨sc.toArray⟩, .string ⟨ho.toArray⟩, .string ⟨pa.toArray⟩, .string ⟨qu.toArray⟩, .string ⟨fr.toArray⟩, .bool h1, .bool h2, .bool h3, .bool h4] 23)).heap.size = w.heap.size + 1 from Array.size_push _] at this
    exact this
  unfold noLink at HB0 HA0 HA1
  go_enter Tryd.func9, Tryd.ntmps9
  go_wp2_with fail
  generalize ((w.alloc (.cells #[.string ⟨sc.toArray⟩, .string ⟨ho.toArray⟩, .string ⟨pa.toArray⟩, .string ⟨qu.toArray⟩, .string ⟨fr.toArray⟩, .bool h1, .bool h2, .bool h3, .bool h4] 23)).alloc (.cells #[.string ⟨#[]⟩, .string ⟨#[]⟩, .string ⟨#[]⟩, .string ⟨#[]⟩, .string ⟨#[]⟩, .bool false, .bool false, .bool false, .bool false] 23)) = w1 at *
  obtain ⟨c0, c1, c2, c3, c4, c5, c6, c7, c8, fz⟩ := HA0.out.nine
  go_cut [] from 3 (fun wx => Hid (Blk wx w.heap.size #[.string ⟨sc'.toArray⟩, .string ⟨ho'.toArray⟩, .string ⟨pa'.toArray⟩, .string ⟨qu.toArray⟩, .string ⟨fr.toArray⟩, .bool h1, .bool h2, .bool h3, .bool h4] 23) ∧ Hid (Blk wx (w.heap.size + 1) noLink 23) ∧ Hid (Below w.heap.size w wx))
  case first =>
    go_region_with (first
      | (go_at_call 18; refine (HM2.out _ HBb.out).mono ?_; rintro e wc ⟨rfl, hbc⟩; have HBc := hid_of (HBb.out.trans (hbc.mono HBb.out.size)); have HKc := hid_of (HKb.out.below hbc); have HRc := hid_of (HRb.out.below hbc); obtain ⟨e0, e1, e2, e3, e4, e5, e6, e7, e8, ez⟩ := HKc.out.nine; clear hbc)
      | (go_at_call 18; refine (HM1.out _ HBa.out).mono ?_; rintro e wb ⟨rfl, hbb⟩; have HBb := hid_of (HBa.out.trans (hbb.mono HBa.out.size)); have HKb := hid_of (HKa.out.below hbb); have HRb := hid_of (HRa.out.below hbb); obtain ⟨b0, b1, b2, b3, b4, b5, b6, b7, b8, bz⟩ := HKb.out.nine; clear hbb)
      | (go_at_call 18; refine (HM0.out _ HB0.out.drew).mono ?_; rintro e wa ⟨rfl, hba⟩; have HBa := hid_of (HB0.out.drew.trans (hba.mono HB0.out.drew.size)); have HKa := hid_of (HA0.out.drew.below hba); have HRa := hid_of (HA1.out.drew.below hba); obtain ⟨a0, a1, a2, a3, a4, a5, a6, a7, a8, az⟩ := HKa.out.nine; clear hba))
    all_goals go_wp2_with fail
    all_goals go_meet
    all_goals exact ⟨((HKc.out.set 0 _).set 1 _).set 2 _, ((HRc.out.other hgn 0 _).other hgn 1 _).other hgn 2 _, below_setCell (below_setCell (below_setCell HBc.out (Nat.le_refl _) 0 _) (Nat.le_refl _) 1 _) (Nat.le_refl _) 2 _⟩
  case rest =>
    obtain ⟨HK, HR, HB⟩ := hcut
    clear HB0 HA0 HA1 c0 c1 c2 c3 c4 c5 c6 c7 c8 fz HM0 HM1 HM2
    obtain ⟨c0, c1, c2, c3, c4, c5, c6, c7, c8, fz⟩ := HK.out.nine
    go_wp2_with fail
    go_region_with (first
      | (go_at_call 18; refine (HM4.out _ HBa.out).mono ?_; rintro e wb ⟨rfl, hbb⟩; have HBb := hid_of (HBa.out.trans (hbb.mono HBa.out.size)); have HKb := hid_of (HKa.out.below hbb); have HRb := hid_of (HRa.out.below hbb); obtain ⟨b0, b1, b2, b3, b4, b5, b6, b7, b8, bz⟩ := HKb.out.nine; clear hbb)
      | (go_at_call 18; refine (HM3.out _ HB.out.drew).mono ?_; rintro e wa ⟨rfl, hba⟩; have HBa := hid_of (HB.out.drew.trans (hba.mono HB.out.drew.size)); have HKa := hid_of (HK.out.drew.below hba); have HRa := hid_of (HR.out.drew.below hba); obtain ⟨a0, a1, a2, a3, a4, a5, a6, a7, a8, az⟩ := HKa.out.nine; clear hba))
    all_goals unfold noLink at HRb
    all_goals obtain ⟨d0, d1, d2, d3, d4, d5, d6, d7, d8, dz⟩ := HRb.out.nine
    all_goals go_wp2_with fail
    all_goals exact bodyPost_ret (results_rmended rfl (Blk.put9 ((HRb.out.other hgn 3 _).other hgn 4 _) _ _ _ _ _ _ _ _ _)) rfl ⟨rfl, below_put9 (below_setCell (below_setCell HBb.out (Nat.le_refl _) 3 _) (Nat.le_refl _) 4 _) (show w.heap.size ≤ w.heap.size + 1 by omega) _ _ _ _ _ _ _ _ _⟩
end Go.Proofs.YthkigcpbckjhjaaDoor.L
