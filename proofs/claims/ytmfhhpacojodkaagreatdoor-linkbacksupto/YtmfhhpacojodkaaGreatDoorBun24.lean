/- What is proved here: laws and contracts of LpResolve, LkCellO, one behind the other (each says its own). -/
import Derived.Test.YtmfhhpacojodkaaGreatDoorBun23
import Derived.Test.YtmfhhpacojodkaaGreatDoorLpDots
import Derived.Deep.RegionWith
import Derived.Deep.CutRange
import Derived.Deep.RegionHeld3
import Derived.Test.YtmfhhpacojodkaaGreatDoorBun22
/- What is proved here: the contract of link.Resolve: what a reference says in a place that a base names. -/
namespace Go.Proofs.YtmfhhpacojodkaaGreatDoor.L
open Go.RowKit Go.Shelf Go.Proofs.YtmfhhpacojodkaaGreatDoor.N Go.Proofs.YtmfhhpacojodkaaGreatDoor.U

theorem results_resolve {tmps : Array Value} {W : World} {A : Nat} {v0 v1 v2 v3 v4 v5 v6 v7 v8 : Value} {t : TypeId} (h2 : tmps[4]?.getD undef = .pointer (some ⟨A, 0, none⟩)) (h : Blk W A #[v0, v1, v2, v3, v4, v5, v6, v7, v8] t) :
    (results Tryz.f15 tmps).run Tryz.prog W = .ok (.agg #[v0, v1, v2, v3, v4, v5, v6, v7, v8]) W := by
  obtain ⟨c0, c1, c2, c3, c4, c5, c6, c7, c8, -⟩ := h.nine
  simp [results, Tryz.results15, go_sem, h2, c0, c1, c2, c3, c4, c5, c6, c7, c8]
theorem Lk.mend_small {l : Lk} {n : Nat} (h : l.Small n) : l.mend.Small (4 * n) :=
  ⟨by have := mend_le l.sc; have := h.sc; simp only [Lk.mend]; omega, by have := mend_le l.ho; have := h.ho; simp only [Lk.mend]; omega, by have := mend_le l.pa; have := h.pa; simp only [Lk.mend]; omega, by have := mend_le l.qu; have := h.qu; simp only [Lk.mend]; omega, by have := mend_le l.fr; have := h.fr; simp only [Lk.mend]; omega⟩
/-- What lies where behind the first statements. -/
structure ResAt (w W : World) (b r : Array Value) : Prop where
  hb : Blk W w.heap.size b 42
  hr : Blk W (w.heap.size + 1) r 42
  ho : Blk W (w.heap.size + 1 + 1) #[.string ⟨#[]⟩, .string ⟨#[]⟩, .string ⟨#[]⟩, .string ⟨#[]⟩, .string ⟨#[]⟩, .bool false, .bool false, .bool false, .bool false] 42
  below : Below w.heap.size w W
theorem ResAt.next {w W W' : World} {b r : Array Value} (h : ResAt w W b r) (hb : Below W.heap.size W W') : ResAt w W' b r := ⟨h.hb.below hb, h.hr.below hb, h.ho.below hb, h.below.trans (hb.mono h.below.size)⟩
theorem resAt_new (w : World) (b r : Array Value) : ResAt w (((w.alloc (.cells b 42)).alloc (.cells r 42)).alloc (.cells #[.string ⟨#[]⟩, .string ⟨#[]⟩, .string ⟨#[]⟩, .string ⟨#[]⟩, .string ⟨#[]⟩, .bool false, .bool false, .bool false, .bool false] 42)) b r := by
  have z1 : (w.alloc (.cells b 42)).heap.size = w.heap.size + 1 := Array.size_push _
  have z2 : ((w.alloc (.cells b 42)).alloc (.cells r 42)).heap.size = w.heap.size + 1 + 1 := (Array.size_push _).trans (by rw [z1])
  refine ⟨((Blk.new w _ _).alloc _).alloc _, ?_, ?_, (((Below.refl _ w).alloc (Nat.le_refl _) _).alloc (by omega) _).alloc (by omega) _⟩
  · have := (Blk.new (w.alloc (.cells b 42)) r 42).alloc (.cells #[.string ⟨#[]⟩, .string ⟨#[]⟩, .string ⟨#[]⟩, .string ⟨#[]⟩, .string ⟨#[]⟩, .bool false, .bool false, .bool false, .bool false] 42)
    rw [z1] at this
    exact this
  · have := Blk.new ((w.alloc (.cells b 42)).alloc (.cells r 42)) #[.string ⟨#[]⟩, .string ⟨#[]⟩, .string ⟨#[]⟩, .string ⟨#[]⟩, .string ⟨#[]⟩, .bool false, .bool false, .bool false, .bool false] 42
    rw [z2] at this
    exact this
theorem Blk.other9 {w : World} {g g' : Nat} {cs : Array Value} {t : TypeId} (h : Blk w g cs t) (hg : g ≠ g') (v0 v1 v2 v3 v4 v5 v6 v7 v8 : Value) : Blk (((((((((w.setCell ⟨g', 0, none⟩ v0).setCell ⟨g', 1, none⟩ v1).setCell ⟨g', 2, none⟩ v2).setCell ⟨g', 3, none⟩ v3).setCell ⟨g', 4, none⟩ v4).setCell ⟨g', 5, none⟩ v5).setCell ⟨g', 6, none⟩ v6).setCell ⟨g', 7, none⟩ v7).setCell ⟨g', 8, none⟩ v8) g cs t :=
  ((((((((h.other hg 0 v0).other hg 1 v1).other hg 2 v2).other hg 3 v3).other hg 4 v4).other hg 5 v5).other hg 6 v6).other hg 7 v7).other hg 8 v8
set_option maxRecDepth 100000 in
set_option maxHeartbeats 8000000 in
/-- **Resolve.** -/
theorem resolve_calls (b r : Lk) (w : World) (hT : Tb w) (hb : b.Small 100000000) (hr : r.Small 100000000) : Calls Tryz.prog 15 #[b.v, r.v] w fun e W' => e = .returned (resolveK b.mend r.mend).v ∧ Below w.heap.size w W' := by
  have mixed : Tryz.prog.follows .mixedOrders = true := by kernel_rfl
  have HMB : Hid (∀ W, Below w.heap.size w W → Calls Tryz.prog 37 #[b.v] W fun e W' => e = .returned b.mend.v ∧ Below W.heap.size W W') := fun W h => mended_calls b W (hT.below h) ⟨Nat.le_trans hb.sc (by omega), Nat.le_trans hb.ho (by omega), Nat.le_trans hb.pa (by omega), Nat.le_trans hb.qu (by omega), Nat.le_trans hb.fr (by omega)⟩
  have HMR : Hid (∀ W, Below w.heap.size w W → Calls Tryz.prog 37 #[r.v] W fun e W' => e = .returned r.mend.v ∧ Below W.heap.size W W') := fun W h => mended_calls r W (hT.below h) ⟨Nat.le_trans hr.sc (by omega), Nat.le_trans hr.ho (by omega), Nat.le_trans hr.pa (by omega), Nat.le_trans hr.qu (by omega), Nat.le_trans hr.fr (by omega)⟩
  have hbs := Lk.mend_small hb
  have hrs := Lk.mend_small hr
  have HFO : Hid (∀ W, Below w.heap.size w W → Calls Tryz.prog 40 #[b.mend.v] W fun e W' => e = .returned (.string ⟨(folderK b.mend).toArray⟩) ∧ Below W.heap.size W W') := fun W _ => folder_calls b.mend W (Nat.le_trans hbs.pa (by omega))
  have HDO : Hid (∀ (p : List UInt8) W, Val p → p.length ≤ 1000000000 → Below w.heap.size w W → Calls Tryz.prog 39 #[.string ⟨p.toArray⟩] W fun e W' => e = .returned (.string ⟨(dotsM p).toArray⟩) ∧ Below W.heap.size W W') := fun p W hv hp h => by
    have := dots_calls p W (hT.below h) (by omega)
    rw [hv.mend] at this
    exact this
  have hrp : Val r.mend.pa := val_mend _
  have hfv : Val (folderK b.mend) := val_folder (val_mend _)
  have hfl := folder_le b.mend
  have l1 := hbs.pa
  have l2 := hrs.pa
  have HD1 := hid_of (fun W h => HDO.out r.mend.pa W hrp (by omega) h)
  have HD2 := hid_of (fun W h => HDO.out (folderK b.mend ++ r.mend.pa) W (hfv.app hrp) (by simp; omega) h)
  have sF := arr_size (folderK b.mend)
  have hcat : (⟨(folderK b.mend).toArray⟩ : ByteArray) ++ ⟨r.mend.pa.toArray⟩ = ⟨(folderK b.mend ++ r.mend.pa).toArray⟩ := by apply ByteArray.ext; rw [ByteArray.data_append]; simp
  clear hrp hfv hbs hrs hb hr hT HDO
  obtain ⟨V, hV⟩ : ∃ V, resolveK b.mend r.mend = V := ⟨_, rfl⟩
  rw [hV]
  have HV : Hid (resolveK b.mend r.mend = V) := hV
  clear hV
  obtain ⟨b', hb'⟩ : ∃ b', b.mend = b' := ⟨_, rfl⟩
  obtain ⟨r', hr'⟩ : ∃ r', r.mend = r' := ⟨_, rfl⟩
  rw [hb'] at HMB HFO HD2 HV hfl l1 sF hcat
  rw [hr'] at HMR HD1 HD2 HV l2 hcat
  clear hb' hr'
  obtain ⟨fo, hfo⟩ : ∃ fo, folderK b' = fo := ⟨_, rfl⟩
  rw [hfo] at HFO HD2 hfl sF hcat
  have HFK := hid_of hfo
  clear hfo
  obtain ⟨b0sc, b0ho, b0pa, b0qu, b0fr, b0hs, b0hh, b0hq, b0hf⟩ := b
  obtain ⟨r0sc, r0ho, r0pa, r0qu, r0fr, r0hs, r0hh, r0hq, r0hf⟩ := r
  obtain ⟨bsc, bho, bpa, bqu, bfr, bhs, bhh, bhq, bhf⟩ := b'
  obtain ⟨rsc, rho, rpa, rqu, rfr, rhs, rhh, rhq, rhf⟩ := r'
  simp only at l1 l2 HD1 HD2 hcat hfl
  have HR0 : Hid (ResAt w _ #[.string ⟨b0sc.toArray⟩, .string ⟨b0ho.toArray⟩, .string ⟨b0pa.toArray⟩, .string ⟨b0qu.toArray⟩, .string ⟨b0fr.toArray⟩, .bool b0hs, .bool b0hh, .bool b0hq, .bool b0hf] #[.string ⟨r0sc.toArray⟩, .string ⟨r0ho.toArray⟩, .string ⟨r0pa.toArray⟩, .string ⟨r0qu.toArray⟩, .string ⟨r0fr.toArray⟩, .bool r0hs, .bool r0hh, .bool r0hq, .bool r0hf]) := resAt_new w _ _
  unfold Lk.v at *
  simp only at *
  go_enter Tryz.func15, Tryz.ntmps15
  go_wp2_with fail
  generalize (((w.alloc (.cells #[.string ⟨b0sc.toArray⟩, .string ⟨b0ho.toArray⟩, .string ⟨b0pa.toArray⟩, .string ⟨b0qu.toArray⟩, .string ⟨b0fr.toArray⟩, .bool b0hs, .bool b0hh, .bool b0hq, .bool b0hf] 42)).alloc (.cells #[.string ⟨r0sc.toArray⟩, .string ⟨r0ho.toArray⟩, .string ⟨r0pa.toArray⟩, .string ⟨r0qu.toArray⟩, .string ⟨r0fr.toArray⟩, .bool r0hs, .bool r0hh, .bool r0hq, .bool r0hf] 42)).alloc (.cells #[.string ⟨#[]⟩, .string ⟨#[]⟩, .string ⟨#[]⟩, .string ⟨#[]⟩, .string ⟨#[]⟩, .bool false, .bool false, .bool false, .bool false] 42)) = w1 at *
  obtain ⟨c0, c1, c2, c3, c4, c5, c6, c7, c8, cz⟩ := HR0.out.hb.nine
  obtain ⟨d0, d1, d2, d3, d4, d5, d6, d7, d8, dz⟩ := HR0.out.hr.nine
  have ne1 : w.heap.size ≠ w.heap.size + 1 := by omega
  have ne2 : w.heap.size + 1 ≠ w.heap.size := by omega
  have ne3 : w.heap.size + 1 + 1 ≠ w.heap.size := by omega
  have ne4 : w.heap.size + 1 + 1 ≠ w.heap.size + 1 := by omega
  go_cut [] from 5 (fun wx => Hid (ResAt w wx #[.string ⟨bsc.toArray⟩, .string ⟨bho.toArray⟩, .string ⟨bpa.toArray⟩, .string ⟨bqu.toArray⟩, .string ⟨bfr.toArray⟩, .bool bhs, .bool bhh, .bool bhq, .bool bhf] #[.string ⟨rsc.toArray⟩, .string ⟨rho.toArray⟩, .string ⟨rpa.toArray⟩, .string ⟨rqu.toArray⟩, .string ⟨rfr.toArray⟩, .bool rhs, .bool rhh, .bool rhq, .bool rhf]))
  case first =>
    go_region_with (first
      | (go_at_call 37; refine (HMR.out _ HRa.out.below).mono ?_; rintro e wb ⟨rfl, hbb⟩; have HRb := hid_of (HRa.out.next hbb); obtain ⟨x0, x1, x2, x3, x4, x5, x6, x7, x8, xz⟩ := HRb.out.hb.nine; obtain ⟨z0, z1, z2, z3, z4, z5, z6, z7, z8, zz⟩ := HRb.out.hr.nine; clear hbb)
      | (go_at_call 37; refine (HMB.out _ HR0.out.below.drew).mono ?_; rintro e wa ⟨rfl, hba⟩; have HRa := hid_of ((HR0.out.next (Below.refl _ _).drew).next hba); obtain ⟨a0, a1, a2, a3, a4, a5, a6, a7, a8, az⟩ := HRa.out.hb.nine; obtain ⟨e0, e1, e2, e3, e4, e5, e6, e7, e8, ez⟩ := HRa.out.hr.nine; clear hba))
    all_goals go_wp2_with fail
    all_goals go_meet
    all_goals exact ⟨Blk.other9 (Blk.put9 HRb.out.hb _ _ _ _ _ _ _ _ _) ne1 _ _ _ _ _ _ _ _ _, Blk.put9 (Blk.other9 HRb.out.hr ne2 _ _ _ _ _ _ _ _ _) _ _ _ _ _ _ _ _ _, Blk.other9 (Blk.other9 HRb.out.ho ne3 _ _ _ _ _ _ _ _ _) ne4 _ _ _ _ _ _ _ _ _, below_put9 (below_put9 HRb.out.below (Nat.le_refl _) _ _ _ _ _ _ _ _ _) (by omega) _ _ _ _ _ _ _ _ _⟩
  case rest =>
    have HR1 := hcut
    clear hcut HR0 c0 c1 c2 c3 c4 c5 c6 c7 c8 cz d0 d1 d2 d3 d4 d5 d6 d7 d8 dz HMB HMR ne1 ne2 ne3 ne4
    have HR := hid_of (HR1.out.next ((Below.refl _ wc).alloc (Nat.le_refl _) (.cells #[.string ⟨rsc.toArray⟩, .string ⟨rho.toArray⟩, .string ⟨rpa.toArray⟩, .string ⟨rqu.toArray⟩, .string ⟨rfr.toArray⟩, .bool rhs, .bool rhh, .bool rhq, .bool rhf] 42)))
    have HKL := hid_of (Blk.new wc #[.string ⟨rsc.toArray⟩, .string ⟨rho.toArray⟩, .string ⟨rpa.toArray⟩, .string ⟨rqu.toArray⟩, .string ⟨rfr.toArray⟩, .bool rhs, .bool rhh, .bool rhq, .bool rhf] 42)
    have hL : w.heap.size + 1 + 1 < wc.heap.size := HR1.out.ho.lt
    obtain ⟨L, hLL⟩ : ∃ L, wc.heap.size = L := ⟨_, rfl⟩
    rw [hLL] at HKL hL
    have HLL := hid_of hLL
    have neL : w.heap.size + 1 + 1 ≠ L := by omega
    have neB : w.heap.size ≠ L := by omega
    have neR : w.heap.size + 1 ≠ L := by omega
    have leL : w.heap.size ≤ L := by omega
    obtain ⟨x0, x1, x2, x3, x4, x5, x6, x7, x8, -⟩ := HR1.out.hr.nine
    clear HR1
    go_upto_region 4 with fail
    generalize wc.alloc (.cells #[.string ⟨rsc.toArray⟩, .string ⟨rho.toArray⟩, .string ⟨rpa.toArray⟩, .string ⟨rqu.toArray⟩, .string ⟨rfr.toArray⟩, .bool rhs, .bool rhh, .bool rhq, .bool rhf] 42) = w2 at *
    clear x0 x1 x2 x3 x4 x5 x6 x7 x8 hLL HLL
    cases rhs
    case true =>
      have HE : Hid (Ending.returned (.agg #[.string ⟨rsc.toArray⟩, .string ⟨rho.toArray⟩, .string ⟨(dotsM rpa).toArray⟩, .string ⟨rqu.toArray⟩, .string ⟨rfr.toArray⟩, .bool true, .bool rhh, .bool rhq, .bool rhf]) = Ending.returned (.agg #[.string ⟨V.sc.toArray⟩, .string ⟨V.ho.toArray⟩, .string ⟨V.pa.toArray⟩, .string ⟨V.qu.toArray⟩, .string ⟨V.fr.toArray⟩, .bool V.hs, .bool V.hh, .bool V.hq, .bool V.hf])) := by show _ = _; rw [← HV.out]; rfl
      obtain ⟨c0, c1, c2, c3, c4, c5, c6, c7, c8, cz⟩ := HR.out.hb.nine
      obtain ⟨d0, d1, d2, d3, d4, d5, d6, d7, d8, dz⟩ := HR.out.hr.nine
      obtain ⟨e0, e1, e2, e3, e4, e5, e6, e7, e8, ez⟩ := HKL.out.nine
      obtain ⟨f0, f1, f2, f3, f4, f5, f6, f7, f8, fz⟩ := HR.out.ho.nine
      go_wp2_with fail
      (go_at_call 39; refine (HD1.out _ HR.out.below).mono ?_; rintro e w3 ⟨rfl, h3⟩)
      have HRn := hid_of (HR.out.next h3)
      have HKLn := hid_of (HKL.out.below h3)
      clear HR HKL h3 c0 c1 c2 c3 c4 c5 c6 c7 c8 cz d0 d1 d2 d3 d4 d5 d6 d7 d8 dz e0 e1 e2 e3 e4 e5 e6 e7 e8 ez f0 f1 f2 f3 f4 f5 f6 f7 f8 fz
      rename Hid (ResAt _ _ _ _) => HR
      rename Hid (Blk _ L _ _) => HKL
      obtain ⟨c0, c1, c2, c3, c4, c5, c6, c7, c8, cz⟩ := HR.out.hb.nine
      obtain ⟨d0, d1, d2, d3, d4, d5, d6, d7, d8, dz⟩ := HR.out.hr.nine
      obtain ⟨e0, e1, e2, e3, e4, e5, e6, e7, e8, ez⟩ := HKL.out.nine
      obtain ⟨f0, f1, f2, f3, f4, f5, f6, f7, f8, fz⟩ := HR.out.ho.nine
      go_wp2_with fail
      exact bodyPost_ret (results_resolve rfl (Blk.put9 (HR.out.ho.other neL 2 _) _ _ _ _ _ _ _ _ _)) rfl ⟨HE.out, (below_put9 (below_setCell HR.out.below leL 2 _) (by omega) _ _ _ _ _ _ _ _ _)⟩
    case false =>
      cases rhh
      case true =>
        have HE : Hid (Ending.returned (.agg #[.string ⟨bsc.toArray⟩, .string ⟨rho.toArray⟩, .string ⟨(dotsM rpa).toArray⟩, .string ⟨rqu.toArray⟩, .string ⟨rfr.toArray⟩, .bool bhs, .bool true, .bool rhq, .bool rhf]) = Ending.returned (.agg #[.string ⟨V.sc.toArray⟩, .string ⟨V.ho.toArray⟩, .string ⟨V.pa.toArray⟩, .string ⟨V.qu.toArray⟩, .string ⟨V.fr.toArray⟩, .bool V.hs, .bool V.hh, .bool V.hq, .bool V.hf])) := by show _ = _; rw [← HV.out]; rfl
        obtain ⟨c0, c1, c2, c3, c4, c5, c6, c7, c8, cz⟩ := HR.out.hb.nine
        obtain ⟨d0, d1, d2, d3, d4, d5, d6, d7, d8, dz⟩ := HR.out.hr.nine
        obtain ⟨e0, e1, e2, e3, e4, e5, e6, e7, e8, ez⟩ := HKL.out.nine
        obtain ⟨f0, f1, f2, f3, f4, f5, f6, f7, f8, fz⟩ := HR.out.ho.nine
        go_wp2_with fail
        (go_at_call 39; refine (HD1.out _ HR.out.below).mono ?_; rintro e w3 ⟨rfl, h3⟩)
        have HRn := hid_of (HR.out.next h3)
        have HKLn := hid_of (HKL.out.below h3)
        clear HR HKL h3 c0 c1 c2 c3 c4 c5 c6 c7 c8 cz d0 d1 d2 d3 d4 d5 d6 d7 d8 dz e0 e1 e2 e3 e4 e5 e6 e7 e8 ez f0 f1 f2 f3 f4 f5 f6 f7 f8 fz
        rename Hid (ResAt _ _ _ _) => HR
        rename Hid (Blk _ L _ _) => HKL
        obtain ⟨c0, c1, c2, c3, c4, c5, c6, c7, c8, cz⟩ := HR.out.hb.nine
        obtain ⟨d0, d1, d2, d3, d4, d5, d6, d7, d8, dz⟩ := HR.out.hr.nine
        obtain ⟨e0, e1, e2, e3, e4, e5, e6, e7, e8, ez⟩ := HKL.out.nine
        obtain ⟨f0, f1, f2, f3, f4, f5, f6, f7, f8, fz⟩ := HR.out.ho.nine
        go_wp2_with fail
        all_goals go_region
        all_goals go_wp2_with fail
        all_goals exact bodyPost_ret (results_resolve rfl (Blk.drew (Blk.put9 (((HR.out.ho.other neL 2 _).other neL 0 _).other neL 5 _) _ _ _ _ _ _ _ _ _))) rfl ⟨HE.out, (below_put9 (below_setCell (below_setCell (below_setCell HR.out.below leL 2 _) leL 0 _) leL 5 _) (by omega) _ _ _ _ _ _ _ _ _).drew⟩
      case false =>
        cases hpe : (rpa == [])
        case true =>
          have HPE := hid_of hpe
          clear HD1 HD2 HFO hcat
          cases rhq
          case true =>
            have HE : Hid (Ending.returned (.agg #[.string ⟨bsc.toArray⟩, .string ⟨bho.toArray⟩, .string ⟨bpa.toArray⟩, .string ⟨rqu.toArray⟩, .string ⟨rfr.toArray⟩, .bool bhs, .bool bhh, .bool true, .bool rhf]) = Ending.returned (.agg #[.string ⟨V.sc.toArray⟩, .string ⟨V.ho.toArray⟩, .string ⟨V.pa.toArray⟩, .string ⟨V.qu.toArray⟩, .string ⟨V.fr.toArray⟩, .bool V.hs, .bool V.hh, .bool V.hq, .bool V.hf])) := by show _ = _; rw [← HV.out]; unfold resolveK; simp only [Bool.false_eq_true, if_false]; rw [if_pos HPE.out]; first | done | simp
            obtain ⟨c0, c1, c2, c3, c4, c5, c6, c7, c8, cz⟩ := HR.out.hb.nine
            obtain ⟨d0, d1, d2, d3, d4, d5, d6, d7, d8, dz⟩ := HR.out.hr.nine
            obtain ⟨e0, e1, e2, e3, e4, e5, e6, e7, e8, ez⟩ := HKL.out.nine
            obtain ⟨f0, f1, f2, f3, f4, f5, f6, f7, f8, fz⟩ := HR.out.ho.nine
            go_wp2_with fail
            all_goals go_region
            all_goals go_wp2_with fail
            all_goals go_region
            all_goals go_wp2_with fail
            all_goals exact bodyPost_ret (results_resolve rfl (Blk.drew (Blk.drew (Blk.put9 (((((HR.out.ho.other neL 2 _).other neL 0 _).other neL 5 _).other neL 1 _).other neL 6 _) _ _ _ _ _ _ _ _ _)))) rfl ⟨HE.out, (below_put9 (below_setCell (below_setCell (below_setCell (below_setCell (below_setCell HR.out.below leL 2 _) leL 0 _) leL 5 _) leL 1 _) leL 6 _) (by omega) _ _ _ _ _ _ _ _ _).drew.drew⟩
          case false =>
            have HE : Hid (Ending.returned (.agg #[.string ⟨bsc.toArray⟩, .string ⟨bho.toArray⟩, .string ⟨bpa.toArray⟩, .string ⟨bqu.toArray⟩, .string ⟨rfr.toArray⟩, .bool bhs, .bool bhh, .bool bhq, .bool rhf]) = Ending.returned (.agg #[.string ⟨V.sc.toArray⟩, .string ⟨V.ho.toArray⟩, .string ⟨V.pa.toArray⟩, .string ⟨V.qu.toArray⟩, .string ⟨V.fr.toArray⟩, .bool V.hs, .bool V.hh, .bool V.hq, .bool V.hf])) := by show _ = _; rw [← HV.out]; unfold resolveK; simp only [Bool.false_eq_true, if_false]; rw [if_pos HPE.out]; first | done | simp
            obtain ⟨c0, c1, c2, c3, c4, c5, c6, c7, c8, cz⟩ := HR.out.hb.nine
            obtain ⟨d0, d1, d2, d3, d4, d5, d6, d7, d8, dz⟩ := HR.out.hr.nine
            obtain ⟨e0, e1, e2, e3, e4, e5, e6, e7, e8, ez⟩ := HKL.out.nine
            obtain ⟨f0, f1, f2, f3, f4, f5, f6, f7, f8, fz⟩ := HR.out.ho.nine
            go_wp2_with fail
            all_goals go_region
            all_goals go_wp2_with fail
            all_goals go_region
            all_goals go_wp2_with fail
            all_goals go_region
            all_goals go_wp2_with fail
            all_goals exact bodyPost_ret (results_resolve rfl (Blk.drew (Blk.drew (Blk.drew (Blk.put9 (((((((HR.out.ho.other neL 2 _).other neL 3 _).other neL 7 _).other neL 0 _).other neL 5 _).other neL 1 _).other neL 6 _) _ _ _ _ _ _ _ _ _))))) rfl ⟨HE.out, (below_put9 (below_setCell (below_setCell (below_setCell (below_setCell (below_setCell (below_setCell (below_setCell HR.out.below leL 2 _) leL 3 _) leL 7 _) leL 0 _) leL 5 _) leL 1 _) leL 6 _) (by omega) _ _ _ _ _ _ _ _ _).drew.drew.drew⟩
        case false =>
          have HPE := hid_of hpe
          have hp1 : 0 < rpa.length := by
            rcases Nat.eq_zero_or_pos rpa.length with e | e
            · rw [List.eq_nil_of_length_eq_zero e] at hpe; cases hpe
            · exact e
          have y0 := byte_at rpa 0 (rpa.getD 0 0) hp1 rfl 0 rfl
          have g0 : (((rpa.getD 0 0).toNat : Int) == 47) = (rpa.getD 0 0 == 47) := eq_byte _ 47
          have sp := arr_size rpa
          cases hpc : (rpa.getD 0 0 == 47)
          case true =>
            rw [hpc] at g0
            have HPC := hid_of hpc
            clear hpc
            generalize rpa.getD 0 0 = c0x at y0 g0
            have HE : Hid (Ending.returned (.agg #[.string ⟨bsc.toArray⟩, .string ⟨bho.toArray⟩, .string ⟨(dotsM rpa).toArray⟩, .string ⟨rqu.toArray⟩, .string ⟨rfr.toArray⟩, .bool bhs, .bool bhh, .bool rhq, .bool rhf]) = Ending.returned (.agg #[.string ⟨V.sc.toArray⟩, .string ⟨V.ho.toArray⟩, .string ⟨V.pa.toArray⟩, .string ⟨V.qu.toArray⟩, .string ⟨V.fr.toArray⟩, .bool V.hs, .bool V.hh, .bool V.hq, .bool V.hf])) := by show _ = _; rw [← HV.out]; unfold resolveK; simp only [Bool.false_eq_true, if_false]; rw [if_neg (by rw [HPE.out]; decide), if_pos HPC.out]
            obtain ⟨c0, c1, c2, c3, c4, c5, c6, c7, c8, cz⟩ := HR.out.hb.nine
            obtain ⟨d0, d1, d2, d3, d4, d5, d6, d7, d8, dz⟩ := HR.out.hr.nine
            obtain ⟨e0, e1, e2, e3, e4, e5, e6, e7, e8, ez⟩ := HKL.out.nine
            obtain ⟨f0, f1, f2, f3, f4, f5, f6, f7, f8, fz⟩ := HR.out.ho.nine
            go_wp2_with fail
            (go_at_call 39; refine (HD1.out _ HR.out.below).mono ?_; rintro e w3 ⟨rfl, h3⟩)
            have HRn := hid_of (HR.out.next h3)
            have HKLn := hid_of (HKL.out.below h3)
            clear HR HKL h3 c0 c1 c2 c3 c4 c5 c6 c7 c8 cz d0 d1 d2 d3 d4 d5 d6 d7 d8 dz e0 e1 e2 e3 e4 e5 e6 e7 e8 ez f0 f1 f2 f3 f4 f5 f6 f7 f8 fz
            rename Hid (ResAt _ _ _ _) => HR
            rename Hid (Blk _ L _ _) => HKL
            obtain ⟨c0, c1, c2, c3, c4, c5, c6, c7, c8, cz⟩ := HR.out.hb.nine
            obtain ⟨d0, d1, d2, d3, d4, d5, d6, d7, d8, dz⟩ := HR.out.hr.nine
            obtain ⟨e0, e1, e2, e3, e4, e5, e6, e7, e8, ez⟩ := HKL.out.nine
            obtain ⟨f0, f1, f2, f3, f4, f5, f6, f7, f8, fz⟩ := HR.out.ho.nine
            go_wp2_with fail
            all_goals go_region
            all_goals go_wp2_with fail
            all_goals go_region
            all_goals go_wp2_with fail
            all_goals exact bodyPost_ret (results_resolve rfl (Blk.drew (Blk.drew (Blk.put9 (((((HR.out.ho.other neL 2 _).other neL 0 _).other neL 5 _).other neL 1 _).other neL 6 _) _ _ _ _ _ _ _ _ _)))) rfl ⟨HE.out, (below_put9 (below_setCell (below_setCell (below_setCell (below_setCell (below_setCell HR.out.below leL 2 _) leL 0 _) leL 5 _) leL 1 _) leL 6 _) (by omega) _ _ _ _ _ _ _ _ _).drew.drew⟩
          case false =>
            rw [hpc] at g0
            have HPC := hid_of hpc
            clear hpc
            generalize rpa.getD 0 0 = c0x at y0 g0
            have HE : Hid (Ending.returned (.agg #[.string ⟨bsc.toArray⟩, .string ⟨bho.toArray⟩, .string ⟨(dotsM (fo ++ rpa)).toArray⟩, .string ⟨rqu.toArray⟩, .string ⟨rfr.toArray⟩, .bool bhs, .bool bhh, .bool rhq, .bool rhf]) = Ending.returned (.agg #[.string ⟨V.sc.toArray⟩, .string ⟨V.ho.toArray⟩, .string ⟨V.pa.toArray⟩, .string ⟨V.qu.toArray⟩, .string ⟨V.fr.toArray⟩, .bool V.hs, .bool V.hh, .bool V.hq, .bool V.hf])) := by show _ = _; rw [← HV.out]; unfold resolveK; simp only [Bool.false_eq_true, if_false]; rw [if_neg (by rw [HPE.out]; decide), if_neg (by rw [HPC.out]; decide)]; simp only; rw [HFK.out]
            obtain ⟨c0, c1, c2, c3, c4, c5, c6, c7, c8, cz⟩ := HR.out.hb.nine
            obtain ⟨d0, d1, d2, d3, d4, d5, d6, d7, d8, dz⟩ := HR.out.hr.nine
            obtain ⟨e0, e1, e2, e3, e4, e5, e6, e7, e8, ez⟩ := HKL.out.nine
            obtain ⟨f0, f1, f2, f3, f4, f5, f6, f7, f8, fz⟩ := HR.out.ho.nine
            go_wp2_with fail
            go_region_with (first
              | (go_at_call 39; refine (HD2.out _ HRa.out.below).mono ?_; rintro e wb ⟨rfl, hbb⟩; have HRb := hid_of (HRa.out.next hbb); have HKb := hid_of (HKa.out.below hbb); obtain ⟨i0, i1, i2, i3, i4, i5, i6, i7, i8, iz⟩ := HRb.out.hb.nine; obtain ⟨j0, j1, j2, j3, j4, j5, j6, j7, j8, jz⟩ := HRb.out.hr.nine; obtain ⟨k0, k1, k2, k3, k4, k5, k6, k7, k8, kz⟩ := HKb.out.nine; obtain ⟨m0, m1, m2, m3, m4, m5, m6, m7, m8, mz⟩ := HRb.out.ho.nine; clear hbb)
              | (go_at_call 40; refine (HFO.out _ HR.out.below.drew).mono ?_; rintro e wa ⟨rfl, hba⟩; have HRa := hid_of ((HR.out.next (Below.refl _ _).drew).next hba); have HKa := hid_of ((HKL.out.below (Below.refl _ _).drew).below hba); obtain ⟨n0, n1, n2, n3, n4, n5, n6, n7, n8, nz⟩ := HRa.out.hb.nine; obtain ⟨o0, o1, o2, o3, o4, o5, o6, o7, o8, oz⟩ := HRa.out.hr.nine; clear hba))
            all_goals go_wp2_with fail
            all_goals go_region
            all_goals go_wp2_with fail
            all_goals go_region
            all_goals go_wp2_with fail
            all_goals exact bodyPost_ret (results_resolve rfl (Blk.drew (Blk.drew (Blk.put9 (((((HRb.out.ho.other neL 2 _).other neL 0 _).other neL 5 _).other neL 1 _).other neL 6 _) _ _ _ _ _ _ _ _ _)))) rfl ⟨HE.out, (below_put9 (below_setCell (below_setCell (below_setCell (below_setCell (below_setCell HRb.out.below leL 2 _) leL 0 _) leL 5 _) leL 1 _) leL 6 _) (by omega) _ _ _ _ _ _ _ _ _).drew.drew⟩
end Go.Proofs.YtmfhhpacojodkaaGreatDoor.L

/- What is proved here: a store leaves other blocks' cells as they are. -/
namespace Go.Proofs.YtmfhhpacojodkaaGreatDoor.L
open Go.RowKit Go.Shelf Go.Proofs.YtmfhhpacojodkaaGreatDoor.N Go.Proofs.YtmfhhpacojodkaaGreatDoor.U

theorem cell_other {W : World} {g L : Nat} (h : g ≠ L) (j i : Nat) (v : Value) : (W.setCell ⟨L, i, none⟩ v).cell? ⟨g, j, none⟩ = W.cell? ⟨g, j, none⟩ := by
  apply World.cell?_setCell_other
  intro e
  injection e with e1
  exact h e1.symm
end Go.Proofs.YtmfhhpacojodkaaGreatDoor.L
