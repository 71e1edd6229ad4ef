/- What is proved here: laws and contracts of LpFold, LpMended, one behind the other (each says its own). -/
import Derived.Test.YtnnajpdliokodaaDoorBun9
import Derived.Test.YtnnajpdliokodaaDoorLpSch
import Derived.Test.YtnnajpdliokodaaDoorTShelf
import Derived.Lib.QuietBelow
import Derived.BigQuiet
import Derived.Test.YtnnajpdliokodaaDoorBun8
import Derived.Test.YtnnajpdliokodaaDoorLpStrip
import Derived.Deep.RegionWith
import Derived.Deep.CutRange
/- What is proved here: the contract of link.folder: what a base puts ahead of a path that begins with no slash. -/
namespace Go.Proofs.YtnnajpdliokodaaDoor.L
open Go.RowKit Go.Shelf Go.Proofs.YtnnajpdliokodaaDoor.N Go.Proofs.YtnnajpdliokodaaDoor.U

theorem get_data (l : List UInt8) (j : Nat) (hj : j < l.length) : (⟨l.toArray⟩ : ByteArray).data[j]! = l.getD j 0 := by
  simp [hj]
theorem last_slash (p : List UInt8) : Lib.lastIndexByte ⟨p.toArray⟩ 47 = (folderN p : Int) - 1 := by
  have hz : (⟨p.toArray⟩ : ByteArray).size = p.length := arr_size p
  have key : ∀ j, j < p.length → ((⟨p.toArray⟩ : ByteArray).data[j]!.toNat : Int) ≠ 47 → (p.getD j 0 == 47) = false := fun j hj h => by
    rw [get_data p j hj] at h
    rw [← eq_byte]
    exact beq_eq_false_iff_ne.2 h
  unfold Lib.lastIndexByte
  rw [hz]
  rcases Lib.lastIdx_spec ⟨p.toArray⟩ 47 p.length with ⟨e, h⟩ | ⟨i, hi, e, h1, h2⟩
  · rw [e, folderN_at p 0 (by omega) (fun j _ hj => key j hj (h j hj)) (.inl rfl)]
    rfl
  · rw [e, folderN_at p (i + 1) (by omega) (fun j hj1 hj2 => key j hj2 (h2 j (by omega) hj2)) (.inr (by
      rw [get_data p i hi] at h1
      rw [show i + 1 - 1 = i by omega, ← eq_byte]
      exact beq_iff_eq.2 h1))]
    omega
theorem lastByte_calls (p : List UInt8) (w : World) (hp : p.length ≤ 100000000000) : Calls Tryd.prog 30 #[.string ⟨p.toArray⟩, .int .u8 47] w fun e w' => e = .returned (.int .i64 ((folderN p : Int) - 1)) ∧ w' = w := by
  have := Any.strings_LastIndexByte Tryd.lays149 ⟨p.toArray⟩ 47 (by rw [arr_size]; omega) w
  rw [last_slash] at this
  exact this
set_option maxRecDepth 100000 in
set_option maxHeartbeats 4000000 in
/-- **folder.** -/
theorem folder_calls (l : Lk) (w : World) (hl : l.pa.length ≤ 100000000000) : Calls Tryd.prog 16 #[l.v] w fun e W' => e = .returned (.string ⟨(folderK l).toArray⟩) ∧ Below w.heap.size w W' := by
  have mixed : Tryd.prog.follows .mixedOrders = true := by kernel_rfl
  obtain ⟨sc, ho, pa, qu, fr, h1, h2, h3, h4⟩ := l
  simp only at hl
  obtain ⟨W1, hW1⟩ : ∃ W1, w.alloc (.cells #[.string ⟨sc.toArray⟩, .string ⟨ho.toArray⟩, .string ⟨pa.toArray⟩, .string ⟨qu.toArray⟩, .string ⟨fr.toArray⟩, .bool h1, .bool h2, .bool h3, .bool h4] 24) = W1 := ⟨_, rfl⟩
  have HB1 : Hid (Below w.heap.size w W1) := by rw [← hW1]; exact (Below.refl _ w).alloc (Nat.le_refl _) _
  have HK1 : Hid (Blk W1 w.heap.size #[.string ⟨sc.toArray⟩, .string ⟨ho.toArray⟩, .string ⟨pa.toArray⟩, .string ⟨qu.toArray⟩, .string ⟨fr.toArray⟩, .bool h1, .bool h2, .bool h3, .bool h4] 24) := by rw [← hW1]; exact Blk.new w _ _
  have D : ∀ d os, Below W1.heap.size W1 (Go.Sort.grow (redrawn W1 d) os) := fun d os => below_regrown W1 d os
  have D' : ∀ d os, Below w.heap.size w (Go.Sort.grow (redrawn W1 d) os) := fun d os => HB1.out.trans ((D d os).mono HB1.out.size)
  have hF := (folderN_cases pa).2.1
  have q1 : ∀ d os, Calls Tryd.prog 30 #[.string ⟨pa.toArray⟩, .int .u8 47] (Go.Sort.grow (redrawn W1 d) os) fun e w'' => e = .returned (.int .i64 ((folderN pa : Int) - 1)) ∧ ∃ p : Regrown, w'' = Go.Sort.grow (redrawn W1 p.d) p.os := fun d os => Calls.regrown_of ((lastByte_calls pa _ hl).mono fun e w' ⟨h1, h2⟩ => ⟨h1, by rw [h2]; exact Below.refl _ _⟩)
  have y2 : ∀ d os, (Go.Sort.grow (redrawn W1 d) os).cell? ⟨w.heap.size, 2, none⟩ = some (.string ⟨pa.toArray⟩) := fun d os => ((HK1.out.below (D d os)).cell 2)
  have sl := slice_h pa (folderN pa) hF (folderN pa : Int) rfl
  have HV : Hid (folderK ⟨sc, ho, pa, qu, fr, h1, h2, h3, h4⟩ = if h2 && (pa == []) then [47] else pa.take (folderN pa)) := rfl
  obtain ⟨V, hV⟩ : ∃ V, folderK ⟨sc, ho, pa, qu, fr, h1, h2, h3, h4⟩ = V := ⟨_, rfl⟩
  rw [hV] at HV ⊢
  clear hV
  generalize folderN pa = n at *
  have wn : IntKind.i64.wrap ((n : Int) - 1 + 1) = (n : Int) - 1 + 1 := by rw [IntKind.wrap_i64]; omega
  obtain ⟨T, hT⟩ : ∃ T, pa.take n = T := ⟨_, rfl⟩
  rw [hT] at sl HV
  clear hT
  have HW1 := hid_of hW1
  clear hW1
  unfold Lk.v
  simp only
  cases h2 with
  | true =>
    cases he : (pa == []) with
    | true =>
      rw [he] at HV
      go_enter Tryd.func16, Tryd.ntmps16
      go_wp2_with fail
      rw [HW1.out]
      go_ret
      exact ⟨by rw [HV.out]; rfl, HB1.out⟩
    | false =>
      rw [he] at HV
      go_enter Tryd.func16, Tryd.ntmps16
      go_wp2_with fail
      rw [HW1.out]
      refine wp_region_quiet_below mixed (by kernel_rfl) ?_
      repeat (go_big_quiet_step (first | with_reducible exact q1 _ _))
      refine wpQuiet_nil ?_
      intro _ hw'
      obtain ⟨⟨dq, osq⟩, hw''⟩ := hw'
      have hb2 := D' dq osq
      rw [← hw''] at hb2
      clear hw'' q1 D D' y2
      go_wp2_with fail
      go_ret
      exact ⟨by rw [HV.out]; rfl, hb2⟩
  | false =>
    go_enter Tryd.func16, Tryd.ntmps16
    go_wp2_with fail
    rw [HW1.out]
    refine wp_region_quiet_below mixed (by kernel_rfl) ?_
    repeat (go_big_quiet_step (first | with_reducible exact q1 _ _))
    refine wpQuiet_nil ?_
    intro _ hw'
    obtain ⟨⟨dq, osq⟩, hw''⟩ := hw'
    have hb2 := D' dq osq
    rw [← hw''] at hb2
    clear hw'' q1 D D' y2
    go_wp2_with fail
    go_ret
    exact ⟨by rw [HV.out]; rfl, hb2⟩
end Go.Proofs.YtnnajpdliokodaaDoor.L

/- What is proved here: the contract of link.mended: a link whose texts are mended. -/
namespace Go.Proofs.YtnnajpdliokodaaDoor.L
open Go.RowKit Go.Shelf Go.Proofs.YtnnajpdliokodaaDoor.N Go.Proofs.YtnnajpdliokodaaDoor.U

theorem results_mended {tmps : Array Value} {W : World} {A : Nat} {v0 v1 v2 v3 v4 v5 v6 v7 v8 : Value} {t : TypeId} (h2 : tmps[2]?.getD undef = .pointer (some ⟨A, 0, none⟩)) (h : Blk W A #[v0, v1, v2, v3, v4, v5, v6, v7, v8] t) :
    (results Tryd.f15 tmps).run Tryd.prog W = .ok (.agg #[v0, v1, v2, v3, v4, v5, v6, v7, v8]) W := by
  obtain ⟨c0, c1, c2, c3, c4, c5, c6, c7, c8, -⟩ := h.nine
  simp [results, Tryd.results15, go_sem, h2, c0, c1, c2, c3, c4, c5, c6, c7, c8]
set_option maxRecDepth 100000 in
set_option maxHeartbeats 8000000 in
/-- **mended.** -/
theorem mended_calls (l : Lk) (w : World) (hT : Tb w) (hl : l.Small 1000000000) : Calls Tryd.prog 15 #[l.v] w fun e W' => e = .returned l.mend.v ∧ Below w.heap.size w W' := by
  obtain ⟨sc, ho, pa, qu, fr, h1, h2, h3, h4⟩ := l
  have HM : Hid (∀ (x : List UInt8) W, Below w.heap.size w W → x.length ≤ 1000000000 → Calls Tryd.prog 27 #[.string ⟨x.toArray⟩] W fun e W' => e = .returned (.string ⟨(mendL x).toArray⟩) ∧ Below W.heap.size W W') := fun x W h hx => mend_calls x W (by omega) (hT.below h)
  obtain ⟨l0, l1, l2, l3, l4⟩ := hl
  have HM0 := hid_of (fun W h => HM.out sc W h l0)
  have HM1 := hid_of (fun W h => HM.out ho W h l1)
  have HM2 := hid_of (fun W h => HM.out pa W h l2)
  have HM3 := hid_of (fun W h => HM.out qu W h l3)
  have HM4 := hid_of (fun W h => HM.out fr W h l4)
  unfold Lk.v Lk.mend
  simp only
  generalize mendL sc = sc' at *
  generalize mendL ho = ho' at *
  generalize mendL pa = pa' at *
  generalize mendL qu = qu' at *
  generalize mendL fr = fr' at *
  clear HM hT l0 l1 l2 l3 l4
  have hgn : w.heap.size + 1 ≠ w.heap.size := by omega
  have mixed : Tryd.prog.follows .mixedOrders = true := by kernel_rfl
  have HB0 : Hid (Below w.heap.size w ((w.alloc (.cells #[.string ⟨sc.toArray⟩, .string ⟨ho.toArray⟩, .string ⟨pa.toArray⟩, .string ⟨qu.toArray⟩, .string ⟨fr.toArray⟩, .bool h1, .bool h2, .bool h3, .bool h4] 24)).alloc (.cells noLink 24))) := ((Below.refl _ w).alloc (Nat.le_refl _) _).alloc (by simp) _
  have HA0 : Hid (Blk ((w.alloc (.cells #[.string ⟨sc.toArray⟩, .string ⟨ho.toArray⟩, .string ⟨pa.toArray⟩, .string ⟨qu.toArray⟩, .string ⟨fr.toArray⟩, .bool h1, .bool h2, .bool h3, .bool h4] 24)).alloc (.cells noLink 24)) w.heap.size _ 24) := (Blk.new w _ _).alloc _
  have HA1 : Hid (Blk ((w.alloc (.cells #[.string ⟨sc.toArray⟩, .string ⟨ho.toArray⟩, .string ⟨pa.toArray⟩, .string ⟨qu.toArray⟩, .string ⟨fr.toArray⟩, .bool h1, .bool h2, .bool h3, .bool h4] 24)).alloc (.cells noLink 24)) (w.heap.size + 1) noLink 24) := by
    have := Blk.new (w.alloc (.cells #[.string ⟨sc.toArray⟩, .string ⟨ho.toArray⟩, .string ⟨pa.toArray⟩, .string ⟨qu.toArray⟩, .string ⟨fr.toArray⟩, .bool h1, .bool h2, .bool h3, .bool h4] 24)) noLink 24
    rw [show (w.alloc (.cells #[.string ⟨sc.toArray⟩, .string ⟨ho.toArray⟩, .string ⟨pa.toArray⟩, .string ⟨qu.toArray⟩, .string ⟨fr.toArray⟩, .bool h1, .bool h2, .bool h3, .bool h4] 24)).heap.size = w.heap.size + 1 from Array.size_push _] at this
    exact this
  unfold noLink at HB0 HA0 HA1
  go_enter Tryd.func15, Tryd.ntmps15
  go_wp2_with fail
  generalize ((w.alloc (.cells #[.string ⟨sc.toArray⟩, .string ⟨ho.toArray⟩, .string ⟨pa.toArray⟩, .string ⟨qu.toArray⟩, .string ⟨fr.toArray⟩, .bool h1, .bool h2, .bool h3, .bool h4] 24)).alloc (.cells #[.string ⟨#[]⟩, .string ⟨#[]⟩, .string ⟨#[]⟩, .string ⟨#[]⟩, .string ⟨#[]⟩, .bool false, .bool false, .bool false, .bool false] 24)) = w1 at *
  obtain ⟨c0, c1, c2, c3, c4, c5, c6, c7, c8, fz⟩ := HA0.out.nine
  go_cut [] from 3 (fun wx => Hid (Blk wx w.heap.size #[.string ⟨sc'.toArray⟩, .string ⟨ho'.toArray⟩, .string ⟨pa'.toArray⟩, .string ⟨qu.toArray⟩, .string ⟨fr.toArray⟩, .bool h1, .bool h2, .bool h3, .bool h4] 24) ∧ Hid (Blk wx (w.heap.size + 1) noLink 24) ∧ Hid (Below w.heap.size w wx))
  case first =>
    go_region_with (first
      | (go_at_call 27; refine (HM2.out _ HBb.out).mono ?_; rintro e wc ⟨rfl, hbc⟩; have HBc := hid_of (HBb.out.trans (hbc.mono HBb.out.size)); have HKc := hid_of (HKb.out.below hbc); have HRc := hid_of (HRb.out.below hbc); obtain ⟨e0, e1, e2, e3, e4, e5, e6, e7, e8, ez⟩ := HKc.out.nine; clear hbc)
      | (go_at_call 27; refine (HM1.out _ HBa.out).mono ?_; rintro e wb ⟨rfl, hbb⟩; have HBb := hid_of (HBa.out.trans (hbb.mono HBa.out.size)); have HKb := hid_of (HKa.out.below hbb); have HRb := hid_of (HRa.out.below hbb); obtain ⟨b0, b1, b2, b3, b4, b5, b6, b7, b8, bz⟩ := HKb.out.nine; clear hbb)
      | (go_at_call 27; refine (HM0.out _ HB0.out.drew).mono ?_; rintro e wa ⟨rfl, hba⟩; have HBa := hid_of (HB0.out.drew.trans (hba.mono HB0.out.drew.size)); have HKa := hid_of (HA0.out.drew.below hba); have HRa := hid_of (HA1.out.drew.below hba); obtain ⟨a0, a1, a2, a3, a4, a5, a6, a7, a8, az⟩ := HKa.out.nine; clear hba))
    all_goals go_wp2_with fail
    all_goals go_meet
    all_goals exact ⟨((HKc.out.set 0 _).set 1 _).set 2 _, ((HRc.out.other hgn 0 _).other hgn 1 _).other hgn 2 _, below_setCell (below_setCell (below_setCell HBc.out (Nat.le_refl _) 0 _) (Nat.le_refl _) 1 _) (Nat.le_refl _) 2 _⟩
  case rest =>
    obtain ⟨HK, HR, HB⟩ := hcut
    clear HB0 HA0 HA1 c0 c1 c2 c3 c4 c5 c6 c7 c8 fz HM0 HM1 HM2
    obtain ⟨c0, c1, c2, c3, c4, c5, c6, c7, c8, fz⟩ := HK.out.nine
    go_wp2_with fail
    go_region_with (first
      | (go_at_call 27; refine (HM4.out _ HBa.out).mono ?_; rintro e wb ⟨rfl, hbb⟩; have HBb := hid_of (HBa.out.trans (hbb.mono HBa.out.size)); have HKb := hid_of (HKa.out.below hbb); have HRb := hid_of (HRa.out.below hbb); obtain ⟨b0, b1, b2, b3, b4, b5, b6, b7, b8, bz⟩ := HKb.out.nine; clear hbb)
      | (go_at_call 27; refine (HM3.out _ HB.out.drew).mono ?_; rintro e wa ⟨rfl, hba⟩; have HBa := hid_of (HB.out.drew.trans (hba.mono HB.out.drew.size)); have HKa := hid_of (HK.out.drew.below hba); have HRa := hid_of (HR.out.drew.below hba); obtain ⟨a0, a1, a2, a3, a4, a5, a6, a7, a8, az⟩ := HKa.out.nine; clear hba))
    all_goals unfold noLink at HRb
    all_goals obtain ⟨d0, d1, d2, d3, d4, d5, d6, d7, d8, dz⟩ := HRb.out.nine
    all_goals go_wp2_with fail
    all_goals exact bodyPost_ret (results_mended rfl (Blk.put9 ((HRb.out.other hgn 3 _).other hgn 4 _) _ _ _ _ _ _ _ _ _)) rfl ⟨rfl, below_put9 (below_setCell (below_setCell HBb.out (Nat.le_refl _) 3 _) (Nat.le_refl _) 4 _) (show w.heap.size ≤ w.heap.size + 1 by omega) _ _ _ _ _ _ _ _ _⟩
end Go.Proofs.YtnnajpdliokodaaDoor.L
