/- What is proved here: laws and contracts of LkMended, LkJoin, Tabs, one behind the other (each says its own). -/
import Derived.Test.YtnnajpdliokodaaDoorBun8
import Derived.Deep.RegionWith
import Derived.Deep.CutRange
import Derived.Test.YtnnajpdliokodaaDoorRows
import Derived.Test.YtnnajpdliokodaaDoorIter
import Derived.Test.YtnnajpdliokodaaDoorBun3
import Derived.PinnedBridge
import Derived.Lib.LaidU8T
import Derived.Lib.LaidTab
import Derived.Deep.DeepHandedRow
/- What is proved here: the contract of the document's Mended of layer 12: a link whose texts are mended. -/
namespace Go.Proofs.YtnnajpdliokodaaDoor.L
open Go.RowKit Go.Shelf Go.Proofs.YtnnajpdliokodaaDoor.N Go.Proofs.YtnnajpdliokodaaDoor.U

theorem results_rmended {tmps : Array Value} {W : World} {A : Nat} {v0 v1 v2 v3 v4 v5 v6 v7 v8 : Value} {t : TypeId} (h2 : tmps[2]?.getD undef = .pointer (some ⟨A, 0, none⟩)) (h : Blk W A #[v0, v1, v2, v3, v4, v5, v6, v7, v8] t) :
    (results Tryd.f9 tmps).run Tryd.prog W = .ok (.agg #[v0, v1, v2, v3, v4, v5, v6, v7, v8]) W := by
  obtain ⟨c0, c1, c2, c3, c4, c5, c6, c7, c8, -⟩ := h.nine
  simp [results, Tryd.results9, go_sem, h2, c0, c1, c2, c3, c4, c5, c6, c7, c8]
set_option maxRecDepth 100000 in
set_option maxHeartbeats 8000000 in
/-- **Mended.** -/
theorem rmended_calls (l : Lk) (w : World) (hl : l.Small 1000000000) : Calls Tryd.prog 9 #[l.v] w fun e W' => e = .returned l.mend.v ∧ Below w.heap.size w W' := by
  obtain ⟨sc, ho, pa, qu, fr, h1, h2, h3, h4⟩ := l
  have HM : Hid (∀ (x : List UInt8) W, Below w.heap.size w W → x.length ≤ 1000000000 → Calls Tryd.prog 18 #[.string ⟨x.toArray⟩] W fun e W' => e = .returned (.string ⟨(mendL x).toArray⟩) ∧ Below W.heap.size W W') := fun x W _ hx => R.rmend_calls x W (by omega)
  obtain ⟨l0, l1, l2, l3, l4⟩ := hl
  have HM0 := hid_of (fun W h => HM.out sc W h l0)
  have HM1 := hid_of (fun W h => HM.out ho W h l1)
  have HM2 := hid_of (fun W h => HM.out pa W h l2)
  have HM3 := hid_of (fun W h => HM.out qu W h l3)
  have HM4 := hid_of (fun W h => HM.out fr W h l4)
  unfold Lk.v Lk.mend
  simp only
  generalize mendL sc = sc' at *
  generalize mendL ho = ho' at *
  generalize mendL pa = pa' at *
  generalize mendL qu = qu' at *
  generalize mendL fr = fr' at *
  clear HM l0 l1 l2 l3 l4
  have hgn : w.heap.size + 1 ≠ w.heap.size := by omega
  have mixed : Tryd.prog.follows .mixedOrders = true := by kernel_rfl
  have HB0 : Hid (Below w.heap.size w ((w.alloc (.cells #[.string ⟨sc.toArray⟩, .string ⟨ho.toArray⟩, .string ⟨pa.toArray⟩, .string ⟨qu.toArray⟩, .string ⟨fr.toArray⟩, .bool h1, .bool h2, .bool h3, .bool h4] 23)).alloc (.cells noLink 23))) := ((Below.refl _ w).alloc (Nat.le_refl _) _).alloc (by simp) _
  have HA0 : Hid (Blk ((w.alloc (.cells #[.string ⟨sc.toArray⟩, .string ⟨ho.toArray⟩, .string ⟨pa.toArray⟩, .string ⟨qu.toArray⟩, .string ⟨fr.toArray⟩, .bool h1, .bool h2, .bool h3, .bool h4] 23)).alloc (.cells noLink 23)) w.heap.size _ 23) := (Blk.new w _ _).alloc _
  have HA1 : Hid (Blk ((w.alloc (.cells #[.string ⟨sc.toArray⟩, .string ⟨ho.toArray⟩, .string ⟨pa.toArray⟩, .string ⟨qu.toArray⟩, .string ⟨fr.toArray⟩, .bool h1, .bool h2, .bool h3, .bool h4] 23)).alloc (.cells noLink 23)) (w.heap.size + 1) noLink 23) := by
    have := Blk.new (w.alloc (.cells #[.string ⟨sc.toArray⟩, .string ⟨ho.toArray⟩, .string ⟨pa.toArray⟩, .string ⟨qu.toArray⟩, .string ⟨fr.toArray⟩, .bool h1, .bool h2, .bool h3, .bool h4] 23)) noLink 23
    rw [show (w.alloc (.cells #[.string ⟨sc.toArray⟩, .string ⟨ho.toArray⟩, .string ⟨pa.toArray⟩, .string ⟨qu.toArray⟩, .string ⟨fr.toArray⟩, .bool h1, .bool h2, .bool h3, .bool h4] 23)).heap.size = w.heap.size + 1 from Array.size_push _] at this
    exact this
  unfold noLink at HB0 HA0 HA1
  go_enter Tryd.func9, Tryd.ntmps9
  go_wp2_with fail
  generalize ((w.alloc (.cells #[.string ⟨sc.toArray⟩, .string ⟨ho.toArray⟩, .string ⟨pa.toArray⟩, .string ⟨qu.toArray⟩, .string ⟨fr.toArray⟩, .bool h1, .bool h2, .bool h3, .bool h4] 23)).alloc (.cells #[.string ⟨#[]⟩, .string ⟨#[]⟩, .string ⟨#[]⟩, .string ⟨#[]⟩, .string ⟨#[]⟩, .bool false, .bool false, .bool false, .bool false] 23)) = w1 at *
  obtain ⟨c0, c1, c2, c3, c4, c5, c6, c7, c8, fz⟩ := HA0.out.nine
  go_cut [] from 3 (fun wx => Hid (Blk wx w.heap.size #[.string ⟨sc'.toArray⟩, .string ⟨ho'.toArray⟩, .string ⟨pa'.toArray⟩, .string ⟨qu.toArray⟩, .string ⟨fr.toArray⟩, .bool h1, .bool h2, .bool h3, .bool h4] 23) ∧ Hid (Blk wx (w.heap.size + 1) noLink 23) ∧ Hid (Below w.heap.size w wx))
  case first =>
    go_region_with (first
      | (go_at_call 18; refine (HM2.out _ HBb.out).mono ?_; rintro e wc ⟨rfl, hbc⟩; have HBc := hid_of (HBb.out.trans (hbc.mono HBb.out.size)); have HKc := hid_of (HKb.out.below hbc); have HRc := hid_of (HRb.out.below hbc); obtain ⟨e0, e1, e2, e3, e4, e5, e6, e7, e8, ez⟩ := HKc.out.nine; clear hbc)
      | (go_at_call 18; refine (HM1.out _ HBa.out).mono ?_; rintro e wb ⟨rfl, hbb⟩; have HBb := hid_of (HBa.out.trans (hbb.mono HBa.out.size)); have HKb := hid_of (HKa.out.below hbb); have HRb := hid_of (HRa.out.below hbb); obtain ⟨b0, b1, b2, b3, b4, b5, b6, b7, b8, bz⟩ := HKb.out.nine; clear hbb)
      | (go_at_call 18; refine (HM0.out _ HB0.out.drew).mono ?_; rintro e wa ⟨rfl, hba⟩; have HBa := hid_of (HB0.out.drew.trans (hba.mono HB0.out.drew.size)); have HKa := hid_of (HA0.out.drew.below hba); have HRa := hid_of (HA1.out.drew.below hba); obtain ⟨a0, a1, a2, a3, a4, a5, a6, a7, a8, az⟩ := HKa.out.nine; clear hba))
    all_goals go_wp2_with fail
    all_goals go_meet
    all_goals exact ⟨((HKc.out.set 0 _).set 1 _).set 2 _, ((HRc.out.other hgn 0 _).other hgn 1 _).other hgn 2 _, below_setCell (below_setCell (below_setCell HBc.out (Nat.le_refl _) 0 _) (Nat.le_refl _) 1 _) (Nat.le_refl _) 2 _⟩
  case rest =>
    obtain ⟨HK, HR, HB⟩ := hcut
    clear HB0 HA0 HA1 c0 c1 c2 c3 c4 c5 c6 c7 c8 fz HM0 HM1 HM2
    obtain ⟨c0, c1, c2, c3, c4, c5, c6, c7, c8, fz⟩ := HK.out.nine
    go_wp2_with fail
    go_region_with (first
      | (go_at_call 18; refine (HM4.out _ HBa.out).mono ?_; rintro e wb ⟨rfl, hbb⟩; have HBb := hid_of (HBa.out.trans (hbb.mono HBa.out.size)); have HKb := hid_of (HKa.out.below hbb); have HRb := hid_of (HRa.out.below hbb); obtain ⟨b0, b1, b2, b3, b4, b5, b6, b7, b8, bz⟩ := HKb.out.nine; clear hbb)
      | (go_at_call 18; refine (HM3.out _ HB.out.drew).mono ?_; rintro e wa ⟨rfl, hba⟩; have HBa := hid_of (HB.out.drew.trans (hba.mono HB.out.drew.size)); have HKa := hid_of (HK.out.drew.below hba); have HRa := hid_of (HR.out.drew.below hba); obtain ⟨a0, a1, a2, a3, a4, a5, a6, a7, a8, az⟩ := HKa.out.nine; clear hba))
    all_goals unfold noLink at HRb
    all_goals obtain ⟨d0, d1, d2, d3, d4, d5, d6, d7, d8, dz⟩ := HRb.out.nine
    all_goals go_wp2_with fail
    all_goals exact bodyPost_ret (results_rmended rfl (Blk.put9 ((HRb.out.other hgn 3 _).other hgn 4 _) _ _ _ _ _ _ _ _ _)) rfl ⟨rfl, below_put9 (below_setCell (below_setCell HBb.out (Nat.le_refl _) 3 _) (Nat.le_refl _) 4 _) (show w.heap.size ≤ w.heap.size + 1 by omega) _ _ _ _ _ _ _ _ _⟩
end Go.Proofs.YtnnajpdliokodaaDoor.L

/- What is proved here: the contract of the document's Join of layer 12: parts joined; and of the statement's own to. -/
namespace Go.Proofs.YtnnajpdliokodaaDoor.L
open Go.RowKit Go.Shelf Go.Proofs.YtnnajpdliokodaaDoor.N Go.Proofs.YtnnajpdliokodaaDoor.U

theorem results_to {tmps : Array Value} {W : World} {A : Nat} {v0 v1 v2 v3 v4 v5 v6 v7 v8 : Value} {t : TypeId} (h2 : tmps[2]?.getD undef = .pointer (some ⟨A, 0, none⟩)) (h : Blk W A #[v0, v1, v2, v3, v4, v5, v6, v7, v8] t) :
    (results Tryd.f7 tmps).run Tryd.prog W = .ok (.agg #[v0, v1, v2, v3, v4, v5, v6, v7, v8]) W := by
  obtain ⟨c0, c1, c2, c3, c4, c5, c6, c7, c8, -⟩ := h.nine
  simp [results, Tryd.results7, go_sem, h2, c0, c1, c2, c3, c4, c5, c6, c7, c8]
set_option maxRecDepth 100000 in
set_option maxHeartbeats 4000000 in
/-- **to.** -/
theorem to_calls (l : Lk) (w : World) : Calls Tryd.prog 7 #[l.v] w fun e W' => e = .returned l.v ∧ Below w.heap.size w W' := by
  obtain ⟨sc, ho, pa, qu, fr, h1, h2, h3, h4⟩ := l
  unfold Lk.v
  simp only
  have HB0 : Hid (Below w.heap.size w ((w.alloc (.cells #[.string ⟨sc.toArray⟩, .string ⟨ho.toArray⟩, .string ⟨pa.toArray⟩, .string ⟨qu.toArray⟩, .string ⟨fr.toArray⟩, .bool h1, .bool h2, .bool h3, .bool h4] 23)).alloc (.cells #[.string ⟨sc.toArray⟩, .string ⟨ho.toArray⟩, .string ⟨pa.toArray⟩, .string ⟨qu.toArray⟩, .string ⟨fr.toArray⟩, .bool h1, .bool h2, .bool h3, .bool h4] 24))) := ((Below.refl _ w).alloc (Nat.le_refl _) _).alloc (by simp) _
  have HA1 : Hid (Blk ((w.alloc (.cells #[.string ⟨sc.toArray⟩, .string ⟨ho.toArray⟩, .string ⟨pa.toArray⟩, .string ⟨qu.toArray⟩, .string ⟨fr.toArray⟩, .bool h1, .bool h2, .bool h3, .bool h4] 23)).alloc (.cells #[.string ⟨sc.toArray⟩, .string ⟨ho.toArray⟩, .string ⟨pa.toArray⟩, .string ⟨qu.toArray⟩, .string ⟨fr.toArray⟩, .bool h1, .bool h2, .bool h3, .bool h4] 24)) (w.heap.size + 1) #[.string ⟨sc.toArray⟩, .string ⟨ho.toArray⟩, .string ⟨pa.toArray⟩, .string ⟨qu.toArray⟩, .string ⟨fr.toArray⟩, .bool h1, .bool h2, .bool h3, .bool h4] 24) := by
    have := Blk.new (w.alloc (.cells #[.string ⟨sc.toArray⟩, .string ⟨ho.toArray⟩, .string ⟨pa.toArray⟩, .string ⟨qu.toArray⟩, .string ⟨fr.toArray⟩, .bool h1, .bool h2, .bool h3, .bool h4] 23)) #[.string ⟨sc.toArray⟩, .string ⟨ho.toArray⟩, .string ⟨pa.toArray⟩, .string ⟨qu.toArray⟩, .string ⟨fr.toArray⟩, .bool h1, .bool h2, .bool h3, .bool h4] 24
    rw [show (w.alloc (.cells #[.string ⟨sc.toArray⟩, .string ⟨ho.toArray⟩, .string ⟨pa.toArray⟩, .string ⟨qu.toArray⟩, .string ⟨fr.toArray⟩, .bool h1, .bool h2, .bool h3, .bool h4] 23)).heap.size = w.heap.size + 1 from Array.size_push _] at this
    exact this
  go_enter Tryd.func7, Tryd.ntmps7
  go_wp2_with fail
  exact bodyPost_ret (results_to rfl HA1.out) rfl ⟨rfl, HB0.out⟩
end Go.Proofs.YtnnajpdliokodaaDoor.L

/- What is proved here: where the row's list of package-level variables is met, the two tables of unicode/utf8 lie in memory as the contracts ask; and a world in which they lie so. -/
namespace Go.Proofs.YtnnajpdliokodaaDoor.U
open Go.RowKit Go.Shelf

theorem own : ownKnob Tryd.prog.godebug = none := by kernel_rfl
def u8ren : Ren := ⟨fun x => x, fun n => if n = 5 then 5 else if n = 119 then 100 else if n = 138 then 102 else 103, fun n => if n = 3 then Tryd.lays32_ren.g 2 else Tryd.lays32_ren.g 3⟩
theorem u8types : U8Types Tryd.prog u8ren := ⟨by kernel_rfl, by kernel_rfl, by kernel_rfl, by kernel_rfl⟩
theorem u8extra : U8Extra Tryd.prog u8ren := ⟨by kernel_rfl, by kernel_rfl, by kernel_rfl, by kernel_rfl, by kernel_rfl, by kernel_rfl, by kernel_rfl⟩
/-- What every row of this seat lists. -/
def laidL : List (String × DataW Unit) := [("unicode/utf8.acceptRanges", Rows.laid_unicode_utf8_acceptRanges), ("unicode/utf8.first", Rows.laid_unicode_utf8_first)]
theorem accept_eq : (Rows.laid_unicode_utf8_acceptRanges : DataW Unit) = Lib.acceptData := by kernel_rfl
theorem tabs_of_laid {W : World} (h : laidMet Tryd.prog laidL W) : Lib.Utf8Tabs (Tryd.lays32_ren.g 2) (Tryd.lays32_ren.g 3) W := by
  have h3 : Lib.VarReads Tryd.prog W "unicode/utf8.first" Lib.firstData := by
    have := Lib.laidMet.reads h (n := "unicode/utf8.first") (d := Rows.laid_unicode_utf8_first) (by simp [laidL])
    rw [show Rows.laid_unicode_utf8_first = Lib.firstData from Pinned.utf8First_eq] at this
    exact this
  have h4 : Lib.VarReads Tryd.prog W "unicode/utf8.acceptRanges" Lib.acceptData := by
    have := Lib.laidMet.reads h (n := "unicode/utf8.acceptRanges") (d := Rows.laid_unicode_utf8_acceptRanges) (by simp [laidL])
    rw [accept_eq] at this
    exact this
  exact utf8Tabs_of_readsT (ρ := u8ren) u8types u8extra h3 h4

/-- A world for the witness: the settled one, the two tables holding what their texts lay. -/
def firstCells : Array Value := (Pinned.utf8FirstZ.map fun n : Nat => Value.int .u8 (n : Int)).toArray
def acceptCells : Array Value := ([128, 191, 160, 191, 128, 159, 144, 191, 128, 143, 0, 0, 0, 0, 0, 0, 0, 0, 0, 0, 0, 0, 0, 0, 0, 0, 0, 0, 0, 0, 0, 0].map fun n : Nat => Value.int .u8 (n : Int)).toArray
def withTabs (w : World) : World :=
  { w with heap := (w.heap.modify (Tryd.lays32_ren.g 2) fun
      | .cells _ t frozen => .cells firstCells t frozen
      | o => o).modify (Tryd.lays32_ren.g 3) fun
      | .cells _ t frozen => .cells acceptCells t frozen
      | o => o }

/-- A call that turns nothing that was there, gives back what the specification says and leaves its arguments: what the row asks behind it. -/
theorem post_below {H : Type} {enc : TypeId × Value → H} {P : Program} {f : Func} {s : ChangeSpec} {apart fresh handsOn : Bool} {W W' : World} {args : Array Value} {v : Value} {ds gs : List (DataW H)} {before pa pv : List MemPlace}
    (hW : DataW.Whole enc P f.params.toList s.vars apart W args.toList ds gs before)
    (hres : ∀ (b : Nat) (sp : Nat → Bool) (hd : Bool), DataW.TrodAll enc P W' b sp hd f.resultTypes.toList (v.resultList f.resultTypes.size) (s.fn H (ds ++ gs)).results [])
    (hargs : DataW.TrodAll enc P W' 0 (fun b => decide (b < W.heap.size)) true f.params.toList args.toList (s.fn H (ds ++ gs)).args pa)
    (hvars : DataW.TrodVars enc P W' (fun b => decide (b < W.heap.size)) s.vars (s.fn H (ds ++ gs)).vars pv)
    (hb : Below W.heap.size W W') : s.post enc P f apart fresh handsOn false W args v W' :=
  ⟨ds, gs, before, [], pa, pv, hW, hres _ _ _, hargs, hvars, hb.frame _, fun h => by cases h⟩

end Go.Proofs.YtnnajpdliokodaaDoor.U
