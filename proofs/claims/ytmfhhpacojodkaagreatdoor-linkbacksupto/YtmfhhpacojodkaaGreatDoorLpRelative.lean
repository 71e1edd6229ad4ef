/- What is proved here: the contract of link.Relative: as few of a link's parts as say it in a place that a base names. -/
import Derived.Test.YtmfhhpacojodkaaGreatDoorBun23
import Derived.Test.YtmfhhpacojodkaaGreatDoorBun24
import Derived.Lib.QuietBelow
import Derived.BigQuiet
namespace Go.Proofs.YtmfhhpacojodkaaGreatDoor.L
open Go.RowKit Go.Shelf Go.Proofs.YtmfhhpacojodkaaGreatDoor.N Go.Proofs.YtmfhhpacojodkaaGreatDoor.U

theorem results_relative {tmps : Array Value} {W : World} {A : Nat} {v0 v1 v2 v3 v4 v5 v6 v7 v8 : Value} {t : TypeId} (h2 : tmps[4]?.getD undef = .pointer (some ⟨A, 0, none⟩)) (h : Blk W A #[v0, v1, v2, v3, v4, v5, v6, v7, v8] t) :
    (results Tryz.f14 tmps).run Tryz.prog W = .ok (.agg #[v0, v1, v2, v3, v4, v5, v6, v7, v8]) W := by
  obtain ⟨c0, c1, c2, c3, c4, c5, c6, c7, c8, -⟩ := h.nine
  simp [results, Tryz.results14, go_sem, h2, c0, c1, c2, c3, c4, c5, c6, c7, c8]
theorem cell_again {W : World} {B : Nat} {cs : Array Value} {t : TypeId} (h : Blk W B cs t) (j : Nat) (v : Value) (hj : cs[j]? = some v) (d : Nat) (os : Array Obj) : (Go.Sort.grow (redrawn W d) os).cell? ⟨B, j, none⟩ = some v := by
  have := (h.below (below_regrown W d os)).cell j
  rw [this, hj]
set_option maxRecDepth 100000 in
set_option maxHeartbeats 8000000 in
/-- **Relative.** -/
theorem relative_calls (b t : Lk) (w : World) (hT : Tb w) (hb : b.Small 20000000) (ht : t.Small 20000000) : Calls Tryz.prog 14 #[b.v, t.v] w fun e W' => e = .returned (relativeK b.mend t.mend).v ∧ Below w.heap.size w W' := by
  have mixed : Tryz.prog.follows .mixedOrders = true := by kernel_rfl
  have HMT : Hid (∀ W, Below w.heap.size w W → Calls Tryz.prog 37 #[t.v] W fun e W' => e = .returned t.mend.v ∧ Below W.heap.size W W') := fun W h => mended_calls t W (hT.below h) ⟨Nat.le_trans ht.sc (by omega), Nat.le_trans ht.ho (by omega), Nat.le_trans ht.pa (by omega), Nat.le_trans ht.qu (by omega), Nat.le_trans ht.fr (by omega)⟩
  have hts := Lk.mend_small ht
  have HLI := hid_of (fun W => lastByte_calls t.mend.pa W (Nat.le_trans hts.pa (by omega)))
  have HRE : Hid (∀ (r : Lk) W, r.mend = r → r.Small 80000000 → Below w.heap.size w W → Calls Tryz.prog 15 #[b.v, r.v] W fun e W' => e = .returned (resolveK b.mend r).v ∧ Below W.heap.size W W') := fun r W hr hs h => by
    have := resolve_calls b r W (hT.below h) ⟨Nat.le_trans hb.sc (by omega), Nat.le_trans hb.ho (by omega), Nat.le_trans hb.pa (by omega), Nat.le_trans hb.qu (by omega), Nat.le_trans hb.fr (by omega)⟩ ⟨Nat.le_trans hs.sc (by omega), Nat.le_trans hs.ho (by omega), Nat.le_trans hs.pa (by omega), Nat.le_trans hs.qu (by omega), Nat.le_trans hs.fr (by omega)⟩
    rw [hr] at this
    exact this
  obtain ⟨m1, m2, m3, m4, m5⟩ := refs_mend (mend_vals t)
  obtain ⟨s1, s2, s3, s4, s5⟩ := refs_small hts
  have HR1 := hid_of (fun W h => HRE.out _ W m1 s1 h)
  have HR2 := hid_of (fun W h => HRE.out _ W m2 s2 h)
  have HR3 := hid_of (fun W h => HRE.out _ W m3 s3 h)
  have HR4 := hid_of (fun W h => HRE.out _ W m4 s4 h)
  have HR5 := hid_of (fun W h => HRE.out _ W m5 s5 h)
  have hfl := (folderN_cases t.mend.pa).2.1
  have sl := slice_l t.mend.pa (folderN t.mend.pa) hfl (folderN t.mend.pa : Int) rfl
  have hpl := hts.pa
  obtain ⟨V, hV⟩ : ∃ V, relativeK b.mend t.mend = V := ⟨_, rfl⟩
  rw [hV]
  have HV : Hid (relativeK b.mend t.mend = V) := hV
  clear hV HRE m1 m2 m3 m4 m5 s1 s2 s3 s4 s5 hts hb ht hT
  obtain ⟨bm, hbm⟩ : ∃ bm, b.mend = bm := ⟨_, rfl⟩
  obtain ⟨tm, htm⟩ : ∃ tm, t.mend = tm := ⟨_, rfl⟩
  rw [hbm] at HR1 HR2 HR3 HR4 HR5 HV
  rw [htm] at HMT HLI HR1 HR2 HR3 HR4 HR5 HV hfl sl hpl
  clear hbm htm
  have z1 : ∀ W, (binOp .eql 42 (resolveK bm (refFrag tm)).v tm.v).run Tryz.prog W = .ok (.bool (sameK (resolveK bm (refFrag tm)) tm)) W := fun W => eql_links _ _ W
  have g1 : ∀ x y W, (eqGuard .eql 42 x y (resolveK bm (refFrag tm)).v tm.v).run Tryz.prog W = .ok () W := fun x y W => eql_guard _ _ x y W
  obtain ⟨X1, hX1⟩ : ∃ X, (resolveK bm (refFrag tm)).v = X := ⟨_, rfl⟩
  obtain ⟨T1, hT1⟩ : ∃ T, sameK (resolveK bm (refFrag tm)) tm = T := ⟨_, rfl⟩
  rw [hX1] at z1 g1 HR1
  rw [hT1] at z1
  clear hX1
  have z2 : ∀ W, (binOp .eql 42 (resolveK bm (refQuery tm)).v tm.v).run Tryz.prog W = .ok (.bool (sameK (resolveK bm (refQuery tm)) tm)) W := fun W => eql_links _ _ W
  have g2 : ∀ x y W, (eqGuard .eql 42 x y (resolveK bm (refQuery tm)).v tm.v).run Tryz.prog W = .ok () W := fun x y W => eql_guard _ _ x y W
  obtain ⟨X2, hX2⟩ : ∃ X, (resolveK bm (refQuery tm)).v = X := ⟨_, rfl⟩
  obtain ⟨T2, hT2⟩ : ∃ T, sameK (resolveK bm (refQuery tm)) tm = T := ⟨_, rfl⟩
  rw [hX2] at z2 g2 HR2
  rw [hT2] at z2
  clear hX2
  have z3 : ∀ W, (binOp .eql 42 (resolveK bm (refLast tm)).v tm.v).run Tryz.prog W = .ok (.bool (sameK (resolveK bm (refLast tm)) tm)) W := fun W => eql_links _ _ W
  have g3 : ∀ x y W, (eqGuard .eql 42 x y (resolveK bm (refLast tm)).v tm.v).run Tryz.prog W = .ok () W := fun x y W => eql_guard _ _ x y W
  obtain ⟨X3, hX3⟩ : ∃ X, (resolveK bm (refLast tm)).v = X := ⟨_, rfl⟩
  obtain ⟨T3, hT3⟩ : ∃ T, sameK (resolveK bm (refLast tm)) tm = T := ⟨_, rfl⟩
  rw [hX3] at z3 g3 HR3
  rw [hT3] at z3
  clear hX3
  have z4 : ∀ W, (binOp .eql 42 (resolveK bm (refPath tm)).v tm.v).run Tryz.prog W = .ok (.bool (sameK (resolveK bm (refPath tm)) tm)) W := fun W => eql_links _ _ W
  have g4 : ∀ x y W, (eqGuard .eql 42 x y (resolveK bm (refPath tm)).v tm.v).run Tryz.prog W = .ok () W := fun x y W => eql_guard _ _ x y W
  obtain ⟨X4, hX4⟩ : ∃ X, (resolveK bm (refPath tm)).v = X := ⟨_, rfl⟩
  obtain ⟨T4, hT4⟩ : ∃ T, sameK (resolveK bm (refPath tm)) tm = T := ⟨_, rfl⟩
  rw [hX4] at z4 g4 HR4
  rw [hT4] at z4
  clear hX4
  have z5 : ∀ W, (binOp .eql 42 (resolveK bm (refHost tm)).v tm.v).run Tryz.prog W = .ok (.bool (sameK (resolveK bm (refHost tm)) tm)) W := fun W => eql_links _ _ W
  have g5 : ∀ x y W, (eqGuard .eql 42 x y (resolveK bm (refHost tm)).v tm.v).run Tryz.prog W = .ok () W := fun x y W => eql_guard _ _ x y W
  obtain ⟨X5, hX5⟩ : ∃ X, (resolveK bm (refHost tm)).v = X := ⟨_, rfl⟩
  obtain ⟨T5, hT5⟩ : ∃ T, sameK (resolveK bm (refHost tm)) tm = T := ⟨_, rfl⟩
  rw [hX5] at z5 g5 HR5
  rw [hT5] at z5
  clear hX5
  have HV2 : Hid (V = if T1 then refFrag tm else if T2 then refQuery tm else if T3 then refLast tm else if T4 then refPath tm else if T5 then refHost tm else tm) := by show _ = _; rw [← HV.out]; unfold relativeK; rw [hT1, hT2, hT3, hT4, hT5]
  clear hT1 hT2 hT3 hT4 hT5 HV
  have HE1 : Hid (T1 = true → (refFrag tm).v = V.v) := fun h1 => by rw [HV2.out, h1]; rfl
  have HE2 : Hid (T1 = false → T2 = true → (refQuery tm).v = V.v) := fun h1 h2 => by rw [HV2.out, h1, h2]; rfl
  have HE3 : Hid (T1 = false → T2 = false → T3 = true → (refLast tm).v = V.v) := fun h1 h2 h3 => by rw [HV2.out, h1, h2, h3]; rfl
  have HE4 : Hid (T1 = false → T2 = false → T3 = false → T4 = true → (refPath tm).v = V.v) := fun h1 h2 h3 h4 => by rw [HV2.out, h1, h2, h3, h4]; rfl
  have HE5 : Hid (T1 = false → T2 = false → T3 = false → T4 = false → T5 = true → (refHost tm).v = V.v) := fun h1 h2 h3 h4 h5 => by rw [HV2.out, h1, h2, h3, h4, h5]; rfl
  have HE6 : Hid (T1 = false → T2 = false → T3 = false → T4 = false → T5 = false → tm.v = V.v) := fun h1 h2 h3 h4 h5 => by rw [HV2.out, h1, h2, h3, h4, h5]; rfl
  clear HV2
  unfold refFrag at HR1 HE1
  unfold refQuery at HR2 HE2
  unfold refLast at HR3 HE3
  unfold refPath at HR4 HE4
  unfold refHost at HR5 HE5
  obtain ⟨bsc, bho, bpa, bqu, bfr, bhs, bhh, bhq, bhf⟩ := b
  obtain ⟨t0sc, t0ho, t0pa, t0qu, t0fr, t0hs, t0hh, t0hq, t0hf⟩ := t
  obtain ⟨tsc, tho, tpa, tqu, tfr, ths, thh, thq, thf⟩ := tm
  simp only at HLI hfl sl hpl HR1 HR2 HR3 HR4 HR5 HE1 HE2 HE3 HE4 HE5
  obtain ⟨la, hla⟩ : ∃ la, tpa.drop (folderN tpa) = la := ⟨_, rfl⟩
  rw [hla] at sl HR3 HE3
  have HLE := hid_of hla
  clear hla
  have HLN := HLE
  generalize folderN tpa = nf at HLI hfl sl HLN
  have sl2 := slice_l tpa nf hfl ((nf : Int) - 1 + 1) (by omega)
  rw [HLN.out] at sl2
  have hnf1 : (nf : Int) ≤ (tpa.length : Int) := by omega
  have hnf0 : (0 : Int) ≤ (nf : Int) := by omega
  have wn2 : IntKind.i64.wrap (nf : Int) = (nf : Int) := by rw [IntKind.wrap_i64]; omega
  have wn : IntKind.i64.wrap ((nf : Int) - 1 + 1) = (nf : Int) - 1 + 1 := by rw [IntKind.wrap_i64]; omega
  have HR0 : Hid (ResAt w _ #[.string ⟨bsc.toArray⟩, .string ⟨bho.toArray⟩, .string ⟨bpa.toArray⟩, .string ⟨bqu.toArray⟩, .string ⟨bfr.toArray⟩, .bool bhs, .bool bhh, .bool bhq, .bool bhf] #[.string ⟨t0sc.toArray⟩, .string ⟨t0ho.toArray⟩, .string ⟨t0pa.toArray⟩, .string ⟨t0qu.toArray⟩, .string ⟨t0fr.toArray⟩, .bool t0hs, .bool t0hh, .bool t0hq, .bool t0hf]) := resAt_new w _ _
  unfold Lk.v at *
  simp only at *
  go_enter Tryz.func14, Tryz.ntmps14
  go_upto_region 1 with fail
  generalize (((w.alloc (.cells #[.string ⟨bsc.toArray⟩, .string ⟨bho.toArray⟩, .string ⟨bpa.toArray⟩, .string ⟨bqu.toArray⟩, .string ⟨bfr.toArray⟩, .bool bhs, .bool bhh, .bool bhq, .bool bhf] 42)).alloc (.cells #[.string ⟨t0sc.toArray⟩, .string ⟨t0ho.toArray⟩, .string ⟨t0pa.toArray⟩, .string ⟨t0qu.toArray⟩, .string ⟨t0fr.toArray⟩, .bool t0hs, .bool t0hh, .bool t0hq, .bool t0hf] 42)).alloc (.cells #[.string ⟨#[]⟩, .string ⟨#[]⟩, .string ⟨#[]⟩, .string ⟨#[]⟩, .string ⟨#[]⟩, .bool false, .bool false, .bool false, .bool false] 42)) = w1 at *
  obtain ⟨d0, d1, d2, d3, d4, d5, d6, d7, d8, dz⟩ := HR0.out.hr.nine
  go_wp2_with fail
  (go_at_call 37; refine (HMT.out _ HR0.out.below).mono ?_; rintro e w2 ⟨rfl, h2⟩)
  have HR := hid_of (HR0.out.next h2)
  clear h2 HR0 d0 d1 d2 d3 d4 d5 d6 d7 d8 dz HMT
  obtain ⟨d0, d1, d2, d3, d4, d5, d6, d7, d8, dz⟩ := HR.out.hr.nine
  have RTn := hid_of (Blk.put9 HR.out.hr (.string ⟨tsc.toArray⟩) (.string ⟨tho.toArray⟩) (.string ⟨tpa.toArray⟩) (.string ⟨tqu.toArray⟩) (.string ⟨tfr.toArray⟩) (.bool ths) (.bool thh) (.bool thq) (.bool thf))
  have RBn := hid_of (Blk.other9 HR.out.hb (show w.heap.size ≠ w.heap.size + 1 by omega) (.string ⟨tsc.toArray⟩) (.string ⟨tho.toArray⟩) (.string ⟨tpa.toArray⟩) (.string ⟨tqu.toArray⟩) (.string ⟨tfr.toArray⟩) (.bool ths) (.bool thh) (.bool thq) (.bool thf))
  have ROn := hid_of (Blk.other9 HR.out.ho (show w.heap.size + 1 + 1 ≠ w.heap.size + 1 by omega) (.string ⟨tsc.toArray⟩) (.string ⟨tho.toArray⟩) (.string ⟨tpa.toArray⟩) (.string ⟨tqu.toArray⟩) (.string ⟨tfr.toArray⟩) (.bool ths) (.bool thh) (.bool thq) (.bool thf))
  have HBn := hid_of (below_put9 HR.out.below (show w.heap.size ≤ w.heap.size + 1 by omega) (.string ⟨tsc.toArray⟩) (.string ⟨tho.toArray⟩) (.string ⟨tpa.toArray⟩) (.string ⟨tqu.toArray⟩) (.string ⟨tfr.toArray⟩) (.bool ths) (.bool thh) (.bool thq) (.bool thf))
  go_upto_region 2 with fail
  clear HR d0 d1 d2 d3 d4 d5 d6 d7 d8 dz
  generalize (((((((((w2.setCell ⟨w.heap.size + 1, 0, none⟩ (.string ⟨tsc.toArray⟩)).setCell ⟨w.heap.size + 1, 1, none⟩ (.string ⟨tho.toArray⟩)).setCell ⟨w.heap.size + 1, 2, none⟩ (.string ⟨tpa.toArray⟩)).setCell ⟨w.heap.size + 1, 3, none⟩ (.string ⟨tqu.toArray⟩)).setCell ⟨w.heap.size + 1, 4, none⟩ (.string ⟨tfr.toArray⟩)).setCell ⟨w.heap.size + 1, 5, none⟩ (.bool ths)).setCell ⟨w.heap.size + 1, 6, none⟩ (.bool thh)).setCell ⟨w.heap.size + 1, 7, none⟩ (.bool thq)).setCell ⟨w.heap.size + 1, 8, none⟩ (.bool thf)) = wA at *
  have RB := RBn
  have RT := RTn
  have RO := ROn
  have HB := HBn
  clear RBn RTn ROn HBn
  have RBn := hid_of (RB.out.alloc (.cells #[.string ⟨#[]⟩, .string ⟨#[]⟩, .string ⟨#[]⟩, .string ⟨#[]⟩, .string ⟨tfr.toArray⟩, .bool false, .bool false, .bool false, .bool thf] 42))
  have RTn := hid_of (RT.out.alloc (.cells #[.string ⟨#[]⟩, .string ⟨#[]⟩, .string ⟨#[]⟩, .string ⟨#[]⟩, .string ⟨tfr.toArray⟩, .bool false, .bool false, .bool false, .bool thf] 42))
  have ROn := hid_of (RO.out.alloc (.cells #[.string ⟨#[]⟩, .string ⟨#[]⟩, .string ⟨#[]⟩, .string ⟨#[]⟩, .string ⟨tfr.toArray⟩, .bool false, .bool false, .bool false, .bool thf] 42))
  have KFn := hid_of (Blk.new wA #[.string ⟨#[]⟩, .string ⟨#[]⟩, .string ⟨#[]⟩, .string ⟨#[]⟩, .string ⟨tfr.toArray⟩, .bool false, .bool false, .bool false, .bool thf] 42)
  have HBn := hid_of (HB.out.alloc HB.out.size (.cells #[.string ⟨#[]⟩, .string ⟨#[]⟩, .string ⟨#[]⟩, .string ⟨#[]⟩, .string ⟨tfr.toArray⟩, .bool false, .bool false, .bool false, .bool thf] 42))
  have hz := RO.out.lt
  obtain ⟨n5, hn⟩ : ∃ n5, wA.heap.size = n5 := ⟨_, rfl⟩
  rw [hn] at KFn hz 
  obtain ⟨a0, a1, a2, a3, a4, a5, a6, a7, a8, az⟩ := RB.out.nine
  obtain ⟨b0, b1, b2, b3, b4, b5, b6, b7, b8, bz⟩ := RT.out.nine
  obtain ⟨c0, c1, c2, c3, c4, c5, c6, c7, c8, cz⟩ := RO.out.nine
  go_upto_region 3 with fail
  clear a0 a1 a2 a3 a4 a5 a6 a7 a8 az b0 b1 b2 b3 b4 b5 b6 b7 b8 bz c0 c1 c2 c3 c4 c5 c6 c7 c8 cz
  generalize wA.alloc (.cells #[.string ⟨#[]⟩, .string ⟨#[]⟩, .string ⟨#[]⟩, .string ⟨#[]⟩, .string ⟨tfr.toArray⟩, .bool false, .bool false, .bool false, .bool thf] 42) = w5 at *
  have qn5 : w.heap.size + 1 + 1 < n5 := hz
  clear hn hz  RB RT RO HB
  rename Hid (Blk _ w.heap.size _ _) => RB
  rename Hid (Blk _ (w.heap.size + 1) _ _) => RT
  rename Hid (Blk _ (w.heap.size + 1 + 1) _ _) => RO
  rename Hid (Blk _ n5 _ _) => KF
  rename Hid (Below w.heap.size w _) => HB
  have RBn := hid_of (RB.out.alloc (.cells #[.string ⟨#[]⟩, .string ⟨#[]⟩, .string ⟨#[]⟩, .string ⟨#[]⟩, .string ⟨tfr.toArray⟩, .bool false, .bool false, .bool false, .bool thf] 42))
  have RTn := hid_of (RT.out.alloc (.cells #[.string ⟨#[]⟩, .string ⟨#[]⟩, .string ⟨#[]⟩, .string ⟨#[]⟩, .string ⟨tfr.toArray⟩, .bool false, .bool false, .bool false, .bool thf] 42))
  have ROn := hid_of (RO.out.alloc (.cells #[.string ⟨#[]⟩, .string ⟨#[]⟩, .string ⟨#[]⟩, .string ⟨#[]⟩, .string ⟨tfr.toArray⟩, .bool false, .bool false, .bool false, .bool thf] 42))
  have KFn := hid_of (KF.out.alloc (.cells #[.string ⟨#[]⟩, .string ⟨#[]⟩, .string ⟨#[]⟩, .string ⟨#[]⟩, .string ⟨tfr.toArray⟩, .bool false, .bool false, .bool false, .bool thf] 42))
  have KQn := hid_of (Blk.new w5 #[.string ⟨#[]⟩, .string ⟨#[]⟩, .string ⟨#[]⟩, .string ⟨#[]⟩, .string ⟨tfr.toArray⟩, .bool false, .bool false, .bool false, .bool thf] 42)
  have HBn := hid_of (HB.out.alloc HB.out.size (.cells #[.string ⟨#[]⟩, .string ⟨#[]⟩, .string ⟨#[]⟩, .string ⟨#[]⟩, .string ⟨tfr.toArray⟩, .bool false, .bool false, .bool false, .bool thf] 42))
  have hz := RO.out.lt
  have hzKF := KF.out.lt
  obtain ⟨n6, hn⟩ : ∃ n6, w5.heap.size = n6 := ⟨_, rfl⟩
  rw [hn] at KQn hz hzKF
  obtain ⟨a0, a1, a2, a3, a4, a5, a6, a7, a8, az⟩ := RB.out.nine
  obtain ⟨b0, b1, b2, b3, b4, b5, b6, b7, b8, bz⟩ := RT.out.nine
  obtain ⟨c0, c1, c2, c3, c4, c5, c6, c7, c8, cz⟩ := RO.out.nine
  obtain ⟨d0, d1, d2, d3, d4, d5, d6, d7, d8, dz⟩ := KF.out.nine
  go_upto_region 4 with fail
  clear a0 a1 a2 a3 a4 a5 a6 a7 a8 az b0 b1 b2 b3 b4 b5 b6 b7 b8 bz c0 c1 c2 c3 c4 c5 c6 c7 c8 cz d0 d1 d2 d3 d4 d5 d6 d7 d8 dz
  generalize w5.alloc (.cells #[.string ⟨#[]⟩, .string ⟨#[]⟩, .string ⟨#[]⟩, .string ⟨#[]⟩, .string ⟨tfr.toArray⟩, .bool false, .bool false, .bool false, .bool thf] 42) = w6 at *
  have qn6 : w.heap.size + 1 + 1 < n6 := hz
  have qn6n5 : n5 < n6 := hzKF
  clear hn hz hzKF RB RT RO KF HB
  rename Hid (Blk _ w.heap.size _ _) => RB
  rename Hid (Blk _ (w.heap.size + 1) _ _) => RT
  rename Hid (Blk _ (w.heap.size + 1 + 1) _ _) => RO
  rename Hid (Blk _ n5 _ _) => KF
  rename Hid (Blk _ n6 _ _) => KQ
  rename Hid (Below w.heap.size w _) => HB
  obtain ⟨a0, a1, a2, a3, a4, a5, a6, a7, a8, az⟩ := RB.out.nine
  obtain ⟨b0, b1, b2, b3, b4, b5, b6, b7, b8, bz⟩ := RT.out.nine
  obtain ⟨c0, c1, c2, c3, c4, c5, c6, c7, c8, cz⟩ := RO.out.nine
  obtain ⟨d0, d1, d2, d3, d4, d5, d6, d7, d8, dz⟩ := KF.out.nine
  obtain ⟨e0, e1, e2, e3, e4, e5, e6, e7, e8, ez⟩ := KQ.out.nine
  go_region
  go_upto_region 5 with fail
  clear a0 a1 a2 a3 a4 a5 a6 a7 a8 az b0 b1 b2 b3 b4 b5 b6 b7 b8 bz c0 c1 c2 c3 c4 c5 c6 c7 c8 cz d0 d1 d2 d3 d4 d5 d6 d7 d8 dz e0 e1 e2 e3 e4 e5 e6 e7 e8 ez
  have RBn : Hid (Blk ((w6.setCell ⟨n6, 3, none⟩ (.string ⟨tqu.toArray⟩)).setCell ⟨n6, 7, none⟩ (.bool thq)).drew w.heap.size #[.string ⟨bsc.toArray⟩, .string ⟨bho.toArray⟩, .string ⟨bpa.toArray⟩, .string ⟨bqu.toArray⟩, .string ⟨bfr.toArray⟩, .bool bhs, .bool bhh, .bool bhq, .bool bhf] 42) := ((RB.out.other (by omega) 3 (.string ⟨tqu.toArray⟩)).other (by omega) 7 (.bool thq))
  have RTn : Hid (Blk ((w6.setCell ⟨n6, 3, none⟩ (.string ⟨tqu.toArray⟩)).setCell ⟨n6, 7, none⟩ (.bool thq)).drew (w.heap.size + 1) #[.string ⟨tsc.toArray⟩, .string ⟨tho.toArray⟩, .string ⟨tpa.toArray⟩, .string ⟨tqu.toArray⟩, .string ⟨tfr.toArray⟩, .bool ths, .bool thh, .bool thq, .bool thf] 42) := ((RT.out.other (by omega) 3 (.string ⟨tqu.toArray⟩)).other (by omega) 7 (.bool thq))
  have ROn : Hid (Blk ((w6.setCell ⟨n6, 3, none⟩ (.string ⟨tqu.toArray⟩)).setCell ⟨n6, 7, none⟩ (.bool thq)).drew (w.heap.size + 1 + 1) #[.string ⟨#[]⟩, .string ⟨#[]⟩, .string ⟨#[]⟩, .string ⟨#[]⟩, .string ⟨#[]⟩, .bool false, .bool false, .bool false, .bool false] 42) := ((RO.out.other (by omega) 3 (.string ⟨tqu.toArray⟩)).other (by omega) 7 (.bool thq))
  have KFn : Hid (Blk ((w6.setCell ⟨n6, 3, none⟩ (.string ⟨tqu.toArray⟩)).setCell ⟨n6, 7, none⟩ (.bool thq)).drew n5 #[.string ⟨#[]⟩, .string ⟨#[]⟩, .string ⟨#[]⟩, .string ⟨#[]⟩, .string ⟨tfr.toArray⟩, .bool false, .bool false, .bool false, .bool thf] 42) := ((KF.out.other (by omega) 3 (.string ⟨tqu.toArray⟩)).other (by omega) 7 (.bool thq))
  have KQn : Hid (Blk ((w6.setCell ⟨n6, 3, none⟩ (.string ⟨tqu.toArray⟩)).setCell ⟨n6, 7, none⟩ (.bool thq)).drew n6 #[.string ⟨#[]⟩, .string ⟨#[]⟩, .string ⟨#[]⟩, .string ⟨tqu.toArray⟩, .string ⟨tfr.toArray⟩, .bool false, .bool false, .bool thq, .bool thf] 42) := ((KQ.out.set 3 (.string ⟨tqu.toArray⟩)).set 7 (.bool thq))
  have HBn : Hid (Below w.heap.size w ((w6.setCell ⟨n6, 3, none⟩ (.string ⟨tqu.toArray⟩)).setCell ⟨n6, 7, none⟩ (.bool thq)).drew) := (below_setCell (below_setCell HB.out (by omega) 3 (.string ⟨tqu.toArray⟩)) (by omega) 7 (.bool thq)).drew
  clear RB RT RO KF KQ HB
  generalize ((w6.setCell ⟨n6, 3, none⟩ (.string ⟨tqu.toArray⟩)).setCell ⟨n6, 7, none⟩ (.bool thq)).drew = w7 at *
  rename Hid (Blk _ w.heap.size _ _) => RB
  rename Hid (Blk _ (w.heap.size + 1) _ _) => RT
  rename Hid (Blk _ (w.heap.size + 1 + 1) _ _) => RO
  rename Hid (Blk _ n5 _ _) => KF
  rename Hid (Blk _ n6 _ _) => KQ
  rename Hid (Below w.heap.size w _) => HB
  have RBn := hid_of (RB.out.alloc (.cells #[.string ⟨#[]⟩, .string ⟨#[]⟩, .string ⟨#[]⟩, .string ⟨tqu.toArray⟩, .string ⟨tfr.toArray⟩, .bool false, .bool false, .bool thq, .bool thf] 42))
  have RTn := hid_of (RT.out.alloc (.cells #[.string ⟨#[]⟩, .string ⟨#[]⟩, .string ⟨#[]⟩, .string ⟨tqu.toArray⟩, .string ⟨tfr.toArray⟩, .bool false, .bool false, .bool thq, .bool thf] 42))
  have ROn := hid_of (RO.out.alloc (.cells #[.string ⟨#[]⟩, .string ⟨#[]⟩, .string ⟨#[]⟩, .string ⟨tqu.toArray⟩, .string ⟨tfr.toArray⟩, .bool false, .bool false, .bool thq, .bool thf] 42))
  have KFn := hid_of (KF.out.alloc (.cells #[.string ⟨#[]⟩, .string ⟨#[]⟩, .string ⟨#[]⟩, .string ⟨tqu.toArray⟩, .string ⟨tfr.toArray⟩, .bool false, .bool false, .bool thq, .bool thf] 42))
  have KQn := hid_of (KQ.out.alloc (.cells #[.string ⟨#[]⟩, .string ⟨#[]⟩, .string ⟨#[]⟩, .string ⟨tqu.toArray⟩, .string ⟨tfr.toArray⟩, .bool false, .bool false, .bool thq, .bool thf] 42))
  have KLn := hid_of (Blk.new w7 #[.string ⟨#[]⟩, .string ⟨#[]⟩, .string ⟨#[]⟩, .string ⟨tqu.toArray⟩, .string ⟨tfr.toArray⟩, .bool false, .bool false, .bool thq, .bool thf] 42)
  have HBn := hid_of (HB.out.alloc HB.out.size (.cells #[.string ⟨#[]⟩, .string ⟨#[]⟩, .string ⟨#[]⟩, .string ⟨tqu.toArray⟩, .string ⟨tfr.toArray⟩, .bool false, .bool false, .bool thq, .bool thf] 42))
  have hz := RO.out.lt
  have hzKF := KF.out.lt
  have hzKQ := KQ.out.lt
  obtain ⟨n7, hn⟩ : ∃ n7, w7.heap.size = n7 := ⟨_, rfl⟩
  rw [hn] at KLn hz hzKF hzKQ
  obtain ⟨a0, a1, a2, a3, a4, a5, a6, a7, a8, az⟩ := RB.out.nine
  obtain ⟨b0, b1, b2, b3, b4, b5, b6, b7, b8, bz⟩ := RT.out.nine
  obtain ⟨c0, c1, c2, c3, c4, c5, c6, c7, c8, cz⟩ := RO.out.nine
  obtain ⟨d0, d1, d2, d3, d4, d5, d6, d7, d8, dz⟩ := KF.out.nine
  obtain ⟨e0, e1, e2, e3, e4, e5, e6, e7, e8, ez⟩ := KQ.out.nine
  go_upto_region 6 with fail
  clear a0 a1 a2 a3 a4 a5 a6 a7 a8 az b0 b1 b2 b3 b4 b5 b6 b7 b8 bz c0 c1 c2 c3 c4 c5 c6 c7 c8 cz d0 d1 d2 d3 d4 d5 d6 d7 d8 dz e0 e1 e2 e3 e4 e5 e6 e7 e8 ez
  generalize w7.alloc (.cells #[.string ⟨#[]⟩, .string ⟨#[]⟩, .string ⟨#[]⟩, .string ⟨tqu.toArray⟩, .string ⟨tfr.toArray⟩, .bool false, .bool false, .bool thq, .bool thf] 42) = w8 at *
  have qn7 : w.heap.size + 1 + 1 < n7 := hz
  have qn7n5 : n5 < n7 := hzKF
  have qn7n6 : n6 < n7 := hzKQ
  clear hn hz hzKF hzKQ RB RT RO KF KQ HB
  rename Hid (Blk _ w.heap.size _ _) => RB
  rename Hid (Blk _ (w.heap.size + 1) _ _) => RT
  rename Hid (Blk _ (w.heap.size + 1 + 1) _ _) => RO
  rename Hid (Blk _ n5 _ _) => KF
  rename Hid (Blk _ n6 _ _) => KQ
  rename Hid (Blk _ n7 _ _) => KL
  rename Hid (Below w.heap.size w _) => HB
  obtain ⟨a0, a1, a2, a3, a4, a5, a6, a7, a8, az⟩ := RB.out.nine
  obtain ⟨b0, b1, b2, b3, b4, b5, b6, b7, b8, bz⟩ := RT.out.nine
  obtain ⟨c0, c1, c2, c3, c4, c5, c6, c7, c8, cz⟩ := RO.out.nine
  obtain ⟨d0, d1, d2, d3, d4, d5, d6, d7, d8, dz⟩ := KF.out.nine
  obtain ⟨e0, e1, e2, e3, e4, e5, e6, e7, e8, ez⟩ := KQ.out.nine
  obtain ⟨f0, f1, f2, f3, f4, f5, f6, f7, f8, fz⟩ := KL.out.nine
  have dd2 : w8.drew.cell? ⟨w.heap.size + 1, 2, none⟩ = some (.string ⟨tpa.toArray⟩) := b2
  go_region_held3 (fun w' => w'.cell? ⟨w.heap.size + 1, 2, none⟩ = some (.string ⟨tpa.toArray⟩)) (first | with_reducible exact dd2 | exact (cell_other (show w.heap.size + 1 ≠ n7 by omega) 2 2 _).trans b2) (first | (go_at_call 38; refine (HLI.out _).mono ?_; rintro e w' ⟨rfl, hx⟩; obtain rfl := hx))
  go_upto_region 7 with fail
  clear a0 a1 a2 a3 a4 a5 a6 a7 a8 az b0 b1 b2 b3 b4 b5 b6 b7 b8 bz c0 c1 c2 c3 c4 c5 c6 c7 c8 cz d0 d1 d2 d3 d4 d5 d6 d7 d8 dz e0 e1 e2 e3 e4 e5 e6 e7 e8 ez f0 f1 f2 f3 f4 f5 f6 f7 f8 fz
  have RBn : Hid (Blk (w8.setCell ⟨n7, 2, none⟩ (.string ⟨la.toArray⟩)).drew w.heap.size #[.string ⟨bsc.toArray⟩, .string ⟨bho.toArray⟩, .string ⟨bpa.toArray⟩, .string ⟨bqu.toArray⟩, .string ⟨bfr.toArray⟩, .bool bhs, .bool bhh, .bool bhq, .bool bhf] 42) := (RB.out.other (by omega) 2 (.string ⟨la.toArray⟩))
  have RTn : Hid (Blk (w8.setCell ⟨n7, 2, none⟩ (.string ⟨la.toArray⟩)).drew (w.heap.size + 1) #[.string ⟨tsc.toArray⟩, .string ⟨tho.toArray⟩, .string ⟨tpa.toArray⟩, .string ⟨tqu.toArray⟩, .string ⟨tfr.toArray⟩, .bool ths, .bool thh, .bool thq, .bool thf] 42) := (RT.out.other (by omega) 2 (.string ⟨la.toArray⟩))
  have ROn : Hid (Blk (w8.setCell ⟨n7, 2, none⟩ (.string ⟨la.toArray⟩)).drew (w.heap.size + 1 + 1) #[.string ⟨#[]⟩, .string ⟨#[]⟩, .string ⟨#[]⟩, .string ⟨#[]⟩, .string ⟨#[]⟩, .bool false, .bool false, .bool false, .bool false] 42) := (RO.out.other (by omega) 2 (.string ⟨la.toArray⟩))
  have KFn : Hid (Blk (w8.setCell ⟨n7, 2, none⟩ (.string ⟨la.toArray⟩)).drew n5 #[.string ⟨#[]⟩, .string ⟨#[]⟩, .string ⟨#[]⟩, .string ⟨#[]⟩, .string ⟨tfr.toArray⟩, .bool false, .bool false, .bool false, .bool thf] 42) := (KF.out.other (by omega) 2 (.string ⟨la.toArray⟩))
  have KQn : Hid (Blk (w8.setCell ⟨n7, 2, none⟩ (.string ⟨la.toArray⟩)).drew n6 #[.string ⟨#[]⟩, .string ⟨#[]⟩, .string ⟨#[]⟩, .string ⟨tqu.toArray⟩, .string ⟨tfr.toArray⟩, .bool false, .bool false, .bool thq, .bool thf] 42) := (KQ.out.other (by omega) 2 (.string ⟨la.toArray⟩))
  have KLn : Hid (Blk (w8.setCell ⟨n7, 2, none⟩ (.string ⟨la.toArray⟩)).drew n7 #[.string ⟨#[]⟩, .string ⟨#[]⟩, .string ⟨la.toArray⟩, .string ⟨tqu.toArray⟩, .string ⟨tfr.toArray⟩, .bool false, .bool false, .bool thq, .bool thf] 42) := (KL.out.set 2 (.string ⟨la.toArray⟩))
  have HBn : Hid (Below w.heap.size w (w8.setCell ⟨n7, 2, none⟩ (.string ⟨la.toArray⟩)).drew) := (below_setCell HB.out (by omega) 2 (.string ⟨la.toArray⟩)).drew
  clear RB RT RO KF KQ KL HB
  generalize (w8.setCell ⟨n7, 2, none⟩ (.string ⟨la.toArray⟩)).drew = w9 at *
  rename Hid (Blk _ w.heap.size _ _) => RB
  rename Hid (Blk _ (w.heap.size + 1) _ _) => RT
  rename Hid (Blk _ (w.heap.size + 1 + 1) _ _) => RO
  rename Hid (Blk _ n5 _ _) => KF
  rename Hid (Blk _ n6 _ _) => KQ
  rename Hid (Blk _ n7 _ _) => KL
  rename Hid (Below w.heap.size w _) => HB
  have RBn := hid_of (RB.out.alloc (.cells #[.string ⟨#[]⟩, .string ⟨#[]⟩, .string ⟨#[]⟩, .string ⟨tqu.toArray⟩, .string ⟨tfr.toArray⟩, .bool false, .bool false, .bool thq, .bool thf] 42))
  have RTn := hid_of (RT.out.alloc (.cells #[.string ⟨#[]⟩, .string ⟨#[]⟩, .string ⟨#[]⟩, .string ⟨tqu.toArray⟩, .string ⟨tfr.toArray⟩, .bool false, .bool false, .bool thq, .bool thf] 42))
  have ROn := hid_of (RO.out.alloc (.cells #[.string ⟨#[]⟩, .string ⟨#[]⟩, .string ⟨#[]⟩, .string ⟨tqu.toArray⟩, .string ⟨tfr.toArray⟩, .bool false, .bool false, .bool thq, .bool thf] 42))
  have KFn := hid_of (KF.out.alloc (.cells #[.string ⟨#[]⟩, .string ⟨#[]⟩, .string ⟨#[]⟩, .string ⟨tqu.toArray⟩, .string ⟨tfr.toArray⟩, .bool false, .bool false, .bool thq, .bool thf] 42))
  have KQn := hid_of (KQ.out.alloc (.cells #[.string ⟨#[]⟩, .string ⟨#[]⟩, .string ⟨#[]⟩, .string ⟨tqu.toArray⟩, .string ⟨tfr.toArray⟩, .bool false, .bool false, .bool thq, .bool thf] 42))
  have KLn := hid_of (KL.out.alloc (.cells #[.string ⟨#[]⟩, .string ⟨#[]⟩, .string ⟨#[]⟩, .string ⟨tqu.toArray⟩, .string ⟨tfr.toArray⟩, .bool false, .bool false, .bool thq, .bool thf] 42))
  have KPn := hid_of (Blk.new w9 #[.string ⟨#[]⟩, .string ⟨#[]⟩, .string ⟨#[]⟩, .string ⟨tqu.toArray⟩, .string ⟨tfr.toArray⟩, .bool false, .bool false, .bool thq, .bool thf] 42)
  have HBn := hid_of (HB.out.alloc HB.out.size (.cells #[.string ⟨#[]⟩, .string ⟨#[]⟩, .string ⟨#[]⟩, .string ⟨tqu.toArray⟩, .string ⟨tfr.toArray⟩, .bool false, .bool false, .bool thq, .bool thf] 42))
  have hz := RO.out.lt
  have hzKF := KF.out.lt
  have hzKQ := KQ.out.lt
  have hzKL := KL.out.lt
  obtain ⟨n8, hn⟩ : ∃ n8, w9.heap.size = n8 := ⟨_, rfl⟩
  rw [hn] at KPn hz hzKF hzKQ hzKL
  obtain ⟨a0, a1, a2, a3, a4, a5, a6, a7, a8, az⟩ := RB.out.nine
  obtain ⟨b0, b1, b2, b3, b4, b5, b6, b7, b8, bz⟩ := RT.out.nine
  obtain ⟨c0, c1, c2, c3, c4, c5, c6, c7, c8, cz⟩ := RO.out.nine
  obtain ⟨d0, d1, d2, d3, d4, d5, d6, d7, d8, dz⟩ := KF.out.nine
  obtain ⟨e0, e1, e2, e3, e4, e5, e6, e7, e8, ez⟩ := KQ.out.nine
  obtain ⟨f0, f1, f2, f3, f4, f5, f6, f7, f8, fz⟩ := KL.out.nine
  go_upto_region 8 with fail
  clear a0 a1 a2 a3 a4 a5 a6 a7 a8 az b0 b1 b2 b3 b4 b5 b6 b7 b8 bz c0 c1 c2 c3 c4 c5 c6 c7 c8 cz d0 d1 d2 d3 d4 d5 d6 d7 d8 dz e0 e1 e2 e3 e4 e5 e6 e7 e8 ez f0 f1 f2 f3 f4 f5 f6 f7 f8 fz
  generalize w9.alloc (.cells #[.string ⟨#[]⟩, .string ⟨#[]⟩, .string ⟨#[]⟩, .string ⟨tqu.toArray⟩, .string ⟨tfr.toArray⟩, .bool false, .bool false, .bool thq, .bool thf] 42) = w10 at *
  have qn8 : w.heap.size + 1 + 1 < n8 := hz
  have qn8n5 : n5 < n8 := hzKF
  have qn8n6 : n6 < n8 := hzKQ
  have qn8n7 : n7 < n8 := hzKL
  clear hn hz hzKF hzKQ hzKL RB RT RO KF KQ KL HB
  rename Hid (Blk _ w.heap.size _ _) => RB
  rename Hid (Blk _ (w.heap.size + 1) _ _) => RT
  rename Hid (Blk _ (w.heap.size + 1 + 1) _ _) => RO
  rename Hid (Blk _ n5 _ _) => KF
  rename Hid (Blk _ n6 _ _) => KQ
  rename Hid (Blk _ n7 _ _) => KL
  rename Hid (Blk _ n8 _ _) => KP
  rename Hid (Below w.heap.size w _) => HB
  obtain ⟨a0, a1, a2, a3, a4, a5, a6, a7, a8, az⟩ := RB.out.nine
  obtain ⟨b0, b1, b2, b3, b4, b5, b6, b7, b8, bz⟩ := RT.out.nine
  obtain ⟨c0, c1, c2, c3, c4, c5, c6, c7, c8, cz⟩ := RO.out.nine
  obtain ⟨d0, d1, d2, d3, d4, d5, d6, d7, d8, dz⟩ := KF.out.nine
  obtain ⟨e0, e1, e2, e3, e4, e5, e6, e7, e8, ez⟩ := KQ.out.nine
  obtain ⟨f0, f1, f2, f3, f4, f5, f6, f7, f8, fz⟩ := KL.out.nine
  obtain ⟨i0, i1, i2, i3, i4, i5, i6, i7, i8, iz⟩ := KP.out.nine
  go_upto_region 9 with fail
  clear a0 a1 a2 a3 a4 a5 a6 a7 a8 az b0 b1 b2 b3 b4 b5 b6 b7 b8 bz c0 c1 c2 c3 c4 c5 c6 c7 c8 cz d0 d1 d2 d3 d4 d5 d6 d7 d8 dz e0 e1 e2 e3 e4 e5 e6 e7 e8 ez f0 f1 f2 f3 f4 f5 f6 f7 f8 fz i0 i1 i2 i3 i4 i5 i6 i7 i8 iz
  have RBn : Hid (Blk (w10.setCell ⟨n8, 2, none⟩ (.string ⟨tpa.toArray⟩)) w.heap.size #[.string ⟨bsc.toArray⟩, .string ⟨bho.toArray⟩, .string ⟨bpa.toArray⟩, .string ⟨bqu.toArray⟩, .string ⟨bfr.toArray⟩, .bool bhs, .bool bhh, .bool bhq, .bool bhf] 42) := (RB.out.other (by omega) 2 (.string ⟨tpa.toArray⟩))
  have RTn : Hid (Blk (w10.setCell ⟨n8, 2, none⟩ (.string ⟨tpa.toArray⟩)) (w.heap.size + 1) #[.string ⟨tsc.toArray⟩, .string ⟨tho.toArray⟩, .string ⟨tpa.toArray⟩, .string ⟨tqu.toArray⟩, .string ⟨tfr.toArray⟩, .bool ths, .bool thh, .bool thq, .bool thf] 42) := (RT.out.other (by omega) 2 (.string ⟨tpa.toArray⟩))
  have ROn : Hid (Blk (w10.setCell ⟨n8, 2, none⟩ (.string ⟨tpa.toArray⟩)) (w.heap.size + 1 + 1) #[.string ⟨#[]⟩, .string ⟨#[]⟩, .string ⟨#[]⟩, .string ⟨#[]⟩, .string ⟨#[]⟩, .bool false, .bool false, .bool false, .bool false] 42) := (RO.out.other (by omega) 2 (.string ⟨tpa.toArray⟩))
  have KFn : Hid (Blk (w10.setCell ⟨n8, 2, none⟩ (.string ⟨tpa.toArray⟩)) n5 #[.string ⟨#[]⟩, .string ⟨#[]⟩, .string ⟨#[]⟩, .string ⟨#[]⟩, .string ⟨tfr.toArray⟩, .bool false, .bool false, .bool false, .bool thf] 42) := (KF.out.other (by omega) 2 (.string ⟨tpa.toArray⟩))
  have KQn : Hid (Blk (w10.setCell ⟨n8, 2, none⟩ (.string ⟨tpa.toArray⟩)) n6 #[.string ⟨#[]⟩, .string ⟨#[]⟩, .string ⟨#[]⟩, .string ⟨tqu.toArray⟩, .string ⟨tfr.toArray⟩, .bool false, .bool false, .bool thq, .bool thf] 42) := (KQ.out.other (by omega) 2 (.string ⟨tpa.toArray⟩))
  have KLn : Hid (Blk (w10.setCell ⟨n8, 2, none⟩ (.string ⟨tpa.toArray⟩)) n7 #[.string ⟨#[]⟩, .string ⟨#[]⟩, .string ⟨la.toArray⟩, .string ⟨tqu.toArray⟩, .string ⟨tfr.toArray⟩, .bool false, .bool false, .bool thq, .bool thf] 42) := (KL.out.other (by omega) 2 (.string ⟨tpa.toArray⟩))
  have KPn : Hid (Blk (w10.setCell ⟨n8, 2, none⟩ (.string ⟨tpa.toArray⟩)) n8 #[.string ⟨#[]⟩, .string ⟨#[]⟩, .string ⟨tpa.toArray⟩, .string ⟨tqu.toArray⟩, .string ⟨tfr.toArray⟩, .bool false, .bool false, .bool thq, .bool thf] 42) := (KP.out.set 2 (.string ⟨tpa.toArray⟩))
  have HBn : Hid (Below w.heap.size w (w10.setCell ⟨n8, 2, none⟩ (.string ⟨tpa.toArray⟩))) := (below_setCell HB.out (by omega) 2 (.string ⟨tpa.toArray⟩))
  clear RB RT RO KF KQ KL KP HB
  generalize (w10.setCell ⟨n8, 2, none⟩ (.string ⟨tpa.toArray⟩)) = w11 at *
  rename Hid (Blk _ w.heap.size _ _) => RB
  rename Hid (Blk _ (w.heap.size + 1) _ _) => RT
  rename Hid (Blk _ (w.heap.size + 1 + 1) _ _) => RO
  rename Hid (Blk _ n5 _ _) => KF
  rename Hid (Blk _ n6 _ _) => KQ
  rename Hid (Blk _ n7 _ _) => KL
  rename Hid (Blk _ n8 _ _) => KP
  rename Hid (Below w.heap.size w _) => HB
  have RBn := hid_of (RB.out.alloc (.cells #[.string ⟨#[]⟩, .string ⟨#[]⟩, .string ⟨tpa.toArray⟩, .string ⟨tqu.toArray⟩, .string ⟨tfr.toArray⟩, .bool false, .bool false, .bool thq, .bool thf] 42))
  have RTn := hid_of (RT.out.alloc (.cells #[.string ⟨#[]⟩, .string ⟨#[]⟩, .string ⟨tpa.toArray⟩, .string ⟨tqu.toArray⟩, .string ⟨tfr.toArray⟩, .bool false, .bool false, .bool thq, .bool thf] 42))
  have ROn := hid_of (RO.out.alloc (.cells #[.string ⟨#[]⟩, .string ⟨#[]⟩, .string ⟨tpa.toArray⟩, .string ⟨tqu.toArray⟩, .string ⟨tfr.toArray⟩, .bool false, .bool false, .bool thq, .bool thf] 42))
  have KFn := hid_of (KF.out.alloc (.cells #[.string ⟨#[]⟩, .string ⟨#[]⟩, .string ⟨tpa.toArray⟩, .string ⟨tqu.toArray⟩, .string ⟨tfr.toArray⟩, .bool false, .bool false, .bool thq, .bool thf] 42))
  have KQn := hid_of (KQ.out.alloc (.cells #[.string ⟨#[]⟩, .string ⟨#[]⟩, .string ⟨tpa.toArray⟩, .string ⟨tqu.toArray⟩, .string ⟨tfr.toArray⟩, .bool false, .bool false, .bool thq, .bool thf] 42))
  have KLn := hid_of (KL.out.alloc (.cells #[.string ⟨#[]⟩, .string ⟨#[]⟩, .string ⟨tpa.toArray⟩, .string ⟨tqu.toArray⟩, .string ⟨tfr.toArray⟩, .bool false, .bool false, .bool thq, .bool thf] 42))
  have KPn := hid_of (KP.out.alloc (.cells #[.string ⟨#[]⟩, .string ⟨#[]⟩, .string ⟨tpa.toArray⟩, .string ⟨tqu.toArray⟩, .string ⟨tfr.toArray⟩, .bool false, .bool false, .bool thq, .bool thf] 42))
  have KHn := hid_of (Blk.new w11 #[.string ⟨#[]⟩, .string ⟨#[]⟩, .string ⟨tpa.toArray⟩, .string ⟨tqu.toArray⟩, .string ⟨tfr.toArray⟩, .bool false, .bool false, .bool thq, .bool thf] 42)
  have HBn := hid_of (HB.out.alloc HB.out.size (.cells #[.string ⟨#[]⟩, .string ⟨#[]⟩, .string ⟨tpa.toArray⟩, .string ⟨tqu.toArray⟩, .string ⟨tfr.toArray⟩, .bool false, .bool false, .bool thq, .bool thf] 42))
  have hz := RO.out.lt
  have hzKF := KF.out.lt
  have hzKQ := KQ.out.lt
  have hzKL := KL.out.lt
  have hzKP := KP.out.lt
  obtain ⟨n9, hn⟩ : ∃ n9, w11.heap.size = n9 := ⟨_, rfl⟩
  rw [hn] at KHn hz hzKF hzKQ hzKL hzKP
  obtain ⟨a0, a1, a2, a3, a4, a5, a6, a7, a8, az⟩ := RB.out.nine
  obtain ⟨b0, b1, b2, b3, b4, b5, b6, b7, b8, bz⟩ := RT.out.nine
  obtain ⟨c0, c1, c2, c3, c4, c5, c6, c7, c8, cz⟩ := RO.out.nine
  obtain ⟨d0, d1, d2, d3, d4, d5, d6, d7, d8, dz⟩ := KF.out.nine
  obtain ⟨e0, e1, e2, e3, e4, e5, e6, e7, e8, ez⟩ := KQ.out.nine
  obtain ⟨f0, f1, f2, f3, f4, f5, f6, f7, f8, fz⟩ := KL.out.nine
  obtain ⟨i0, i1, i2, i3, i4, i5, i6, i7, i8, iz⟩ := KP.out.nine
  go_upto_region 10 with fail
  clear a0 a1 a2 a3 a4 a5 a6 a7 a8 az b0 b1 b2 b3 b4 b5 b6 b7 b8 bz c0 c1 c2 c3 c4 c5 c6 c7 c8 cz d0 d1 d2 d3 d4 d5 d6 d7 d8 dz e0 e1 e2 e3 e4 e5 e6 e7 e8 ez f0 f1 f2 f3 f4 f5 f6 f7 f8 fz i0 i1 i2 i3 i4 i5 i6 i7 i8 iz
  generalize w11.alloc (.cells #[.string ⟨#[]⟩, .string ⟨#[]⟩, .string ⟨tpa.toArray⟩, .string ⟨tqu.toArray⟩, .string ⟨tfr.toArray⟩, .bool false, .bool false, .bool thq, .bool thf] 42) = w12 at *
  have qn9 : w.heap.size + 1 + 1 < n9 := hz
  have qn9n5 : n5 < n9 := hzKF
  have qn9n6 : n6 < n9 := hzKQ
  have qn9n7 : n7 < n9 := hzKL
  have qn9n8 : n8 < n9 := hzKP
  clear hn hz hzKF hzKQ hzKL hzKP RB RT RO KF KQ KL KP HB
  rename Hid (Blk _ w.heap.size _ _) => RB
  rename Hid (Blk _ (w.heap.size + 1) _ _) => RT
  rename Hid (Blk _ (w.heap.size + 1 + 1) _ _) => RO
  rename Hid (Blk _ n5 _ _) => KF
  rename Hid (Blk _ n6 _ _) => KQ
  rename Hid (Blk _ n7 _ _) => KL
  rename Hid (Blk _ n8 _ _) => KP
  rename Hid (Blk _ n9 _ _) => KH
  rename Hid (Below w.heap.size w _) => HB
  obtain ⟨a0, a1, a2, a3, a4, a5, a6, a7, a8, az⟩ := RB.out.nine
  obtain ⟨b0, b1, b2, b3, b4, b5, b6, b7, b8, bz⟩ := RT.out.nine
  obtain ⟨c0, c1, c2, c3, c4, c5, c6, c7, c8, cz⟩ := RO.out.nine
  obtain ⟨d0, d1, d2, d3, d4, d5, d6, d7, d8, dz⟩ := KF.out.nine
  obtain ⟨e0, e1, e2, e3, e4, e5, e6, e7, e8, ez⟩ := KQ.out.nine
  obtain ⟨f0, f1, f2, f3, f4, f5, f6, f7, f8, fz⟩ := KL.out.nine
  obtain ⟨i0, i1, i2, i3, i4, i5, i6, i7, i8, iz⟩ := KP.out.nine
  obtain ⟨j0, j1, j2, j3, j4, j5, j6, j7, j8, jz⟩ := KH.out.nine
  go_region
  go_upto_region 11 with fail
  clear a0 a1 a2 a3 a4 a5 a6 a7 a8 az b0 b1 b2 b3 b4 b5 b6 b7 b8 bz c0 c1 c2 c3 c4 c5 c6 c7 c8 cz d0 d1 d2 d3 d4 d5 d6 d7 d8 dz e0 e1 e2 e3 e4 e5 e6 e7 e8 ez f0 f1 f2 f3 f4 f5 f6 f7 f8 fz i0 i1 i2 i3 i4 i5 i6 i7 i8 iz j0 j1 j2 j3 j4 j5 j6 j7 j8 jz
  have RBn : Hid (Blk ((w12.setCell ⟨n9, 1, none⟩ (.string ⟨tho.toArray⟩)).setCell ⟨n9, 6, none⟩ (.bool thh)).drew w.heap.size #[.string ⟨bsc.toArray⟩, .string ⟨bho.toArray⟩, .string ⟨bpa.toArray⟩, .string ⟨bqu.toArray⟩, .string ⟨bfr.toArray⟩, .bool bhs, .bool bhh, .bool bhq, .bool bhf] 42) := ((RB.out.other (by omega) 1 (.string ⟨tho.toArray⟩)).other (by omega) 6 (.bool thh))
  have RTn : Hid (Blk ((w12.setCell ⟨n9, 1, none⟩ (.string ⟨tho.toArray⟩)).setCell ⟨n9, 6, none⟩ (.bool thh)).drew (w.heap.size + 1) #[.string ⟨tsc.toArray⟩, .string ⟨tho.toArray⟩, .string ⟨tpa.toArray⟩, .string ⟨tqu.toArray⟩, .string ⟨tfr.toArray⟩, .bool ths, .bool thh, .bool thq, .bool thf] 42) := ((RT.out.other (by omega) 1 (.string ⟨tho.toArray⟩)).other (by omega) 6 (.bool thh))
  have ROn : Hid (Blk ((w12.setCell ⟨n9, 1, none⟩ (.string ⟨tho.toArray⟩)).setCell ⟨n9, 6, none⟩ (.bool thh)).drew (w.heap.size + 1 + 1) #[.string ⟨#[]⟩, .string ⟨#[]⟩, .string ⟨#[]⟩, .string ⟨#[]⟩, .string ⟨#[]⟩, .bool false, .bool false, .bool false, .bool false] 42) := ((RO.out.other (by omega) 1 (.string ⟨tho.toArray⟩)).other (by omega) 6 (.bool thh))
  have KFn : Hid (Blk ((w12.setCell ⟨n9, 1, none⟩ (.string ⟨tho.toArray⟩)).setCell ⟨n9, 6, none⟩ (.bool thh)).drew n5 #[.string ⟨#[]⟩, .string ⟨#[]⟩, .string ⟨#[]⟩, .string ⟨#[]⟩, .string ⟨tfr.toArray⟩, .bool false, .bool false, .bool false, .bool thf] 42) := ((KF.out.other (by omega) 1 (.string ⟨tho.toArray⟩)).other (by omega) 6 (.bool thh))
  have KQn : Hid (Blk ((w12.setCell ⟨n9, 1, none⟩ (.string ⟨tho.toArray⟩)).setCell ⟨n9, 6, none⟩ (.bool thh)).drew n6 #[.string ⟨#[]⟩, .string ⟨#[]⟩, .string ⟨#[]⟩, .string ⟨tqu.toArray⟩, .string ⟨tfr.toArray⟩, .bool false, .bool false, .bool thq, .bool thf] 42) := ((KQ.out.other (by omega) 1 (.string ⟨tho.toArray⟩)).other (by omega) 6 (.bool thh))
  have KLn : Hid (Blk ((w12.setCell ⟨n9, 1, none⟩ (.string ⟨tho.toArray⟩)).setCell ⟨n9, 6, none⟩ (.bool thh)).drew n7 #[.string ⟨#[]⟩, .string ⟨#[]⟩, .string ⟨la.toArray⟩, .string ⟨tqu.toArray⟩, .string ⟨tfr.toArray⟩, .bool false, .bool false, .bool thq, .bool thf] 42) := ((KL.out.other (by omega) 1 (.string ⟨tho.toArray⟩)).other (by omega) 6 (.bool thh))
  have KPn : Hid (Blk ((w12.setCell ⟨n9, 1, none⟩ (.string ⟨tho.toArray⟩)).setCell ⟨n9, 6, none⟩ (.bool thh)).drew n8 #[.string ⟨#[]⟩, .string ⟨#[]⟩, .string ⟨tpa.toArray⟩, .string ⟨tqu.toArray⟩, .string ⟨tfr.toArray⟩, .bool false, .bool false, .bool thq, .bool thf] 42) := ((KP.out.other (by omega) 1 (.string ⟨tho.toArray⟩)).other (by omega) 6 (.bool thh))
  have KHn : Hid (Blk ((w12.setCell ⟨n9, 1, none⟩ (.string ⟨tho.toArray⟩)).setCell ⟨n9, 6, none⟩ (.bool thh)).drew n9 #[.string ⟨#[]⟩, .string ⟨tho.toArray⟩, .string ⟨tpa.toArray⟩, .string ⟨tqu.toArray⟩, .string ⟨tfr.toArray⟩, .bool false, .bool thh, .bool thq, .bool thf] 42) := ((KH.out.set 1 (.string ⟨tho.toArray⟩)).set 6 (.bool thh))
  have HBn : Hid (Below w.heap.size w ((w12.setCell ⟨n9, 1, none⟩ (.string ⟨tho.toArray⟩)).setCell ⟨n9, 6, none⟩ (.bool thh)).drew) := (below_setCell (below_setCell HB.out (by omega) 1 (.string ⟨tho.toArray⟩)) (by omega) 6 (.bool thh)).drew
  clear RB RT RO KF KQ KL KP KH HB
  generalize ((w12.setCell ⟨n9, 1, none⟩ (.string ⟨tho.toArray⟩)).setCell ⟨n9, 6, none⟩ (.bool thh)).drew = w13 at *
  rename Hid (Blk _ w.heap.size _ _) => RB
  rename Hid (Blk _ (w.heap.size + 1) _ _) => RT
  rename Hid (Blk _ (w.heap.size + 1 + 1) _ _) => RO
  rename Hid (Blk _ n5 _ _) => KF
  rename Hid (Blk _ n6 _ _) => KQ
  rename Hid (Blk _ n7 _ _) => KL
  rename Hid (Blk _ n8 _ _) => KP
  rename Hid (Blk _ n9 _ _) => KH
  rename Hid (Below w.heap.size w _) => HB
  obtain ⟨a0, a1, a2, a3, a4, a5, a6, a7, a8, az⟩ := RB.out.nine
  obtain ⟨b0, b1, b2, b3, b4, b5, b6, b7, b8, bz⟩ := RT.out.nine
  obtain ⟨c0, c1, c2, c3, c4, c5, c6, c7, c8, cz⟩ := RO.out.nine
  obtain ⟨d0, d1, d2, d3, d4, d5, d6, d7, d8, dz⟩ := KF.out.nine
  obtain ⟨e0, e1, e2, e3, e4, e5, e6, e7, e8, ez⟩ := KQ.out.nine
  obtain ⟨f0, f1, f2, f3, f4, f5, f6, f7, f8, fz⟩ := KL.out.nine
  obtain ⟨i0, i1, i2, i3, i4, i5, i6, i7, i8, iz⟩ := KP.out.nine
  obtain ⟨j0, j1, j2, j3, j4, j5, j6, j7, j8, jz⟩ := KH.out.nine
  go_wp2_with fail
  clear a0 a1 a2 a3 a4 a5 a6 a7 a8 az b0 b1 b2 b3 b4 b5 b6 b7 b8 bz c0 c1 c2 c3 c4 c5 c6 c7 c8 cz d0 d1 d2 d3 d4 d5 d6 d7 d8 dz e0 e1 e2 e3 e4 e5 e6 e7 e8 ez f0 f1 f2 f3 f4 f5 f6 f7 f8 fz i0 i1 i2 i3 i4 i5 i6 i7 i8 iz j0 j1 j2 j3 j4 j5 j6 j7 j8 jz
  go_loopw [52] (fun vi wr => ∃ k : Nat, k ≤ 5 ∧ vi = .int .i64 k ∧ Hid (Below w13.heap.size w13 wr) ∧ Hid ((1 ≤ k → T1 = false) ∧ (2 ≤ k → T2 = false) ∧ (3 ≤ k → T3 = false) ∧ (4 ≤ k → T4 = false) ∧ (5 ≤ k → T5 = false))) (fun vi _ => 5 - (intOf vi).toNat)
  case atStart => exact ⟨0, by omega, rfl, Below.refl _ _, ⟨fun h => by omega, fun h => by omega, fun h => by omega, fun h => by omega, fun h => by omega⟩⟩
  case round =>
    obtain ⟨k, hk, rfl, hB, hP⟩ := hrel
    rcases (show k = 0 ∨ k = 1 ∨ k = 2 ∨ k = 3 ∨ k = 4 ∨ k = 5 by omega) with rfl | rfl | rfl | rfl | rfl | rfl
    · have RBr := hid_of ((RB.out.below hB.out).alloc (.cells #[.string ⟨#[]⟩, .string ⟨#[]⟩, .string ⟨#[]⟩, .string ⟨#[]⟩, .string ⟨tfr.toArray⟩, .bool false, .bool false, .bool false, .bool thf] 42))
      have RTr := hid_of ((RT.out.below hB.out).alloc (.cells #[.string ⟨#[]⟩, .string ⟨#[]⟩, .string ⟨#[]⟩, .string ⟨#[]⟩, .string ⟨tfr.toArray⟩, .bool false, .bool false, .bool false, .bool thf] 42))
      have ROr := hid_of ((RO.out.below hB.out).alloc (.cells #[.string ⟨#[]⟩, .string ⟨#[]⟩, .string ⟨#[]⟩, .string ⟨#[]⟩, .string ⟨tfr.toArray⟩, .bool false, .bool false, .bool false, .bool thf] 42))
      have KNr := hid_of (Blk.new wr #[.string ⟨#[]⟩, .string ⟨#[]⟩, .string ⟨#[]⟩, .string ⟨#[]⟩, .string ⟨tfr.toArray⟩, .bool false, .bool false, .bool false, .bool thf] 42)
      have HBr0 := hid_of (HB.out.trans (hB.out.mono HB.out.size))
      have HBr := hid_of (HBr0.out.alloc HBr0.out.size (.cells #[.string ⟨#[]⟩, .string ⟨#[]⟩, .string ⟨#[]⟩, .string ⟨#[]⟩, .string ⟨tfr.toArray⟩, .bool false, .bool false, .bool false, .bool thf] 42))
      have HBq := hid_of (hB.out.alloc hB.out.size (.cells #[.string ⟨#[]⟩, .string ⟨#[]⟩, .string ⟨#[]⟩, .string ⟨#[]⟩, .string ⟨tfr.toArray⟩, .bool false, .bool false, .bool false, .bool thf] 42))
      have hzr := (RO.out.below hB.out).lt
      have ix : ∀ W, (Instr.index 77 (.agg #[.string ⟨#[]⟩, .string ⟨#[]⟩, .string ⟨#[]⟩, .string ⟨#[]⟩, .string ⟨tfr.toArray⟩, .bool false, .bool false, .bool false, .bool thf, .string ⟨#[]⟩, .string ⟨#[]⟩, .string ⟨#[]⟩, .string ⟨tqu.toArray⟩, .string ⟨tfr.toArray⟩, .bool false, .bool false, .bool thq, .bool thf, .string ⟨#[]⟩, .string ⟨#[]⟩, .string ⟨la.toArray⟩, .string ⟨tqu.toArray⟩, .string ⟨tfr.toArray⟩, .bool false, .bool false, .bool thq, .bool thf, .string ⟨#[]⟩, .string ⟨#[]⟩, .string ⟨tpa.toArray⟩, .string ⟨tqu.toArray⟩, .string ⟨tfr.toArray⟩, .bool false, .bool false, .bool thq, .bool thf, .string ⟨#[]⟩, .string ⟨tho.toArray⟩, .string ⟨tpa.toArray⟩, .string ⟨tqu.toArray⟩, .string ⟨tfr.toArray⟩, .bool false, .bool thh, .bool thq, .bool thf]) (.int .i64 0)).run Tryz.prog W = .ok (.agg #[.string ⟨#[]⟩, .string ⟨#[]⟩, .string ⟨#[]⟩, .string ⟨#[]⟩, .string ⟨tfr.toArray⟩, .bool false, .bool false, .bool false, .bool thf]) W := fun W => by kernel_rfl
      go_upto_region 14 with fail
      clear ix
      obtain ⟨nr, hnr⟩ : ∃ nr, wr.heap.size = nr := ⟨_, rfl⟩
      rw [hnr] at KNr hzr ⊢
      generalize wr.alloc (.cells #[.string ⟨#[]⟩, .string ⟨#[]⟩, .string ⟨#[]⟩, .string ⟨#[]⟩, .string ⟨tfr.toArray⟩, .bool false, .bool false, .bool false, .bool thf] 42) = ws at *
      clear hnr HBr0
      have D : ∀ d os, Below ws.heap.size ws (Go.Sort.grow (redrawn ws d) os) := fun d os => below_regrown ws d os
      have D' : ∀ d os, Below w.heap.size w (Go.Sort.grow (redrawn ws d) os) := fun d os => HBr.out.trans ((D d os).mono HBr.out.size)
      have x0 := cell_again RBr.out 0 _ rfl
      have x1 := cell_again RBr.out 1 _ rfl
      have x2 := cell_again RBr.out 2 _ rfl
      have x3 := cell_again RBr.out 3 _ rfl
      have x4 := cell_again RBr.out 4 _ rfl
      have x5 := cell_again RBr.out 5 _ rfl
      have x6 := cell_again RBr.out 6 _ rfl
      have x7 := cell_again RBr.out 7 _ rfl
      have x8 := cell_again RBr.out 8 _ rfl
      have y0 := cell_again RTr.out 0 _ rfl
      have y1 := cell_again RTr.out 1 _ rfl
      have y2 := cell_again RTr.out 2 _ rfl
      have y3 := cell_again RTr.out 3 _ rfl
      have y4 := cell_again RTr.out 4 _ rfl
      have y5 := cell_again RTr.out 5 _ rfl
      have y6 := cell_again RTr.out 6 _ rfl
      have y7 := cell_again RTr.out 7 _ rfl
      have y8 := cell_again RTr.out 8 _ rfl
      have u0 := cell_again KNr.out 0 _ rfl
      have u1 := cell_again KNr.out 1 _ rfl
      have u2 := cell_again KNr.out 2 _ rfl
      have u3 := cell_again KNr.out 3 _ rfl
      have u4 := cell_again KNr.out 4 _ rfl
      have u5 := cell_again KNr.out 5 _ rfl
      have u6 := cell_again KNr.out 6 _ rfl
      have u7 := cell_again KNr.out 7 _ rfl
      have u8 := cell_again KNr.out 8 _ rfl
      have q1 : ∀ d os, Calls Tryz.prog 15 #[.agg #[.string ⟨bsc.toArray⟩, .string ⟨bho.toArray⟩, .string ⟨bpa.toArray⟩, .string ⟨bqu.toArray⟩, .string ⟨bfr.toArray⟩, .bool bhs, .bool bhh, .bool bhq, .bool bhf], .agg #[.string ⟨#[]⟩, .string ⟨#[]⟩, .string ⟨#[]⟩, .string ⟨#[]⟩, .string ⟨tfr.toArray⟩, .bool false, .bool false, .bool false, .bool thf]] (Go.Sort.grow (redrawn ws d) os) fun e w'' => e = .returned X1 ∧ ∃ p : Regrown, w'' = Go.Sort.grow (redrawn ws p.d) p.os := fun d os => Calls.regrown_of (HR1.out _ (D' d os))
      cases hc : T1
      case' true => have HC := hid_of hc
      case' false => have HC := hid_of hc
      all_goals rw [hc] at z1
      all_goals clear hc
      all_goals refine wp_region_quiet_below mixed (by kernel_rfl) ?_
      all_goals repeat (go_big_quiet_step (first | with_reducible exact q1 _ _))
      all_goals refine wpQuiet_nil ?_
      all_goals intro _ hw'
      all_goals obtain ⟨⟨dq, osq⟩, hw''⟩ := hw'
      all_goals have hd := D dq osq
      all_goals rw [← hw''] at hd
      all_goals clear hw'' D D' q1 x0 x1 x2 x3 x4 x5 x6 x7 x8 y0 y1 y2 y3 y4 y5 y6 y7 y8 u0 u1 u2 u3 u4 u5 u6 u7 u8
      all_goals rename_i wq
      all_goals have HKq := hid_of (KNr.out.below hd)
      all_goals have HOq := hid_of (ROr.out.below hd)
      all_goals have HBw := hid_of (HBr.out.trans (hd.mono HBr.out.size))
      all_goals have HBz := hid_of (HBq.out.trans (hd.mono HBq.out.size))
      all_goals obtain ⟨d0, d1, d2, d3, d4, d5, d6, d7, d8, dz⟩ := HKq.out.nine
      all_goals obtain ⟨f0, f1, f2, f3, f4, f5, f6, f7, f8, fz⟩ := HOq.out.nine
      all_goals go_wp2_with fail
      all_goals first
        | exact bodyPost_ret (results_relative rfl (Blk.put9 HOq.out _ _ _ _ _ _ _ _ _)) rfl ⟨congrArg Ending.returned (HE1.out  HC.out), below_put9 HBw.out (by omega) _ _ _ _ _ _ _ _ _⟩
        | exact ⟨⟨1, by omega, by go_num, HBz, ⟨fun _ => HC.out, fun h => absurd h (by omega), fun h => absurd h (by omega), fun h => absurd h (by omega), fun h => absurd h (by omega)⟩⟩, by simp [intOf]⟩
    · have RBr := hid_of ((RB.out.below hB.out).alloc (.cells #[.string ⟨#[]⟩, .string ⟨#[]⟩, .string ⟨#[]⟩, .string ⟨tqu.toArray⟩, .string ⟨tfr.toArray⟩, .bool false, .bool false, .bool thq, .bool thf] 42))
      have RTr := hid_of ((RT.out.below hB.out).alloc (.cells #[.string ⟨#[]⟩, .string ⟨#[]⟩, .string ⟨#[]⟩, .string ⟨tqu.toArray⟩, .string ⟨tfr.toArray⟩, .bool false, .bool false, .bool thq, .bool thf] 42))
      have ROr := hid_of ((RO.out.below hB.out).alloc (.cells #[.string ⟨#[]⟩, .string ⟨#[]⟩, .string ⟨#[]⟩, .string ⟨tqu.toArray⟩, .string ⟨tfr.toArray⟩, .bool false, .bool false, .bool thq, .bool thf] 42))
      have KNr := hid_of (Blk.new wr #[.string ⟨#[]⟩, .string ⟨#[]⟩, .string ⟨#[]⟩, .string ⟨tqu.toArray⟩, .string ⟨tfr.toArray⟩, .bool false, .bool false, .bool thq, .bool thf] 42)
      have HBr0 := hid_of (HB.out.trans (hB.out.mono HB.out.size))
      have HBr := hid_of (HBr0.out.alloc HBr0.out.size (.cells #[.string ⟨#[]⟩, .string ⟨#[]⟩, .string ⟨#[]⟩, .string ⟨tqu.toArray⟩, .string ⟨tfr.toArray⟩, .bool false, .bool false, .bool thq, .bool thf] 42))
      have HBq := hid_of (hB.out.alloc hB.out.size (.cells #[.string ⟨#[]⟩, .string ⟨#[]⟩, .string ⟨#[]⟩, .string ⟨tqu.toArray⟩, .string ⟨tfr.toArray⟩, .bool false, .bool false, .bool thq, .bool thf] 42))
      have hzr := (RO.out.below hB.out).lt
      have ix : ∀ W, (Instr.index 77 (.agg #[.string ⟨#[]⟩, .string ⟨#[]⟩, .string ⟨#[]⟩, .string ⟨#[]⟩, .string ⟨tfr.toArray⟩, .bool false, .bool false, .bool false, .bool thf, .string ⟨#[]⟩, .string ⟨#[]⟩, .string ⟨#[]⟩, .string ⟨tqu.toArray⟩, .string ⟨tfr.toArray⟩, .bool false, .bool false, .bool thq, .bool thf, .string ⟨#[]⟩, .string ⟨#[]⟩, .string ⟨la.toArray⟩, .string ⟨tqu.toArray⟩, .string ⟨tfr.toArray⟩, .bool false, .bool false, .bool thq, .bool thf, .string ⟨#[]⟩, .string ⟨#[]⟩, .string ⟨tpa.toArray⟩, .string ⟨tqu.toArray⟩, .string ⟨tfr.toArray⟩, .bool false, .bool false, .bool thq, .bool thf, .string ⟨#[]⟩, .string ⟨tho.toArray⟩, .string ⟨tpa.toArray⟩, .string ⟨tqu.toArray⟩, .string ⟨tfr.toArray⟩, .bool false, .bool thh, .bool thq, .bool thf]) (.int .i64 1)).run Tryz.prog W = .ok (.agg #[.string ⟨#[]⟩, .string ⟨#[]⟩, .string ⟨#[]⟩, .string ⟨tqu.toArray⟩, .string ⟨tfr.toArray⟩, .bool false, .bool false, .bool thq, .bool thf]) W := fun W => by kernel_rfl
      go_upto_region 14 with fail
      clear ix
      obtain ⟨nr, hnr⟩ : ∃ nr, wr.heap.size = nr := ⟨_, rfl⟩
      rw [hnr] at KNr hzr ⊢
      generalize wr.alloc (.cells #[.string ⟨#[]⟩, .string ⟨#[]⟩, .string ⟨#[]⟩, .string ⟨tqu.toArray⟩, .string ⟨tfr.toArray⟩, .bool false, .bool false, .bool thq, .bool thf] 42) = ws at *
      clear hnr HBr0
      have D : ∀ d os, Below ws.heap.size ws (Go.Sort.grow (redrawn ws d) os) := fun d os => below_regrown ws d os
      have D' : ∀ d os, Below w.heap.size w (Go.Sort.grow (redrawn ws d) os) := fun d os => HBr.out.trans ((D d os).mono HBr.out.size)
      have x0 := cell_again RBr.out 0 _ rfl
      have x1 := cell_again RBr.out 1 _ rfl
      have x2 := cell_again RBr.out 2 _ rfl
      have x3 := cell_again RBr.out 3 _ rfl
      have x4 := cell_again RBr.out 4 _ rfl
      have x5 := cell_again RBr.out 5 _ rfl
      have x6 := cell_again RBr.out 6 _ rfl
      have x7 := cell_again RBr.out 7 _ rfl
      have x8 := cell_again RBr.out 8 _ rfl
      have y0 := cell_again RTr.out 0 _ rfl
      have y1 := cell_again RTr.out 1 _ rfl
      have y2 := cell_again RTr.out 2 _ rfl
      have y3 := cell_again RTr.out 3 _ rfl
      have y4 := cell_again RTr.out 4 _ rfl
      have y5 := cell_again RTr.out 5 _ rfl
      have y6 := cell_again RTr.out 6 _ rfl
      have y7 := cell_again RTr.out 7 _ rfl
      have y8 := cell_again RTr.out 8 _ rfl
      have u0 := cell_again KNr.out 0 _ rfl
      have u1 := cell_again KNr.out 1 _ rfl
      have u2 := cell_again KNr.out 2 _ rfl
      have u3 := cell_again KNr.out 3 _ rfl
      have u4 := cell_again KNr.out 4 _ rfl
      have u5 := cell_again KNr.out 5 _ rfl
      have u6 := cell_again KNr.out 6 _ rfl
      have u7 := cell_again KNr.out 7 _ rfl
      have u8 := cell_again KNr.out 8 _ rfl
      have q1 : ∀ d os, Calls Tryz.prog 15 #[.agg #[.string ⟨bsc.toArray⟩, .string ⟨bho.toArray⟩, .string ⟨bpa.toArray⟩, .string ⟨bqu.toArray⟩, .string ⟨bfr.toArray⟩, .bool bhs, .bool bhh, .bool bhq, .bool bhf], .agg #[.string ⟨#[]⟩, .string ⟨#[]⟩, .string ⟨#[]⟩, .string ⟨tqu.toArray⟩, .string ⟨tfr.toArray⟩, .bool false, .bool false, .bool thq, .bool thf]] (Go.Sort.grow (redrawn ws d) os) fun e w'' => e = .returned X2 ∧ ∃ p : Regrown, w'' = Go.Sort.grow (redrawn ws p.d) p.os := fun d os => Calls.regrown_of (HR2.out _ (D' d os))
      cases hc : T2
      case' true => have HC := hid_of hc
      case' false => have HC := hid_of hc
      all_goals rw [hc] at z2
      all_goals clear hc
      all_goals refine wp_region_quiet_below mixed (by kernel_rfl) ?_
      all_goals repeat (go_big_quiet_step (first | with_reducible exact q1 _ _))
      all_goals refine wpQuiet_nil ?_
      all_goals intro _ hw'
      all_goals obtain ⟨⟨dq, osq⟩, hw''⟩ := hw'
      all_goals have hd := D dq osq
      all_goals rw [← hw''] at hd
      all_goals clear hw'' D D' q1 x0 x1 x2 x3 x4 x5 x6 x7 x8 y0 y1 y2 y3 y4 y5 y6 y7 y8 u0 u1 u2 u3 u4 u5 u6 u7 u8
      all_goals rename_i wq
      all_goals have HKq := hid_of (KNr.out.below hd)
      all_goals have HOq := hid_of (ROr.out.below hd)
      all_goals have HBw := hid_of (HBr.out.trans (hd.mono HBr.out.size))
      all_goals have HBz := hid_of (HBq.out.trans (hd.mono HBq.out.size))
      all_goals obtain ⟨d0, d1, d2, d3, d4, d5, d6, d7, d8, dz⟩ := HKq.out.nine
      all_goals obtain ⟨f0, f1, f2, f3, f4, f5, f6, f7, f8, fz⟩ := HOq.out.nine
      all_goals go_wp2_with fail
      all_goals first
        | exact bodyPost_ret (results_relative rfl (Blk.put9 HOq.out _ _ _ _ _ _ _ _ _)) rfl ⟨congrArg Ending.returned (HE2.out (hP.out.1 (by omega)) HC.out), below_put9 HBw.out (by omega) _ _ _ _ _ _ _ _ _⟩
        | exact ⟨⟨2, by omega, by go_num, HBz, ⟨fun _ => hP.out.1 (by omega), fun _ => HC.out, fun h => absurd h (by omega), fun h => absurd h (by omega), fun h => absurd h (by omega)⟩⟩, by simp [intOf]⟩
    · have RBr := hid_of ((RB.out.below hB.out).alloc (.cells #[.string ⟨#[]⟩, .string ⟨#[]⟩, .string ⟨la.toArray⟩, .string ⟨tqu.toArray⟩, .string ⟨tfr.toArray⟩, .bool false, .bool false, .bool thq, .bool thf] 42))
      have RTr := hid_of ((RT.out.below hB.out).alloc (.cells #[.string ⟨#[]⟩, .string ⟨#[]⟩, .string ⟨la.toArray⟩, .string ⟨tqu.toArray⟩, .string ⟨tfr.toArray⟩, .bool false, .bool false, .bool thq, .bool thf] 42))
      have ROr := hid_of ((RO.out.below hB.out).alloc (.cells #[.string ⟨#[]⟩, .string ⟨#[]⟩, .string ⟨la.toArray⟩, .string ⟨tqu.toArray⟩, .string ⟨tfr.toArray⟩, .bool false, .bool false, .bool thq, .bool thf] 42))
      have KNr := hid_of (Blk.new wr #[.string ⟨#[]⟩, .string ⟨#[]⟩, .string ⟨la.toArray⟩, .string ⟨tqu.toArray⟩, .string ⟨tfr.toArray⟩, .bool false, .bool false, .bool thq, .bool thf] 42)
      have HBr0 := hid_of (HB.out.trans (hB.out.mono HB.out.size))
      have HBr := hid_of (HBr0.out.alloc HBr0.out.size (.cells #[.string ⟨#[]⟩, .string ⟨#[]⟩, .string ⟨la.toArray⟩, .string ⟨tqu.toArray⟩, .string ⟨tfr.toArray⟩, .bool false, .bool false, .bool thq, .bool thf] 42))
      have HBq := hid_of (hB.out.alloc hB.out.size (.cells #[.string ⟨#[]⟩, .string ⟨#[]⟩, .string ⟨la.toArray⟩, .string ⟨tqu.toArray⟩, .string ⟨tfr.toArray⟩, .bool false, .bool false, .bool thq, .bool thf] 42))
      have hzr := (RO.out.below hB.out).lt
      have ix : ∀ W, (Instr.index 77 (.agg #[.string ⟨#[]⟩, .string ⟨#[]⟩, .string ⟨#[]⟩, .string ⟨#[]⟩, .string ⟨tfr.toArray⟩, .bool false, .bool false, .bool false, .bool thf, .string ⟨#[]⟩, .string ⟨#[]⟩, .string ⟨#[]⟩, .string ⟨tqu.toArray⟩, .string ⟨tfr.toArray⟩, .bool false, .bool false, .bool thq, .bool thf, .string ⟨#[]⟩, .string ⟨#[]⟩, .string ⟨la.toArray⟩, .string ⟨tqu.toArray⟩, .string ⟨tfr.toArray⟩, .bool false, .bool false, .bool thq, .bool thf, .string ⟨#[]⟩, .string ⟨#[]⟩, .string ⟨tpa.toArray⟩, .string ⟨tqu.toArray⟩, .string ⟨tfr.toArray⟩, .bool false, .bool false, .bool thq, .bool thf, .string ⟨#[]⟩, .string ⟨tho.toArray⟩, .string ⟨tpa.toArray⟩, .string ⟨tqu.toArray⟩, .string ⟨tfr.toArray⟩, .bool false, .bool thh, .bool thq, .bool thf]) (.int .i64 2)).run Tryz.prog W = .ok (.agg #[.string ⟨#[]⟩, .string ⟨#[]⟩, .string ⟨la.toArray⟩, .string ⟨tqu.toArray⟩, .string ⟨tfr.toArray⟩, .bool false, .bool false, .bool thq, .bool thf]) W := fun W => by kernel_rfl
      go_upto_region 14 with fail
      clear ix
      obtain ⟨nr, hnr⟩ : ∃ nr, wr.heap.size = nr := ⟨_, rfl⟩
      rw [hnr] at KNr hzr ⊢
      generalize wr.alloc (.cells #[.string ⟨#[]⟩, .string ⟨#[]⟩, .string ⟨la.toArray⟩, .string ⟨tqu.toArray⟩, .string ⟨tfr.toArray⟩, .bool false, .bool false, .bool thq, .bool thf] 42) = ws at *
      clear hnr HBr0
      have D : ∀ d os, Below ws.heap.size ws (Go.Sort.grow (redrawn ws d) os) := fun d os => below_regrown ws d os
      have D' : ∀ d os, Below w.heap.size w (Go.Sort.grow (redrawn ws d) os) := fun d os => HBr.out.trans ((D d os).mono HBr.out.size)
      have x0 := cell_again RBr.out 0 _ rfl
      have x1 := cell_again RBr.out 1 _ rfl
      have x2 := cell_again RBr.out 2 _ rfl
      have x3 := cell_again RBr.out 3 _ rfl
      have x4 := cell_again RBr.out 4 _ rfl
      have x5 := cell_again RBr.out 5 _ rfl
      have x6 := cell_again RBr.out 6 _ rfl
      have x7 := cell_again RBr.out 7 _ rfl
      have x8 := cell_again RBr.out 8 _ rfl
      have y0 := cell_again RTr.out 0 _ rfl
      have y1 := cell_again RTr.out 1 _ rfl
      have y2 := cell_again RTr.out 2 _ rfl
      have y3 := cell_again RTr.out 3 _ rfl
      have y4 := cell_again RTr.out 4 _ rfl
      have y5 := cell_again RTr.out 5 _ rfl
      have y6 := cell_again RTr.out 6 _ rfl
      have y7 := cell_again RTr.out 7 _ rfl
      have y8 := cell_again RTr.out 8 _ rfl
      have u0 := cell_again KNr.out 0 _ rfl
      have u1 := cell_again KNr.out 1 _ rfl
      have u2 := cell_again KNr.out 2 _ rfl
      have u3 := cell_again KNr.out 3 _ rfl
      have u4 := cell_again KNr.out 4 _ rfl
      have u5 := cell_again KNr.out 5 _ rfl
      have u6 := cell_again KNr.out 6 _ rfl
      have u7 := cell_again KNr.out 7 _ rfl
      have u8 := cell_again KNr.out 8 _ rfl
      have q1 : ∀ d os, Calls Tryz.prog 15 #[.agg #[.string ⟨bsc.toArray⟩, .string ⟨bho.toArray⟩, .string ⟨bpa.toArray⟩, .string ⟨bqu.toArray⟩, .string ⟨bfr.toArray⟩, .bool bhs, .bool bhh, .bool bhq, .bool bhf], .agg #[.string ⟨#[]⟩, .string ⟨#[]⟩, .string ⟨la.toArray⟩, .string ⟨tqu.toArray⟩, .string ⟨tfr.toArray⟩, .bool false, .bool false, .bool thq, .bool thf]] (Go.Sort.grow (redrawn ws d) os) fun e w'' => e = .returned X3 ∧ ∃ p : Regrown, w'' = Go.Sort.grow (redrawn ws p.d) p.os := fun d os => Calls.regrown_of (HR3.out _ (D' d os))
      cases hc : T3
      case' true => have HC := hid_of hc
      case' false => have HC := hid_of hc
      all_goals rw [hc] at z3
      all_goals clear hc
      all_goals refine wp_region_quiet_below mixed (by kernel_rfl) ?_
      all_goals repeat (go_big_quiet_step (first | with_reducible exact q1 _ _))
      all_goals refine wpQuiet_nil ?_
      all_goals intro _ hw'
      all_goals obtain ⟨⟨dq, osq⟩, hw''⟩ := hw'
      all_goals have hd := D dq osq
      all_goals rw [← hw''] at hd
      all_goals clear hw'' D D' q1 x0 x1 x2 x3 x4 x5 x6 x7 x8 y0 y1 y2 y3 y4 y5 y6 y7 y8 u0 u1 u2 u3 u4 u5 u6 u7 u8
      all_goals rename_i wq
      all_goals have HKq := hid_of (KNr.out.below hd)
      all_goals have HOq := hid_of (ROr.out.below hd)
      all_goals have HBw := hid_of (HBr.out.trans (hd.mono HBr.out.size))
      all_goals have HBz := hid_of (HBq.out.trans (hd.mono HBq.out.size))
      all_goals obtain ⟨d0, d1, d2, d3, d4, d5, d6, d7, d8, dz⟩ := HKq.out.nine
      all_goals obtain ⟨f0, f1, f2, f3, f4, f5, f6, f7, f8, fz⟩ := HOq.out.nine
      all_goals go_wp2_with fail
      all_goals first
        | exact bodyPost_ret (results_relative rfl (Blk.put9 HOq.out _ _ _ _ _ _ _ _ _)) rfl ⟨congrArg Ending.returned (HE3.out (hP.out.1 (by omega)) (hP.out.2.1 (by omega)) HC.out), below_put9 HBw.out (by omega) _ _ _ _ _ _ _ _ _⟩
        | exact ⟨⟨3, by omega, by go_num, HBz, ⟨fun _ => hP.out.1 (by omega), fun _ => hP.out.2.1 (by omega), fun _ => HC.out, fun h => absurd h (by omega), fun h => absurd h (by omega)⟩⟩, by simp [intOf]⟩
    · have RBr := hid_of ((RB.out.below hB.out).alloc (.cells #[.string ⟨#[]⟩, .string ⟨#[]⟩, .string ⟨tpa.toArray⟩, .string ⟨tqu.toArray⟩, .string ⟨tfr.toArray⟩, .bool false, .bool false, .bool thq, .bool thf] 42))
      have RTr := hid_of ((RT.out.below hB.out).alloc (.cells #[.string ⟨#[]⟩, .string ⟨#[]⟩, .string ⟨tpa.toArray⟩, .string ⟨tqu.toArray⟩, .string ⟨tfr.toArray⟩, .bool false, .bool false, .bool thq, .bool thf] 42))
      have ROr := hid_of ((RO.out.below hB.out).alloc (.cells #[.string ⟨#[]⟩, .string ⟨#[]⟩, .string ⟨tpa.toArray⟩, .string ⟨tqu.toArray⟩, .string ⟨tfr.toArray⟩, .bool false, .bool false, .bool thq, .bool thf] 42))
      have KNr := hid_of (Blk.new wr #[.string ⟨#[]⟩, .string ⟨#[]⟩, .string ⟨tpa.toArray⟩, .string ⟨tqu.toArray⟩, .string ⟨tfr.toArray⟩, .bool false, .bool false, .bool thq, .bool thf] 42)
      have HBr0 := hid_of (HB.out.trans (hB.out.mono HB.out.size))
      have HBr := hid_of (HBr0.out.alloc HBr0.out.size (.cells #[.string ⟨#[]⟩, .string ⟨#[]⟩, .string ⟨tpa.toArray⟩, .string ⟨tqu.toArray⟩, .string ⟨tfr.toArray⟩, .bool false, .bool false, .bool thq, .bool thf] 42))
      have HBq := hid_of (hB.out.alloc hB.out.size (.cells #[.string ⟨#[]⟩, .string ⟨#[]⟩, .string ⟨tpa.toArray⟩, .string ⟨tqu.toArray⟩, .string ⟨tfr.toArray⟩, .bool false, .bool false, .bool thq, .bool thf] 42))
      have hzr := (RO.out.below hB.out).lt
      have ix : ∀ W, (Instr.index 77 (.agg #[.string ⟨#[]⟩, .string ⟨#[]⟩, .string ⟨#[]⟩, .string ⟨#[]⟩, .string ⟨tfr.toArray⟩, .bool false, .bool false, .bool false, .bool thf, .string ⟨#[]⟩, .string ⟨#[]⟩, .string ⟨#[]⟩, .string ⟨tqu.toArray⟩, .string ⟨tfr.toArray⟩, .bool false, .bool false, .bool thq, .bool thf, .string ⟨#[]⟩, .string ⟨#[]⟩, .string ⟨la.toArray⟩, .string ⟨tqu.toArray⟩, .string ⟨tfr.toArray⟩, .bool false, .bool false, .bool thq, .bool thf, .string ⟨#[]⟩, .string ⟨#[]⟩, .string ⟨tpa.toArray⟩, .string ⟨tqu.toArray⟩, .string ⟨tfr.toArray⟩, .bool false, .bool false, .bool thq, .bool thf, .string ⟨#[]⟩, .string ⟨tho.toArray⟩, .string ⟨tpa.toArray⟩, .string ⟨tqu.toArray⟩, .string ⟨tfr.toArray⟩, .bool false, .bool thh, .bool thq, .bool thf]) (.int .i64 3)).run Tryz.prog W = .ok (.agg #[.string ⟨#[]⟩, .string ⟨#[]⟩, .string ⟨tpa.toArray⟩, .string ⟨tqu.toArray⟩, .string ⟨tfr.toArray⟩, .bool false, .bool false, .bool thq, .bool thf]) W := fun W => by kernel_rfl
      go_upto_region 14 with fail
      clear ix
      obtain ⟨nr, hnr⟩ : ∃ nr, wr.heap.size = nr := ⟨_, rfl⟩
      rw [hnr] at KNr hzr ⊢
      generalize wr.alloc (.cells #[.string ⟨#[]⟩, .string ⟨#[]⟩, .string ⟨tpa.toArray⟩, .string ⟨tqu.toArray⟩, .string ⟨tfr.toArray⟩, .bool false, .bool false, .bool thq, .bool thf] 42) = ws at *
      clear hnr HBr0
      have D : ∀ d os, Below ws.heap.size ws (Go.Sort.grow (redrawn ws d) os) := fun d os => below_regrown ws d os
      have D' : ∀ d os, Below w.heap.size w (Go.Sort.grow (redrawn ws d) os) := fun d os => HBr.out.trans ((D d os).mono HBr.out.size)
      have x0 := cell_again RBr.out 0 _ rfl
      have x1 := cell_again RBr.out 1 _ rfl
      have x2 := cell_again RBr.out 2 _ rfl
      have x3 := cell_again RBr.out 3 _ rfl
      have x4 := cell_again RBr.out 4 _ rfl
      have x5 := cell_again RBr.out 5 _ rfl
      have x6 := cell_again RBr.out 6 _ rfl
      have x7 := cell_again RBr.out 7 _ rfl
      have x8 := cell_again RBr.out 8 _ rfl
      have y0 := cell_again RTr.out 0 _ rfl
      have y1 := cell_again RTr.out 1 _ rfl
      have y2 := cell_again RTr.out 2 _ rfl
      have y3 := cell_again RTr.out 3 _ rfl
      have y4 := cell_again RTr.out 4 _ rfl
      have y5 := cell_again RTr.out 5 _ rfl
      have y6 := cell_again RTr.out 6 _ rfl
      have y7 := cell_again RTr.out 7 _ rfl
      have y8 := cell_again RTr.out 8 _ rfl
      have u0 := cell_again KNr.out 0 _ rfl
      have u1 := cell_again KNr.out 1 _ rfl
      have u2 := cell_again KNr.out 2 _ rfl
      have u3 := cell_again KNr.out 3 _ rfl
      have u4 := cell_again KNr.out 4 _ rfl
      have u5 := cell_again KNr.out 5 _ rfl
      have u6 := cell_again KNr.out 6 _ rfl
      have u7 := cell_again KNr.out 7 _ rfl
      have u8 := cell_again KNr.out 8 _ rfl
      have q1 : ∀ d os, Calls Tryz.prog 15 #[.agg #[.string ⟨bsc.toArray⟩, .string ⟨bho.toArray⟩, .string ⟨bpa.toArray⟩, .string ⟨bqu.toArray⟩, .string ⟨bfr.toArray⟩, .bool bhs, .bool bhh, .bool bhq, .bool bhf], .agg #[.string ⟨#[]⟩, .string ⟨#[]⟩, .string ⟨tpa.toArray⟩, .string ⟨tqu.toArray⟩, .string ⟨tfr.toArray⟩, .bool false, .bool false, .bool thq, .bool thf]] (Go.Sort.grow (redrawn ws d) os) fun e w'' => e = .returned X4 ∧ ∃ p : Regrown, w'' = Go.Sort.grow (redrawn ws p.d) p.os := fun d os => Calls.regrown_of (HR4.out _ (D' d os))
      cases hc : T4
      case' true => have HC := hid_of hc
      case' false => have HC := hid_of hc
      all_goals rw [hc] at z4
      all_goals clear hc
      all_goals refine wp_region_quiet_below mixed (by kernel_rfl) ?_
      all_goals repeat (go_big_quiet_step (first | with_reducible exact q1 _ _))
      all_goals refine wpQuiet_nil ?_
      all_goals intro _ hw'
      all_goals obtain ⟨⟨dq, osq⟩, hw''⟩ := hw'
      all_goals have hd := D dq osq
      all_goals rw [← hw''] at hd
      all_goals clear hw'' D D' q1 x0 x1 x2 x3 x4 x5 x6 x7 x8 y0 y1 y2 y3 y4 y5 y6 y7 y8 u0 u1 u2 u3 u4 u5 u6 u7 u8
      all_goals rename_i wq
      all_goals have HKq := hid_of (KNr.out.below hd)
      all_goals have HOq := hid_of (ROr.out.below hd)
      all_goals have HBw := hid_of (HBr.out.trans (hd.mono HBr.out.size))
      all_goals have HBz := hid_of (HBq.out.trans (hd.mono HBq.out.size))
      all_goals obtain ⟨d0, d1, d2, d3, d4, d5, d6, d7, d8, dz⟩ := HKq.out.nine
      all_goals obtain ⟨f0, f1, f2, f3, f4, f5, f6, f7, f8, fz⟩ := HOq.out.nine
      all_goals go_wp2_with fail
      all_goals first
        | exact bodyPost_ret (results_relative rfl (Blk.put9 HOq.out _ _ _ _ _ _ _ _ _)) rfl ⟨congrArg Ending.returned (HE4.out (hP.out.1 (by omega)) (hP.out.2.1 (by omega)) (hP.out.2.2.1 (by omega)) HC.out), below_put9 HBw.out (by omega) _ _ _ _ _ _ _ _ _⟩
        | exact ⟨⟨4, by omega, by go_num, HBz, ⟨fun _ => hP.out.1 (by omega), fun _ => hP.out.2.1 (by omega), fun _ => hP.out.2.2.1 (by omega), fun _ => HC.out, fun h => absurd h (by omega)⟩⟩, by simp [intOf]⟩
    · have RBr := hid_of ((RB.out.below hB.out).alloc (.cells #[.string ⟨#[]⟩, .string ⟨tho.toArray⟩, .string ⟨tpa.toArray⟩, .string ⟨tqu.toArray⟩, .string ⟨tfr.toArray⟩, .bool false, .bool thh, .bool thq, .bool thf] 42))
      have RTr := hid_of ((RT.out.below hB.out).alloc (.cells #[.string ⟨#[]⟩, .string ⟨tho.toArray⟩, .string ⟨tpa.toArray⟩, .string ⟨tqu.toArray⟩, .string ⟨tfr.toArray⟩, .bool false, .bool thh, .bool thq, .bool thf] 42))
      have ROr := hid_of ((RO.out.below hB.out).alloc (.cells #[.string ⟨#[]⟩, .string ⟨tho.toArray⟩, .string ⟨tpa.toArray⟩, .string ⟨tqu.toArray⟩, .string ⟨tfr.toArray⟩, .bool false, .bool thh, .bool thq, .bool thf] 42))
      have KNr := hid_of (Blk.new wr #[.string ⟨#[]⟩, .string ⟨tho.toArray⟩, .string ⟨tpa.toArray⟩, .string ⟨tqu.toArray⟩, .string ⟨tfr.toArray⟩, .bool false, .bool thh, .bool thq, .bool thf] 42)
      have HBr0 := hid_of (HB.out.trans (hB.out.mono HB.out.size))
      have HBr := hid_of (HBr0.out.alloc HBr0.out.size (.cells #[.string ⟨#[]⟩, .string ⟨tho.toArray⟩, .string ⟨tpa.toArray⟩, .string ⟨tqu.toArray⟩, .string ⟨tfr.toArray⟩, .bool false, .bool thh, .bool thq, .bool thf] 42))
      have HBq := hid_of (hB.out.alloc hB.out.size (.cells #[.string ⟨#[]⟩, .string ⟨tho.toArray⟩, .string ⟨tpa.toArray⟩, .string ⟨tqu.toArray⟩, .string ⟨tfr.toArray⟩, .bool false, .bool thh, .bool thq, .bool thf] 42))
      have hzr := (RO.out.below hB.out).lt
      have ix : ∀ W, (Instr.index 77 (.agg #[.string ⟨#[]⟩, .string ⟨#[]⟩, .string ⟨#[]⟩, .string ⟨#[]⟩, .string ⟨tfr.toArray⟩, .bool false, .bool false, .bool false, .bool thf, .string ⟨#[]⟩, .string ⟨#[]⟩, .string ⟨#[]⟩, .string ⟨tqu.toArray⟩, .string ⟨tfr.toArray⟩, .bool false, .bool false, .bool thq, .bool thf, .string ⟨#[]⟩, .string ⟨#[]⟩, .string ⟨la.toArray⟩, .string ⟨tqu.toArray⟩, .string ⟨tfr.toArray⟩, .bool false, .bool false, .bool thq, .bool thf, .string ⟨#[]⟩, .string ⟨#[]⟩, .string ⟨tpa.toArray⟩, .string ⟨tqu.toArray⟩, .string ⟨tfr.toArray⟩, .bool false, .bool false, .bool thq, .bool thf, .string ⟨#[]⟩, .string ⟨tho.toArray⟩, .string ⟨tpa.toArray⟩, .string ⟨tqu.toArray⟩, .string ⟨tfr.toArray⟩, .bool false, .bool thh, .bool thq, .bool thf]) (.int .i64 4)).run Tryz.prog W = .ok (.agg #[.string ⟨#[]⟩, .string ⟨tho.toArray⟩, .string ⟨tpa.toArray⟩, .string ⟨tqu.toArray⟩, .string ⟨tfr.toArray⟩, .bool false, .bool thh, .bool thq, .bool thf]) W := fun W => by kernel_rfl
      go_upto_region 14 with fail
      clear ix
      obtain ⟨nr, hnr⟩ : ∃ nr, wr.heap.size = nr := ⟨_, rfl⟩
      rw [hnr] at KNr hzr ⊢
      generalize wr.alloc (.cells #[.string ⟨#[]⟩, .string ⟨tho.toArray⟩, .string ⟨tpa.toArray⟩, .string ⟨tqu.toArray⟩, .string ⟨tfr.toArray⟩, .bool false, .bool thh, .bool thq, .bool thf] 42) = ws at *
      clear hnr HBr0
      have D : ∀ d os, Below ws.heap.size ws (Go.Sort.grow (redrawn ws d) os) := fun d os => below_regrown ws d os
      have D' : ∀ d os, Below w.heap.size w (Go.Sort.grow (redrawn ws d) os) := fun d os => HBr.out.trans ((D d os).mono HBr.out.size)
      have x0 := cell_again RBr.out 0 _ rfl
      have x1 := cell_again RBr.out 1 _ rfl
      have x2 := cell_again RBr.out 2 _ rfl
      have x3 := cell_again RBr.out 3 _ rfl
      have x4 := cell_again RBr.out 4 _ rfl
      have x5 := cell_again RBr.out 5 _ rfl
      have x6 := cell_again RBr.out 6 _ rfl
      have x7 := cell_again RBr.out 7 _ rfl
      have x8 := cell_again RBr.out 8 _ rfl
      have y0 := cell_again RTr.out 0 _ rfl
      have y1 := cell_again RTr.out 1 _ rfl
      have y2 := cell_again RTr.out 2 _ rfl
      have y3 := cell_again RTr.out 3 _ rfl
      have y4 := cell_again RTr.out 4 _ rfl
      have y5 := cell_again RTr.out 5 _ rfl
      have y6 := cell_again RTr.out 6 _ rfl
      have y7 := cell_again RTr.out 7 _ rfl
      have y8 := cell_again RTr.out 8 _ rfl
      have u0 := cell_again KNr.out 0 _ rfl
      have u1 := cell_again KNr.out 1 _ rfl
      have u2 := cell_again KNr.out 2 _ rfl
      have u3 := cell_again KNr.out 3 _ rfl
      have u4 := cell_again KNr.out 4 _ rfl
      have u5 := cell_again KNr.out 5 _ rfl
      have u6 := cell_again KNr.out 6 _ rfl
      have u7 := cell_again KNr.out 7 _ rfl
      have u8 := cell_again KNr.out 8 _ rfl
      have q1 : ∀ d os, Calls Tryz.prog 15 #[.agg #[.string ⟨bsc.toArray⟩, .string ⟨bho.toArray⟩, .string ⟨bpa.toArray⟩, .string ⟨bqu.toArray⟩, .string ⟨bfr.toArray⟩, .bool bhs, .bool bhh, .bool bhq, .bool bhf], .agg #[.string ⟨#[]⟩, .string ⟨tho.toArray⟩, .string ⟨tpa.toArray⟩, .string ⟨tqu.toArray⟩, .string ⟨tfr.toArray⟩, .bool false, .bool thh, .bool thq, .bool thf]] (Go.Sort.grow (redrawn ws d) os) fun e w'' => e = .returned X5 ∧ ∃ p : Regrown, w'' = Go.Sort.grow (redrawn ws p.d) p.os := fun d os => Calls.regrown_of (HR5.out _ (D' d os))
      cases hc : T5
      case' true => have HC := hid_of hc
      case' false => have HC := hid_of hc
      all_goals rw [hc] at z5
      all_goals clear hc
      all_goals refine wp_region_quiet_below mixed (by kernel_rfl) ?_
      all_goals repeat (go_big_quiet_step (first | with_reducible exact q1 _ _))
      all_goals refine wpQuiet_nil ?_
      all_goals intro _ hw'
      all_goals obtain ⟨⟨dq, osq⟩, hw''⟩ := hw'
      all_goals have hd := D dq osq
      all_goals rw [← hw''] at hd
      all_goals clear hw'' D D' q1 x0 x1 x2 x3 x4 x5 x6 x7 x8 y0 y1 y2 y3 y4 y5 y6 y7 y8 u0 u1 u2 u3 u4 u5 u6 u7 u8
      all_goals rename_i wq
      all_goals have HKq := hid_of (KNr.out.below hd)
      all_goals have HOq := hid_of (ROr.out.below hd)
      all_goals have HBw := hid_of (HBr.out.trans (hd.mono HBr.out.size))
      all_goals have HBz := hid_of (HBq.out.trans (hd.mono HBq.out.size))
      all_goals obtain ⟨d0, d1, d2, d3, d4, d5, d6, d7, d8, dz⟩ := HKq.out.nine
      all_goals obtain ⟨f0, f1, f2, f3, f4, f5, f6, f7, f8, fz⟩ := HOq.out.nine
      all_goals go_wp2_with fail
      all_goals first
        | exact bodyPost_ret (results_relative rfl (Blk.put9 HOq.out _ _ _ _ _ _ _ _ _)) rfl ⟨congrArg Ending.returned (HE5.out (hP.out.1 (by omega)) (hP.out.2.1 (by omega)) (hP.out.2.2.1 (by omega)) (hP.out.2.2.2.1 (by omega)) HC.out), below_put9 HBw.out (by omega) _ _ _ _ _ _ _ _ _⟩
        | exact ⟨⟨5, by omega, by go_num, HBz, ⟨fun _ => hP.out.1 (by omega), fun _ => hP.out.2.1 (by omega), fun _ => hP.out.2.2.1 (by omega), fun _ => hP.out.2.2.2.1 (by omega), fun _ => HC.out⟩⟩, by simp [intOf]⟩
    · have RTr := hid_of (RT.out.below hB.out)
      have ROr := hid_of (RO.out.below hB.out)
      have HBr := hid_of (HB.out.trans (hB.out.mono HB.out.size))
      obtain ⟨d0, d1, d2, d3, d4, d5, d6, d7, d8, dz⟩ := RTr.out.nine
      obtain ⟨f0, f1, f2, f3, f4, f5, f6, f7, f8, fz⟩ := ROr.out.nine
      go_wp2_with fail
      exact bodyPost_ret (results_relative rfl (Blk.put9 ROr.out _ _ _ _ _ _ _ _ _)) rfl ⟨congrArg Ending.returned (HE6.out (hP.out.1 (by omega)) (hP.out.2.1 (by omega)) (hP.out.2.2.1 (by omega)) (hP.out.2.2.2.1 (by omega)) (hP.out.2.2.2.2 (by omega))), below_put9 HBr.out (by omega) _ _ _ _ _ _ _ _ _⟩
end Go.Proofs.YtmfhhpacojodkaaGreatDoor.L
