/- What is proved here: the contract of the document's Relative of layer 12. -/
import Derived.Test.YtnnajpdliokodaaDoorBun10
import Derived.Test.YtnnajpdliokodaaDoorLkEqR
import Derived.Test.YtnnajpdliokodaaDoorLkResolve
import Derived.Lib.QuietBelow
import Derived.BigQuiet
namespace Go.Proofs.YtnnajpdliokodaaDoor.L
open Go.RowKit Go.Shelf Go.Proofs.YtnnajpdliokodaaDoor.N Go.Proofs.YtnnajpdliokodaaDoor.U

theorem results_rrelative {tmps : Array Value} {W : World} {A : Nat} {v0 v1 v2 v3 v4 v5 v6 v7 v8 : Value} {t : TypeId} (h2 : tmps[4]?.getD undef = .pointer (some ⟨A, 0, none⟩)) (h : Blk W A #[v0, v1, v2, v3, v4, v5, v6, v7, v8] t) :
    (results Tryd.f14 tmps).run Tryd.prog W = .ok (.agg #[v0, v1, v2, v3, v4, v5, v6, v7, v8]) W := by
  obtain ⟨c0, c1, c2, c3, c4, c5, c6, c7, c8, -⟩ := h.nine
  simp [results, Tryd.results14, go_sem, h2, c0, c1, c2, c3, c4, c5, c6, c7, c8]
theorem cell_againR {W : World} {B : Nat} {cs : Array Value} {t : TypeId} (h : Blk W B cs t) (j : Nat) (v : Value) (hj : cs[j]? = some v) (d : Nat) (os : Array Obj) : (Go.Sort.grow (redrawn W d) os).cell? ⟨B, j, none⟩ = some v := by
  have := (h.below (below_regrown W d os)).cell j
  rw [this, hj]
set_option maxRecDepth 100000 in
set_option maxHeartbeats 16000000 in
/-- **The document's Relative.** -/
theorem rrelative_calls (bm tm : Lk) (w : World) (hb : bm.Small 80000000) (ht : tm.Small 80000000) : Calls Tryd.prog 14 #[bm.v, tm.v] w fun e W' => e = .returned (relativeK bm tm).v ∧ Below w.heap.size w W' := by
  have mixed : Tryd.prog.follows .mixedOrders = true := by kernel_rfl
  have HRE : Hid (∀ (r : Lk) W, r.Small 80000000 → Calls Tryd.prog 8 #[bm.v, r.v] W fun e W' => e = .returned (resolveK bm r).v ∧ Below W.heap.size W W') := fun r W hs => rresolve_calls bm r W ⟨Nat.le_trans hb.sc (by omega), Nat.le_trans hb.ho (by omega), Nat.le_trans hb.pa (by omega), Nat.le_trans hb.qu (by omega), Nat.le_trans hb.fr (by omega)⟩ ⟨Nat.le_trans hs.sc (by omega), Nat.le_trans hs.ho (by omega), Nat.le_trans hs.pa (by omega), Nat.le_trans hs.qu (by omega), Nat.le_trans hs.fr (by omega)⟩
  obtain ⟨s1, s2, s3, s4, s5⟩ := refs_small ht
  have HR1 := hid_of (fun W => HRE.out _ W s1)
  have HR2 := hid_of (fun W => HRE.out _ W s2)
  have HR3 := hid_of (fun W => HRE.out _ W s3)
  have HR4 := hid_of (fun W => HRE.out _ W s4)
  have HR5 := hid_of (fun W => HRE.out _ W s5)
  have hfl := (folderN_cases tm.pa).2.1
  have sl := slice_l tm.pa (folderN tm.pa) hfl (folderN tm.pa : Int) rfl
  have hpl := ht.pa
  obtain ⟨V, hV⟩ : ∃ V, relativeK bm tm = V := ⟨_, rfl⟩
  rw [hV]
  have HV : Hid (relativeK bm tm = V) := hV
  clear hV HRE s1 s2 s3 s4 s5 hb ht
  have z1 : ∀ W, (binOp .eql 23 (resolveK bm (refFrag tm)).v tm.v).run Tryd.prog W = .ok (.bool (sameK (resolveK bm (refFrag tm)) tm)) W := fun W => eql_rlinks _ _ W
  have g1 : ∀ x y W, (eqGuard .eql 23 x y (resolveK bm (refFrag tm)).v tm.v).run Tryd.prog W = .ok () W := fun x y W => eql_rguard _ _ x y W
  obtain ⟨X1, hX1⟩ : ∃ X, (resolveK bm (refFrag tm)).v = X := ⟨_, rfl⟩
  obtain ⟨T1, hT1⟩ : ∃ T, sameK (resolveK bm (refFrag tm)) tm = T := ⟨_, rfl⟩
  rw [hX1] at z1 g1 HR1
  rw [hT1] at z1
  clear hX1
  have z2 : ∀ W, (binOp .eql 23 (resolveK bm (refQuery tm)).v tm.v).run Tryd.prog W = .ok (.bool (sameK (resolveK bm (refQuery tm)) tm)) W := fun W => eql_rlinks _ _ W
  have g2 : ∀ x y W, (eqGuard .eql 23 x y (resolveK bm (refQuery tm)).v tm.v).run Tryd.prog W = .ok () W := fun x y W => eql_rguard _ _ x y W
  obtain ⟨X2, hX2⟩ : ∃ X, (resolveK bm (refQuery tm)).v = X := ⟨_, rfl⟩
  obtain ⟨T2, hT2⟩ : ∃ T, sameK (resolveK bm (refQuery tm)) tm = T := ⟨_, rfl⟩
  rw [hX2] at z2 g2 HR2
  rw [hT2] at z2
  clear hX2
  have z3 : ∀ W, (binOp .eql 23 (resolveK bm (refLast tm)).v tm.v).run Tryd.prog W = .ok (.bool (sameK (resolveK bm (refLast tm)) tm)) W := fun W => eql_rlinks _ _ W
  have g3 : ∀ x y W, (eqGuard .eql 23 x y (resolveK bm (refLast tm)).v tm.v).run Tryd.prog W = .ok () W := fun x y W => eql_rguard _ _ x y W
  obtain ⟨X3, hX3⟩ : ∃ X, (resolveK bm (refLast tm)).v = X := ⟨_, rfl⟩
  obtain ⟨T3, hT3⟩ : ∃ T, sameK (resolveK bm (refLast tm)) tm = T := ⟨_, rfl⟩
  rw [hX3] at z3 g3 HR3
  rw [hT3] at z3
  clear hX3
  have z4 : ∀ W, (binOp .eql 23 (resolveK bm (refPath tm)).v tm.v).run Tryd.prog W = .ok (.bool (sameK (resolveK bm (refPath tm)) tm)) W := fun W => eql_rlinks _ _ W
  have g4 : ∀ x y W, (eqGuard .eql 23 x y (resolveK bm (refPath tm)).v tm.v).run Tryd.prog W = .ok () W := fun x y W => eql_rguard _ _ x y W
  obtain ⟨X4, hX4⟩ : ∃ X, (resolveK bm (refPath tm)).v = X := ⟨_, rfl⟩
  obtain ⟨T4, hT4⟩ : ∃ T, sameK (resolveK bm (refPath tm)) tm = T := ⟨_, rfl⟩
  rw [hX4] at z4 g4 HR4
  rw [hT4] at z4
  clear hX4
  have z5 : ∀ W, (binOp .eql 23 (resolveK bm (refHost tm)).v tm.v).run Tryd.prog W = .ok (.bool (sameK (resolveK bm (refHost tm)) tm)) W := fun W => eql_rlinks _ _ W
  have g5 : ∀ x y W, (eqGuard .eql 23 x y (resolveK bm (refHost tm)).v tm.v).run Tryd.prog W = .ok () W := fun x y W => eql_rguard _ _ x y W
  obtain ⟨X5, hX5⟩ : ∃ X, (resolveK bm (refHost tm)).v = X := ⟨_, rfl⟩
  obtain ⟨T5, hT5⟩ : ∃ T, sameK (resolveK bm (refHost tm)) tm = T := ⟨_, rfl⟩
  rw [hX5] at z5 g5 HR5
  rw [hT5] at z5
  clear hX5
  have HV2 : Hid (V = if T1 then refFrag tm else if T2 then refQuery tm else if T3 then refLast tm else if T4 then refPath tm else if T5 then refHost tm else tm) := by show _ = _; rw [← HV.out]; unfold relativeK; rw [hT1, hT2, hT3, hT4, hT5]
  clear hT1 hT2 hT3 hT4 hT5 HV
  have HE1 : Hid (T1 = true → (refFrag tm).v = V.v) := fun h1 => by rw [HV2.out, h1]; rfl
  have HE2 : Hid (T1 = false → T2 = true → (refQuery tm).v = V.v) := fun h1 h2 => by rw [HV2.out, h1, h2]; rfl
  have HE3 : Hid (T1 = false → T2 = false → T3 = true → (refLast tm).v = V.v) := fun h1 h2 h3 => by rw [HV2.out, h1, h2, h3]; rfl
  have HE4 : Hid (T1 = false → T2 = false → T3 = false → T4 = true → (refPath tm).v = V.v) := fun h1 h2 h3 h4 => by rw [HV2.out, h1, h2, h3, h4]; rfl
  have HE5 : Hid (T1 = false → T2 = false → T3 = false → T4 = false → T5 = true → (refHost tm).v = V.v) := fun h1 h2 h3 h4 h5 => by rw [HV2.out, h1, h2, h3, h4, h5]; rfl
  have HE6 : Hid (T1 = false → T2 = false → T3 = false → T4 = false → T5 = false → tm.v = V.v) := fun h1 h2 h3 h4 h5 => by rw [HV2.out, h1, h2, h3, h4, h5]; rfl
  clear HV2
  unfold refFrag at HR1 HE1
  unfold refQuery at HR2 HE2
  unfold refLast at HR3 HE3
  unfold refPath at HR4 HE4
  unfold refHost at HR5 HE5
  obtain ⟨bsc, bho, bpa, bqu, bfr, bhs, bhh, bhq, bhf⟩ := bm
  obtain ⟨tsc, tho, tpa, tqu, tfr, ths, thh, thq, thf⟩ := tm
  simp only at hfl sl hpl HR1 HR2 HR3 HR4 HR5 HE1 HE2 HE3 HE4 HE5
  obtain ⟨la, hla⟩ : ∃ la, tpa.drop (folderN tpa) = la := ⟨_, rfl⟩
  rw [hla] at sl HR3 HE3
  clear hla
  have st := arr_size tpa
  have HR0 : Hid (RResAt w _ #[.string ⟨bsc.toArray⟩, .string ⟨bho.toArray⟩, .string ⟨bpa.toArray⟩, .string ⟨bqu.toArray⟩, .string ⟨bfr.toArray⟩, .bool bhs, .bool bhh, .bool bhq, .bool bhf] #[.string ⟨tsc.toArray⟩, .string ⟨tho.toArray⟩, .string ⟨tpa.toArray⟩, .string ⟨tqu.toArray⟩, .string ⟨tfr.toArray⟩, .bool ths, .bool thh, .bool thq, .bool thf]) := rresAt_new w _ _
  unfold Lk.v at *
  simp only at *
  go_enter Tryd.func14, Tryd.ntmps14
  go_upto_region 1 with fail
  generalize (((w.alloc (.cells #[.string ⟨bsc.toArray⟩, .string ⟨bho.toArray⟩, .string ⟨bpa.toArray⟩, .string ⟨bqu.toArray⟩, .string ⟨bfr.toArray⟩, .bool bhs, .bool bhh, .bool bhq, .bool bhf] 23)).alloc (.cells #[.string ⟨tsc.toArray⟩, .string ⟨tho.toArray⟩, .string ⟨tpa.toArray⟩, .string ⟨tqu.toArray⟩, .string ⟨tfr.toArray⟩, .bool ths, .bool thh, .bool thq, .bool thf] 23)).alloc (.cells #[.string ⟨#[]⟩, .string ⟨#[]⟩, .string ⟨#[]⟩, .string ⟨#[]⟩, .string ⟨#[]⟩, .bool false, .bool false, .bool false, .bool false] 23)) = wA at *
  have RB := hid_of HR0.out.hb
  have RT := hid_of HR0.out.hr
  have RO := hid_of HR0.out.ho
  have HB := hid_of HR0.out.below
  clear HR0
  obtain ⟨b0, b1, b2, b3, b4, b5, b6, b7, b8, bz⟩ := RT.out.nine
  go_wp2_with fail
  go_loopw [5, 17] (fun vl vi wr => ∃ k : Nat, k ≤ tpa.length ∧ vi = .int .i64 k ∧ vl = .int .i64 (folderN (tpa.take k) : Nat) ∧ wr = wA) (fun _ vi _ => tpa.length - (intOf vi).toNat)
  case atStart => exact ⟨0, by omega, rfl, rfl, by trivial⟩
  case round =>
    obtain ⟨k, hk, rfl, rfl, hwr⟩ := hrel
    obtain rfl : wA = wr := hwr.symm
    clear hwr
    by_cases hlt : k < tpa.length
    · have hstep := folderN_step tpa k hlt
      obtain ⟨c, hc⟩ : ∃ c, tpa.getD k 0 = c := ⟨_, rfl⟩
      have hix := byte_at tpa k c hlt hc (k : Int) rfl
      have g47 : ((c.toNat : Int) == 47) = (c == 47) := eq_byte c 47
      rw [hc] at hstep
      clear hc
      cases hcc : (c == 47) with
      | true =>
        rw [hcc] at g47 hstep
        have HS2 := hid_of hstep
        clear hstep hcc
        go_wp2_with fail
        exact ⟨⟨k + 1, by omega, by go_num, by rw [HS2.out]; go_num, by trivial⟩, by simp [intOf]; omega⟩
      | false =>
        rw [hcc] at g47 hstep
        have HS2 := hid_of hstep
        clear hstep hcc
        go_wp2_with fail
        exact ⟨⟨k + 1, by omega, by go_num, by rw [HS2.out]; rfl, by trivial⟩, by simp [intOf]; omega⟩
    · obtain rfl : k = tpa.length := by omega
      rw [List.take_length]
      generalize folderN tpa = nf at *
      clear b0 b1 b2 b3 b4 b5 b6 b7 b8 bz
      go_upto_region 8 with fail
      have RBn := hid_of (RB.out.alloc (.cells #[.string ⟨#[]⟩, .string ⟨#[]⟩, .string ⟨#[]⟩, .string ⟨#[]⟩, .string ⟨tfr.toArray⟩, .bool false, .bool false, .bool false, .bool thf] 23))
      have RTn := hid_of (RT.out.alloc (.cells #[.string ⟨#[]⟩, .string ⟨#[]⟩, .string ⟨#[]⟩, .string ⟨#[]⟩, .string ⟨tfr.toArray⟩, .bool false, .bool false, .bool false, .bool thf] 23))
      have ROn := hid_of (RO.out.alloc (.cells #[.string ⟨#[]⟩, .string ⟨#[]⟩, .string ⟨#[]⟩, .string ⟨#[]⟩, .string ⟨tfr.toArray⟩, .bool false, .bool false, .bool false, .bool thf] 23))
      have KFn := hid_of (Blk.new wA #[.string ⟨#[]⟩, .string ⟨#[]⟩, .string ⟨#[]⟩, .string ⟨#[]⟩, .string ⟨tfr.toArray⟩, .bool false, .bool false, .bool false, .bool thf] 23)
      have HBn := hid_of (HB.out.alloc HB.out.size (.cells #[.string ⟨#[]⟩, .string ⟨#[]⟩, .string ⟨#[]⟩, .string ⟨#[]⟩, .string ⟨tfr.toArray⟩, .bool false, .bool false, .bool false, .bool thf] 23))
      have hz := RO.out.lt
      obtain ⟨n7, hn⟩ : ∃ n7, wA.heap.size = n7 := ⟨_, rfl⟩
      rw [hn] at KFn hz 
      obtain ⟨a0, a1, a2, a3, a4, a5, a6, a7, a8, az⟩ := RB.out.nine
      obtain ⟨b0, b1, b2, b3, b4, b5, b6, b7, b8, bz⟩ := RT.out.nine
      obtain ⟨c0, c1, c2, c3, c4, c5, c6, c7, c8, cz⟩ := RO.out.nine
      go_upto_region 9 with fail
      clear a0 a1 a2 a3 a4 a5 a6 a7 a8 az b0 b1 b2 b3 b4 b5 b6 b7 b8 bz c0 c1 c2 c3 c4 c5 c6 c7 c8 cz
      generalize wA.alloc (.cells #[.string ⟨#[]⟩, .string ⟨#[]⟩, .string ⟨#[]⟩, .string ⟨#[]⟩, .string ⟨tfr.toArray⟩, .bool false, .bool false, .bool false, .bool thf] 23) = w5 at *
      have qn7 : w.heap.size + 1 + 1 < n7 := hz
      clear hn hz  RB RT RO HB
      rename Hid (Blk _ w.heap.size _ _) => RB
      rename Hid (Blk _ (w.heap.size + 1) _ _) => RT
      rename Hid (Blk _ (w.heap.size + 1 + 1) _ _) => RO
      rename Hid (Blk _ n7 _ _) => KF
      rename Hid (Below w.heap.size w _) => HB
      have RBn := hid_of (RB.out.alloc (.cells #[.string ⟨#[]⟩, .string ⟨#[]⟩, .string ⟨#[]⟩, .string ⟨#[]⟩, .string ⟨tfr.toArray⟩, .bool false, .bool false, .bool false, .bool thf] 23))
      have RTn := hid_of (RT.out.alloc (.cells #[.string ⟨#[]⟩, .string ⟨#[]⟩, .string ⟨#[]⟩, .string ⟨#[]⟩, .string ⟨tfr.toArray⟩, .bool false, .bool false, .bool false, .bool thf] 23))
      have ROn := hid_of (RO.out.alloc (.cells #[.string ⟨#[]⟩, .string ⟨#[]⟩, .string ⟨#[]⟩, .string ⟨#[]⟩, .string ⟨tfr.toArray⟩, .bool false, .bool false, .bool false, .bool thf] 23))
      have KFn := hid_of (KF.out.alloc (.cells #[.string ⟨#[]⟩, .string ⟨#[]⟩, .string ⟨#[]⟩, .string ⟨#[]⟩, .string ⟨tfr.toArray⟩, .bool false, .bool false, .bool false, .bool thf] 23))
      have KQn := hid_of (Blk.new w5 #[.string ⟨#[]⟩, .string ⟨#[]⟩, .string ⟨#[]⟩, .string ⟨#[]⟩, .string ⟨tfr.toArray⟩, .bool false, .bool false, .bool false, .bool thf] 23)
      have HBn := hid_of (HB.out.alloc HB.out.size (.cells #[.string ⟨#[]⟩, .string ⟨#[]⟩, .string ⟨#[]⟩, .string ⟨#[]⟩, .string ⟨tfr.toArray⟩, .bool false, .bool false, .bool false, .bool thf] 23))
      have hz := RO.out.lt
      have hzKF := KF.out.lt
      obtain ⟨n8, hn⟩ : ∃ n8, w5.heap.size = n8 := ⟨_, rfl⟩
      rw [hn] at KQn hz hzKF
      obtain ⟨a0, a1, a2, a3, a4, a5, a6, a7, a8, az⟩ := RB.out.nine
      obtain ⟨b0, b1, b2, b3, b4, b5, b6, b7, b8, bz⟩ := RT.out.nine
      obtain ⟨c0, c1, c2, c3, c4, c5, c6, c7, c8, cz⟩ := RO.out.nine
      obtain ⟨d0, d1, d2, d3, d4, d5, d6, d7, d8, dz⟩ := KF.out.nine
      go_upto_region 10 with fail
      clear a0 a1 a2 a3 a4 a5 a6 a7 a8 az b0 b1 b2 b3 b4 b5 b6 b7 b8 bz c0 c1 c2 c3 c4 c5 c6 c7 c8 cz d0 d1 d2 d3 d4 d5 d6 d7 d8 dz
      generalize w5.alloc (.cells #[.string ⟨#[]⟩, .string ⟨#[]⟩, .string ⟨#[]⟩, .string ⟨#[]⟩, .string ⟨tfr.toArray⟩, .bool false, .bool false, .bool false, .bool thf] 23) = w6 at *
      have qn8 : w.heap.size + 1 + 1 < n8 := hz
      have qn8n7 : n7 < n8 := hzKF
      clear hn hz hzKF RB RT RO KF HB
      rename Hid (Blk _ w.heap.size _ _) => RB
      rename Hid (Blk _ (w.heap.size + 1) _ _) => RT
      rename Hid (Blk _ (w.heap.size + 1 + 1) _ _) => RO
      rename Hid (Blk _ n7 _ _) => KF
      rename Hid (Blk _ n8 _ _) => KQ
      rename Hid (Below w.heap.size w _) => HB
      obtain ⟨a0, a1, a2, a3, a4, a5, a6, a7, a8, az⟩ := RB.out.nine
      obtain ⟨b0, b1, b2, b3, b4, b5, b6, b7, b8, bz⟩ := RT.out.nine
      obtain ⟨c0, c1, c2, c3, c4, c5, c6, c7, c8, cz⟩ := RO.out.nine
      obtain ⟨d0, d1, d2, d3, d4, d5, d6, d7, d8, dz⟩ := KF.out.nine
      obtain ⟨e0, e1, e2, e3, e4, e5, e6, e7, e8, ez⟩ := KQ.out.nine
      go_region
      go_upto_region 11 with fail
      clear a0 a1 a2 a3 a4 a5 a6 a7 a8 az b0 b1 b2 b3 b4 b5 b6 b7 b8 bz c0 c1 c2 c3 c4 c5 c6 c7 c8 cz d0 d1 d2 d3 d4 d5 d6 d7 d8 dz e0 e1 e2 e3 e4 e5 e6 e7 e8 ez
      have RBn : Hid (Blk ((w6.setCell ⟨n8, 3, none⟩ (.string ⟨tqu.toArray⟩)).setCell ⟨n8, 7, none⟩ (.bool thq)).drew w.heap.size #[.string ⟨bsc.toArray⟩, .string ⟨bho.toArray⟩, .string ⟨bpa.toArray⟩, .string ⟨bqu.toArray⟩, .string ⟨bfr.toArray⟩, .bool bhs, .bool bhh, .bool bhq, .bool bhf] 23) := ((RB.out.other (by omega) 3 (.string ⟨tqu.toArray⟩)).other (by omega) 7 (.bool thq))
      have RTn : Hid (Blk ((w6.setCell ⟨n8, 3, none⟩ (.string ⟨tqu.toArray⟩)).setCell ⟨n8, 7, none⟩ (.bool thq)).drew (w.heap.size + 1) #[.string ⟨tsc.toArray⟩, .string ⟨tho.toArray⟩, .string ⟨tpa.toArray⟩, .string ⟨tqu.toArray⟩, .string ⟨tfr.toArray⟩, .bool ths, .bool thh, .bool thq, .bool thf] 23) := ((RT.out.other (by omega) 3 (.string ⟨tqu.toArray⟩)).other (by omega) 7 (.bool thq))
      have ROn : Hid (Blk ((w6.setCell ⟨n8, 3, none⟩ (.string ⟨tqu.toArray⟩)).setCell ⟨n8, 7, none⟩ (.bool thq)).drew (w.heap.size + 1 + 1) #[.string ⟨#[]⟩, .string ⟨#[]⟩, .string ⟨#[]⟩, .string ⟨#[]⟩, .string ⟨#[]⟩, .bool false, .bool false, .bool false, .bool false] 23) := ((RO.out.other (by omega) 3 (.string ⟨tqu.toArray⟩)).other (by omega) 7 (.bool thq))
      have KFn : Hid (Blk ((w6.setCell ⟨n8, 3, none⟩ (.string ⟨tqu.toArray⟩)).setCell ⟨n8, 7, none⟩ (.bool thq)).drew n7 #[.string ⟨#[]⟩, .string ⟨#[]⟩, .string ⟨#[]⟩, .string ⟨#[]⟩, .string ⟨tfr.toArray⟩, .bool false, .bool false, .bool false, .bool thf] 23) := ((KF.out.other (by omega) 3 (.string ⟨tqu.toArray⟩)).other (by omega) 7 (.bool thq))
      have KQn : Hid (Blk ((w6.setCell ⟨n8, 3, none⟩ (.string ⟨tqu.toArray⟩)).setCell ⟨n8, 7, none⟩ (.bool thq)).drew n8 #[.string ⟨#[]⟩, .string ⟨#[]⟩, .string ⟨#[]⟩, .string ⟨tqu.toArray⟩, .string ⟨tfr.toArray⟩, .bool false, .bool false, .bool thq, .bool thf] 23) := ((KQ.out.set 3 (.string ⟨tqu.toArray⟩)).set 7 (.bool thq))
      have HBn : Hid (Below w.heap.size w ((w6.setCell ⟨n8, 3, none⟩ (.string ⟨tqu.toArray⟩)).setCell ⟨n8, 7, none⟩ (.bool thq)).drew) := (below_setCell (below_setCell HB.out (by omega) 3 (.string ⟨tqu.toArray⟩)) (by omega) 7 (.bool thq)).drew
      clear RB RT RO KF KQ HB
      generalize ((w6.setCell ⟨n8, 3, none⟩ (.string ⟨tqu.toArray⟩)).setCell ⟨n8, 7, none⟩ (.bool thq)).drew = w7 at *
      rename Hid (Blk _ w.heap.size _ _) => RB
      rename Hid (Blk _ (w.heap.size + 1) _ _) => RT
      rename Hid (Blk _ (w.heap.size + 1 + 1) _ _) => RO
      rename Hid (Blk _ n7 _ _) => KF
      rename Hid (Blk _ n8 _ _) => KQ
      rename Hid (Below w.heap.size w _) => HB
      go_cut [9, 10] from 11 (fun a b wx => ∃ n9 n10 : Nat, a = .pointer (some ⟨n9, 0, none⟩) ∧ b = .pointer (some ⟨n10, 0, none⟩) ∧ n8 < n9 ∧ n8 < n10 ∧ n9 ≠ n10 ∧ Hid (Blk wx w.heap.size #[.string ⟨bsc.toArray⟩, .string ⟨bho.toArray⟩, .string ⟨bpa.toArray⟩, .string ⟨bqu.toArray⟩, .string ⟨bfr.toArray⟩, .bool bhs, .bool bhh, .bool bhq, .bool bhf] 23) ∧ Hid (Blk wx (w.heap.size + 1) #[.string ⟨tsc.toArray⟩, .string ⟨tho.toArray⟩, .string ⟨tpa.toArray⟩, .string ⟨tqu.toArray⟩, .string ⟨tfr.toArray⟩, .bool ths, .bool thh, .bool thq, .bool thf] 23) ∧ Hid (Blk wx (w.heap.size + 1 + 1) #[.string ⟨#[]⟩, .string ⟨#[]⟩, .string ⟨#[]⟩, .string ⟨#[]⟩, .string ⟨#[]⟩, .bool false, .bool false, .bool false, .bool false] 23) ∧ Hid (Blk wx n7 #[.string ⟨#[]⟩, .string ⟨#[]⟩, .string ⟨#[]⟩, .string ⟨#[]⟩, .string ⟨tfr.toArray⟩, .bool false, .bool false, .bool false, .bool thf] 23) ∧ Hid (Blk wx n8 #[.string ⟨#[]⟩, .string ⟨#[]⟩, .string ⟨#[]⟩, .string ⟨tqu.toArray⟩, .string ⟨tfr.toArray⟩, .bool false, .bool false, .bool thq, .bool thf] 23) ∧ Hid (Blk wx n9 #[.string ⟨#[]⟩, .string ⟨#[]⟩, .string ⟨#[]⟩, .string ⟨tqu.toArray⟩, .string ⟨tfr.toArray⟩, .bool false, .bool false, .bool thq, .bool thf] 23) ∧ Hid (Blk wx n10 #[.string ⟨#[]⟩, .string ⟨#[]⟩, .string ⟨#[]⟩, .string ⟨tqu.toArray⟩, .string ⟨tfr.toArray⟩, .bool false, .bool false, .bool thq, .bool thf] 23) ∧ Hid (Below w.heap.size w wx))
      case first =>
        obtain ⟨a0, a1, a2, a3, a4, a5, a6, a7, a8, az⟩ := RB.out.nine
        obtain ⟨b0, b1, b2, b3, b4, b5, b6, b7, b8, bz⟩ := RT.out.nine
        obtain ⟨c0, c1, c2, c3, c4, c5, c6, c7, c8, cz⟩ := RO.out.nine
        obtain ⟨d0, d1, d2, d3, d4, d5, d6, d7, d8, dz⟩ := KF.out.nine
        obtain ⟨e0, e1, e2, e3, e4, e5, e6, e7, e8, ez⟩ := KQ.out.nine
        have NB0 : ∀ (W : World), Blk W n8 #[.string ⟨#[]⟩, .string ⟨#[]⟩, .string ⟨#[]⟩, .string ⟨tqu.toArray⟩, .string ⟨tfr.toArray⟩, .bool false, .bool false, .bool thq, .bool thf] 23 → (fun w' => w'.cell? ⟨n8, 0, none⟩ = some (.string ⟨#[]⟩) ∧ w'.cell? ⟨n8, 1, none⟩ = some (.string ⟨#[]⟩) ∧ w'.cell? ⟨n8, 2, none⟩ = some (.string ⟨#[]⟩) ∧ w'.cell? ⟨n8, 3, none⟩ = some (.string ⟨tqu.toArray⟩) ∧ w'.cell? ⟨n8, 4, none⟩ = some (.string ⟨tfr.toArray⟩) ∧ w'.cell? ⟨n8, 5, none⟩ = some (.bool false) ∧ w'.cell? ⟨n8, 6, none⟩ = some (.bool false) ∧ w'.cell? ⟨n8, 7, none⟩ = some (.bool thq) ∧ w'.cell? ⟨n8, 8, none⟩ = some (.bool thf)) W := fun W h => by
          obtain ⟨x0, x1, x2, x3, x4, x5, x6, x7, x8, -⟩ := h.nine
          exact ⟨x0, x1, x2, x3, x4, x5, x6, x7, x8⟩
        have NB := hid_of NB0
        clear NB0
        go_region_held3 (fun w' => w'.cell? ⟨n8, 0, none⟩ = some (.string ⟨#[]⟩) ∧ w'.cell? ⟨n8, 1, none⟩ = some (.string ⟨#[]⟩) ∧ w'.cell? ⟨n8, 2, none⟩ = some (.string ⟨#[]⟩) ∧ w'.cell? ⟨n8, 3, none⟩ = some (.string ⟨tqu.toArray⟩) ∧ w'.cell? ⟨n8, 4, none⟩ = some (.string ⟨tfr.toArray⟩) ∧ w'.cell? ⟨n8, 5, none⟩ = some (.bool false) ∧ w'.cell? ⟨n8, 6, none⟩ = some (.bool false) ∧ w'.cell? ⟨n8, 7, none⟩ = some (.bool thq) ∧ w'.cell? ⟨n8, 8, none⟩ = some (.bool thf)) (first | exact NB.out _ KQ.out.drew | exact NB.out _ (Blk.alloc KQ.out.drew _) | exact NB.out _ (Blk.drew (Blk.alloc KQ.out _)) | exact NB.out _ (Blk.alloc (Blk.alloc KQ.out.drew _) _) | exact NB.out _ (Blk.drew (Blk.alloc (Blk.alloc KQ.out _) _))) (fail)
        · have RBn := hid_of (Blk.drew ((RB.out.alloc (.cells #[.string ⟨#[]⟩, .string ⟨#[]⟩, .string ⟨#[]⟩, .string ⟨tqu.toArray⟩, .string ⟨tfr.toArray⟩, .bool false, .bool false, .bool thq, .bool thf] 23)).alloc (.cells #[.string ⟨#[]⟩, .string ⟨#[]⟩, .string ⟨#[]⟩, .string ⟨tqu.toArray⟩, .string ⟨tfr.toArray⟩, .bool false, .bool false, .bool thq, .bool thf] 23)))
          have RTn := hid_of (Blk.drew ((RT.out.alloc (.cells #[.string ⟨#[]⟩, .string ⟨#[]⟩, .string ⟨#[]⟩, .string ⟨tqu.toArray⟩, .string ⟨tfr.toArray⟩, .bool false, .bool false, .bool thq, .bool thf] 23)).alloc (.cells #[.string ⟨#[]⟩, .string ⟨#[]⟩, .string ⟨#[]⟩, .string ⟨tqu.toArray⟩, .string ⟨tfr.toArray⟩, .bool false, .bool false, .bool thq, .bool thf] 23)))
          have ROn := hid_of (Blk.drew ((RO.out.alloc (.cells #[.string ⟨#[]⟩, .string ⟨#[]⟩, .string ⟨#[]⟩, .string ⟨tqu.toArray⟩, .string ⟨tfr.toArray⟩, .bool false, .bool false, .bool thq, .bool thf] 23)).alloc (.cells #[.string ⟨#[]⟩, .string ⟨#[]⟩, .string ⟨#[]⟩, .string ⟨tqu.toArray⟩, .string ⟨tfr.toArray⟩, .bool false, .bool false, .bool thq, .bool thf] 23)))
          have KFn := hid_of (Blk.drew ((KF.out.alloc (.cells #[.string ⟨#[]⟩, .string ⟨#[]⟩, .string ⟨#[]⟩, .string ⟨tqu.toArray⟩, .string ⟨tfr.toArray⟩, .bool false, .bool false, .bool thq, .bool thf] 23)).alloc (.cells #[.string ⟨#[]⟩, .string ⟨#[]⟩, .string ⟨#[]⟩, .string ⟨tqu.toArray⟩, .string ⟨tfr.toArray⟩, .bool false, .bool false, .bool thq, .bool thf] 23)))
          have KQn := hid_of (Blk.drew ((KQ.out.alloc (.cells #[.string ⟨#[]⟩, .string ⟨#[]⟩, .string ⟨#[]⟩, .string ⟨tqu.toArray⟩, .string ⟨tfr.toArray⟩, .bool false, .bool false, .bool thq, .bool thf] 23)).alloc (.cells #[.string ⟨#[]⟩, .string ⟨#[]⟩, .string ⟨#[]⟩, .string ⟨tqu.toArray⟩, .string ⟨tfr.toArray⟩, .bool false, .bool false, .bool thq, .bool thf] 23)))
          have zz : (w7.alloc (.cells #[.string ⟨#[]⟩, .string ⟨#[]⟩, .string ⟨#[]⟩, .string ⟨tqu.toArray⟩, .string ⟨tfr.toArray⟩, .bool false, .bool false, .bool thq, .bool thf] 23)).heap.size = w7.heap.size + 1 := Array.size_push _
          have P1 := hid_of (Blk.drew ((Blk.new w7 #[.string ⟨#[]⟩, .string ⟨#[]⟩, .string ⟨#[]⟩, .string ⟨tqu.toArray⟩, .string ⟨tfr.toArray⟩, .bool false, .bool false, .bool thq, .bool thf] 23).alloc (.cells #[.string ⟨#[]⟩, .string ⟨#[]⟩, .string ⟨#[]⟩, .string ⟨tqu.toArray⟩, .string ⟨tfr.toArray⟩, .bool false, .bool false, .bool thq, .bool thf] 23)))
          have P2 := hid_of (Blk.drew (Blk.new (w7.alloc (.cells #[.string ⟨#[]⟩, .string ⟨#[]⟩, .string ⟨#[]⟩, .string ⟨tqu.toArray⟩, .string ⟨tfr.toArray⟩, .bool false, .bool false, .bool thq, .bool thf] 23)) #[.string ⟨#[]⟩, .string ⟨#[]⟩, .string ⟨#[]⟩, .string ⟨tqu.toArray⟩, .string ⟨tfr.toArray⟩, .bool false, .bool false, .bool thq, .bool thf] 23))
          rw [zz] at P2
          have HBn := hid_of (((HB.out.alloc HB.out.size (.cells #[.string ⟨#[]⟩, .string ⟨#[]⟩, .string ⟨#[]⟩, .string ⟨tqu.toArray⟩, .string ⟨tfr.toArray⟩, .bool false, .bool false, .bool thq, .bool thf] 23)).alloc (by have := HB.out.size; rw [zz]; omega) (.cells #[.string ⟨#[]⟩, .string ⟨#[]⟩, .string ⟨#[]⟩, .string ⟨tqu.toArray⟩, .string ⟨tfr.toArray⟩, .bool false, .bool false, .bool thq, .bool thf] 23)).drew)
          have hz := KQ.out.lt
          go_wp2_with fail
          go_meet
          case rel => exact ⟨w7.heap.size, w7.heap.size + 1, rfl, rfl, by omega, by omega, by omega, RBn, RTn, ROn, KFn, KQn, P1, P2, HBn⟩
        · have RBn := hid_of (Blk.drew ((RB.out.alloc (.cells #[.string ⟨#[]⟩, .string ⟨#[]⟩, .string ⟨#[]⟩, .string ⟨tqu.toArray⟩, .string ⟨tfr.toArray⟩, .bool false, .bool false, .bool thq, .bool thf] 23)).alloc (.cells #[.string ⟨#[]⟩, .string ⟨#[]⟩, .string ⟨#[]⟩, .string ⟨tqu.toArray⟩, .string ⟨tfr.toArray⟩, .bool false, .bool false, .bool thq, .bool thf] 23)))
          have RTn := hid_of (Blk.drew ((RT.out.alloc (.cells #[.string ⟨#[]⟩, .string ⟨#[]⟩, .string ⟨#[]⟩, .string ⟨tqu.toArray⟩, .string ⟨tfr.toArray⟩, .bool false, .bool false, .bool thq, .bool thf] 23)).alloc (.cells #[.string ⟨#[]⟩, .string ⟨#[]⟩, .string ⟨#[]⟩, .string ⟨tqu.toArray⟩, .string ⟨tfr.toArray⟩, .bool false, .bool false, .bool thq, .bool thf] 23)))
          have ROn := hid_of (Blk.drew ((RO.out.alloc (.cells #[.string ⟨#[]⟩, .string ⟨#[]⟩, .string ⟨#[]⟩, .string ⟨tqu.toArray⟩, .string ⟨tfr.toArray⟩, .bool false, .bool false, .bool thq, .bool thf] 23)).alloc (.cells #[.string ⟨#[]⟩, .string ⟨#[]⟩, .string ⟨#[]⟩, .string ⟨tqu.toArray⟩, .string ⟨tfr.toArray⟩, .bool false, .bool false, .bool thq, .bool thf] 23)))
          have KFn := hid_of (Blk.drew ((KF.out.alloc (.cells #[.string ⟨#[]⟩, .string ⟨#[]⟩, .string ⟨#[]⟩, .string ⟨tqu.toArray⟩, .string ⟨tfr.toArray⟩, .bool false, .bool false, .bool thq, .bool thf] 23)).alloc (.cells #[.string ⟨#[]⟩, .string ⟨#[]⟩, .string ⟨#[]⟩, .string ⟨tqu.toArray⟩, .string ⟨tfr.toArray⟩, .bool false, .bool false, .bool thq, .bool thf] 23)))
          have KQn := hid_of (Blk.drew ((KQ.out.alloc (.cells #[.string ⟨#[]⟩, .string ⟨#[]⟩, .string ⟨#[]⟩, .string ⟨tqu.toArray⟩, .string ⟨tfr.toArray⟩, .bool false, .bool false, .bool thq, .bool thf] 23)).alloc (.cells #[.string ⟨#[]⟩, .string ⟨#[]⟩, .string ⟨#[]⟩, .string ⟨tqu.toArray⟩, .string ⟨tfr.toArray⟩, .bool false, .bool false, .bool thq, .bool thf] 23)))
          have zz : (w7.alloc (.cells #[.string ⟨#[]⟩, .string ⟨#[]⟩, .string ⟨#[]⟩, .string ⟨tqu.toArray⟩, .string ⟨tfr.toArray⟩, .bool false, .bool false, .bool thq, .bool thf] 23)).heap.size = w7.heap.size + 1 := Array.size_push _
          have P1 := hid_of (Blk.drew ((Blk.new w7 #[.string ⟨#[]⟩, .string ⟨#[]⟩, .string ⟨#[]⟩, .string ⟨tqu.toArray⟩, .string ⟨tfr.toArray⟩, .bool false, .bool false, .bool thq, .bool thf] 23).alloc (.cells #[.string ⟨#[]⟩, .string ⟨#[]⟩, .string ⟨#[]⟩, .string ⟨tqu.toArray⟩, .string ⟨tfr.toArray⟩, .bool false, .bool false, .bool thq, .bool thf] 23)))
          have P2 := hid_of (Blk.drew (Blk.new (w7.alloc (.cells #[.string ⟨#[]⟩, .string ⟨#[]⟩, .string ⟨#[]⟩, .string ⟨tqu.toArray⟩, .string ⟨tfr.toArray⟩, .bool false, .bool false, .bool thq, .bool thf] 23)) #[.string ⟨#[]⟩, .string ⟨#[]⟩, .string ⟨#[]⟩, .string ⟨tqu.toArray⟩, .string ⟨tfr.toArray⟩, .bool false, .bool false, .bool thq, .bool thf] 23))
          rw [zz] at P2
          have HBn := hid_of (((HB.out.alloc HB.out.size (.cells #[.string ⟨#[]⟩, .string ⟨#[]⟩, .string ⟨#[]⟩, .string ⟨tqu.toArray⟩, .string ⟨tfr.toArray⟩, .bool false, .bool false, .bool thq, .bool thf] 23)).alloc (by have := HB.out.size; rw [zz]; omega) (.cells #[.string ⟨#[]⟩, .string ⟨#[]⟩, .string ⟨#[]⟩, .string ⟨tqu.toArray⟩, .string ⟨tfr.toArray⟩, .bool false, .bool false, .bool thq, .bool thf] 23)).drew)
          have hz := KQ.out.lt
          go_wp2_with fail
          go_meet
          case rel => exact ⟨w7.heap.size + 1, w7.heap.size, rfl, rfl, by omega, by omega, by omega, RBn, RTn, ROn, KFn, KQn, P2, P1, HBn⟩
      case rest =>
        obtain ⟨n9, n10, rfl, rfl, q9, q10, q910, RBc, RTc, ROc, KFc, KQc, KL, KP, HBc⟩ := hcut
        clear RB RT RO KF KQ HB
        have RB := RBc
        clear RBc
        have RT := RTc
        clear RTc
        have RO := ROc
        clear ROc
        have KF := KFc
        clear KFc
        have KQ := KQc
        clear KQc
        have HB := HBc
        clear HBc
        go_upto_region 12 with fail
        obtain ⟨a0, a1, a2, a3, a4, a5, a6, a7, a8, az⟩ := RB.out.nine
        obtain ⟨b0, b1, b2, b3, b4, b5, b6, b7, b8, bz⟩ := RT.out.nine
        obtain ⟨c0, c1, c2, c3, c4, c5, c6, c7, c8, cz⟩ := RO.out.nine
        obtain ⟨d0, d1, d2, d3, d4, d5, d6, d7, d8, dz⟩ := KF.out.nine
        obtain ⟨e0, e1, e2, e3, e4, e5, e6, e7, e8, ez⟩ := KQ.out.nine
        obtain ⟨f0, f1, f2, f3, f4, f5, f6, f7, f8, fz⟩ := KL.out.nine
        obtain ⟨i0, i1, i2, i3, i4, i5, i6, i7, i8, iz⟩ := KP.out.nine
        have dd2 : wc.drew.cell? ⟨w.heap.size + 1, 2, none⟩ = some (.string ⟨tpa.toArray⟩) := b2
        go_region_held3 (fun w' => w'.cell? ⟨w.heap.size + 1, 2, none⟩ = some (.string ⟨tpa.toArray⟩)) (first | with_reducible exact dd2 | exact (cell_other (show w.heap.size + 1 ≠ n9 by omega) 2 2 _).trans b2 | exact (cell_other (show w.heap.size + 1 ≠ n10 by omega) 2 2 _).trans ((cell_other (show w.heap.size + 1 ≠ n9 by omega) 2 2 _).trans b2)) (fail)
        go_upto_region 13 with fail
        clear a0 a1 a2 a3 a4 a5 a6 a7 a8 az b0 b1 b2 b3 b4 b5 b6 b7 b8 bz c0 c1 c2 c3 c4 c5 c6 c7 c8 cz d0 d1 d2 d3 d4 d5 d6 d7 d8 dz e0 e1 e2 e3 e4 e5 e6 e7 e8 ez f0 f1 f2 f3 f4 f5 f6 f7 f8 fz i0 i1 i2 i3 i4 i5 i6 i7 i8 iz
        have RBn : Hid (Blk ((wc.setCell ⟨n9, 2, none⟩ (.string ⟨la.toArray⟩)).setCell ⟨n10, 2, none⟩ (.string ⟨tpa.toArray⟩)).drew w.heap.size #[.string ⟨bsc.toArray⟩, .string ⟨bho.toArray⟩, .string ⟨bpa.toArray⟩, .string ⟨bqu.toArray⟩, .string ⟨bfr.toArray⟩, .bool bhs, .bool bhh, .bool bhq, .bool bhf] 23) := ((RB.out.other (by omega) 2 (.string ⟨la.toArray⟩)).other (by omega) 2 (.string ⟨tpa.toArray⟩))
        have RTn : Hid (Blk ((wc.setCell ⟨n9, 2, none⟩ (.string ⟨la.toArray⟩)).setCell ⟨n10, 2, none⟩ (.string ⟨tpa.toArray⟩)).drew (w.heap.size + 1) #[.string ⟨tsc.toArray⟩, .string ⟨tho.toArray⟩, .string ⟨tpa.toArray⟩, .string ⟨tqu.toArray⟩, .string ⟨tfr.toArray⟩, .bool ths, .bool thh, .bool thq, .bool thf] 23) := ((RT.out.other (by omega) 2 (.string ⟨la.toArray⟩)).other (by omega) 2 (.string ⟨tpa.toArray⟩))
        have ROn : Hid (Blk ((wc.setCell ⟨n9, 2, none⟩ (.string ⟨la.toArray⟩)).setCell ⟨n10, 2, none⟩ (.string ⟨tpa.toArray⟩)).drew (w.heap.size + 1 + 1) #[.string ⟨#[]⟩, .string ⟨#[]⟩, .string ⟨#[]⟩, .string ⟨#[]⟩, .string ⟨#[]⟩, .bool false, .bool false, .bool false, .bool false] 23) := ((RO.out.other (by omega) 2 (.string ⟨la.toArray⟩)).other (by omega) 2 (.string ⟨tpa.toArray⟩))
        have KFn : Hid (Blk ((wc.setCell ⟨n9, 2, none⟩ (.string ⟨la.toArray⟩)).setCell ⟨n10, 2, none⟩ (.string ⟨tpa.toArray⟩)).drew n7 #[.string ⟨#[]⟩, .string ⟨#[]⟩, .string ⟨#[]⟩, .string ⟨#[]⟩, .string ⟨tfr.toArray⟩, .bool false, .bool false, .bool false, .bool thf] 23) := ((KF.out.other (by omega) 2 (.string ⟨la.toArray⟩)).other (by omega) 2 (.string ⟨tpa.toArray⟩))
        have KQn : Hid (Blk ((wc.setCell ⟨n9, 2, none⟩ (.string ⟨la.toArray⟩)).setCell ⟨n10, 2, none⟩ (.string ⟨tpa.toArray⟩)).drew n8 #[.string ⟨#[]⟩, .string ⟨#[]⟩, .string ⟨#[]⟩, .string ⟨tqu.toArray⟩, .string ⟨tfr.toArray⟩, .bool false, .bool false, .bool thq, .bool thf] 23) := ((KQ.out.other (by omega) 2 (.string ⟨la.toArray⟩)).other (by omega) 2 (.string ⟨tpa.toArray⟩))
        have KLn : Hid (Blk ((wc.setCell ⟨n9, 2, none⟩ (.string ⟨la.toArray⟩)).setCell ⟨n10, 2, none⟩ (.string ⟨tpa.toArray⟩)).drew n9 #[.string ⟨#[]⟩, .string ⟨#[]⟩, .string ⟨la.toArray⟩, .string ⟨tqu.toArray⟩, .string ⟨tfr.toArray⟩, .bool false, .bool false, .bool thq, .bool thf] 23) := ((KL.out.set 2 (.string ⟨la.toArray⟩)).other (by omega) 2 (.string ⟨tpa.toArray⟩))
        have KPn : Hid (Blk ((wc.setCell ⟨n9, 2, none⟩ (.string ⟨la.toArray⟩)).setCell ⟨n10, 2, none⟩ (.string ⟨tpa.toArray⟩)).drew n10 #[.string ⟨#[]⟩, .string ⟨#[]⟩, .string ⟨tpa.toArray⟩, .string ⟨tqu.toArray⟩, .string ⟨tfr.toArray⟩, .bool false, .bool false, .bool thq, .bool thf] 23) := ((KP.out.other (by omega) 2 (.string ⟨la.toArray⟩)).set 2 (.string ⟨tpa.toArray⟩))
        have HBn : Hid (Below w.heap.size w ((wc.setCell ⟨n9, 2, none⟩ (.string ⟨la.toArray⟩)).setCell ⟨n10, 2, none⟩ (.string ⟨tpa.toArray⟩)).drew) := (below_setCell (below_setCell HB.out (by omega) 2 (.string ⟨la.toArray⟩)) (by omega) 2 (.string ⟨tpa.toArray⟩)).drew
        clear RB RT RO KF KQ KL KP HB
        generalize ((wc.setCell ⟨n9, 2, none⟩ (.string ⟨la.toArray⟩)).setCell ⟨n10, 2, none⟩ (.string ⟨tpa.toArray⟩)).drew = w9 at *
        rename Hid (Blk _ w.heap.size _ _) => RB
        rename Hid (Blk _ (w.heap.size + 1) _ _) => RT
        rename Hid (Blk _ (w.heap.size + 1 + 1) _ _) => RO
        rename Hid (Blk _ n7 _ _) => KF
        rename Hid (Blk _ n8 _ _) => KQ
        rename Hid (Blk _ n9 _ _) => KL
        rename Hid (Blk _ n10 _ _) => KP
        rename Hid (Below w.heap.size w _) => HB
        have RBn := hid_of (RB.out.alloc (.cells #[.string ⟨#[]⟩, .string ⟨#[]⟩, .string ⟨tpa.toArray⟩, .string ⟨tqu.toArray⟩, .string ⟨tfr.toArray⟩, .bool false, .bool false, .bool thq, .bool thf] 23))
        have RTn := hid_of (RT.out.alloc (.cells #[.string ⟨#[]⟩, .string ⟨#[]⟩, .string ⟨tpa.toArray⟩, .string ⟨tqu.toArray⟩, .string ⟨tfr.toArray⟩, .bool false, .bool false, .bool thq, .bool thf] 23))
        have ROn := hid_of (RO.out.alloc (.cells #[.string ⟨#[]⟩, .string ⟨#[]⟩, .string ⟨tpa.toArray⟩, .string ⟨tqu.toArray⟩, .string ⟨tfr.toArray⟩, .bool false, .bool false, .bool thq, .bool thf] 23))
        have KFn := hid_of (KF.out.alloc (.cells #[.string ⟨#[]⟩, .string ⟨#[]⟩, .string ⟨tpa.toArray⟩, .string ⟨tqu.toArray⟩, .string ⟨tfr.toArray⟩, .bool false, .bool false, .bool thq, .bool thf] 23))
        have KQn := hid_of (KQ.out.alloc (.cells #[.string ⟨#[]⟩, .string ⟨#[]⟩, .string ⟨tpa.toArray⟩, .string ⟨tqu.toArray⟩, .string ⟨tfr.toArray⟩, .bool false, .bool false, .bool thq, .bool thf] 23))
        have KLn := hid_of (KL.out.alloc (.cells #[.string ⟨#[]⟩, .string ⟨#[]⟩, .string ⟨tpa.toArray⟩, .string ⟨tqu.toArray⟩, .string ⟨tfr.toArray⟩, .bool false, .bool false, .bool thq, .bool thf] 23))
        have KPn := hid_of (KP.out.alloc (.cells #[.string ⟨#[]⟩, .string ⟨#[]⟩, .string ⟨tpa.toArray⟩, .string ⟨tqu.toArray⟩, .string ⟨tfr.toArray⟩, .bool false, .bool false, .bool thq, .bool thf] 23))
        have KHn := hid_of (Blk.new w9 #[.string ⟨#[]⟩, .string ⟨#[]⟩, .string ⟨tpa.toArray⟩, .string ⟨tqu.toArray⟩, .string ⟨tfr.toArray⟩, .bool false, .bool false, .bool thq, .bool thf] 23)
        have HBn := hid_of (HB.out.alloc HB.out.size (.cells #[.string ⟨#[]⟩, .string ⟨#[]⟩, .string ⟨tpa.toArray⟩, .string ⟨tqu.toArray⟩, .string ⟨tfr.toArray⟩, .bool false, .bool false, .bool thq, .bool thf] 23))
        have hz := RO.out.lt
        have hzKF := KF.out.lt
        have hzKQ := KQ.out.lt
        have hzKL := KL.out.lt
        have hzKP := KP.out.lt
        obtain ⟨n11, hn⟩ : ∃ n11, w9.heap.size = n11 := ⟨_, rfl⟩
        rw [hn] at KHn hz hzKF hzKQ hzKL hzKP
        obtain ⟨a0, a1, a2, a3, a4, a5, a6, a7, a8, az⟩ := RB.out.nine
        obtain ⟨b0, b1, b2, b3, b4, b5, b6, b7, b8, bz⟩ := RT.out.nine
        obtain ⟨c0, c1, c2, c3, c4, c5, c6, c7, c8, cz⟩ := RO.out.nine
        obtain ⟨d0, d1, d2, d3, d4, d5, d6, d7, d8, dz⟩ := KF.out.nine
        obtain ⟨e0, e1, e2, e3, e4, e5, e6, e7, e8, ez⟩ := KQ.out.nine
        obtain ⟨f0, f1, f2, f3, f4, f5, f6, f7, f8, fz⟩ := KL.out.nine
        obtain ⟨i0, i1, i2, i3, i4, i5, i6, i7, i8, iz⟩ := KP.out.nine
        go_upto_region 14 with fail
        clear a0 a1 a2 a3 a4 a5 a6 a7 a8 az b0 b1 b2 b3 b4 b5 b6 b7 b8 bz c0 c1 c2 c3 c4 c5 c6 c7 c8 cz d0 d1 d2 d3 d4 d5 d6 d7 d8 dz e0 e1 e2 e3 e4 e5 e6 e7 e8 ez f0 f1 f2 f3 f4 f5 f6 f7 f8 fz i0 i1 i2 i3 i4 i5 i6 i7 i8 iz
        generalize w9.alloc (.cells #[.string ⟨#[]⟩, .string ⟨#[]⟩, .string ⟨tpa.toArray⟩, .string ⟨tqu.toArray⟩, .string ⟨tfr.toArray⟩, .bool false, .bool false, .bool thq, .bool thf] 23) = w10 at *
        have qn11 : w.heap.size + 1 + 1 < n11 := hz
        have qn11n7 : n7 < n11 := hzKF
        have qn11n8 : n8 < n11 := hzKQ
        have qn11n9 : n9 < n11 := hzKL
        have qn11n10 : n10 < n11 := hzKP
        clear hn hz hzKF hzKQ hzKL hzKP RB RT RO KF KQ KL KP HB
        rename Hid (Blk _ w.heap.size _ _) => RB
        rename Hid (Blk _ (w.heap.size + 1) _ _) => RT
        rename Hid (Blk _ (w.heap.size + 1 + 1) _ _) => RO
        rename Hid (Blk _ n7 _ _) => KF
        rename Hid (Blk _ n8 _ _) => KQ
        rename Hid (Blk _ n9 _ _) => KL
        rename Hid (Blk _ n10 _ _) => KP
        rename Hid (Blk _ n11 _ _) => KH
        rename Hid (Below w.heap.size w _) => HB
        obtain ⟨a0, a1, a2, a3, a4, a5, a6, a7, a8, az⟩ := RB.out.nine
        obtain ⟨b0, b1, b2, b3, b4, b5, b6, b7, b8, bz⟩ := RT.out.nine
        obtain ⟨c0, c1, c2, c3, c4, c5, c6, c7, c8, cz⟩ := RO.out.nine
        obtain ⟨d0, d1, d2, d3, d4, d5, d6, d7, d8, dz⟩ := KF.out.nine
        obtain ⟨e0, e1, e2, e3, e4, e5, e6, e7, e8, ez⟩ := KQ.out.nine
        obtain ⟨f0, f1, f2, f3, f4, f5, f6, f7, f8, fz⟩ := KL.out.nine
        obtain ⟨i0, i1, i2, i3, i4, i5, i6, i7, i8, iz⟩ := KP.out.nine
        obtain ⟨j0, j1, j2, j3, j4, j5, j6, j7, j8, jz⟩ := KH.out.nine
        go_region
        go_upto_region 15 with fail
        clear a0 a1 a2 a3 a4 a5 a6 a7 a8 az b0 b1 b2 b3 b4 b5 b6 b7 b8 bz c0 c1 c2 c3 c4 c5 c6 c7 c8 cz d0 d1 d2 d3 d4 d5 d6 d7 d8 dz e0 e1 e2 e3 e4 e5 e6 e7 e8 ez f0 f1 f2 f3 f4 f5 f6 f7 f8 fz i0 i1 i2 i3 i4 i5 i6 i7 i8 iz j0 j1 j2 j3 j4 j5 j6 j7 j8 jz
        have RBn : Hid (Blk ((w10.setCell ⟨n11, 1, none⟩ (.string ⟨tho.toArray⟩)).setCell ⟨n11, 6, none⟩ (.bool thh)).drew w.heap.size #[.string ⟨bsc.toArray⟩, .string ⟨bho.toArray⟩, .string ⟨bpa.toArray⟩, .string ⟨bqu.toArray⟩, .string ⟨bfr.toArray⟩, .bool bhs, .bool bhh, .bool bhq, .bool bhf] 23) := ((RB.out.other (by omega) 1 (.string ⟨tho.toArray⟩)).other (by omega) 6 (.bool thh))
        have RTn : Hid (Blk ((w10.setCell ⟨n11, 1, none⟩ (.string ⟨tho.toArray⟩)).setCell ⟨n11, 6, none⟩ (.bool thh)).drew (w.heap.size + 1) #[.string ⟨tsc.toArray⟩, .string ⟨tho.toArray⟩, .string ⟨tpa.toArray⟩, .string ⟨tqu.toArray⟩, .string ⟨tfr.toArray⟩, .bool ths, .bool thh, .bool thq, .bool thf] 23) := ((RT.out.other (by omega) 1 (.string ⟨tho.toArray⟩)).other (by omega) 6 (.bool thh))
        have ROn : Hid (Blk ((w10.setCell ⟨n11, 1, none⟩ (.string ⟨tho.toArray⟩)).setCell ⟨n11, 6, none⟩ (.bool thh)).drew (w.heap.size + 1 + 1) #[.string ⟨#[]⟩, .string ⟨#[]⟩, .string ⟨#[]⟩, .string ⟨#[]⟩, .string ⟨#[]⟩, .bool false, .bool false, .bool false, .bool false] 23) := ((RO.out.other (by omega) 1 (.string ⟨tho.toArray⟩)).other (by omega) 6 (.bool thh))
        have KFn : Hid (Blk ((w10.setCell ⟨n11, 1, none⟩ (.string ⟨tho.toArray⟩)).setCell ⟨n11, 6, none⟩ (.bool thh)).drew n7 #[.string ⟨#[]⟩, .string ⟨#[]⟩, .string ⟨#[]⟩, .string ⟨#[]⟩, .string ⟨tfr.toArray⟩, .bool false, .bool false, .bool false, .bool thf] 23) := ((KF.out.other (by omega) 1 (.string ⟨tho.toArray⟩)).other (by omega) 6 (.bool thh))
        have KQn : Hid (Blk ((w10.setCell ⟨n11, 1, none⟩ (.string ⟨tho.toArray⟩)).setCell ⟨n11, 6, none⟩ (.bool thh)).drew n8 #[.string ⟨#[]⟩, .string ⟨#[]⟩, .string ⟨#[]⟩, .string ⟨tqu.toArray⟩, .string ⟨tfr.toArray⟩, .bool false, .bool false, .bool thq, .bool thf] 23) := ((KQ.out.other (by omega) 1 (.string ⟨tho.toArray⟩)).other (by omega) 6 (.bool thh))
        have KLn : Hid (Blk ((w10.setCell ⟨n11, 1, none⟩ (.string ⟨tho.toArray⟩)).setCell ⟨n11, 6, none⟩ (.bool thh)).drew n9 #[.string ⟨#[]⟩, .string ⟨#[]⟩, .string ⟨la.toArray⟩, .string ⟨tqu.toArray⟩, .string ⟨tfr.toArray⟩, .bool false, .bool false, .bool thq, .bool thf] 23) := ((KL.out.other (by omega) 1 (.string ⟨tho.toArray⟩)).other (by omega) 6 (.bool thh))
        have KPn : Hid (Blk ((w10.setCell ⟨n11, 1, none⟩ (.string ⟨tho.toArray⟩)).setCell ⟨n11, 6, none⟩ (.bool thh)).drew n10 #[.string ⟨#[]⟩, .string ⟨#[]⟩, .string ⟨tpa.toArray⟩, .string ⟨tqu.toArray⟩, .string ⟨tfr.toArray⟩, .bool false, .bool false, .bool thq, .bool thf] 23) := ((KP.out.other (by omega) 1 (.string ⟨tho.toArray⟩)).other (by omega) 6 (.bool thh))
        have KHn : Hid (Blk ((w10.setCell ⟨n11, 1, none⟩ (.string ⟨tho.toArray⟩)).setCell ⟨n11, 6, none⟩ (.bool thh)).drew n11 #[.string ⟨#[]⟩, .string ⟨tho.toArray⟩, .string ⟨tpa.toArray⟩, .string ⟨tqu.toArray⟩, .string ⟨tfr.toArray⟩, .bool false, .bool thh, .bool thq, .bool thf] 23) := ((KH.out.set 1 (.string ⟨tho.toArray⟩)).set 6 (.bool thh))
        have HBn : Hid (Below w.heap.size w ((w10.setCell ⟨n11, 1, none⟩ (.string ⟨tho.toArray⟩)).setCell ⟨n11, 6, none⟩ (.bool thh)).drew) := (below_setCell (below_setCell HB.out (by omega) 1 (.string ⟨tho.toArray⟩)) (by omega) 6 (.bool thh)).drew
        clear RB RT RO KF KQ KL KP KH HB
        generalize ((w10.setCell ⟨n11, 1, none⟩ (.string ⟨tho.toArray⟩)).setCell ⟨n11, 6, none⟩ (.bool thh)).drew = w11 at *
        rename Hid (Blk _ w.heap.size _ _) => RB
        rename Hid (Blk _ (w.heap.size + 1) _ _) => RT
        rename Hid (Blk _ (w.heap.size + 1 + 1) _ _) => RO
        rename Hid (Blk _ n7 _ _) => KF
        rename Hid (Blk _ n8 _ _) => KQ
        rename Hid (Blk _ n9 _ _) => KL
        rename Hid (Blk _ n10 _ _) => KP
        rename Hid (Blk _ n11 _ _) => KH
        rename Hid (Below w.heap.size w _) => HB
        obtain ⟨a0, a1, a2, a3, a4, a5, a6, a7, a8, az⟩ := RB.out.nine
        obtain ⟨b0, b1, b2, b3, b4, b5, b6, b7, b8, bz⟩ := RT.out.nine
        obtain ⟨c0, c1, c2, c3, c4, c5, c6, c7, c8, cz⟩ := RO.out.nine
        obtain ⟨d0, d1, d2, d3, d4, d5, d6, d7, d8, dz⟩ := KF.out.nine
        obtain ⟨e0, e1, e2, e3, e4, e5, e6, e7, e8, ez⟩ := KQ.out.nine
        obtain ⟨f0, f1, f2, f3, f4, f5, f6, f7, f8, fz⟩ := KL.out.nine
        obtain ⟨i0, i1, i2, i3, i4, i5, i6, i7, i8, iz⟩ := KP.out.nine
        obtain ⟨j0, j1, j2, j3, j4, j5, j6, j7, j8, jz⟩ := KH.out.nine
        go_wp2_with fail
        clear a0 a1 a2 a3 a4 a5 a6 a7 a8 az b0 b1 b2 b3 b4 b5 b6 b7 b8 bz c0 c1 c2 c3 c4 c5 c6 c7 c8 cz d0 d1 d2 d3 d4 d5 d6 d7 d8 dz e0 e1 e2 e3 e4 e5 e6 e7 e8 ez f0 f1 f2 f3 f4 f5 f6 f7 f8 fz i0 i1 i2 i3 i4 i5 i6 i7 i8 iz j0 j1 j2 j3 j4 j5 j6 j7 j8 jz
        have KS := hid_of (Blk.new w11 #[.string ⟨#[]⟩, .string ⟨#[]⟩, .string ⟨#[]⟩, .string ⟨#[]⟩, .string ⟨tfr.toArray⟩, .bool false, .bool false, .bool false, .bool thf, .string ⟨#[]⟩, .string ⟨#[]⟩, .string ⟨#[]⟩, .string ⟨tqu.toArray⟩, .string ⟨tfr.toArray⟩, .bool false, .bool false, .bool thq, .bool thf, .string ⟨#[]⟩, .string ⟨#[]⟩, .string ⟨la.toArray⟩, .string ⟨tqu.toArray⟩, .string ⟨tfr.toArray⟩, .bool false, .bool false, .bool thq, .bool thf, .string ⟨#[]⟩, .string ⟨#[]⟩, .string ⟨tpa.toArray⟩, .string ⟨tqu.toArray⟩, .string ⟨tfr.toArray⟩, .bool false, .bool false, .bool thq, .bool thf, .string ⟨#[]⟩, .string ⟨tho.toArray⟩, .string ⟨tpa.toArray⟩, .string ⟨tqu.toArray⟩, .string ⟨tfr.toArray⟩, .bool false, .bool thh, .bool thq, .bool thf] 23)
        have RBn := hid_of (RB.out.alloc (.cells #[.string ⟨#[]⟩, .string ⟨#[]⟩, .string ⟨#[]⟩, .string ⟨#[]⟩, .string ⟨tfr.toArray⟩, .bool false, .bool false, .bool false, .bool thf, .string ⟨#[]⟩, .string ⟨#[]⟩, .string ⟨#[]⟩, .string ⟨tqu.toArray⟩, .string ⟨tfr.toArray⟩, .bool false, .bool false, .bool thq, .bool thf, .string ⟨#[]⟩, .string ⟨#[]⟩, .string ⟨la.toArray⟩, .string ⟨tqu.toArray⟩, .string ⟨tfr.toArray⟩, .bool false, .bool false, .bool thq, .bool thf, .string ⟨#[]⟩, .string ⟨#[]⟩, .string ⟨tpa.toArray⟩, .string ⟨tqu.toArray⟩, .string ⟨tfr.toArray⟩, .bool false, .bool false, .bool thq, .bool thf, .string ⟨#[]⟩, .string ⟨tho.toArray⟩, .string ⟨tpa.toArray⟩, .string ⟨tqu.toArray⟩, .string ⟨tfr.toArray⟩, .bool false, .bool thh, .bool thq, .bool thf] 23))
        have RTn := hid_of (RT.out.alloc (.cells #[.string ⟨#[]⟩, .string ⟨#[]⟩, .string ⟨#[]⟩, .string ⟨#[]⟩, .string ⟨tfr.toArray⟩, .bool false, .bool false, .bool false, .bool thf, .string ⟨#[]⟩, .string ⟨#[]⟩, .string ⟨#[]⟩, .string ⟨tqu.toArray⟩, .string ⟨tfr.toArray⟩, .bool false, .bool false, .bool thq, .bool thf, .string ⟨#[]⟩, .string ⟨#[]⟩, .string ⟨la.toArray⟩, .string ⟨tqu.toArray⟩, .string ⟨tfr.toArray⟩, .bool false, .bool false, .bool thq, .bool thf, .string ⟨#[]⟩, .string ⟨#[]⟩, .string ⟨tpa.toArray⟩, .string ⟨tqu.toArray⟩, .string ⟨tfr.toArray⟩, .bool false, .bool false, .bool thq, .bool thf, .string ⟨#[]⟩, .string ⟨tho.toArray⟩, .string ⟨tpa.toArray⟩, .string ⟨tqu.toArray⟩, .string ⟨tfr.toArray⟩, .bool false, .bool thh, .bool thq, .bool thf] 23))
        have ROn := hid_of (RO.out.alloc (.cells #[.string ⟨#[]⟩, .string ⟨#[]⟩, .string ⟨#[]⟩, .string ⟨#[]⟩, .string ⟨tfr.toArray⟩, .bool false, .bool false, .bool false, .bool thf, .string ⟨#[]⟩, .string ⟨#[]⟩, .string ⟨#[]⟩, .string ⟨tqu.toArray⟩, .string ⟨tfr.toArray⟩, .bool false, .bool false, .bool thq, .bool thf, .string ⟨#[]⟩, .string ⟨#[]⟩, .string ⟨la.toArray⟩, .string ⟨tqu.toArray⟩, .string ⟨tfr.toArray⟩, .bool false, .bool false, .bool thq, .bool thf, .string ⟨#[]⟩, .string ⟨#[]⟩, .string ⟨tpa.toArray⟩, .string ⟨tqu.toArray⟩, .string ⟨tfr.toArray⟩, .bool false, .bool false, .bool thq, .bool thf, .string ⟨#[]⟩, .string ⟨tho.toArray⟩, .string ⟨tpa.toArray⟩, .string ⟨tqu.toArray⟩, .string ⟨tfr.toArray⟩, .bool false, .bool thh, .bool thq, .bool thf] 23))
        have HBn := hid_of (HB.out.alloc HB.out.size (.cells #[.string ⟨#[]⟩, .string ⟨#[]⟩, .string ⟨#[]⟩, .string ⟨#[]⟩, .string ⟨tfr.toArray⟩, .bool false, .bool false, .bool false, .bool thf, .string ⟨#[]⟩, .string ⟨#[]⟩, .string ⟨#[]⟩, .string ⟨tqu.toArray⟩, .string ⟨tfr.toArray⟩, .bool false, .bool false, .bool thq, .bool thf, .string ⟨#[]⟩, .string ⟨#[]⟩, .string ⟨la.toArray⟩, .string ⟨tqu.toArray⟩, .string ⟨tfr.toArray⟩, .bool false, .bool false, .bool thq, .bool thf, .string ⟨#[]⟩, .string ⟨#[]⟩, .string ⟨tpa.toArray⟩, .string ⟨tqu.toArray⟩, .string ⟨tfr.toArray⟩, .bool false, .bool false, .bool thq, .bool thf, .string ⟨#[]⟩, .string ⟨tho.toArray⟩, .string ⟨tpa.toArray⟩, .string ⟨tqu.toArray⟩, .string ⟨tfr.toArray⟩, .bool false, .bool thh, .bool thq, .bool thf] 23))
        have hzs := RO.out.lt
        obtain ⟨ns, hns⟩ : ∃ ns, w11.heap.size = ns := ⟨_, rfl⟩
        rw [hns] at KS hzs ⊢
        generalize w11.alloc (.cells #[.string ⟨#[]⟩, .string ⟨#[]⟩, .string ⟨#[]⟩, .string ⟨#[]⟩, .string ⟨tfr.toArray⟩, .bool false, .bool false, .bool false, .bool thf, .string ⟨#[]⟩, .string ⟨#[]⟩, .string ⟨#[]⟩, .string ⟨tqu.toArray⟩, .string ⟨tfr.toArray⟩, .bool false, .bool false, .bool thq, .bool thf, .string ⟨#[]⟩, .string ⟨#[]⟩, .string ⟨la.toArray⟩, .string ⟨tqu.toArray⟩, .string ⟨tfr.toArray⟩, .bool false, .bool false, .bool thq, .bool thf, .string ⟨#[]⟩, .string ⟨#[]⟩, .string ⟨tpa.toArray⟩, .string ⟨tqu.toArray⟩, .string ⟨tfr.toArray⟩, .bool false, .bool false, .bool thq, .bool thf, .string ⟨#[]⟩, .string ⟨tho.toArray⟩, .string ⟨tpa.toArray⟩, .string ⟨tqu.toArray⟩, .string ⟨tfr.toArray⟩, .bool false, .bool thh, .bool thq, .bool thf] 23) = w14 at *
        clear RB RT RO HB hns
        rename Hid (Blk _ w.heap.size _ _) => RB
        rename Hid (Blk _ (w.heap.size + 1) _ _) => RT
        rename Hid (Blk _ (w.heap.size + 1 + 1) _ _) => RO
        rename Hid (Below w.heap.size w _) => HB
        go_loopw [64] (fun vi wr => ∃ k : Nat, k ≤ 5 ∧ vi = .int .i64 k ∧ Hid (Below w14.heap.size w14 wr) ∧ Hid ((1 ≤ k → T1 = false) ∧ (2 ≤ k → T2 = false) ∧ (3 ≤ k → T3 = false) ∧ (4 ≤ k → T4 = false) ∧ (5 ≤ k → T5 = false))) (fun vi _ => 5 - (intOf vi).toNat)
        case atStart => exact ⟨0, by omega, rfl, Below.refl _ _, ⟨fun h => by omega, fun h => by omega, fun h => by omega, fun h => by omega, fun h => by omega⟩⟩
        case round =>
          obtain ⟨k, hk, rfl, hB, hP⟩ := hrel
          rcases (show k = 0 ∨ k = 1 ∨ k = 2 ∨ k = 3 ∨ k = 4 ∨ k = 5 by omega) with rfl | rfl | rfl | rfl | rfl | rfl
          · have RBr := hid_of ((RB.out.below hB.out).alloc (.cells #[.string ⟨#[]⟩, .string ⟨#[]⟩, .string ⟨#[]⟩, .string ⟨#[]⟩, .string ⟨tfr.toArray⟩, .bool false, .bool false, .bool false, .bool thf] 23))
            have RTr := hid_of ((RT.out.below hB.out).alloc (.cells #[.string ⟨#[]⟩, .string ⟨#[]⟩, .string ⟨#[]⟩, .string ⟨#[]⟩, .string ⟨tfr.toArray⟩, .bool false, .bool false, .bool false, .bool thf] 23))
            have ROr := hid_of ((RO.out.below hB.out).alloc (.cells #[.string ⟨#[]⟩, .string ⟨#[]⟩, .string ⟨#[]⟩, .string ⟨#[]⟩, .string ⟨tfr.toArray⟩, .bool false, .bool false, .bool false, .bool thf] 23))
            have KNr := hid_of (Blk.new wr #[.string ⟨#[]⟩, .string ⟨#[]⟩, .string ⟨#[]⟩, .string ⟨#[]⟩, .string ⟨tfr.toArray⟩, .bool false, .bool false, .bool false, .bool thf] 23)
            have HBr0 := hid_of (HB.out.trans (hB.out.mono HB.out.size))
            have HBr := hid_of (HBr0.out.alloc HBr0.out.size (.cells #[.string ⟨#[]⟩, .string ⟨#[]⟩, .string ⟨#[]⟩, .string ⟨#[]⟩, .string ⟨tfr.toArray⟩, .bool false, .bool false, .bool false, .bool thf] 23))
            have HBq := hid_of (hB.out.alloc hB.out.size (.cells #[.string ⟨#[]⟩, .string ⟨#[]⟩, .string ⟨#[]⟩, .string ⟨#[]⟩, .string ⟨tfr.toArray⟩, .bool false, .bool false, .bool false, .bool thf] 23))
            have hzr := (RO.out.below hB.out).lt
            have KSr := KS.out.below hB.out
            have k0 := KSr.cell 0
            have k1 := KSr.cell 1
            have k2 := KSr.cell 2
            have k3 := KSr.cell 3
            have k4 := KSr.cell 4
            have k5 := KSr.cell 5
            have k6 := KSr.cell 6
            have k7 := KSr.cell 7
            have k8 := KSr.cell 8
            clear KSr
            go_upto_region 18 with fail
            clear k0 k1 k2 k3 k4 k5 k6 k7 k8
            obtain ⟨nr, hnr⟩ : ∃ nr, wr.heap.size = nr := ⟨_, rfl⟩
            rw [hnr] at KNr hzr ⊢
            generalize wr.alloc (.cells #[.string ⟨#[]⟩, .string ⟨#[]⟩, .string ⟨#[]⟩, .string ⟨#[]⟩, .string ⟨tfr.toArray⟩, .bool false, .bool false, .bool false, .bool thf] 23) = ws at *
            clear hnr HBr0
            have D : ∀ d os, Below ws.heap.size ws (Go.Sort.grow (redrawn ws d) os) := fun d os => below_regrown ws d os
            have D' : ∀ d os, Below w.heap.size w (Go.Sort.grow (redrawn ws d) os) := fun d os => HBr.out.trans ((D d os).mono HBr.out.size)
            have x0 := cell_againR RBr.out 0 _ rfl
            have x1 := cell_againR RBr.out 1 _ rfl
            have x2 := cell_againR RBr.out 2 _ rfl
            have x3 := cell_againR RBr.out 3 _ rfl
            have x4 := cell_againR RBr.out 4 _ rfl
            have x5 := cell_againR RBr.out 5 _ rfl
            have x6 := cell_againR RBr.out 6 _ rfl
            have x7 := cell_againR RBr.out 7 _ rfl
            have x8 := cell_againR RBr.out 8 _ rfl
            have y0 := cell_againR RTr.out 0 _ rfl
            have y1 := cell_againR RTr.out 1 _ rfl
            have y2 := cell_againR RTr.out 2 _ rfl
            have y3 := cell_againR RTr.out 3 _ rfl
            have y4 := cell_againR RTr.out 4 _ rfl
            have y5 := cell_againR RTr.out 5 _ rfl
            have y6 := cell_againR RTr.out 6 _ rfl
            have y7 := cell_againR RTr.out 7 _ rfl
            have y8 := cell_againR RTr.out 8 _ rfl
            have u0 := cell_againR KNr.out 0 _ rfl
            have u1 := cell_againR KNr.out 1 _ rfl
            have u2 := cell_againR KNr.out 2 _ rfl
            have u3 := cell_againR KNr.out 3 _ rfl
            have u4 := cell_againR KNr.out 4 _ rfl
            have u5 := cell_againR KNr.out 5 _ rfl
            have u6 := cell_againR KNr.out 6 _ rfl
            have u7 := cell_againR KNr.out 7 _ rfl
            have u8 := cell_againR KNr.out 8 _ rfl
            have q1 : ∀ d os, Calls Tryd.prog 8 #[.agg #[.string ⟨bsc.toArray⟩, .string ⟨bho.toArray⟩, .string ⟨bpa.toArray⟩, .string ⟨bqu.toArray⟩, .string ⟨bfr.toArray⟩, .bool bhs, .bool bhh, .bool bhq, .bool bhf], .agg #[.string ⟨#[]⟩, .string ⟨#[]⟩, .string ⟨#[]⟩, .string ⟨#[]⟩, .string ⟨tfr.toArray⟩, .bool false, .bool false, .bool false, .bool thf]] (Go.Sort.grow (redrawn ws d) os) fun e w'' => e = .returned X1 ∧ ∃ p : Regrown, w'' = Go.Sort.grow (redrawn ws p.d) p.os := fun d os => Calls.regrown_of (HR1.out _)
            cases hc : T1
            case' true => have HC := hid_of hc
            case' false => have HC := hid_of hc
            all_goals rw [hc] at z1
            all_goals clear hc
            all_goals refine wp_region_quiet_below mixed (by kernel_rfl) ?_
            all_goals repeat (go_big_quiet_step (first | with_reducible exact q1 _ _))
            all_goals refine wpQuiet_nil ?_
            all_goals intro _ hw'
            all_goals obtain ⟨⟨dq, osq⟩, hw''⟩ := hw'
            all_goals have hd := D dq osq
            all_goals rw [← hw''] at hd
            all_goals clear hw'' D D' q1 x0 x1 x2 x3 x4 x5 x6 x7 x8 y0 y1 y2 y3 y4 y5 y6 y7 y8 u0 u1 u2 u3 u4 u5 u6 u7 u8
            all_goals rename_i wq
            all_goals have HKq := hid_of (KNr.out.below hd)
            all_goals have HOq := hid_of (ROr.out.below hd)
            all_goals have HBw := hid_of (HBr.out.trans (hd.mono HBr.out.size))
            all_goals have HBz := hid_of (HBq.out.trans (hd.mono HBq.out.size))
            all_goals obtain ⟨d0, d1, d2, d3, d4, d5, d6, d7, d8, dz⟩ := HKq.out.nine
            all_goals obtain ⟨f0, f1, f2, f3, f4, f5, f6, f7, f8, fz⟩ := HOq.out.nine
            all_goals go_wp2_with fail
            all_goals first
              | exact bodyPost_ret (results_rrelative rfl (Blk.put9 HOq.out _ _ _ _ _ _ _ _ _)) rfl ⟨congrArg Ending.returned (HE1.out  HC.out), below_put9 HBw.out (by omega) _ _ _ _ _ _ _ _ _⟩
              | exact ⟨⟨1, by omega, by go_num, HBz, ⟨fun _ => HC.out, fun h => absurd h (by omega), fun h => absurd h (by omega), fun h => absurd h (by omega), fun h => absurd h (by omega)⟩⟩, by simp [intOf]⟩
          · have RBr := hid_of ((RB.out.below hB.out).alloc (.cells #[.string ⟨#[]⟩, .string ⟨#[]⟩, .string ⟨#[]⟩, .string ⟨tqu.toArray⟩, .string ⟨tfr.toArray⟩, .bool false, .bool false, .bool thq, .bool thf] 23))
            have RTr := hid_of ((RT.out.below hB.out).alloc (.cells #[.string ⟨#[]⟩, .string ⟨#[]⟩, .string ⟨#[]⟩, .string ⟨tqu.toArray⟩, .string ⟨tfr.toArray⟩, .bool false, .bool false, .bool thq, .bool thf] 23))
            have ROr := hid_of ((RO.out.below hB.out).alloc (.cells #[.string ⟨#[]⟩, .string ⟨#[]⟩, .string ⟨#[]⟩, .string ⟨tqu.toArray⟩, .string ⟨tfr.toArray⟩, .bool false, .bool false, .bool thq, .bool thf] 23))
            have KNr := hid_of (Blk.new wr #[.string ⟨#[]⟩, .string ⟨#[]⟩, .string ⟨#[]⟩, .string ⟨tqu.toArray⟩, .string ⟨tfr.toArray⟩, .bool false, .bool false, .bool thq, .bool thf] 23)
            have HBr0 := hid_of (HB.out.trans (hB.out.mono HB.out.size))
            have HBr := hid_of (HBr0.out.alloc HBr0.out.size (.cells #[.string ⟨#[]⟩, .string ⟨#[]⟩, .string ⟨#[]⟩, .string ⟨tqu.toArray⟩, .string ⟨tfr.toArray⟩, .bool false, .bool false, .bool thq, .bool thf] 23))
            have HBq := hid_of (hB.out.alloc hB.out.size (.cells #[.string ⟨#[]⟩, .string ⟨#[]⟩, .string ⟨#[]⟩, .string ⟨tqu.toArray⟩, .string ⟨tfr.toArray⟩, .bool false, .bool false, .bool thq, .bool thf] 23))
            have hzr := (RO.out.below hB.out).lt
            have KSr := KS.out.below hB.out
            have k0 := KSr.cell 9
            have k1 := KSr.cell 10
            have k2 := KSr.cell 11
            have k3 := KSr.cell 12
            have k4 := KSr.cell 13
            have k5 := KSr.cell 14
            have k6 := KSr.cell 15
            have k7 := KSr.cell 16
            have k8 := KSr.cell 17
            clear KSr
            go_upto_region 18 with fail
            clear k0 k1 k2 k3 k4 k5 k6 k7 k8
            obtain ⟨nr, hnr⟩ : ∃ nr, wr.heap.size = nr := ⟨_, rfl⟩
            rw [hnr] at KNr hzr ⊢
            generalize wr.alloc (.cells #[.string ⟨#[]⟩, .string ⟨#[]⟩, .string ⟨#[]⟩, .string ⟨tqu.toArray⟩, .string ⟨tfr.toArray⟩, .bool false, .bool false, .bool thq, .bool thf] 23) = ws at *
            clear hnr HBr0
            have D : ∀ d os, Below ws.heap.size ws (Go.Sort.grow (redrawn ws d) os) := fun d os => below_regrown ws d os
            have D' : ∀ d os, Below w.heap.size w (Go.Sort.grow (redrawn ws d) os) := fun d os => HBr.out.trans ((D d os).mono HBr.out.size)
            have x0 := cell_againR RBr.out 0 _ rfl
            have x1 := cell_againR RBr.out 1 _ rfl
            have x2 := cell_againR RBr.out 2 _ rfl
            have x3 := cell_againR RBr.out 3 _ rfl
            have x4 := cell_againR RBr.out 4 _ rfl
            have x5 := cell_againR RBr.out 5 _ rfl
            have x6 := cell_againR RBr.out 6 _ rfl
            have x7 := cell_againR RBr.out 7 _ rfl
            have x8 := cell_againR RBr.out 8 _ rfl
            have y0 := cell_againR RTr.out 0 _ rfl
            have y1 := cell_againR RTr.out 1 _ rfl
            have y2 := cell_againR RTr.out 2 _ rfl
            have y3 := cell_againR RTr.out 3 _ rfl
            have y4 := cell_againR RTr.out 4 _ rfl
            have y5 := cell_againR RTr.out 5 _ rfl
            have y6 := cell_againR RTr.out 6 _ rfl
            have y7 := cell_againR RTr.out 7 _ rfl
            have y8 := cell_againR RTr.out 8 _ rfl
            have u0 := cell_againR KNr.out 0 _ rfl
            have u1 := cell_againR KNr.out 1 _ rfl
            have u2 := cell_againR KNr.out 2 _ rfl
            have u3 := cell_againR KNr.out 3 _ rfl
            have u4 := cell_againR KNr.out 4 _ rfl
            have u5 := cell_againR KNr.out 5 _ rfl
            have u6 := cell_againR KNr.out 6 _ rfl
            have u7 := cell_againR KNr.out 7 _ rfl
            have u8 := cell_againR KNr.out 8 _ rfl
            have q1 : ∀ d os, Calls Tryd.prog 8 #[.agg #[.string ⟨bsc.toArray⟩, .string ⟨bho.toArray⟩, .string ⟨bpa.toArray⟩, .string ⟨bqu.toArray⟩, .string ⟨bfr.toArray⟩, .bool bhs, .bool bhh, .bool bhq, .bool bhf], .agg #[.string ⟨#[]⟩, .string ⟨#[]⟩, .string ⟨#[]⟩, .string ⟨tqu.toArray⟩, .string ⟨tfr.toArray⟩, .bool false, .bool false, .bool thq, .bool thf]] (Go.Sort.grow (redrawn ws d) os) fun e w'' => e = .returned X2 ∧ ∃ p : Regrown, w'' = Go.Sort.grow (redrawn ws p.d) p.os := fun d os => Calls.regrown_of (HR2.out _)
            cases hc : T2
            case' true => have HC := hid_of hc
            case' false => have HC := hid_of hc
            all_goals rw [hc] at z2
            all_goals clear hc
            all_goals refine wp_region_quiet_below mixed (by kernel_rfl) ?_
            all_goals repeat (go_big_quiet_step (first | with_reducible exact q1 _ _))
            all_goals refine wpQuiet_nil ?_
            all_goals intro _ hw'
            all_goals obtain ⟨⟨dq, osq⟩, hw''⟩ := hw'
            all_goals have hd := D dq osq
            all_goals rw [← hw''] at hd
            all_goals clear hw'' D D' q1 x0 x1 x2 x3 x4 x5 x6 x7 x8 y0 y1 y2 y3 y4 y5 y6 y7 y8 u0 u1 u2 u3 u4 u5 u6 u7 u8
            all_goals rename_i wq
            all_goals have HKq := hid_of (KNr.out.below hd)
            all_goals have HOq := hid_of (ROr.out.below hd)
            all_goals have HBw := hid_of (HBr.out.trans (hd.mono HBr.out.size))
            all_goals have HBz := hid_of (HBq.out.trans (hd.mono HBq.out.size))
            all_goals obtain ⟨d0, d1, d2, d3, d4, d5, d6, d7, d8, dz⟩ := HKq.out.nine
            all_goals obtain ⟨f0, f1, f2, f3, f4, f5, f6, f7, f8, fz⟩ := HOq.out.nine
            all_goals go_wp2_with fail
            all_goals first
              | exact bodyPost_ret (results_rrelative rfl (Blk.put9 HOq.out _ _ _ _ _ _ _ _ _)) rfl ⟨congrArg Ending.returned (HE2.out (hP.out.1 (by omega)) HC.out), below_put9 HBw.out (by omega) _ _ _ _ _ _ _ _ _⟩
              | exact ⟨⟨2, by omega, by go_num, HBz, ⟨fun _ => hP.out.1 (by omega), fun _ => HC.out, fun h => absurd h (by omega), fun h => absurd h (by omega), fun h => absurd h (by omega)⟩⟩, by simp [intOf]⟩
          · have RBr := hid_of ((RB.out.below hB.out).alloc (.cells #[.string ⟨#[]⟩, .string ⟨#[]⟩, .string ⟨la.toArray⟩, .string ⟨tqu.toArray⟩, .string ⟨tfr.toArray⟩, .bool false, .bool false, .bool thq, .bool thf] 23))
            have RTr := hid_of ((RT.out.below hB.out).alloc (.cells #[.string ⟨#[]⟩, .string ⟨#[]⟩, .string ⟨la.toArray⟩, .string ⟨tqu.toArray⟩, .string ⟨tfr.toArray⟩, .bool false, .bool false, .bool thq, .bool thf] 23))
            have ROr := hid_of ((RO.out.below hB.out).alloc (.cells #[.string ⟨#[]⟩, .string ⟨#[]⟩, .string ⟨la.toArray⟩, .string ⟨tqu.toArray⟩, .string ⟨tfr.toArray⟩, .bool false, .bool false, .bool thq, .bool thf] 23))
            have KNr := hid_of (Blk.new wr #[.string ⟨#[]⟩, .string ⟨#[]⟩, .string ⟨la.toArray⟩, .string ⟨tqu.toArray⟩, .string ⟨tfr.toArray⟩, .bool false, .bool false, .bool thq, .bool thf] 23)
            have HBr0 := hid_of (HB.out.trans (hB.out.mono HB.out.size))
            have HBr := hid_of (HBr0.out.alloc HBr0.out.size (.cells #[.string ⟨#[]⟩, .string ⟨#[]⟩, .string ⟨la.toArray⟩, .string ⟨tqu.toArray⟩, .string ⟨tfr.toArray⟩, .bool false, .bool false, .bool thq, .bool thf] 23))
            have HBq := hid_of (hB.out.alloc hB.out.size (.cells #[.string ⟨#[]⟩, .string ⟨#[]⟩, .string ⟨la.toArray⟩, .string ⟨tqu.toArray⟩, .string ⟨tfr.toArray⟩, .bool false, .bool false, .bool thq, .bool thf] 23))
            have hzr := (RO.out.below hB.out).lt
            have KSr := KS.out.below hB.out
            have k0 := KSr.cell 18
            have k1 := KSr.cell 19
            have k2 := KSr.cell 20
            have k3 := KSr.cell 21
            have k4 := KSr.cell 22
            have k5 := KSr.cell 23
            have k6 := KSr.cell 24
            have k7 := KSr.cell 25
            have k8 := KSr.cell 26
            clear KSr
            go_upto_region 18 with fail
            clear k0 k1 k2 k3 k4 k5 k6 k7 k8
            obtain ⟨nr, hnr⟩ : ∃ nr, wr.heap.size = nr := ⟨_, rfl⟩
            rw [hnr] at KNr hzr ⊢
            generalize wr.alloc (.cells #[.string ⟨#[]⟩, .string ⟨#[]⟩, .string ⟨la.toArray⟩, .string ⟨tqu.toArray⟩, .string ⟨tfr.toArray⟩, .bool false, .bool false, .bool thq, .bool thf] 23) = ws at *
            clear hnr HBr0
            have D : ∀ d os, Below ws.heap.size ws (Go.Sort.grow (redrawn ws d) os) := fun d os => below_regrown ws d os
            have D' : ∀ d os, Below w.heap.size w (Go.Sort.grow (redrawn ws d) os) := fun d os => HBr.out.trans ((D d os).mono HBr.out.size)
            have x0 := cell_againR RBr.out 0 _ rfl
            have x1 := cell_againR RBr.out 1 _ rfl
            have x2 := cell_againR RBr.out 2 _ rfl
            have x3 := cell_againR RBr.out 3 _ rfl
            have x4 := cell_againR RBr.out 4 _ rfl
            have x5 := cell_againR RBr.out 5 _ rfl
            have x6 := cell_againR RBr.out 6 _ rfl
            have x7 := cell_againR RBr.out 7 _ rfl
            have x8 := cell_againR RBr.out 8 _ rfl
            have y0 := cell_againR RTr.out 0 _ rfl
            have y1 := cell_againR RTr.out 1 _ rfl
            have y2 := cell_againR RTr.out 2 _ rfl
            have y3 := cell_againR RTr.out 3 _ rfl
            have y4 := cell_againR RTr.out 4 _ rfl
            have y5 := cell_againR RTr.out 5 _ rfl
            have y6 := cell_againR RTr.out 6 _ rfl
            have y7 := cell_againR RTr.out 7 _ rfl
            have y8 := cell_againR RTr.out 8 _ rfl
            have u0 := cell_againR KNr.out 0 _ rfl
            have u1 := cell_againR KNr.out 1 _ rfl
            have u2 := cell_againR KNr.out 2 _ rfl
            have u3 := cell_againR KNr.out 3 _ rfl
            have u4 := cell_againR KNr.out 4 _ rfl
            have u5 := cell_againR KNr.out 5 _ rfl
            have u6 := cell_againR KNr.out 6 _ rfl
            have u7 := cell_againR KNr.out 7 _ rfl
            have u8 := cell_againR KNr.out 8 _ rfl
            have q1 : ∀ d os, Calls Tryd.prog 8 #[.agg #[.string ⟨bsc.toArray⟩, .string ⟨bho.toArray⟩, .string ⟨bpa.toArray⟩, .string ⟨bqu.toArray⟩, .string ⟨bfr.toArray⟩, .bool bhs, .bool bhh, .bool bhq, .bool bhf], .agg #[.string ⟨#[]⟩, .string ⟨#[]⟩, .string ⟨la.toArray⟩, .string ⟨tqu.toArray⟩, .string ⟨tfr.toArray⟩, .bool false, .bool false, .bool thq, .bool thf]] (Go.Sort.grow (redrawn ws d) os) fun e w'' => e = .returned X3 ∧ ∃ p : Regrown, w'' = Go.Sort.grow (redrawn ws p.d) p.os := fun d os => Calls.regrown_of (HR3.out _)
            cases hc : T3
            case' true => have HC := hid_of hc
            case' false => have HC := hid_of hc
            all_goals rw [hc] at z3
            all_goals clear hc
            all_goals refine wp_region_quiet_below mixed (by kernel_rfl) ?_
            all_goals repeat (go_big_quiet_step (first | with_reducible exact q1 _ _))
            all_goals refine wpQuiet_nil ?_
            all_goals intro _ hw'
            all_goals obtain ⟨⟨dq, osq⟩, hw''⟩ := hw'
            all_goals have hd := D dq osq
            all_goals rw [← hw''] at hd
            all_goals clear hw'' D D' q1 x0 x1 x2 x3 x4 x5 x6 x7 x8 y0 y1 y2 y3 y4 y5 y6 y7 y8 u0 u1 u2 u3 u4 u5 u6 u7 u8
            all_goals rename_i wq
            all_goals have HKq := hid_of (KNr.out.below hd)
            all_goals have HOq := hid_of (ROr.out.below hd)
            all_goals have HBw := hid_of (HBr.out.trans (hd.mono HBr.out.size))
            all_goals have HBz := hid_of (HBq.out.trans (hd.mono HBq.out.size))
            all_goals obtain ⟨d0, d1, d2, d3, d4, d5, d6, d7, d8, dz⟩ := HKq.out.nine
            all_goals obtain ⟨f0, f1, f2, f3, f4, f5, f6, f7, f8, fz⟩ := HOq.out.nine
            all_goals go_wp2_with fail
            all_goals first
              | exact bodyPost_ret (results_rrelative rfl (Blk.put9 HOq.out _ _ _ _ _ _ _ _ _)) rfl ⟨congrArg Ending.returned (HE3.out (hP.out.1 (by omega)) (hP.out.2.1 (by omega)) HC.out), below_put9 HBw.out (by omega) _ _ _ _ _ _ _ _ _⟩
              | exact ⟨⟨3, by omega, by go_num, HBz, ⟨fun _ => hP.out.1 (by omega), fun _ => hP.out.2.1 (by omega), fun _ => HC.out, fun h => absurd h (by omega), fun h => absurd h (by omega)⟩⟩, by simp [intOf]⟩
          · have RBr := hid_of ((RB.out.below hB.out).alloc (.cells #[.string ⟨#[]⟩, .string ⟨#[]⟩, .string ⟨tpa.toArray⟩, .string ⟨tqu.toArray⟩, .string ⟨tfr.toArray⟩, .bool false, .bool false, .bool thq, .bool thf] 23))
            have RTr := hid_of ((RT.out.below hB.out).alloc (.cells #[.string ⟨#[]⟩, .string ⟨#[]⟩, .string ⟨tpa.toArray⟩, .string ⟨tqu.toArray⟩, .string ⟨tfr.toArray⟩, .bool false, .bool false, .bool thq, .bool thf] 23))
            have ROr := hid_of ((RO.out.below hB.out).alloc (.cells #[.string ⟨#[]⟩, .string ⟨#[]⟩, .string ⟨tpa.toArray⟩, .string ⟨tqu.toArray⟩, .string ⟨tfr.toArray⟩, .bool false, .bool false, .bool thq, .bool thf] 23))
            have KNr := hid_of (Blk.new wr #[.string ⟨#[]⟩, .string ⟨#[]⟩, .string ⟨tpa.toArray⟩, .string ⟨tqu.toArray⟩, .string ⟨tfr.toArray⟩, .bool false, .bool false, .bool thq, .bool thf] 23)
            have HBr0 := hid_of (HB.out.trans (hB.out.mono HB.out.size))
            have HBr := hid_of (HBr0.out.alloc HBr0.out.size (.cells #[.string ⟨#[]⟩, .string ⟨#[]⟩, .string ⟨tpa.toArray⟩, .string ⟨tqu.toArray⟩, .string ⟨tfr.toArray⟩, .bool false, .bool false, .bool thq, .bool thf] 23))
            have HBq := hid_of (hB.out.alloc hB.out.size (.cells #[.string ⟨#[]⟩, .string ⟨#[]⟩, .string ⟨tpa.toArray⟩, .string ⟨tqu.toArray⟩, .string ⟨tfr.toArray⟩, .bool false, .bool false, .bool thq, .bool thf] 23))
            have hzr := (RO.out.below hB.out).lt
            have KSr := KS.out.below hB.out
            have k0 := KSr.cell 27
            have k1 := KSr.cell 28
            have k2 := KSr.cell 29
            have k3 := KSr.cell 30
            have k4 := KSr.cell 31
            have k5 := KSr.cell 32
            have k6 := KSr.cell 33
            have k7 := KSr.cell 34
            have k8 := KSr.cell 35
            clear KSr
            go_upto_region 18 with fail
            clear k0 k1 k2 k3 k4 k5 k6 k7 k8
            obtain ⟨nr, hnr⟩ : ∃ nr, wr.heap.size = nr := ⟨_, rfl⟩
            rw [hnr] at KNr hzr ⊢
            generalize wr.alloc (.cells #[.string ⟨#[]⟩, .string ⟨#[]⟩, .string ⟨tpa.toArray⟩, .string ⟨tqu.toArray⟩, .string ⟨tfr.toArray⟩, .bool false, .bool false, .bool thq, .bool thf] 23) = ws at *
            clear hnr HBr0
            have D : ∀ d os, Below ws.heap.size ws (Go.Sort.grow (redrawn ws d) os) := fun d os => below_regrown ws d os
            have D' : ∀ d os, Below w.heap.size w (Go.Sort.grow (redrawn ws d) os) := fun d os => HBr.out.trans ((D d os).mono HBr.out.size)
            have x0 := cell_againR RBr.out 0 _ rfl
            have x1 := cell_againR RBr.out 1 _ rfl
            have x2 := cell_againR RBr.out 2 _ rfl
            have x3 := cell_againR RBr.out 3 _ rfl
            have x4 := cell_againR RBr.out 4 _ rfl
            have x5 := cell_againR RBr.out 5 _ rfl
            have x6 := cell_againR RBr.out 6 _ rfl
            have x7 := cell_againR RBr.out 7 _ rfl
            have x8 := cell_againR RBr.out 8 _ rfl
            have y0 := cell_againR RTr.out 0 _ rfl
            have y1 := cell_againR RTr.out 1 _ rfl
            have y2 := cell_againR RTr.out 2 _ rfl
            have y3 := cell_againR RTr.out 3 _ rfl
            have y4 := cell_againR RTr.out 4 _ rfl
            have y5 := cell_againR RTr.out 5 _ rfl
            have y6 := cell_againR RTr.out 6 _ rfl
            have y7 := cell_againR RTr.out 7 _ rfl
            have y8 := cell_againR RTr.out 8 _ rfl
            have u0 := cell_againR KNr.out 0 _ rfl
            have u1 := cell_againR KNr.out 1 _ rfl
            have u2 := cell_againR KNr.out 2 _ rfl
            have u3 := cell_againR KNr.out 3 _ rfl
            have u4 := cell_againR KNr.out 4 _ rfl
            have u5 := cell_againR KNr.out 5 _ rfl
            have u6 := cell_againR KNr.out 6 _ rfl
            have u7 := cell_againR KNr.out 7 _ rfl
            have u8 := cell_againR KNr.out 8 _ rfl
            have q1 : ∀ d os, Calls Tryd.prog 8 #[.agg #[.string ⟨bsc.toArray⟩, .string ⟨bho.toArray⟩, .string ⟨bpa.toArray⟩, .string ⟨bqu.toArray⟩, .string ⟨bfr.toArray⟩, .bool bhs, .bool bhh, .bool bhq, .bool bhf], .agg #[.string ⟨#[]⟩, .string ⟨#[]⟩, .string ⟨tpa.toArray⟩, .string ⟨tqu.toArray⟩, .string ⟨tfr.toArray⟩, .bool false, .bool false, .bool thq, .bool thf]] (Go.Sort.grow (redrawn ws d) os) fun e w'' => e = .returned X4 ∧ ∃ p : Regrown, w'' = Go.Sort.grow (redrawn ws p.d) p.os := fun d os => Calls.regrown_of (HR4.out _)
            cases hc : T4
            case' true => have HC := hid_of hc
            case' false => have HC := hid_of hc
            all_goals rw [hc] at z4
            all_goals clear hc
            all_goals refine wp_region_quiet_below mixed (by kernel_rfl) ?_
            all_goals repeat (go_big_quiet_step (first | with_reducible exact q1 _ _))
            all_goals refine wpQuiet_nil ?_
            all_goals intro _ hw'
            all_goals obtain ⟨⟨dq, osq⟩, hw''⟩ := hw'
            all_goals have hd := D dq osq
            all_goals rw [← hw''] at hd
            all_goals clear hw'' D D' q1 x0 x1 x2 x3 x4 x5 x6 x7 x8 y0 y1 y2 y3 y4 y5 y6 y7 y8 u0 u1 u2 u3 u4 u5 u6 u7 u8
            all_goals rename_i wq
            all_goals have HKq := hid_of (KNr.out.below hd)
            all_goals have HOq := hid_of (ROr.out.below hd)
            all_goals have HBw := hid_of (HBr.out.trans (hd.mono HBr.out.size))
            all_goals have HBz := hid_of (HBq.out.trans (hd.mono HBq.out.size))
            all_goals obtain ⟨d0, d1, d2, d3, d4, d5, d6, d7, d8, dz⟩ := HKq.out.nine
            all_goals obtain ⟨f0, f1, f2, f3, f4, f5, f6, f7, f8, fz⟩ := HOq.out.nine
            all_goals go_wp2_with fail
            all_goals first
              | exact bodyPost_ret (results_rrelative rfl (Blk.put9 HOq.out _ _ _ _ _ _ _ _ _)) rfl ⟨congrArg Ending.returned (HE4.out (hP.out.1 (by omega)) (hP.out.2.1 (by omega)) (hP.out.2.2.1 (by omega)) HC.out), below_put9 HBw.out (by omega) _ _ _ _ _ _ _ _ _⟩
              | exact ⟨⟨4, by omega, by go_num, HBz, ⟨fun _ => hP.out.1 (by omega), fun _ => hP.out.2.1 (by omega), fun _ => hP.out.2.2.1 (by omega), fun _ => HC.out, fun h => absurd h (by omega)⟩⟩, by simp [intOf]⟩
          · have RBr := hid_of ((RB.out.below hB.out).alloc (.cells #[.string ⟨#[]⟩, .string ⟨tho.toArray⟩, .string ⟨tpa.toArray⟩, .string ⟨tqu.toArray⟩, .string ⟨tfr.toArray⟩, .bool false, .bool thh, .bool thq, .bool thf] 23))
            have RTr := hid_of ((RT.out.below hB.out).alloc (.cells #[.string ⟨#[]⟩, .string ⟨tho.toArray⟩, .string ⟨tpa.toArray⟩, .string ⟨tqu.toArray⟩, .string ⟨tfr.toArray⟩, .bool false, .bool thh, .bool thq, .bool thf] 23))
            have ROr := hid_of ((RO.out.below hB.out).alloc (.cells #[.string ⟨#[]⟩, .string ⟨tho.toArray⟩, .string ⟨tpa.toArray⟩, .string ⟨tqu.toArray⟩, .string ⟨tfr.toArray⟩, .bool false, .bool thh, .bool thq, .bool thf] 23))
            have KNr := hid_of (Blk.new wr #[.string ⟨#[]⟩, .string ⟨tho.toArray⟩, .string ⟨tpa.toArray⟩, .string ⟨tqu.toArray⟩, .string ⟨tfr.toArray⟩, .bool false, .bool thh, .bool thq, .bool thf] 23)
            have HBr0 := hid_of (HB.out.trans (hB.out.mono HB.out.size))
            have HBr := hid_of (HBr0.out.alloc HBr0.out.size (.cells #[.string ⟨#[]⟩, .string ⟨tho.toArray⟩, .string ⟨tpa.toArray⟩, .string ⟨tqu.toArray⟩, .string ⟨tfr.toArray⟩, .bool false, .bool thh, .bool thq, .bool thf] 23))
            have HBq := hid_of (hB.out.alloc hB.out.size (.cells #[.string ⟨#[]⟩, .string ⟨tho.toArray⟩, .string ⟨tpa.toArray⟩, .string ⟨tqu.toArray⟩, .string ⟨tfr.toArray⟩, .bool false, .bool thh, .bool thq, .bool thf] 23))
            have hzr := (RO.out.below hB.out).lt
            have KSr := KS.out.below hB.out
            have k0 := KSr.cell 36
            have k1 := KSr.cell 37
            have k2 := KSr.cell 38
            have k3 := KSr.cell 39
            have k4 := KSr.cell 40
            have k5 := KSr.cell 41
            have k6 := KSr.cell 42
            have k7 := KSr.cell 43
            have k8 := KSr.cell 44
            clear KSr
            go_upto_region 18 with fail
            clear k0 k1 k2 k3 k4 k5 k6 k7 k8
            obtain ⟨nr, hnr⟩ : ∃ nr, wr.heap.size = nr := ⟨_, rfl⟩
            rw [hnr] at KNr hzr ⊢
            generalize wr.alloc (.cells #[.string ⟨#[]⟩, .string ⟨tho.toArray⟩, .string ⟨tpa.toArray⟩, .string ⟨tqu.toArray⟩, .string ⟨tfr.toArray⟩, .bool false, .bool thh, .bool thq, .bool thf] 23) = ws at *
            clear hnr HBr0
            have D : ∀ d os, Below ws.heap.size ws (Go.Sort.grow (redrawn ws d) os) := fun d os => below_regrown ws d os
            have D' : ∀ d os, Below w.heap.size w (Go.Sort.grow (redrawn ws d) os) := fun d os => HBr.out.trans ((D d os).mono HBr.out.size)
            have x0 := cell_againR RBr.out 0 _ rfl
            have x1 := cell_againR RBr.out 1 _ rfl
            have x2 := cell_againR RBr.out 2 _ rfl
            have x3 := cell_againR RBr.out 3 _ rfl
            have x4 := cell_againR RBr.out 4 _ rfl
            have x5 := cell_againR RBr.out 5 _ rfl
            have x6 := cell_againR RBr.out 6 _ rfl
            have x7 := cell_againR RBr.out 7 _ rfl
            have x8 := cell_againR RBr.out 8 _ rfl
            have y0 := cell_againR RTr.out 0 _ rfl
            have y1 := cell_againR RTr.out 1 _ rfl
            have y2 := cell_againR RTr.out 2 _ rfl
            have y3 := cell_againR RTr.out 3 _ rfl
            have y4 := cell_againR RTr.out 4 _ rfl
            have y5 := cell_againR RTr.out 5 _ rfl
            have y6 := cell_againR RTr.out 6 _ rfl
            have y7 := cell_againR RTr.out 7 _ rfl
            have y8 := cell_againR RTr.out 8 _ rfl
            have u0 := cell_againR KNr.out 0 _ rfl
            have u1 := cell_againR KNr.out 1 _ rfl
            have u2 := cell_againR KNr.out 2 _ rfl
            have u3 := cell_againR KNr.out 3 _ rfl
            have u4 := cell_againR KNr.out 4 _ rfl
            have u5 := cell_againR KNr.out 5 _ rfl
            have u6 := cell_againR KNr.out 6 _ rfl
            have u7 := cell_againR KNr.out 7 _ rfl
            have u8 := cell_againR KNr.out 8 _ rfl
            have q1 : ∀ d os, Calls Tryd.prog 8 #[.agg #[.string ⟨bsc.toArray⟩, .string ⟨bho.toArray⟩, .string ⟨bpa.toArray⟩, .string ⟨bqu.toArray⟩, .string ⟨bfr.toArray⟩, .bool bhs, .bool bhh, .bool bhq, .bool bhf], .agg #[.string ⟨#[]⟩, .string ⟨tho.toArray⟩, .string ⟨tpa.toArray⟩, .string ⟨tqu.toArray⟩, .string ⟨tfr.toArray⟩, .bool false, .bool thh, .bool thq, .bool thf]] (Go.Sort.grow (redrawn ws d) os) fun e w'' => e = .returned X5 ∧ ∃ p : Regrown, w'' = Go.Sort.grow (redrawn ws p.d) p.os := fun d os => Calls.regrown_of (HR5.out _)
            cases hc : T5
            case' true => have HC := hid_of hc
            case' false => have HC := hid_of hc
            all_goals rw [hc] at z5
            all_goals clear hc
            all_goals refine wp_region_quiet_below mixed (by kernel_rfl) ?_
            all_goals repeat (go_big_quiet_step (first | with_reducible exact q1 _ _))
            all_goals refine wpQuiet_nil ?_
            all_goals intro _ hw'
            all_goals obtain ⟨⟨dq, osq⟩, hw''⟩ := hw'
            all_goals have hd := D dq osq
            all_goals rw [← hw''] at hd
            all_goals clear hw'' D D' q1 x0 x1 x2 x3 x4 x5 x6 x7 x8 y0 y1 y2 y3 y4 y5 y6 y7 y8 u0 u1 u2 u3 u4 u5 u6 u7 u8
            all_goals rename_i wq
            all_goals have HKq := hid_of (KNr.out.below hd)
            all_goals have HOq := hid_of (ROr.out.below hd)
            all_goals have HBw := hid_of (HBr.out.trans (hd.mono HBr.out.size))
            all_goals have HBz := hid_of (HBq.out.trans (hd.mono HBq.out.size))
            all_goals obtain ⟨d0, d1, d2, d3, d4, d5, d6, d7, d8, dz⟩ := HKq.out.nine
            all_goals obtain ⟨f0, f1, f2, f3, f4, f5, f6, f7, f8, fz⟩ := HOq.out.nine
            all_goals go_wp2_with fail
            all_goals first
              | exact bodyPost_ret (results_rrelative rfl (Blk.put9 HOq.out _ _ _ _ _ _ _ _ _)) rfl ⟨congrArg Ending.returned (HE5.out (hP.out.1 (by omega)) (hP.out.2.1 (by omega)) (hP.out.2.2.1 (by omega)) (hP.out.2.2.2.1 (by omega)) HC.out), below_put9 HBw.out (by omega) _ _ _ _ _ _ _ _ _⟩
              | exact ⟨⟨5, by omega, by go_num, HBz, ⟨fun _ => hP.out.1 (by omega), fun _ => hP.out.2.1 (by omega), fun _ => hP.out.2.2.1 (by omega), fun _ => hP.out.2.2.2.1 (by omega), fun _ => HC.out⟩⟩, by simp [intOf]⟩
          · have RTr := hid_of (RT.out.below hB.out)
            have ROr := hid_of (RO.out.below hB.out)
            have HBr := hid_of (HB.out.trans (hB.out.mono HB.out.size))
            obtain ⟨d0, d1, d2, d3, d4, d5, d6, d7, d8, dz⟩ := RTr.out.nine
            obtain ⟨f0, f1, f2, f3, f4, f5, f6, f7, f8, fz⟩ := ROr.out.nine
            go_wp2_with fail
            exact bodyPost_ret (results_rrelative rfl (Blk.put9 ROr.out _ _ _ _ _ _ _ _ _)) rfl ⟨congrArg Ending.returned (HE6.out (hP.out.1 (by omega)) (hP.out.2.1 (by omega)) (hP.out.2.2.1 (by omega)) (hP.out.2.2.2.1 (by omega)) (hP.out.2.2.2.2 (by omega))), below_put9 HBr.out (by omega) _ _ _ _ _ _ _ _ _⟩
end Go.Proofs.YtnnajpdliokodaaDoor.L
