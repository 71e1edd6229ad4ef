/- What is proved here: the contract of link.Join: parts joined. -/
import Derived.Test.YtnnabheejojfdaaDoorLpMended
import Derived.Test.YtnnabheejojfdaaDoorLpEnc
namespace Go.Proofs.YtnnabheejojfdaaDoor.L
open Go.RowKit Go.Shelf Go.Proofs.YtnnabheejojfdaaDoor.N Go.Proofs.YtnnabheejojfdaaDoor.U

theorem cat_two (a b : List UInt8) : (⟨a.toArray⟩ : ByteArray) ++ ⟨b.toArray⟩ = ⟨(a ++ b).toArray⟩ := by
  apply ByteArray.ext
  rw [ByteArray.data_append]
  simp
theorem Blk.kept {w w' : World} {g b : Nat} {cs : Array Value} {t : TypeId} (h : Blk w g cs t) (hk : T.Kept b w w') (hg : g ≠ b) (ht : t ≠ 5) : Blk w' g cs t :=
  hk g _ h (fun e => hg (Option.some.inj e)) (fun c fz e => by injection e with _ e2 _; exact ht e2)
set_option maxRecDepth 100000 in
set_option maxHeartbeats 8000000 in
/-- **Join.** -/
theorem join_calls (l : Lk) (w : World) (hT : Tb w) (hl : l.Small 1000000000) : Calls Tryd.prog 20 #[l.v] w fun e W' => e = .returned (.string ⟨(joinK l.mend).toArray⟩) ∧ Below w.heap.size w W' := by
  have HMD : Hid (∀ W, Below w.heap.size w W → Calls Tryd.prog 51 #[l.v] W fun e W' => e = .returned l.mend.v ∧ Below W.heap.size W W') := fun W h => mended_calls l W (hT.below h) hl
  obtain ⟨sc0, ho0, pa0, qu0, fr0, h1, h2, h3, h4⟩ := l
  obtain ⟨l0, l1, l2, l3, l4⟩ := hl
  simp only at l0 l1 l2 l3 l4
  have m0 := mend_le sc0
  have m1 := mend_le ho0
  have m2 := mend_le pa0
  have m3 := mend_le qu0
  have m4 := mend_le fr0
  unfold Lk.v Lk.mend at HMD
  unfold Lk.v Lk.mend
  simp only at HMD ⊢
  generalize mendL sc0 = sc at *
  generalize mendL ho0 = ho at *
  generalize mendL pa0 = pa at *
  generalize mendL qu0 = qu at *
  generalize mendL fr0 = fr at *
  have k0 : sc.length ≤ 4000000000 := by omega
  have k1 : ho.length ≤ 4000000000 := by omega
  have k2 : pa.length ≤ 4000000000 := by omega
  have k3 : qu.length ≤ 4000000000 := by omega
  have k4 : fr.length ≤ 4000000000 := by omega
  clear m0 m1 m2 m3 m4 l0 l1 l2 l3 l4 hT
  have s0 := arr_size sc
  have s1 := arr_size ho
  have s2 := arr_size pa
  have s3 := arr_size qu
  have s4 := arr_size fr
  have t0 := cat_two sc [58]
  have t1 : (⟨#[47, 47]⟩ : ByteArray) ++ ⟨ho.toArray⟩ = ⟨(47 :: 47 :: ho).toArray⟩ := cat_two [47, 47] ho
  have t3 : (⟨#[63]⟩ : ByteArray) ++ ⟨qu.toArray⟩ = ⟨(63 :: qu).toArray⟩ := cat_two [63] qu
  have t4 : (⟨#[35]⟩ : ByteArray) ++ ⟨fr.toArray⟩ = ⟨(35 :: fr).toArray⟩ := cat_two [35] fr
  obtain ⟨J, hJ⟩ : ∃ J, joinK ⟨sc, ho, pa, qu, fr, h1, h2, h3, h4⟩ = J := ⟨_, rfl⟩
  rw [hJ]
  obtain ⟨acc, hacc⟩ : ∃ acc : List UInt8, [] = acc := ⟨_, rfl⟩
  have HJ : Hid (J = acc ++ ((if h1 then sc ++ [58] else []) ++ ((if h2 then 47 :: 47 :: ho else []) ++ (pa ++ ((if h3 then 63 :: qu else []) ++ if h4 then 35 :: fr else []))))) := by show _ = _; rw [← hacc, ← hJ]; rfl
  have HAC := hid_of hacc
  clear hJ hacc
  have HA0 : Hid (Blk (w.alloc (.cells #[.string ⟨sc0.toArray⟩, .string ⟨ho0.toArray⟩, .string ⟨pa0.toArray⟩, .string ⟨qu0.toArray⟩, .string ⟨fr0.toArray⟩, .bool h1, .bool h2, .bool h3, .bool h4] 41)) w.heap.size #[.string ⟨sc0.toArray⟩, .string ⟨ho0.toArray⟩, .string ⟨pa0.toArray⟩, .string ⟨qu0.toArray⟩, .string ⟨fr0.toArray⟩, .bool h1, .bool h2, .bool h3, .bool h4] 41) := Blk.new w _ _
  have HB0 : Hid (Below w.heap.size w (w.alloc (.cells #[.string ⟨sc0.toArray⟩, .string ⟨ho0.toArray⟩, .string ⟨pa0.toArray⟩, .string ⟨qu0.toArray⟩, .string ⟨fr0.toArray⟩, .bool h1, .bool h2, .bool h3, .bool h4] 41))) := (Below.refl _ w).alloc (Nat.le_refl _) _
  have HWS : Hid (∀ (b : Nat) (a x : List UInt8) W, T.Bld w.heap.size b a W → a.length + x.length ≤ 100000000000 → w.heap.size ≤ W.heap.size → Calls Tryd.prog 52 #[.pointer (some ⟨b, 0, none⟩), .string ⟨x.toArray⟩] W fun e w' => (∃ v, e = .returned v) ∧ T.Bld w.heap.size b (a ++ x) w' ∧ Below w.heap.size W w' ∧ T.Kept b W w') := fun b a x W h hx hw => T.writeString_calls w.heap.size b a ⟨x.toArray⟩ W h (by rw [arr_size]; omega) hw
  go_enter Tryd.func20, Tryd.ntmps20
  go_wp2_with fail
  (go_at_call 51; refine (HMD.out _ HB0.out).mono ?_; rintro e w1 ⟨rfl, g1⟩)
  have HK1 := hid_of (HA0.out.below g1)
  have HB1 := hid_of (HB0.out.trans (g1.mono HB0.out.size))
  clear g1 HA0 HB0 HMD
  obtain ⟨c0, c1, c2, c3, c4, c5, c6, c7, c8, fz⟩ := HK1.out.nine
  have hlt : w.heap.size < w1.heap.size := HK1.out.lt
  have HK2 : Hid (Blk _ w.heap.size #[.string ⟨sc.toArray⟩, .string ⟨ho.toArray⟩, .string ⟨pa.toArray⟩, .string ⟨qu.toArray⟩, .string ⟨fr.toArray⟩, .bool h1, .bool h2, .bool h3, .bool h4] 41) := Blk.put9 HK1.out _ _ _ _ _ _ _ _ _
  have HB2 := hid_of (below_put9 HB1.out (Nat.le_refl _) (.string ⟨sc.toArray⟩) (.string ⟨ho.toArray⟩) (.string ⟨pa.toArray⟩) (.string ⟨qu.toArray⟩) (.string ⟨fr.toArray⟩) (.bool h1) (.bool h2) (.bool h3) (.bool h4))
  have hZ : ((((((((((w1.setCell ⟨w.heap.size, 0, none⟩ (.string ⟨sc.toArray⟩)).setCell ⟨w.heap.size, 1, none⟩ (.string ⟨ho.toArray⟩)).setCell ⟨w.heap.size, 2, none⟩ (.string ⟨pa.toArray⟩)).setCell ⟨w.heap.size, 3, none⟩ (.string ⟨qu.toArray⟩)).setCell ⟨w.heap.size, 4, none⟩ (.string ⟨fr.toArray⟩)).setCell ⟨w.heap.size, 5, none⟩ (.bool h1)).setCell ⟨w.heap.size, 6, none⟩ (.bool h2)).setCell ⟨w.heap.size, 7, none⟩ (.bool h3)).setCell ⟨w.heap.size, 8, none⟩ (.bool h4))).heap.size = w1.heap.size := by simp [World.setCell]
  have HBd : Hid (T.Bld w.heap.size w1.heap.size [] ((((((((((w1.setCell ⟨w.heap.size, 0, none⟩ (.string ⟨sc.toArray⟩)).setCell ⟨w.heap.size, 1, none⟩ (.string ⟨ho.toArray⟩)).setCell ⟨w.heap.size, 2, none⟩ (.string ⟨pa.toArray⟩)).setCell ⟨w.heap.size, 3, none⟩ (.string ⟨qu.toArray⟩)).setCell ⟨w.heap.size, 4, none⟩ (.string ⟨fr.toArray⟩)).setCell ⟨w.heap.size, 5, none⟩ (.bool h1)).setCell ⟨w.heap.size, 6, none⟩ (.bool h2)).setCell ⟨w.heap.size, 7, none⟩ (.bool h3)).setCell ⟨w.heap.size, 8, none⟩ (.bool h4)).alloc (.cells #[.pointer none, .slice none 0 0] 55))) := by
    have := bld_made (((((((((w1.setCell ⟨w.heap.size, 0, none⟩ (.string ⟨sc.toArray⟩)).setCell ⟨w.heap.size, 1, none⟩ (.string ⟨ho.toArray⟩)).setCell ⟨w.heap.size, 2, none⟩ (.string ⟨pa.toArray⟩)).setCell ⟨w.heap.size, 3, none⟩ (.string ⟨qu.toArray⟩)).setCell ⟨w.heap.size, 4, none⟩ (.string ⟨fr.toArray⟩)).setCell ⟨w.heap.size, 5, none⟩ (.bool h1)).setCell ⟨w.heap.size, 6, none⟩ (.bool h2)).setCell ⟨w.heap.size, 7, none⟩ (.bool h3)).setCell ⟨w.heap.size, 8, none⟩ (.bool h4)) w.heap.size (by rw [hZ]; omega)
    rw [hZ] at this
    exact this
  rw [HAC.out] at HBd
  have HK := hid_of (HK2.out.alloc (.cells #[.pointer none, .slice none 0 0] 55))
  have HB := hid_of (HB2.out.alloc HB2.out.size (.cells #[.pointer none, .slice none 0 0] 55))
  have hne : w.heap.size ≠ w1.heap.size := by omega
  have hac : acc.length ≤ 0 := by rw [← HAC.out]; simp
  clear HK1 HB1 HK2 HB2 hZ HAC
  obtain ⟨e0, e1, e2, e3, e4, e5, e6, e7, e8, ez⟩ := HK.out.nine
  cases h1
  case' false =>
    have HJn : Hid (J = acc ++ ((if h2 then 47 :: 47 :: ho else []) ++ (pa ++ ((if h3 then 63 :: qu else []) ++ if h4 then 35 :: fr else [])))) := by show _ = _; rw [HJ.out]; simp
    clear HJ
    rename Hid (J = _) => HJ
    have hacn : acc.length ≤ 5000000000 := by omega
    clear hac
    rename acc.length ≤ 5000000000 => hac
  case' true =>
    go_wp2_with fail
    (go_at_call 52; refine (HWS.out _ acc (sc ++ [58]) _ HBd.out (by first | omega | (simp; omega)) HB.out.size).mono ?_; rintro e wn ⟨⟨v, rfl⟩, hbd, hbl, hkp⟩)
    have HKn := hid_of (HK.out.kept hkp hne (by decide))
    have HBdn := hid_of hbd
    have HBn := hid_of (HB.out.trans hbl)
    have hacn : (acc ++ (sc ++ [58])).length ≤ 5000000000 := by simp; omega
    obtain ⟨acn, hcn⟩ : ∃ acn, acc ++ (sc ++ [58]) = acn := ⟨_, rfl⟩
    have HJn : Hid (J = acn ++ ((if h2 then 47 :: 47 :: ho else []) ++ (pa ++ ((if h3 then 63 :: qu else []) ++ if h4 then 35 :: fr else [])))) := by show _ = _; rw [HJ.out, ← hcn]; simp
    rw [hcn] at HBdn hacn
    clear HK HBd HB HJ hbd hbl hkp hac hcn e0 e1 e2 e3 e4 e5 e6 e7 e8 ez
    try clear c0 c1 c2 c3 c4 c5 c6 c7 c8 fz
    rename Hid (Blk _ w.heap.size _ _) => HK
    rename Hid (T.Bld _ _ _ _) => HBd
    rename Hid (Below w.heap.size w _) => HB
    rename Hid (J = _) => HJ
    rename acn.length ≤ 5000000000 => hac
    clear acc
    rename List UInt8 => acc
    obtain ⟨e0, e1, e2, e3, e4, e5, e6, e7, e8, ez⟩ := HK.out.nine
  all_goals
    cases h2
    case' false =>
      have HJn : Hid (J = acc ++ (pa ++ ((if h3 then 63 :: qu else []) ++ if h4 then 35 :: fr else []))) := by show _ = _; rw [HJ.out]; simp
      clear HJ
      rename Hid (J = _) => HJ
      have hacn : acc.length ≤ 10000000000 := by omega
      clear hac
      rename acc.length ≤ 10000000000 => hac
    case' true =>
      go_wp2_with fail
      (go_at_call 52; refine (HWS.out _ acc (47 :: 47 :: ho) _ HBd.out (by first | omega | (simp; omega)) HB.out.size).mono ?_; rintro e wn ⟨⟨v, rfl⟩, hbd, hbl, hkp⟩)
      have HKn := hid_of (HK.out.kept hkp hne (by decide))
      have HBdn := hid_of hbd
      have HBn := hid_of (HB.out.trans hbl)
      have hacn : (acc ++ (47 :: 47 :: ho)).length ≤ 10000000000 := by simp; omega
      obtain ⟨acn, hcn⟩ : ∃ acn, acc ++ (47 :: 47 :: ho) = acn := ⟨_, rfl⟩
      have HJn : Hid (J = acn ++ (pa ++ ((if h3 then 63 :: qu else []) ++ if h4 then 35 :: fr else []))) := by show _ = _; rw [HJ.out, ← hcn]; simp
      rw [hcn] at HBdn hacn
      clear HK HBd HB HJ hbd hbl hkp hac hcn e0 e1 e2 e3 e4 e5 e6 e7 e8 ez
      try clear c0 c1 c2 c3 c4 c5 c6 c7 c8 fz
      rename Hid (Blk _ w.heap.size _ _) => HK
      rename Hid (T.Bld _ _ _ _) => HBd
      rename Hid (Below w.heap.size w _) => HB
      rename Hid (J = _) => HJ
      rename acn.length ≤ 10000000000 => hac
      clear acc
      rename List UInt8 => acc
      obtain ⟨e0, e1, e2, e3, e4, e5, e6, e7, e8, ez⟩ := HK.out.nine
    all_goals
      go_wp2_with fail
      (go_at_call 52; refine (HWS.out _ acc (pa) _ HBd.out (by first | omega | (simp; omega)) HB.out.size).mono ?_; rintro e wn ⟨⟨v, rfl⟩, hbd, hbl, hkp⟩)
      have HKn := hid_of (HK.out.kept hkp hne (by decide))
      have HBdn := hid_of hbd
      have HBn := hid_of (HB.out.trans hbl)
      have hacn : (acc ++ (pa)).length ≤ 15000000000 := by simp; omega
      obtain ⟨acn, hcn⟩ : ∃ acn, acc ++ (pa) = acn := ⟨_, rfl⟩
      have HJn : Hid (J = acn ++ ((if h3 then 63 :: qu else []) ++ if h4 then 35 :: fr else [])) := by show _ = _; rw [HJ.out, ← hcn]; simp
      rw [hcn] at HBdn hacn
      clear HK HBd HB HJ hbd hbl hkp hac hcn e0 e1 e2 e3 e4 e5 e6 e7 e8 ez
      try clear c0 c1 c2 c3 c4 c5 c6 c7 c8 fz
      rename Hid (Blk _ w.heap.size _ _) => HK
      rename Hid (T.Bld _ _ _ _) => HBd
      rename Hid (Below w.heap.size w _) => HB
      rename Hid (J = _) => HJ
      rename acn.length ≤ 15000000000 => hac
      clear acc
      rename List UInt8 => acc
      obtain ⟨e0, e1, e2, e3, e4, e5, e6, e7, e8, ez⟩ := HK.out.nine
      cases h3
      case' false =>
        have HJn : Hid (J = acc ++ (if h4 then 35 :: fr else [])) := by show _ = _; rw [HJ.out]; simp
        clear HJ
        rename Hid (J = _) => HJ
        have hacn : acc.length ≤ 20000000000 := by omega
        clear hac
        rename acc.length ≤ 20000000000 => hac
      case' true =>
        go_wp2_with fail
        (go_at_call 52; refine (HWS.out _ acc (63 :: qu) _ HBd.out (by first | omega | (simp; omega)) HB.out.size).mono ?_; rintro e wn ⟨⟨v, rfl⟩, hbd, hbl, hkp⟩)
        have HKn := hid_of (HK.out.kept hkp hne (by decide))
        have HBdn := hid_of hbd
        have HBn := hid_of (HB.out.trans hbl)
        have hacn : (acc ++ (63 :: qu)).length ≤ 20000000000 := by simp; omega
        obtain ⟨acn, hcn⟩ : ∃ acn, acc ++ (63 :: qu) = acn := ⟨_, rfl⟩
        have HJn : Hid (J = acn ++ (if h4 then 35 :: fr else [])) := by show _ = _; rw [HJ.out, ← hcn]; simp
        rw [hcn] at HBdn hacn
        clear HK HBd HB HJ hbd hbl hkp hac hcn e0 e1 e2 e3 e4 e5 e6 e7 e8 ez
        try clear c0 c1 c2 c3 c4 c5 c6 c7 c8 fz
        rename Hid (Blk _ w.heap.size _ _) => HK
        rename Hid (T.Bld _ _ _ _) => HBd
        rename Hid (Below w.heap.size w _) => HB
        rename Hid (J = _) => HJ
        rename acn.length ≤ 20000000000 => hac
        clear acc
        rename List UInt8 => acc
        obtain ⟨e0, e1, e2, e3, e4, e5, e6, e7, e8, ez⟩ := HK.out.nine
      all_goals
        cases h4
        case' false =>
          have HJn : Hid (J = acc ++ ([])) := by show _ = _; rw [HJ.out]; simp
          clear HJ
          rename Hid (J = _) => HJ
          have hacn : acc.length ≤ 25000000000 := by omega
          clear hac
          rename acc.length ≤ 25000000000 => hac
        case' true =>
          go_wp2_with fail
          (go_at_call 52; refine (HWS.out _ acc (35 :: fr) _ HBd.out (by first | omega | (simp; omega)) HB.out.size).mono ?_; rintro e wn ⟨⟨v, rfl⟩, hbd, hbl, hkp⟩)
          have HKn := hid_of (HK.out.kept hkp hne (by decide))
          have HBdn := hid_of hbd
          have HBn := hid_of (HB.out.trans hbl)
          have hacn : (acc ++ (35 :: fr)).length ≤ 25000000000 := by simp; omega
          obtain ⟨acn, hcn⟩ : ∃ acn, acc ++ (35 :: fr) = acn := ⟨_, rfl⟩
          have HJn : Hid (J = acn ++ ([])) := by show _ = _; rw [HJ.out, ← hcn]; simp
          rw [hcn] at HBdn hacn
          clear HK HBd HB HJ hbd hbl hkp hac hcn e0 e1 e2 e3 e4 e5 e6 e7 e8 ez
          try clear c0 c1 c2 c3 c4 c5 c6 c7 c8 fz
          rename Hid (Blk _ w.heap.size _ _) => HK
          rename Hid (T.Bld _ _ _ _) => HBd
          rename Hid (Below w.heap.size w _) => HB
          rename Hid (J = _) => HJ
          rename acn.length ≤ 25000000000 => hac
          clear acc
          rename List UInt8 => acc
          obtain ⟨e0, e1, e2, e3, e4, e5, e6, e7, e8, ez⟩ := HK.out.nine
        all_goals
          go_wp2_with fail
          (go_at_call 30; refine (T.string_calls w.heap.size _ acc _ HBd.out HB.out.size).mono ?_; rintro e wn ⟨rfl, hbd, hbl, hkp⟩)
          go_wp2_with fail
          go_ret
          exact ⟨by rw [HJ.out, List.append_nil]; rfl, HB.out.trans hbl⟩
end Go.Proofs.YtnnabheejojfdaaDoor.L
