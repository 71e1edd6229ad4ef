/- What is proved here: the contract of link.Srcset: the candidates of a srcset, and whether each one is good. -/
import Derived.Test.YtmfhhpacojodkaaGreatDoorLpCand
import Derived.Test.YtmfhhpacojodkaaGreatDoorBun18
import Derived.Test.YtmfhhpacojodkaaGreatDoorBun19
namespace Go.Proofs.YtmfhhpacojodkaaGreatDoor.L
open Go.RowKit Go.Shelf Go.Proofs.YtmfhhpacojodkaaGreatDoor.N Go.Proofs.YtmfhhpacojodkaaGreatDoor.U

theorem infoCand : (Tryz.prog.info? 27).map (fun i => (i.zero, i.size, i.bytes)) = some (some (.agg #[.string ⟨#[]⟩, .string ⟨#[]⟩]), 2, 32) := by kernel_rfl
theorem cand_small (r : List UInt8) : (candK r).1.1.length ≤ r.length ∧ (candK r).1.2.length ≤ 2 * r.length ∧ (candK r).2.length ≤ r.length := by
  have h1 := sqF_le gapS ((r.drop (yesN gapS r)).take (descN (r.drop (yesN gapS r)) false))
  have h2 : (Lib.trimRightB (r.take (yesN gapS r)) 44).length ≤ (r.take (yesN gapS r)).length := by
    unfold Lib.trimRightB
    rw [List.length_reverse]
    have := (List.dropWhile_sublist (· == (44 : UInt8)) (l := (r.take (yesN gapS r)).reverse)).length_le
    rw [List.length_reverse] at this
    exact this
  rw [List.length_take] at h2
  rw [List.length_take, List.length_drop] at h1
  unfold candK
  split
  · refine ⟨?_, by simp, ?_⟩
    · show (Lib.trimRightB (r.take (yesN gapS r)) 44).length ≤ _; omega
    · show (r.drop _).length ≤ _; rw [List.length_drop]; omega
  · refine ⟨?_, ?_, ?_⟩
    · show (r.take _).length ≤ _; rw [List.length_take]; omega
    · show (sqF gapS _).1.length ≤ _; omega
    · show ((r.drop _).drop _).length ≤ _; rw [List.length_drop, List.length_drop]; omega
set_option maxRecDepth 100000 in
set_option maxHeartbeats 4000000 in
/-- **Srcset.** -/
theorem srcset_calls (bs : List UInt8) (w : World) (hT : Tb w) (hl : bs.length ≤ 100000000) : Calls Tryz.prog 5 #[.string ⟨bs.toArray⟩] w fun e W' => ∃ v, e = .returned (.tuple #[v, .bool (srcK (mendL bs)).2]) ∧ OwnW 27 w.heap.size W' v (srcK (mendL bs)).1 ∧ Below w.heap.size w W' := by
  have HM : Hid (Calls Tryz.prog 18 #[.string ⟨bs.toArray⟩] w fun e W' => e = .returned (.string ⟨(mendL bs).toArray⟩) ∧ Below w.heap.size w W') := mend_calls bs w (by omega) hT
  have hml := mend_le bs
  obtain ⟨s, hS⟩ : ∃ s, mendL bs = s := ⟨_, rfl⟩
  rw [hS] at HM hml ⊢
  have hss : s.length ≤ 400000000 := by omega
  clear hS hml hl hT
  obtain ⟨⟨L, G⟩, hLG⟩ : ∃ x, srcK s = x := ⟨_, rfl⟩
  have HLG := hid_of hLG
  rw [hLG]
  simp only
  clear hLG
  go_enter Tryz.func5, Tryz.ntmps5
  go_wp2_with fail
  (go_at_call 18; refine HM.out.mono ?_; rintro e w1 ⟨rfl, hb1⟩)
  have HB1 := hid_of hb1
  have z1 := hb1.size
  clear hb1 HM
  go_wp2_with fail
  go_loopw [4, 5, 6] (fun vo vg vr wr => ∃ (r : List UInt8) (o : List Two) (g : Bool) (a : Option Addr) (cap : Nat), vr = .string ⟨r.toArray⟩ ∧ vo = .slice a o.length cap ∧ vg = .bool g ∧ Hid (o ++ (srcK r).1 = L) ∧ Hid ((g && (srcK r).2) = G) ∧ o.length + r.length ≤ s.length ∧ Hid (OwnW 27 w1.heap.size wr (.slice a o.length cap) o) ∧ Hid (Below w1.heap.size w1 wr)) (fun _ _ vr _ => match vr with | .string b => b.size | _ => 0)
  case atStart => exact ⟨s, [], true, none, 0, rfl, rfl, rfl, by show _ = _; rw [HLG.out]; rfl, by show _ = _; rw [HLG.out]; rfl, by simp, World.ownsRow_nil _ _ _ _, Below.refl _ _⟩
  case round =>
    obtain ⟨r, o, g, a, cap, rfl, rfl, rfl, hE, hG, hlen, hO, hB⟩ := hrel
    have zr := hB.out.size
    have HTR : Hid (Calls Tryz.prog 19 #[.string ⟨r.toArray⟩, .func (.func 20) #[] #[]] wr fun e w' => e = .returned (.string ⟨(trimK r).toArray⟩) ∧ Below wr.heap.size wr w') := trimBet_calls r wr
    have htl := trimK_le r
    have hni := srcK_nil r
    have hst := srcK_step r
    obtain ⟨t, ht⟩ : ∃ t, trimK r = t := ⟨_, rfl⟩
    rw [ht] at HTR htl hni hst
    clear ht
    cases ht0 : (t == []) with
    | true =>
      obtain rfl : t = [] := by simpa using ht0
      have hk := hni rfl
      have HE2 : Hid (o = L) := by have := hE.out; rw [hk, List.append_nil] at this; exact this
      have HG2 : Hid (g = G) := by have := hG.out; rw [hk, Bool.and_true] at this; exact this
      clear hni hst hk hE hG ht0 HLG
      go_wp2_with fail
      (go_at_call 19; refine HTR.out.mono ?_; rintro e w2 ⟨rfl, hb2⟩)
      have HB2 := hid_of (hB.out.trans (hb2.mono zr))
      have HO2 : Hid (OwnW 27 w1.heap.size w2 (.slice a o.length cap) o) := owns_below hO.out hb2
      clear hb2 hO hB
      go_wp2_with fail
      refine bodyPost_ret (results_tmp2 rfl _ _ _) rfl ?_
      exact ⟨_, by rw [← HG2.out]; rfl, by rw [← HE2.out]; exact C.owns_mono HO2.out z1, HB1.out.trans (HB2.out.mono z1)⟩
    | false =>
      have hne : t ≠ [] := fun e => by subst e; simp at ht0
      obtain ⟨hk, hcl⟩ := hst hne
      obtain ⟨s1, s2, s3⟩ := cand_small t
      have HCA := hid_of (fun W => candidate_calls t W (by omega))
      obtain ⟨⟨⟨l, d⟩, z⟩, hc⟩ : ∃ c, candK t = c := ⟨_, rfl⟩
      rw [hc] at hk hcl s1 s2 s3 HCA
      simp only at hk hcl s1 s2 s3
      have HCA : Hid (∀ W, Calls Tryz.prog 21 #[.string ⟨t.toArray⟩] W fun e w' => e = .returned (.tuple #[.agg #[.string ⟨l.toArray⟩, .string ⟨d.toArray⟩], .string ⟨z.toArray⟩]) ∧ Below W.heap.size W w') := HCA
      have HGD := hid_of (fun W => goodDesc_calls d W (by omega))
      have HE2 : Hid (o ++ [(l, d)] ++ (srcK z).1 = L) := by have := hE.out; rw [hk] at this; show _ = _; rw [← this]; simp
      have HG2 : Hid ((g && goodP d && (srcK z).2) = G) := by have := hG.out; rw [hk] at this; show _ = _; rw [← this, Bool.and_assoc]
      have HLN : Hid (o.length + 1 + z.length ≤ s.length ∧ z.length < r.length) := ⟨by omega, hcl⟩
      have HO1 : Hid (o.length ≤ 400000000) := by show _ ≤ _; omega
      clear hni hst hk hcl hc hE hG HLG s1 s2 s3 htl hne hlen
      obtain ⟨gd, hgd⟩ : ∃ b, goodP d = b := ⟨_, rfl⟩
      rw [hgd] at HGD HG2
      clear hgd
      go_wp2_with fail
      (go_at_call 19; refine HTR.out.mono ?_; rintro e w2 ⟨rfl, hb2⟩)
      have HB2 := hid_of (hB.out.trans (hb2.mono zr))
      have HO2 : Hid (OwnW 27 w1.heap.size w2 (.slice a o.length cap) o) := owns_below hO.out hb2
      have z2 := HB2.out.size
      have HOB : Hid (∀ j, (Value.slice a o.length cap).ownBlock = some j → j < w2.heap.size) := fun j hj => (HO2.out.lt j hj).2
      clear hb2 hO hB HTR
      obtain ⟨W3, hW3⟩ : ∃ W, w2.alloc (.cells #[.string ⟨#[]⟩, .string ⟨#[]⟩] 27) = W := ⟨_, rfl⟩
      have HB23 : Hid (Below w2.heap.size w2 W3) := by rw [← hW3]; exact (Below.refl _ _).alloc (Nat.le_refl _) _
      have HK3 : Hid (W3.heap[w2.heap.size]? = some (.cells #[.string ⟨#[]⟩, .string ⟨#[]⟩] 27 (0, 0))) := by rw [← hW3]; exact World.alloc_heap_new _ _
      have z3 : w2.heap.size < W3.heap.size := by rw [← hW3]; simp
      have HW3 := hid_of hW3
      clear hW3
      go_wp2_with fail
      rw [HW3.out]
      (go_at_call 21; refine (HCA.out W3).mono ?_; rintro e w4 ⟨rfl, hb4⟩)
      have HB24 := hid_of (HB23.out.trans (hb4.mono (Nat.le_of_lt z3)))
      have HK4 : Hid (w4.heap[w2.heap.size]? = some (.cells #[.string ⟨#[]⟩, .string ⟨#[]⟩] 27 (0, 0))) := (hb4.block _ z3).trans HK3.out
      have c40 : w4.cell? ⟨w2.heap.size, 0, none⟩ = some (.string ⟨#[]⟩) := by rw [cell_of_row _ _ _ _ _ _ HK4.out]; rfl
      have c41 : w4.cell? ⟨w2.heap.size, 1, none⟩ = some (.string ⟨#[]⟩) := by rw [cell_of_row _ _ _ _ _ _ HK4.out]; rfl
      have f40 : w4.frozen? ⟨w2.heap.size, 0, none⟩ = false := by simp [World.frozen?, HK4.out]
      have f41 : w4.frozen? ⟨w2.heap.size, 1, none⟩ = false := by simp [World.frozen?, HK4.out]
      obtain ⟨W5, hW5⟩ : ∃ W, (w4.setCell ⟨w2.heap.size, 0, none⟩ (.string ⟨l.toArray⟩)).setCell ⟨w2.heap.size, 1, none⟩ (.string ⟨d.toArray⟩) = W := ⟨_, rfl⟩
      have c50 : W5.cell? ⟨w2.heap.size, 0, none⟩ = some (.string ⟨l.toArray⟩) := by rw [← hW5, cs_other (by simp)]; exact cs_same c40
      have c51 : W5.cell? ⟨w2.heap.size, 1, none⟩ = some (.string ⟨d.toArray⟩) := by rw [← hW5]; exact cs_same (by rw [cs_other (by simp)]; exact c41)
      have HB25 : Hid (Below w2.heap.size w2 W5) := by rw [← hW5]; exact (HB24.out.setCell (Nat.le_refl _) _).setCell (Nat.le_refl _) _
      have HB5 := hid_of (HB2.out.trans (HB25.out.mono z2))
      have HO5 : Hid (OwnW 27 w1.heap.size W5 (.slice a o.length cap) o) := owns_below HO2.out HB25.out
      have z5 := HB5.out.size
      have HW5 := hid_of hW5
      clear hW5 hb4 HB24 HB25 HB23 HK3 HK4 HO2 HB2 HW3
      go_upto_region 9 with fail
      rw [HW5.out]
      clear HW5 c40 c41 f40 f41
      have c50 := c50
      have HC51 := hid_of c51
      go_upto_region 10 with (at_builtin; refine append_two rfl _ _ 22 27 Tryz.underlying22 infoCand rfl w1.heap.size (.slice a o.length cap) o rfl (HO5.out.alloc _) W5.heap.size (l, d) rfl (two_new0 _ _ _ _) (two_new1 _ _ _ _) (by have := HO1.out; omega) (by simp; omega) ?_; intro v' w6 hown' hgrow)
      obtain ⟨a2, cap2, rfl, hc8, _, _⟩ := OwnW.at hown'
      have HB6 : Hid (Below w1.heap.size w1 w6) := (HB5.out.alloc z5 _).grown hgrow (by simp; omega) (fun j hj => (HO5.out.lt j hj).1)
      have c61 : w6.cell? ⟨w2.heap.size, 1, none⟩ = some (.string ⟨d.toArray⟩) := hgrow.cell (by rw [C.cell_under _ _ _ (cell_lt HC51.out)]; exact HC51.out) (fun e => absurd (HOB.out _ e.symm) (Nat.lt_irrefl _))
      clear c50 c51
      cases g with
      | false =>
        go_wp2_with fail
        go_roundw
        case rel => exact ⟨z, o ++ [(l, d)], false, a2, cap2, rfl, rfl, rfl, HE2, HG2, by have := HLN.out.1; rw [List.length_append, List.length_singleton]; omega, hown', HB6⟩
        case measure => have := HLN.out.2; simp [arr_size]; omega
      | true =>
        have HG3 : Hid ((gd && (srcK z).2) = G) := by have := HG2.out; rw [Bool.true_and] at this; exact this
        go_wp2_with fail
        (go_at_call 22; refine (HGD.out w6).mono ?_; rintro e w' ⟨rfl, hx⟩; obtain rfl : w6 = w' := hx.symm)
        go_wp2_with fail
        go_roundw
        case rel => exact ⟨z, o ++ [(l, d)], gd, a2, cap2, rfl, (by simp), rfl, HE2, HG3, by have := HLN.out.1; rw [List.length_append, List.length_singleton]; omega, hown', HB6⟩
        case measure => have := HLN.out.2; simp [arr_size]; omega
end Go.Proofs.YtmfhhpacojodkaaGreatDoor.L
