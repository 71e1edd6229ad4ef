/- What is proved here: the document's Srcset of layer 12. -/
import Derived.Test.YthjjigobkndgjaaGreatDoorLkGood
import Derived.Test.YthjjigobkndgjaaGreatDoorLpSrc
namespace Go.Proofs.YthjjigobkndgjaaGreatDoor.L
open Go.RowKit Go.Shelf Go.Proofs.YthjjigobkndgjaaGreatDoor.N Go.Proofs.YthjjigobkndgjaaGreatDoor.U

theorem noN_cons (c : UInt8) (t : List UInt8) (h : betS c = true) : trimK (c :: t) = trimK t := by
  unfold trimK noN
  rw [List.takeWhile_cons, if_pos h, List.length_cons, List.drop_succ_cons]
theorem trimK_stop (c : UInt8) (t : List UInt8) (h : betS c = false) : trimK (c :: t) = c :: t := by
  unfold trimK noN
  rw [List.takeWhile_cons, if_neg (by rw [h]; decide)]
  rfl
theorem trimK_none : trimK [] = [] := rfl
/-- Commas at the end. -/
theorem comma_last (k : List UInt8) (c : UInt8) : Lib.trimRightB (k ++ [c]) 44 = if c == 44 then Lib.trimRightB k 44 else k ++ [c] := by
  unfold Lib.trimRightB
  rw [List.reverse_append, List.reverse_singleton, List.singleton_append, List.dropWhile_cons]
  cases h : (c == 44) <;> simp
theorem comma_le (k : List UInt8) : (Lib.trimRightB k 44).length ≤ k.length := by
  unfold Lib.trimRightB
  rw [List.length_reverse]
  have := (List.dropWhile_sublist (· == (44 : UInt8)) (l := k.reverse)).length_le
  rwa [List.length_reverse] at this
theorem comma_cases (k : List UInt8) (c : UInt8) : (c == 44) = true ∧ (Lib.trimRightB (k ++ [c]) 44 != k ++ [c]) = true ∨ (c == 44) = false ∧ (Lib.trimRightB (k ++ [c]) 44 != k ++ [c]) = false := by
  cases h : (c == 44) with
  | true =>
    left
    refine ⟨rfl, ?_⟩
    rw [comma_last, h]
    have hl := comma_le k
    simp only [if_true, bne_iff_ne, ne_eq]
    intro e
    have := congrArg List.length e
    simp at this
    omega
  | false =>
    right
    refine ⟨rfl, ?_⟩
    rw [comma_last, h]
    simp
theorem last_split (k : List UInt8) (h : k ≠ []) : k = k.take (k.length - 1) ++ [k.getD (k.length - 1) 0] := by
  have hp : 0 < k.length := List.length_pos_iff.2 h
  have h1 := List.take_succ_eq_append_getElem (l := k) (i := k.length - 1) (by omega)
  rw [show k.length - 1 + 1 = k.length by omega, List.take_length] at h1
  rw [getD_at k _ (by omega)]
  exact h1
/-- How long a text in memory is. -/
def bytesAt (w : World) (p : Addr) : Nat := match w.cell? p with | some (.string b) => b.size | _ => 0
theorem bytesAt_of {w : World} {p : Addr} {b : ByteArray} (h : w.cell? p = some (.string b)) : bytesAt w p = b.size := by unfold bytesAt; rw [h]
set_option maxRecDepth 100000 in
set_option maxHeartbeats 8000000 in
/-- **Srcset.** -/
theorem rsrcset_calls (bs : List UInt8) (w : World) (hl : bs.length ≤ 100000000) : Calls Tryz.prog 6 #[.string ⟨bs.toArray⟩] w fun e W' => ∃ v, e = .returned (.tuple #[v, .bool (srcK (mendL bs)).2]) ∧ OwnW 27 w.heap.size W' v (srcK (mendL bs)).1 ∧ Below w.heap.size w W' := by
  have HM : Hid (Calls Tryz.prog 13 #[.string ⟨bs.toArray⟩] w fun e W' => e = .returned (.string ⟨(mendL bs).toArray⟩) ∧ Below w.heap.size w W') := R.rmend_calls bs w (by omega)
  have hml := mend_le bs
  obtain ⟨s, hS⟩ : ∃ s, mendL bs = s := ⟨_, rfl⟩
  rw [hS] at HM hml ⊢
  have hss : s.length ≤ 400000000 := by omega
  clear hS hml hl
  obtain ⟨⟨L, G⟩, hLG⟩ : ∃ x, srcK s = x := ⟨_, rfl⟩
  have HLG := hid_of hLG
  rw [hLG]
  simp only
  clear hLG
  go_enter Tryz.func6, Tryz.ntmps6
  go_wp2_with fail
  (go_at_call 13; refine HM.out.mono ?_; rintro e w1 ⟨rfl, hb1⟩)
  have HB1 := hid_of hb1
  have z1 := hb1.size
  clear hb1 HM
  go_wp2_with fail
  go_loopw [0, 4, 5] (fun vr vo vg wr => ∃ (r : List UInt8) (o : List Two) (g : Bool) (a : Option Addr) (cap : Nat), vr = .string ⟨r.toArray⟩ ∧ vo = .slice a o.length cap ∧ vg = .bool g ∧ Hid (o ++ (srcK r).1 = L) ∧ Hid ((g && (srcK r).2) = G) ∧ o.length + r.length ≤ s.length ∧ Hid (OwnW 27 w1.heap.size wr (.slice a o.length cap) o) ∧ Hid (Below w1.heap.size w1 wr)) (fun vr _ _ _ => match vr with | .string b => b.size | _ => 0)
  case atStart => exact ⟨s, [], true, none, 0, rfl, rfl, rfl, by show _ = _; rw [HLG.out]; rfl, by show _ = _; rw [HLG.out]; rfl, by simp, World.ownsRow_nil _ _ _ _, Below.refl _ _⟩
  case round =>
    clear HLG
    rename World => w2
    obtain ⟨r, o, g, a, cap, rfl, rfl, rfl, hE, hG, hlen, hO, hB⟩ := hrel
    have HE := hE
    have HG := hG
    have HB2 := hB
    have HO2 := hO
    have z2 := hB.out.size
    clear hE hG hO hB
    have hrl : r.length ≤ 400000000 := by omega
    have HLEN := hid_of hlen
    clear hlen
    go_wp2_with fail
    go_loopw [0] (fun vr wr => ∃ q : List UInt8, vr = .string ⟨q.toArray⟩ ∧ Hid (trimK q = trimK r) ∧ q.length ≤ r.length ∧ wr = w2) (fun vr _ => match vr with | .string b => b.size | _ => 0)
    case atStart => exact ⟨r, rfl, rfl, Nat.le_refl _, by trivial⟩
    case round =>
      obtain ⟨q, rfl, hTK, hql, hwr⟩ := hrel
      obtain rfl : w2 = wr := hwr.symm
      clear hwr
      cases q with
      | nil =>
        have hk := srcK_nil r (by rw [← hTK.out]; rfl)
        have HE2 : Hid (o = L) := by have := HE.out; rw [hk, List.append_nil] at this; exact this
        have HG2 : Hid (g = G) := by have := HG.out; rw [hk, Bool.and_true] at this; exact this
        clear hTK hk HE HG
        go_wp2_with fail
        refine bodyPost_ret (results_tmp2 rfl _ _ _) rfl ?_
        exact ⟨_, by rw [← HG2.out]; rfl, by rw [← HE2.out]; exact C.owns_mono HO2.out z1, HB1.out.trans (HB2.out.mono z1)⟩
      | cons c t =>
        have hix := byte_at (c :: t) 0 c (by simp) rfl 0 rfl
        have hsl := slice_l (c :: t) 1 (by simp) 1 rfl
        have hd1 : (c :: t).drop 1 = t := rfl
        rw [hd1] at hsl
        have hv0 : ((c :: t) == []) = false := rfl
        have HGA := hid_of (fun W => gap_calls c W)
        have e44 : ((c.toNat : Int) == 44) = (c == 44) := eq_byte c 44
        have sv := arr_size (c :: t)
        have hvl : (c :: t).length = t.length + 1 := rfl
        have hcs : (betS c = true ∧ (gapS c = true ∨ (gapS c = false ∧ (c == 44) = true))) ∨ (betS c = false ∧ gapS c = false ∧ (c == 44) = false) := by
          unfold betS
          cases gapS c <;> cases (c == 44) <;> simp
        rcases hcs with ⟨hb, hcs⟩ | ⟨hb, hg, h44⟩
        · have HT2 : Hid (trimK t = trimK r) := by show _ = _; rw [← noN_cons c t hb]; exact hTK.out
          have htl : t.length ≤ r.length := by omega
          clear hTK hb hd1
          generalize hv : c :: t = v at *
          have HV := hid_of hv
          clear hv
          rcases hcs with x1 | ⟨x1, x2⟩
          · rw [x1] at HGA
            clear x1
            go_wp2_with fail
            (go_at_call 25; refine (HGA.out _).mono ?_; rintro e w' ⟨rfl, hx⟩; obtain rfl : w2 = w' := hx.symm)
            go_wp2_with fail
            go_roundw
            case rel => exact ⟨t, rfl, HT2, htl, by trivial⟩
            case measure => simp [arr_size]; omega
          · rw [x1] at HGA
            rw [x2] at e44
            clear x1 x2
            go_wp2_with fail
            (go_at_call 25; refine (HGA.out _).mono ?_; rintro e w' ⟨rfl, hx⟩; obtain rfl : w2 = w' := hx.symm)
            go_wp2_with fail
            go_roundw
            case rel => exact ⟨t, rfl, HT2, htl, by trivial⟩
            case measure => simp [arr_size]; omega
        · have htk : trimK r = c :: t := by rw [← hTK.out]; exact trimK_stop c t hb
          obtain ⟨hk, hcl⟩ := srcK_step r (by rw [htk]; simp)
          rw [htk] at hk hcl
          obtain ⟨s1, s2, s3⟩ := cand_small (c :: t)
          have hc44 : c ≠ 44 := fun e => by subst e; simp at h44
          rw [hg] at HGA
          rw [h44] at e44
          have hyp := yesN_pos c t hg
          have HC : Hid (candK (c :: t) = if Lib.trimRightB ((c :: t).take (yesN gapS (c :: t))) 44 != (c :: t).take (yesN gapS (c :: t)) then ((Lib.trimRightB ((c :: t).take (yesN gapS (c :: t))) 44, []), (c :: t).drop (yesN gapS (c :: t)))
            else (((c :: t).take (yesN gapS (c :: t)), (sqF gapS (((c :: t).drop (yesN gapS (c :: t))).take (descN ((c :: t).drop (yesN gapS (c :: t))) false))).1), ((c :: t).drop (yesN gapS (c :: t))).drop (descN ((c :: t).drop (yesN gapS (c :: t))) false))) := rfl
          have HF : Hid (∀ n, 1 ≤ n → ((c :: t).take n).getD 0 0 = c) := fun n hn => by
            cases n with
            | zero => omega
            | succ n => simp
          clear hTK hb hd1 htk hsl hg h44
          generalize hv : c :: t = v at *
          clear hv hvl
          have hv1 : 1 ≤ v.length := by have := yesN_le gapS v; omega
          go_wp2_with fail
          (go_at_call 25; refine (HGA.out _).mono ?_; rintro e w' ⟨rfl, hx⟩; obtain rfl : w2 = w' := hx.symm)
          go_wp2_with fail
          clear HGA hix
          go_loopw [6] (fun vi wr => ∃ k : Nat, k ≤ v.length ∧ vi = .int .i64 k ∧ Hid (∀ j, j < k → gapS (v.getD j 0) = false) ∧ wr = w2) (fun vi _ => v.length - (intOf vi).toNat)
          case atStart => exact ⟨0, by omega, rfl, fun j hj => by omega, by trivial⟩
          case round =>
            obtain ⟨k, hk1, rfl, hP, hwr⟩ := hrel
            obtain rfl : w2 = wr := hwr.symm
            clear hwr
            have hcs : (k < v.length ∧ gapS (v.getD k 0) = false) ∨ (k < v.length ∧ gapS (v.getD k 0) = true ∧ yesN gapS v = k) ∨ (k = v.length ∧ yesN gapS v = k) := by
              by_cases hlt : k < v.length
              · cases hgk : gapS (v.getD k 0) with
                | false => exact .inl ⟨hlt, rfl⟩
                | true => exact .inr (.inl ⟨hlt, rfl, while_at _ v k hk1 (fun j hj => by rw [hP.out j hj]; rfl) (.inr (by rw [hgk]; rfl))⟩)
              · exact .inr (.inr ⟨by omega, while_at _ v k hk1 (fun j hj => by rw [hP.out j hj]; rfl) (.inl (by omega))⟩)
            rcases hcs with ⟨hlt, hgk⟩ | ⟨hlt, hgk, hy⟩ | ⟨hlt, hy⟩
            · have hix := byte_at v k _ hlt rfl (k : Int) rfl
              have HP2 : Hid (∀ j, j < k + 1 → gapS (v.getD j 0) = false) := fun j hj => by
                by_cases e : j = k
                · rw [e]; exact hgk
                · exact hP.out j (by omega)
              obtain ⟨b, hb⟩ : ∃ b, v.getD k 0 = b := ⟨_, rfl⟩
              rw [hb] at hix hgk
              have HGA := hid_of (fun W => gap_calls b W)
              rw [hgk] at HGA
              clear hb hgk hP
              go_wp2_with fail
              (go_at_call 25; refine (HGA.out _).mono ?_; rintro e w' ⟨rfl, hx⟩; obtain rfl : w2 = w' := hx.symm)
              go_wp2_with fail
              go_roundw
              case rel => exact ⟨k + 1, by omega, by go_num, HP2, by trivial⟩
              case measure => simp [intOf]; omega
            case' inr.inl =>
              have hix := byte_at v k _ hlt rfl (k : Int) rfl
              obtain ⟨b, hb⟩ : ∃ b, v.getD k 0 = b := ⟨_, rfl⟩
              rw [hb] at hix hgk
              have HGA := hid_of (fun W => gap_calls b W)
              rw [hgk] at HGA
              clear hb hgk hP
              go_wp2_with fail
              (go_at_call 25; refine (HGA.out _).mono ?_; rintro e w' ⟨rfl, hx⟩; obtain rfl : w2 = w' := hx.symm)
              clear HGA hix
            case' inr.inr =>
              clear hP
              have dk : decide ((k : Int) < (v.length : Int)) = false := by rw [decide_eq_false_iff_not]; omega
              have hge : v.length ≤ k := by omega
              clear hlt
            all_goals
              rw [hy] at HC hyp
              clear hy
              have hkl : (v.take k).length = k := by rw [List.length_take]; omega
              have hql : (v.drop k).length = v.length - k := List.length_drop
              have y1 := slice_h v k hk1 (k : Int) rfl
              have y2 := slice_l v k hk1 (k : Int) rfl
              have hf0 := HF.out k hyp
              obtain ⟨K, hK⟩ : ∃ K, v.take k = K := ⟨_, rfl⟩
              obtain ⟨Q, hQ⟩ : ∃ Q, v.drop k = Q := ⟨_, rfl⟩
              rw [hK] at HC hkl y1 hf0
              rw [hQ] at HC hql y2
              clear hK hQ
              have hKne : K ≠ [] := fun e => by subst e; simp at hkl; omega
              have sK := arr_size K
              have sQ := arr_size Q
              have hlx := byte_at K (k - 1) _ (by omega) rfl ((k : Int) - 1) (by omega)
              have hcc := comma_cases (K.take (k - 1)) (K.getD (k - 1) 0)
              have hlsp := last_split K hKne
              rw [hkl] at hlsp
              rw [← hlsp] at hcc
              obtain ⟨u, hu⟩ : ∃ u, K.getD (k - 1) 0 = u := ⟨_, rfl⟩
              rw [hu] at hlx hcc
              clear hu hlsp
              have u44 : ((u.toNat : Int) == 44) = (u == 44) := eq_byte u 44
              obtain ⟨W3, hW3⟩ : ∃ W, w2.alloc (.cells #[.string ⟨K.toArray⟩, .string ⟨#[]⟩] 27) = W := ⟨_, rfl⟩
              have HB23 : Hid (Below w2.heap.size w2 W3) := by rw [← hW3]; exact (Below.refl _ _).alloc (Nat.le_refl _) _
              have HK3 : Hid (W3.heap[w2.heap.size]? = some (.cells #[.string ⟨K.toArray⟩, .string ⟨#[]⟩] 27 (0, 0))) := by rw [← hW3]; exact World.alloc_heap_new _ _
              have HW3 := hid_of hW3
              clear hW3
              go_upto_region 12 with fail
              rw [HW3.out]
              clear HW3
              have c30 : W3.cell? ⟨w2.heap.size, 0, none⟩ = some (.string ⟨K.toArray⟩) := by rw [cell_of_row _ _ _ _ _ _ HK3.out]; rfl
              have c31 : W3.cell? ⟨w2.heap.size, 1, none⟩ = some (.string ⟨#[]⟩) := by rw [cell_of_row _ _ _ _ _ _ HK3.out]; rfl
              rcases hcc with ⟨x1, hcb⟩ | ⟨x1, hcb⟩
              · have HC2 : Hid (candK v = ((Lib.trimRightB K 44, []), Q)) := by show _ = _; rw [HC.out, hcb]; rfl
                rw [x1] at u44
                clear hcb HC x1
                have HFIRST : Hid (K.getD 0 0 = c) := hf0
                go_wp2_with fail
                clear c30 c31 hlx
                go_loopw [] (fun wr => ∃ n : Nat, 1 ≤ n ∧ n ≤ k ∧ Hid (Lib.trimRightB (K.take n) 44 = Lib.trimRightB K 44) ∧ Hid (wr.heap[w2.heap.size]? = some (.cells #[.string ⟨(K.take n).toArray⟩, .string ⟨#[]⟩] 27 (0, 0))) ∧ Hid (Below w2.heap.size w2 wr)) (fun wr => bytesAt wr ⟨w2.heap.size, 0, none⟩)
                case atStart => exact ⟨k, by omega, Nat.le_refl _, by show _ = _; rw [← hkl, List.take_length], by show _ = _; rw [← hkl, List.take_length]; exact HK3.out, HB23.out⟩
                case round =>
                  rename World => W5
                  obtain ⟨n, hn1, hn2, hTn, HKn, HBr⟩ := hrel
                  have c0 : W5.cell? ⟨w2.heap.size, 0, none⟩ = some (.string ⟨(K.take n).toArray⟩) := by rw [cell_of_row _ _ _ _ _ _ HKn.out]; rfl
                  have f0 : W5.frozen? ⟨w2.heap.size, 0, none⟩ = false := by simp [World.frozen?, HKn.out]
                  have hnl : (K.take n).length = n := by rw [List.length_take]; omega
                  have hnn : K.take n ≠ [] := fun e => by rw [e] at hnl; simp at hnl; omega
                  have hls := last_split (K.take n) hnn
                  rw [hnl] at hls
                  have htt : (K.take n).take (n - 1) = K.take (n - 1) := by rw [List.take_take]; congr 1; omega
                  have hly := byte_at (K.take n) (n - 1) _ (by omega) rfl ((n : Int) - 1) (by omega)
                  have hsy := slice_h (K.take n) (n - 1) (by omega) ((n : Int) - 1) (by omega)
                  have hfst : n = 1 → (K.take n).getD (n - 1) 0 = c := fun e => by
                    subst e
                    rw [← HFIRST.out]
                    cases K with
                    | nil => exact absurd rfl hKne
                    | cons a b => rfl
                  have hcl44 := comma_last (K.take (n - 1)) ((K.take n).getD (n - 1) 0)
                  rw [htt] at hls hsy
                  rw [← hls] at hcl44
                  obtain ⟨q, hq⟩ : ∃ q, (K.take n).getD (n - 1) 0 = q := ⟨_, rfl⟩
                  rw [hq] at hly hcl44 hfst
                  have q44 : ((q.toNat : Int) == 44) = (q == 44) := eq_byte q 44
                  obtain ⟨N, hN⟩ : ∃ N, K.take n = N := ⟨_, rfl⟩
                  have sN := arr_size N
                  rw [hN] at c0 hnl hly hsy hcl44 hTn HKn
                  have hNn := hnl
                  clear hls hq
                  have HNN := hid_of hN
                  clear hN hnn htt
                  cases hq44 : (q == 44) with
                  | true =>
                    rw [hq44] at q44 hcl44
                    have hn2' : 2 ≤ n := by
                      by_cases h : n = 1
                      · have := hfst h; rw [this] at hq44; exact absurd (beq_iff_eq.1 hq44) hc44
                      · omega
                    have HT2 : Hid (Lib.trimRightB (K.take (n - 1)) 44 = Lib.trimRightB K 44) := by show _ = _; rw [← hTn.out, hcl44]; rfl
                    have HK6 : Hid ((W5.setCell ⟨w2.heap.size, 0, none⟩ (.string ⟨(K.take (n - 1)).toArray⟩)).heap[w2.heap.size]? = some (.cells #[.string ⟨(K.take (n - 1)).toArray⟩, .string ⟨#[]⟩] 27 (0, 0))) := Lib.heap_setCell_same (i := 0) HKn.out _
                    have HB6 : Hid (Below w2.heap.size w2 (W5.setCell ⟨w2.heap.size, 0, none⟩ (.string ⟨(K.take (n - 1)).toArray⟩))) := HBr.out.setCell (Nat.le_refl _) _
                    have hms : (⟨(K.take (n - 1)).toArray⟩ : ByteArray).size < N.length := by rw [arr_size, List.length_take]; omega
                    have hmsr : bytesAt (W5.setCell ⟨w2.heap.size, 0, none⟩ (.string ⟨(K.take (n - 1)).toArray⟩)) ⟨w2.heap.size, 0, none⟩ < bytesAt W5 ⟨w2.heap.size, 0, none⟩ := by
                      rw [bytesAt_of (cs_same c0), bytesAt_of c0, sN]; exact hms
                    have HMS := hid_of hmsr
                    clear hcl44 hfst hms hmsr
                    go_wp2_with fail
                    exact ⟨⟨n - 1, by omega, by omega, HT2, HK6, HB6⟩, HMS.out⟩
                  | false =>
                    rw [hq44] at q44 hcl44
                    have hTR : Lib.trimRightB K 44 = N := by rw [← hTn.out, hcl44]; rfl
                    rw [hTR] at HC2
                    have HKr := HKn
                    have hQl : Q.length ≤ 400000000 := by omega
                    clear hcl44 hfst hsy hTR
                    have z5r := HBr.out.size
                    have HB5 := hid_of (HB2.out.trans (HBr.out.mono z2))
                    have HO5 : Hid (OwnW 27 w1.heap.size W5 (.slice a o.length cap) o) := owns_below HO2.out HBr.out
                    have z5 := HB5.out.size
                    have c50 : W5.cell? ⟨w2.heap.size, 0, none⟩ = some (.string ⟨N.toArray⟩) := by rw [cell_of_row _ _ _ _ _ _ HKr.out]; rfl
                    have c51 : W5.cell? ⟨w2.heap.size, 1, none⟩ = some (.string ⟨([] : List UInt8).toArray⟩) := by rw [cell_of_row _ _ _ _ _ _ HKr.out]; rfl
                    have HC51 := hid_of c51
                    have HOB : Hid (∀ j, (Value.slice a o.length cap).ownBlock = some j → j < w2.heap.size) := fun j hj => (HO2.out.lt j hj).2
                    have HE2 : Hid (o ++ [(N, ([] : List UInt8))] ++ (srcK Q).1 = L) := by have := HE.out; rw [hk, HC2.out] at this; show _ = _; rw [← this]; simp
                    have HG2 : Hid ((g && (goodP ([] : List UInt8) && (srcK Q).2)) = G) := by have := HG.out; rw [hk, HC2.out] at this; exact this
                    have HZL : Hid (Q.length < r.length) := by have := hcl; rw [HC2.out] at this; exact this
                    have HGD : Hid (∀ W, Calls Tryz.prog 27 #[.string ⟨([] : List UInt8).toArray⟩] W fun e w' => e = .returned (.bool (goodP ([] : List UInt8))) ∧ Below W.heap.size W w') := fun W => good_calls ([] : List UInt8) W (by simp)
                    obtain ⟨gd, hgd⟩ : ∃ b, goodP ([] : List UInt8) = b := ⟨_, rfl⟩
                    rw [hgd] at HGD HG2
                    clear hgd
                    go_upto_region 26 with (at_builtin; refine append_two rfl _ _ 22 27 Tryz.underlying22 infoCand rfl w1.heap.size (.slice a o.length cap) o rfl (HO5.out.alloc _) W5.heap.size (N, ([] : List UInt8)) rfl (two_new0 _ _ _ _) (two_new1 _ _ _ _) (by have := HLEN.out; omega) (by simp; omega) ?_; intro v' w6 hown' hgrow)
                    obtain ⟨a2, cap2, rfl, hc8, _, _⟩ := OwnW.at hown'
                    have HB6 : Hid (Below w1.heap.size w1 w6) := (HB5.out.alloc z5 _).grown hgrow (by simp; omega) (fun j hj => (HO5.out.lt j hj).1)
                    have c61 : w6.cell? ⟨w2.heap.size, 1, none⟩ = some (.string ⟨([] : List UInt8).toArray⟩) := hgrow.cell (by rw [C.cell_under _ _ _ (cell_lt HC51.out)]; exact HC51.out) (fun e => absurd (HOB.out _ e.symm) (Nat.lt_irrefl _))
                    clear c50 c51
                    cases g with
                    | false =>
                      go_wp2_with fail
                      go_roundw
                      case rel => exact ⟨Q, o ++ [(N, ([] : List UInt8))], false, a2, cap2, rfl, rfl, rfl, HE2, by have := HG2.out; rw [Bool.false_and] at this ⊢; exact this, by have := HLEN.out; have := HZL.out; rw [List.length_append, List.length_singleton]; omega, hown', HB6⟩
                      case measure => have := HZL.out; simp [arr_size]; omega
                    | true =>
                      have HG3 : Hid ((gd && (srcK Q).2) = G) := by have := HG2.out; rw [Bool.true_and] at this; exact this
                      go_wp2_with fail
                      (go_at_call 27; refine (HGD.out w6).mono ?_; rintro e w7 ⟨rfl, hb7⟩)
                      have HB7 : Hid (Below w1.heap.size w1 w7) := HB6.out.trans (hb7.mono HB6.out.size)
                      have HO7 : Hid (OwnW 27 w1.heap.size w7 (.slice a2 (o ++ [(N, ([] : List UInt8))]).length cap2) (o ++ [(N, ([] : List UInt8))])) := owns_below hown' hb7
                      clear hb7
                      go_wp2_with fail
                      go_roundw
                      case rel => exact ⟨Q, o ++ [(N, ([] : List UInt8))], gd, a2, cap2, rfl, (by simp), rfl, HE2, HG3, by have := HLEN.out; have := HZL.out; rw [List.length_append, List.length_singleton]; omega, HO7.out, HB7⟩
                      case measure => have := HZL.out; simp [arr_size]; omega
              · rw [x1] at u44
                have HC2 : Hid (candK v = ((K, (sqF gapS (Q.take (descN Q false))).1), Q.drop (descN Q false))) := by show _ = _; rw [HC.out, hcb]; rfl
                clear hcb HC x1
                have f31 : W3.frozen? ⟨w2.heap.size, 1, none⟩ = false := by simp [World.frozen?, HK3.out]
                have hQ9 : Q.length ≤ 400000000 := by omega
                clear hql
                go_wp2_with fail
                clear c30 hlx
                have HC31 := hid_of c31
                have HF31 := hid_of f31
                clear c31 f31
                go_loopw [8, 9] (fun vi vb wr => ∃ (n : Nat) (b : Bool), n ≤ Q.length ∧ vi = .int .i64 n ∧ vb = .bool b ∧ Hid (inAt false Q n = b) ∧ Hid (∀ j, j < n → (!inAt false Q j && Q.getD j 0 == 44) = false) ∧ wr = W3) (fun vi _ _ => Q.length - (intOf vi).toNat)
                case atStart => exact ⟨0, false, by omega, rfl, rfl, rfl, fun j hj => by omega, by trivial⟩
                case round =>
                  obtain ⟨n, b, hn, rfl, rfl, hb, hP, hwr⟩ := hrel
                  obtain rfl : W3 = wr := hwr.symm
                  clear hwr
                  have hcs : (n < Q.length ∧ (!b && Q.getD n 0 == 44) = false) ∨ (n < Q.length ∧ b = false ∧ Q.getD n 0 = 44 ∧ descN Q false = n) ∨ (n = Q.length ∧ descN Q false = n) := by
                    by_cases hlt : n < Q.length
                    · cases h : (!b && Q.getD n 0 == 44) with
                      | false => exact .inl ⟨hlt, rfl⟩
                      | true =>
                        have hd := descN_at Q false n hn hP.out (.inr (by rw [hb.out]; exact h))
                        simp only [Bool.and_eq_true, Bool.not_eq_true', beq_iff_eq] at h
                        exact .inr (.inl ⟨hlt, h.1, h.2, hd⟩)
                    · exact .inr (.inr ⟨by omega, descN_at Q false n hn hP.out (.inl (by omega))⟩)
                  rcases hcs with ⟨hlt, hgo⟩ | ⟨hlt, hbf, hx, hd⟩ | ⟨hlt, hd⟩
                  · have hix := byte_at Q n _ hlt rfl (n : Int) rfl
                    have HP2 : Hid (∀ j, j < n + 1 → (!inAt false Q j && Q.getD j 0 == 44) = false) := fun j hj => by
                      by_cases e : j = n
                      · rw [e, hb.out]; exact hgo
                      · exact hP.out j (by omega)
                    have hib := inAt_succ false Q n hlt
                    rw [hb.out] at hib
                    obtain ⟨x, hx⟩ : ∃ x, Q.getD n 0 = x := ⟨_, rfl⟩
                    rw [hx] at hix hib hgo
                    have x44 : ((x.toNat : Int) == 44) = (x == 44) := eq_byte x 44
                    have x40 : ((x.toNat : Int) == 40) = (x == 40) := eq_byte x 40
                    have x41 : ((x.toNat : Int) == 41) = (x == 41) := eq_byte x 41
                    unfold inS at hib
                    have dk : decide ((n : Int) < (Q.length : Int)) = true := by rw [decide_eq_true_eq]; omega
                    clear hx hP hb HC2
                    have hgo2 : b = true ∨ (b = false ∧ (x == 44) = false) := by cases b <;> simp_all
                    clear hgo
                    have h4041 : (x == 40) = true ∨ ((x == 40) = false ∧ (x == 41) = true) ∨ ((x == 40) = false ∧ (x == 41) = false) := by cases (x == 40) <;> cases (x == 41) <;> simp
                    rcases h4041 with h0 | ⟨h0, h1⟩ | ⟨h0, h1⟩
                    · rw [h0] at x40 hib
                      have h1 : (x == 41) = false := by have := beq_iff_eq.1 h0; subst this; rfl
                      rw [h1] at x41
                      have HIB : Hid (inAt false Q (n + 1) = true) := hib
                      clear h0 h1 hib
                      rcases hgo2 with rfl | ⟨rfl, h44⟩
                      · clear x44
                        go_wp2_with fail
                        exact ⟨⟨n + 1, true, by omega, by go_num, rfl, HIB, HP2, by trivial⟩, by simp [intOf]; omega⟩
                      · rw [h44] at x44
                        clear h44
                        go_wp2_with fail
                        exact ⟨⟨n + 1, true, by omega, by go_num, rfl, HIB, HP2, by trivial⟩, by simp [intOf]; omega⟩
                    · rw [h0] at x40 hib
                      rw [h1] at x41 hib
                      have HIB : Hid (inAt false Q (n + 1) = false) := hib
                      clear h0 h1 hib
                      rcases hgo2 with rfl | ⟨rfl, h44⟩
                      · clear x44
                        go_wp2_with fail
                        exact ⟨⟨n + 1, false, by omega, by go_num, rfl, HIB, HP2, by trivial⟩, by simp [intOf]; omega⟩
                      · rw [h44] at x44
                        clear h44
                        go_wp2_with fail
                        exact ⟨⟨n + 1, false, by omega, by go_num, rfl, HIB, HP2, by trivial⟩, by simp [intOf]; omega⟩
                    · rw [h0] at x40 hib
                      rw [h1] at x41 hib
                      have HIB : Hid (inAt false Q (n + 1) = b) := hib
                      clear h0 h1 hib
                      rcases hgo2 with rfl | ⟨rfl, h44⟩
                      · clear x44
                        go_wp2_with fail
                        exact ⟨⟨n + 1, true, by omega, by go_num, rfl, HIB, HP2, by trivial⟩, by simp [intOf]; omega⟩
                      · rw [h44] at x44
                        clear h44
                        go_wp2_with fail
                        exact ⟨⟨n + 1, false, by omega, by go_num, rfl, HIB, HP2, by trivial⟩, by simp [intOf]; omega⟩
                  case' inr.inl =>
                    have hix := byte_at Q n _ hlt rfl (n : Int) rfl
                    rw [hx] at hix
                    have e9 : (((44 : UInt8).toNat : Int) == 44) = true := by decide
                    have dk : decide ((n : Int) < (Q.length : Int)) = true := by rw [decide_eq_true_eq]; omega
                    subst hbf
                    have hlt9 : n < Q.length := hlt
                    clear hx hlt
                  case' inr.inr =>
                    have dk : decide ((n : Int) < (Q.length : Int)) = false := by rw [decide_eq_false_iff_not]; omega
                    have e9 : (((44 : UInt8).toNat : Int) == 44) = true := by decide
                    have hlt9 : ¬ n < Q.length := by omega
                    clear hlt
                  all_goals
                    rw [hd] at HC2
                    clear hd hP hb
                    have y3 := slice_h Q n hn (n : Int) rfl
                    have y4 := slice_l Q n hn (n : Int) rfl
                    have hPl : (Q.take n).length ≤ 400000000 := by rw [List.length_take]; omega
                    obtain ⟨P, hP⟩ : ∃ P, Q.take n = P := ⟨_, rfl⟩
                    obtain ⟨Z, hZ⟩ : ∃ Z, Q.drop n = Z := ⟨_, rfl⟩
                    rw [hP] at HC2 y3 hPl
                    rw [hZ] at HC2 y4
                    clear hP hZ
                    have HSQ := hid_of (fun W => squeezed_calls P W (by omega))
                    have hDl := sqF_le gapS P
                    obtain ⟨D, hD⟩ : ∃ D, (sqF gapS P).1 = D := ⟨_, rfl⟩
                    rw [hD] at HC2 HSQ hDl
                    clear hD
                    have hDl : D.length ≤ 800000000 := by omega
                    clear hPl
                    have c31 := HC31.out
                    have f31 := HF31.out
                    obtain ⟨W5, hW5⟩ : ∃ W, W3.setCell ⟨w2.heap.size, 1, none⟩ (.string ⟨D.toArray⟩) = W := ⟨_, rfl⟩
                    have HKr : Hid (W5.heap[w2.heap.size]? = some (.cells #[.string ⟨K.toArray⟩, .string ⟨D.toArray⟩] 27 (0, 0))) := by rw [← hW5]; exact Lib.heap_setCell_same (i := 1) HK3.out _
                    have HBr : Hid (Below w2.heap.size w2 W5) := by rw [← hW5]; exact HB23.out.setCell (Nat.le_refl _) _
                    have HW5 := hid_of hW5
                    clear hW5
                    go_wp2_with fail
                    (go_at_call 26; refine (HSQ.out _).mono ?_; rintro e w' ⟨rfl, hx⟩; obtain rfl : W3 = w' := hx.symm)
                    go_upto_region 25 with fail
                    rw [HW5.out]
                    clear HW5 c31 f31 y3 hlt9
                    have z5r := HBr.out.size
                    have HB5 := hid_of (HB2.out.trans (HBr.out.mono z2))
                    have HO5 : Hid (OwnW 27 w1.heap.size W5 (.slice a o.length cap) o) := owns_below HO2.out HBr.out
                    have z5 := HB5.out.size
                    have c50 : W5.cell? ⟨w2.heap.size, 0, none⟩ = some (.string ⟨K.toArray⟩) := by rw [cell_of_row _ _ _ _ _ _ HKr.out]; rfl
                    have c51 : W5.cell? ⟨w2.heap.size, 1, none⟩ = some (.string ⟨D.toArray⟩) := by rw [cell_of_row _ _ _ _ _ _ HKr.out]; rfl
                    have HC51 := hid_of c51
                    have HOB : Hid (∀ j, (Value.slice a o.length cap).ownBlock = some j → j < w2.heap.size) := fun j hj => (HO2.out.lt j hj).2
                    have HE2 : Hid (o ++ [(K, D)] ++ (srcK Z).1 = L) := by have := HE.out; rw [hk, HC2.out] at this; show _ = _; rw [← this]; simp
                    have HG2 : Hid ((g && (goodP D && (srcK Z).2)) = G) := by have := HG.out; rw [hk, HC2.out] at this; exact this
                    have HZL : Hid (Z.length < r.length) := by have := hcl; rw [HC2.out] at this; exact this
                    have HGD : Hid (∀ W, Calls Tryz.prog 27 #[.string ⟨D.toArray⟩] W fun e w' => e = .returned (.bool (goodP D)) ∧ Below W.heap.size W w') := fun W => good_calls D W (by omega)
                    obtain ⟨gd, hgd⟩ : ∃ b, goodP D = b := ⟨_, rfl⟩
                    rw [hgd] at HGD HG2
                    clear hgd
                    go_upto_region 26 with (at_builtin; refine append_two rfl _ _ 22 27 Tryz.underlying22 infoCand rfl w1.heap.size (.slice a o.length cap) o rfl (HO5.out.alloc _) W5.heap.size (K, D) rfl (two_new0 _ _ _ _) (two_new1 _ _ _ _) (by have := HLEN.out; omega) (by simp; omega) ?_; intro v' w6 hown' hgrow)
                    obtain ⟨a2, cap2, rfl, hc8, _, _⟩ := OwnW.at hown'
                    have HB6 : Hid (Below w1.heap.size w1 w6) := (HB5.out.alloc z5 _).grown hgrow (by simp; omega) (fun j hj => (HO5.out.lt j hj).1)
                    have c61 : w6.cell? ⟨w2.heap.size, 1, none⟩ = some (.string ⟨D.toArray⟩) := hgrow.cell (by rw [C.cell_under _ _ _ (cell_lt HC51.out)]; exact HC51.out) (fun e => absurd (HOB.out _ e.symm) (Nat.lt_irrefl _))
                    clear c50 c51
                    cases g with
                    | false =>
                      go_wp2_with fail
                      go_roundw
                      case rel => exact ⟨Z, o ++ [(K, D)], false, a2, cap2, rfl, rfl, rfl, HE2, by have := HG2.out; rw [Bool.false_and] at this ⊢; exact this, by have := HLEN.out; have := HZL.out; rw [List.length_append, List.length_singleton]; omega, hown', HB6⟩
                      case measure => have := HZL.out; simp [arr_size]; omega
                    | true =>
                      have HG3 : Hid ((gd && (srcK Z).2) = G) := by have := HG2.out; rw [Bool.true_and] at this; exact this
                      go_wp2_with fail
                      (go_at_call 27; refine (HGD.out w6).mono ?_; rintro e w7 ⟨rfl, hb7⟩)
                      have HB7 : Hid (Below w1.heap.size w1 w7) := HB6.out.trans (hb7.mono HB6.out.size)
                      have HO7 : Hid (OwnW 27 w1.heap.size w7 (.slice a2 (o ++ [(K, D)]).length cap2) (o ++ [(K, D)])) := owns_below hown' hb7
                      clear hb7
                      go_wp2_with fail
                      go_roundw
                      case rel => exact ⟨Z, o ++ [(K, D)], gd, a2, cap2, rfl, (by simp), rfl, HE2, HG3, by have := HLEN.out; have := HZL.out; rw [List.length_append, List.length_singleton]; omega, HO7.out, HB7⟩
                      case measure => have := HZL.out; simp [arr_size]; omega
end Go.Proofs.YthjjigobkndgjaaGreatDoor.L
