/- What is proved here: laws and contracts of LpCut, LpPlus, LpPairs, one behind the other (each says its own). -/
import Derived.Test.YtmfhhpacojodkaaGreatDoorLpShelfC
import Derived.Test.YtmfhhpacojodkaaGreatDoorBun7
import Derived.Test.YtmfhhpacojodkaaGreatDoorBun11
import Derived.Test.YtmfhhpacojodkaaGreatDoorLpShelfT
import Derived.Test.YtmfhhpacojodkaaGreatDoorLpShelfP
import Derived.Test.YtmfhhpacojodkaaGreatDoorLkPairM
import Derived.Test.YtmfhhpacojodkaaGreatDoorBun16
/- What is proved here: strings.Cut at one byte and strings.CutPrefix of two slashes, by where the first byte of that kind stands. -/
namespace Go.Proofs.YtmfhhpacojodkaaGreatDoor.L
open Go.RowKit Go.Shelf Go.Proofs.YtmfhhpacojodkaaGreatDoor.N Go.Proofs.YtmfhhpacojodkaaGreatDoor.U

abbrev MaxOk (w : World) : Prop := ∃ m, w.cell? ⟨Tryz.lays145_ren.g 1, 0, none⟩ = some (.int .i64 m)
theorem MaxOk.below {w w' : World} (h : MaxOk w) (hb : Below w.heap.size w w') : MaxOk w' := by
  obtain ⟨m, h⟩ := h
  exact ⟨m, (hb.cell (cell_lt h)).trans h⟩
theorem cut_at (p : UInt8) : ∀ (s : List UInt8), Lib.cut s [p] = (s.take (upToL [p] s), s.drop (upToL [p] s + 1), decide (upToL [p] s < s.length))
  | [] => by simp [Lib.cut, Lib.index, upToL]
  | b :: l => by
    have hg := Lib.index_ge l [p]
    rw [upToL_cons]
    by_cases h : b = p
    · subst h
      simp [Lib.cut, Lib.index, List.isPrefixOf]
    · have hp : ([p].isPrefixOf (b :: l)) = false := by simp [List.isPrefixOf]; exact fun e => h e.symm
      have hb : ([p].contains b) = false := by simp; exact h
      have hix : Lib.index (b :: l) [p] = if Lib.index l [p] == -1 then -1 else Lib.index l [p] + 1 := by
        rw [Lib.index, hp]; simp
      have ih := cut_at p l
      unfold Lib.cut at ih ⊢
      rw [hix, hb]
      simp only [Bool.false_eq_true, if_false]
      by_cases h1 : Lib.index l [p] = -1
      · rw [h1] at ih ⊢
        simp only [show ¬ (0 : Int) ≤ -1 by omega, if_false, Prod.mk.injEq] at ih
        simp only [beq_self_eq_true, if_true, show ¬ (0 : Int) ≤ -1 by omega, if_false, Prod.mk.injEq]
        refine ⟨by rw [List.take_succ_cons, ← ih.1], by rw [List.drop_succ_cons]; exact ih.2.1, ?_⟩
        rw [ih.2.2, decide_eq_decide]
        simp
      · have h0 : 0 ≤ Lib.index l [p] := by omega
        obtain ⟨k, hk⟩ : ∃ k : Nat, Lib.index l [p] = k := ⟨(Lib.index l [p]).toNat, by omega⟩
        rw [hk] at ih ⊢
        have hne : ((k : Int) == -1) = false := by rw [beq_eq_false_iff_ne]; omega
        simp only [show (0 : Int) ≤ (k : Int) by omega, if_true, Prod.mk.injEq, Int.toNat_natCast] at ih
        simp only [hne, Bool.false_eq_true, if_false, show (0 : Int) ≤ (k : Int) + 1 by omega, if_true, Prod.mk.injEq]
        rw [show ((k : Int) + 1).toNat = k + 1 by omega]
        refine ⟨by rw [List.take_succ_cons, ih.1, List.take_succ_cons], by rw [show k + 1 + [p].length = (k + [p].length) + 1 by omega, List.drop_succ_cons, ih.2.1, List.drop_succ_cons], ?_⟩
        rw [ih.2.2, decide_eq_decide]
        simp
theorem cut_calls (s : List UInt8) (p : UInt8) (w : World) (hs : s.length < 4294967281) (hm : MaxOk w) :
    Calls Tryz.prog 28 #[.string ⟨s.toArray⟩, .string ⟨#[p]⟩] w fun e w' => e = .returned (.tuple #[.string ⟨(s.take (upToL [p] s)).toArray⟩, .string ⟨(s.drop (upToL [p] s + 1)).toArray⟩, .bool (decide (upToL [p] s < s.length))]) ∧ Below w.heap.size w w' := by
  obtain ⟨m, hm⟩ := hm
  refine (Any.strings_Cut Tryz.lays145 ⟨s.toArray⟩ ⟨#[p]⟩ m w (by rw [arr_size]; exact hs) hm).mono ?_
  rintro e w' ⟨rfl, n, rfl⟩
  refine ⟨?_, rfl, rfl, rfl, Nat.le_refl _, fun _ _ => rfl⟩
  have := cut_at p s
  simp only [this]
theorem host_calls (c : List UInt8) (w : World) : Calls Tryz.prog 35 #[.string ⟨(47 :: 47 :: c).toArray⟩, .string ⟨#[47, 47]⟩] w fun e w' => e = .returned (.tuple #[.string ⟨c.toArray⟩, .bool true]) ∧ w' = w :=
  Any.strings_CutPrefix Tryz.lays103 ⟨(47 :: 47 :: c).toArray⟩ ⟨#[47, 47]⟩ w
theorem nohost (B : List UInt8) (h : (hostK B).1 = false) : [47, 47].isPrefixOf B = false := by
  cases B with
  | nil => rfl
  | cons a t =>
    cases t with
    | nil => simp [List.isPrefixOf]
    | cons b u =>
      have h' : (if (a == 47 && b == 47) = true then (true, u.take (upToL [47] u), u.drop (upToL [47] u)) else (false, [], a :: b :: u)).1 = false := h
      cases hc : (a == 47 && b == 47) with
      | true => rw [hc] at h'; simp at h'
      | false =>
        simp [List.isPrefixOf]
        intro e1 e2
        subst e1; subst e2
        simp at hc
theorem nohost_calls (B : List UInt8) (h : (hostK B).1 = false) (w : World) : Calls Tryz.prog 35 #[.string ⟨B.toArray⟩, .string ⟨#[47, 47]⟩] w fun e w' => e = .returned (.tuple #[.string ⟨B.toArray⟩, .bool false]) ∧ w' = w := by
  have := Any.strings_CutPrefix Tryz.lays103 ⟨B.toArray⟩ ⟨#[47, 47]⟩ w
  have e : Lib.hasPrefix B [47, 47] = false := nohost B h
  simp only [Lib.trimPrefix, e] at this
  exact this
end Go.Proofs.YtmfhhpacojodkaaGreatDoor.L

/- What is proved here: strings.ReplaceAll of the plus by a space, strings.Split at ampersands, and the contract of link.unform. -/
namespace Go.Proofs.YtmfhhpacojodkaaGreatDoor.L
open Go.RowKit Go.Shelf Go.Proofs.YtmfhhpacojodkaaGreatDoor.N Go.Proofs.YtmfhhpacojodkaaGreatDoor.U

/-- The library's variable that strings.Split, strings.Cut and strings.ReplaceAll read is a number. -/
abbrev MaxP (w : World) : Prop := ∃ m, w.cell? ⟨Tryz.laysM146_ren.g 1, 0, none⟩ = some (.int .i64 m)
theorem MaxP.below {w w' : World} (h : MaxP w) (hb : Below w.heap.size w w') : MaxP w' := by
  obtain ⟨m, hm⟩ := h
  exact ⟨m, (hb.cell (cell_lt hm)).trans hm⟩
theorem maxP_155 : Tryz.laysM155_ren.g 1 = Tryz.laysM146_ren.g 1 := by kernel_rfl
theorem maxP_145 : Tryz.lays145_ren.g 1 = Tryz.laysM146_ren.g 1 := by kernel_rfl
theorem MaxP.ok {w : World} (h : MaxP w) : MaxOk w := by
  obtain ⟨m, hm⟩ := h
  exact ⟨m, by rw [maxP_145]; exact hm⟩
theorem builderXP : Builder.Extra Tryz.prog Tryz.laysM155_ren := {
  sizeBuilder := by kernel_rfl
  liesBuilder := by kernel_rfl
  t5 := Tryz.underlying5
  a5 := Tryz.isAgg5
  z5 := Tryz.sizeOf5
  v5 := Tryz.zeroValue5
  infoByte := by kernel_rfl
  cellsByte := by kernel_rfl
  sizeByte := by kernel_rfl
  neB5 := by decide }
theorem replacePlus_calls (s : List UInt8) (w : World) (hm : MaxP w) (hl : s.length ≤ 1000000000) : Calls Tryz.prog 59 #[.string ⟨s.toArray⟩, .string ⟨#[43]⟩, .string ⟨#[32]⟩] w fun e w' => e = .returned (.string ⟨(s.map plusC).toArray⟩) ∧ Below w.heap.size w w' := by
  obtain ⟨m, hm⟩ := hm
  have hc := Lib.countB_le ⟨#[43]⟩ (by decide) (⟨s.toArray⟩ : ByteArray).size ⟨s.toArray⟩ (Nat.le_refl _)
  rw [arr_size] at hc
  have hp : (⟨#[32]⟩ : ByteArray).size = 1 := rfl
  have hq : (⟨#[43]⟩ : ByteArray).size = 1 := rfl
  have h := Any.strings_ReplaceAll { Tryz.laysM155 with } builderXP ⟨s.toArray⟩ ⟨#[43]⟩ ⟨#[32]⟩ m w (by rw [arr_size]; omega) (by rw [maxP_155]; exact hm) (by decide) (by rw [arr_size, hp]; omega)
  rw [show (⟨s.toArray⟩ : ByteArray).data.toList = s from rfl, show (⟨#[43]⟩ : ByteArray).data.toList = [43] from rfl, show (⟨#[32]⟩ : ByteArray).data.toList = [32] from rfl, replace_plus] at h
  exact h
theorem amp_parts (s : List UInt8) : (Lib.splitB ⟨#[38]⟩ 0 (Lib.countB ⟨s.toArray⟩ ⟨#[38]⟩) ⟨s.toArray⟩).map (·.data.toList) = ampP s := Lib.splitB_data ⟨#[38]⟩ 0 _ ⟨s.toArray⟩
theorem splitAmp_calls (s : List UInt8) (w : World) (hs : s.length ≤ 1000000000) (hm : MaxP w) : Calls Tryz.prog 27 #[.string ⟨s.toArray⟩, .string ⟨#[38]⟩] w fun e w' => e = .returned (.slice (some ⟨w.heap.size, 0, none⟩) (ampP s).length (ampP s).length) ∧ Below w.heap.size w w' ∧ w.heap.size < w'.heap.size ∧ ∀ j, j < (ampP s).length → w'.cell? ⟨w.heap.size, j, none⟩ = some (.string ⟨((ampP s).getD j []).toArray⟩) := by
  obtain ⟨m, hm⟩ := hm
  have hlen : (ampP s).length = Lib.countB ⟨s.toArray⟩ ⟨#[38]⟩ + 1 := by
    rw [← amp_parts, List.length_map]
    exact Lib.splitB_all ⟨#[38]⟩ (by decide) 0 _ ⟨s.toArray⟩ rfl
  refine (Any.strings_Split { Tryz.laysM146 with } Tryz.laysM146.i9 ⟨s.toArray⟩ ⟨#[38]⟩ m w (by rw [arr_size]; omega) hm (by decide)).mono fun e w' ⟨h1, h2⟩ => ⟨by rw [h1, hlen], ?_, ?_, fun j hj => ?_⟩
  · rw [h2]; exact (Below.refl _ w).alloc (Nat.le_refl _) _
  · rw [h2]; simp
  · rw [h2, cell_of_row _ _ _ _ _ _ (World.alloc_heap_new w _)]
    have hap := amp_parts s
    obtain ⟨P, hP⟩ : ∃ P, Lib.splitB ⟨#[38]⟩ 0 (Lib.countB ⟨s.toArray⟩ ⟨#[38]⟩) ⟨s.toArray⟩ = P := ⟨_, rfl⟩
    rw [hP] at hap ⊢
    rw [← hap] at hj ⊢
    have hj2 : j < P.length := by simpa using hj
    show ((P.map Value.string).toArray)[j]? = _
    simp [hj2]
set_option maxRecDepth 100000 in
set_option maxHeartbeats 1000000 in
/-- **unform.** -/
theorem unform_calls (s : List UInt8) (w : World) (hT : Tb w) (hm : MaxP w) (hl : s.length ≤ 1000000000) : Calls Tryz.prog 29 #[.string ⟨s.toArray⟩] w fun e W' => e = .returned (.string ⟨(unfL s).toArray⟩) ∧ Below w.heap.size w W' := by
  have HR := hid_of (replacePlus_calls s w hm hl)
  have HD : Hid (∀ W, Below w.heap.size w W → Calls Tryz.prog 58 #[.string ⟨(s.map plusC).toArray⟩] W fun e W' => e = .returned (.string ⟨(unfL s).toArray⟩) ∧ Below W.heap.size W W') := fun W h => decode_calls (s.map plusC) W (hT.below h) (by rw [List.length_map]; exact hl)
  obtain ⟨U, hU⟩ : ∃ U, unfL s = U := ⟨_, rfl⟩
  obtain ⟨P, hP⟩ : ∃ P, s.map plusC = P := ⟨_, rfl⟩
  rw [hU] at HD ⊢
  rw [hP] at HD HR
  clear hU hP hT hm
  go_enter Tryz.func29, Tryz.ntmps29
  go_wp2_with fail
  (go_at_call 59; refine HR.out.mono ?_; rintro e w1 ⟨rfl, hb1⟩)
  go_wp2_with fail
  (go_at_call 58; refine (HD.out _ hb1).mono ?_; rintro e w2 ⟨rfl, hb2⟩)
  go_wp2_with fail
  go_ret
  exact ⟨rfl, hb1.trans (hb2.mono hb1.size)⟩
end Go.Proofs.YtmfhhpacojodkaaGreatDoor.L

/- What is proved here: the contract of link.Pairs: the pairs of a query. -/
namespace Go.Proofs.YtmfhhpacojodkaaGreatDoor.L
open Go.RowKit Go.Shelf Go.Proofs.YtmfhhpacojodkaaGreatDoor.N Go.Proofs.YtmfhhpacojodkaaGreatDoor.U

theorem infoAttr : (Tryz.prog.info? 36).map (fun i => (i.zero, i.size, i.bytes)) = some (some (.agg #[.string ⟨#[]⟩, .string ⟨#[]⟩]), 2, 32) := by kernel_rfl
theorem two_new0 (w : World) (a b : Value) (e : TypeId) : (w.alloc (.cells #[a, b] e)).cell? ⟨w.heap.size, 0, none⟩ = some a := by
  rw [cell_of_row _ _ _ _ _ _ (World.alloc_heap_new w _)]; rfl
theorem two_new1 (w : World) (a b : Value) (e : TypeId) : (w.alloc (.cells #[a, b] e)).cell? ⟨w.heap.size, 1, none⟩ = some b := by
  rw [cell_of_row _ _ _ _ _ _ (World.alloc_heap_new w _)]; rfl
theorem pairsP_pre (L : List (List UInt8)) (k : Nat) : (pairsP (L.take k)).length ≤ L.length := by
  have h1 := pairsP_le (L.take k)
  have h2 := List.length_take_le k L
  have h3 : (L.take k).length ≤ L.length := by rw [List.length_take]; omega
  omega
set_option maxRecDepth 100000 in
set_option maxHeartbeats 4000000 in
/-- **Pairs.** -/
theorem pairs_calls (bs : List UInt8) (w : World) (hT : Tb w) (hm : MaxP w) (hl : bs.length ≤ 100000000) : Calls Tryz.prog 11 #[.string ⟨bs.toArray⟩] w fun e W' => ∃ v, e = .returned v ∧ OwnW 36 w.heap.size W' v (pairsK (mendL bs)) ∧ Below w.heap.size w W' := by
  have HM : Hid (Calls Tryz.prog 18 #[.string ⟨bs.toArray⟩] w fun e W' => e = .returned (.string ⟨(mendL bs).toArray⟩) ∧ Below w.heap.size w W') := mend_calls bs w (by omega) hT
  have hml := mend_le bs
  obtain ⟨s, hS⟩ : ∃ s, mendL bs = s := ⟨_, rfl⟩
  rw [hS] at HM hml ⊢
  have hss : s.length ≤ 400000000 := by omega
  clear hS hml hl
  have HSP : Hid (∀ W, Below w.heap.size w W → Calls Tryz.prog 27 #[.string ⟨s.toArray⟩, .string ⟨#[38]⟩] W fun e w' => e = .returned (.slice (some ⟨W.heap.size, 0, none⟩) (ampP s).length (ampP s).length) ∧ Below W.heap.size W w' ∧ W.heap.size < w'.heap.size ∧ ∀ j, j < (ampP s).length → w'.cell? ⟨W.heap.size, j, none⟩ = some (.string ⟨((ampP s).getD j []).toArray⟩)) := fun W h => splitAmp_calls s W (by omega) (hm.below h)
  obtain ⟨hPl, hPx⟩ := ampP_le s.length s (Nat.le_refl _)
  have HK : Hid (pairsK s = pairsP (ampP s)) := rfl
  obtain ⟨V, hV⟩ : ∃ V, pairsK s = V := ⟨_, rfl⟩
  rw [hV] at HK ⊢
  clear hV
  obtain ⟨P, hP⟩ : ∃ P, ampP s = P := ⟨_, rfl⟩
  rw [hP] at HSP hPl hPx HK
  clear hP
  have HPX := hid_of hPx
  have HCU : Hid (∀ p ∈ P, ∀ W, Below w.heap.size w W → Calls Tryz.prog 28 #[.string ⟨p.toArray⟩, .string ⟨#[61]⟩] W fun e w' => e = .returned (.tuple #[.string ⟨(p.take (upToL [61] p)).toArray⟩, .string ⟨(p.drop (upToL [61] p + 1)).toArray⟩, .bool (decide (upToL [61] p < p.length))]) ∧ Below W.heap.size W w') := fun p hp W h => cut_calls p 61 W (by have := hPx p hp; omega) (hm.below h).ok
  have HUN : Hid (∀ x : List UInt8, x.length ≤ 1000000000 → ∀ W, Below w.heap.size w W → Calls Tryz.prog 29 #[.string ⟨x.toArray⟩] W fun e W' => e = .returned (.string ⟨(unfL x).toArray⟩) ∧ Below W.heap.size W W') := fun x hx W h => unform_calls x W (hT.below h) (hm.below h) hx
  clear hPx hT hm
  have hPl2 : (P.length : Int) ≤ 400000001 := by omega
  go_enter Tryz.func11, Tryz.ntmps11
  go_wp2_with fail
  (go_at_call 18; refine HM.out.mono ?_; rintro e w1 ⟨rfl, hb1⟩)
  go_wp2_with fail
  (go_at_call 27; refine (HSP.out _ hb1).mono ?_; rintro e w2 ⟨rfl, hb2, hz2, hc2⟩)
  have HB2 := hid_of (hb1.trans (hb2.mono hb1.size))
  have HC2 := hid_of hc2
  have z1 := hb1.size
  have z2 := HB2.out.size
  clear hb1 hb2 hc2 HSP HM
  go_wp2_with fail
  go_loopw [3, 13] (fun vo vi wr => ∃ (k : Nat) (a : Option Addr) (cap : Nat), k ≤ P.length ∧ vi = .int .i64 k ∧ vo = .slice a (pairsP (P.take k)).length cap ∧ Hid (OwnW 36 w2.heap.size wr (.slice a (pairsP (P.take k)).length cap) (pairsP (P.take k))) ∧ Hid (Below w2.heap.size w2 wr)) (fun _ vi _ => P.length - (intOf vi).toNat)
  case atStart => exact ⟨0, none, 0, by omega, rfl, rfl, World.ownsRow_nil _ _ _ _, Below.refl _ _⟩
  case round =>
    obtain ⟨k, a, cap, hk, rfl, rfl, hO, hB⟩ := hrel
    have zr := hB.out.size
    have hBw := hid_of (HB2.out.trans (hB.out.mono z2))
    by_cases hlt : k < P.length
    · have hcl := (hB.out.cell (p := ⟨w1.heap.size, k, none⟩) (by show w1.heap.size < _; omega)).trans (HC2.out k hlt)
      obtain ⟨p, hp⟩ : ∃ p, P.getD k [] = p := ⟨_, rfl⟩
      have hmem : p ∈ P := by rw [← hp, List.getD_eq_getElem?_getD, List.getElem?_eq_getElem hlt]; exact List.getElem_mem hlt
      have htk : P.take (k + 1) = P.take k ++ [p] := by
        rw [List.take_succ_eq_append_getElem hlt, ← hp]
        simp [hlt]
      have HSN : Hid (pairsP (P.take (k + 1)) = pairsP (P.take k) ++ if p.isEmpty then [] else [pairOf p]) := by show _ = _; rw [htk, pairsP_snoc]
      have hpl := HPX.out p hmem
      have hpre := pairsP_pre P k
      obtain ⟨o, ho⟩ : ∃ o, pairsP (P.take k) = o := ⟨_, rfl⟩
      rw [ho] at HSN hO hpre ⊢
      rw [hp] at hcl
      have HCP := hid_of (HCU.out p hmem)
      clear hp htk ho hmem
      cases he : (p == []) with
      | true =>
        have he2 : p.isEmpty = true := by rw [List.isEmpty_iff]; simpa using he
        have HS2 : Hid (pairsP (P.take (k + 1)) = o) := by show _ = _; rw [HSN.out, he2]; simp
        clear HSN he2
        go_wp2_with fail
        exact ⟨⟨k + 1, a, cap, by omega, by go_num, by rw [HS2.out], by rw [HS2.out]; exact hO, hB⟩, by simp [intOf]; omega⟩
      | false =>
        have he2 : p.isEmpty = false := by rw [List.isEmpty_eq_false_iff]; intro e; subst e; simp at he
        have HS2 : Hid (pairsP (P.take (k + 1)) = o ++ [pairOf p]) := by show _ = _; rw [HSN.out, he2]; rfl
        have HPO : Hid (pairOf p = (unfL (p.take (upToL [61] p)), unfL (p.drop (upToL [61] p + 1)))) := rfl
        have hU1 := HUN.out (p.take (upToL [61] p)) (by rw [List.length_take]; omega)
        have hU2 := HUN.out (p.drop (upToL [61] p + 1)) (by rw [List.length_drop]; omega)
        obtain ⟨t, ht⟩ : ∃ t, pairOf p = t := ⟨_, rfl⟩
        rw [ht] at HS2 HPO
        clear ht HSN he2
        generalize p.take (upToL [61] p) = x1 at *
        generalize p.drop (upToL [61] p + 1) = x2 at *
        generalize decide (upToL [61] p < p.length) = bb at *
        generalize unfL x1 = y1 at *
        generalize unfL x2 = y2 at *
        obtain rfl := HPO.out
        clear HPO
        have HU1 := hid_of hU1
        have HU2 := hid_of hU2
        clear hU1 hU2
        go_wp2_with fail
        (go_at_call 28; refine (HCP.out _ hBw.out).mono ?_; rintro e w3 ⟨rfl, hb3⟩)
        have HB3 := hid_of (hBw.out.trans (hb3.mono hBw.out.size))
        go_wp2_with fail
        (go_at_call 29; refine (HU1.out _ HB3.out).mono ?_; rintro e w4 ⟨rfl, hb4⟩)
        have HB4 := hid_of (HB3.out.trans (hb4.mono HB3.out.size))
        go_wp2_with fail
        (go_at_call 29; refine (HU2.out _ HB4.out).mono ?_; rintro e w5 ⟨rfl, hb5⟩)
        have HB5 := hid_of (HB4.out.trans (hb5.mono HB4.out.size))
        have hbr : Below wr.heap.size wr w5 := (hb3.trans (hb4.mono hb3.size)).trans (hb5.mono (hb3.trans (hb4.mono hb3.size)).size)
        have HO5 : Hid (OwnW 36 w2.heap.size w5 (.slice a o.length cap) o) := owns_below hO.out hbr
        have HB25 : Hid (Below w2.heap.size w2 w5) := hB.out.trans (hbr.mono zr)
        have z5 := HB5.out.size
        have z25 := HB25.out.size
        clear hb3 hb4 hb5 hbr HB3 HB4 hO hB hBw HB5
        go_wp2_with (at_builtin; refine append_two rfl _ _ 23 36 Tryz.underlying23 infoAttr rfl w2.heap.size (.slice a o.length cap) o rfl (HO5.out.alloc _) w5.heap.size (y1, y2) rfl (two_new0 _ _ _ _) (two_new1 _ _ _ _) (by omega) (by simp; omega) ?_; intro v' w6 hown' hgrow)
        obtain ⟨a2, cap2, rfl, hc6, _, _⟩ := OwnW.at hown'
        go_wp2_with fail
        exact ⟨⟨k + 1, a2, cap2, by omega, by go_num, by rw [HS2.out], by rw [HS2.out]; exact hown', (HB25.out.alloc z25 _).grown hgrow (by simp; omega) (fun j hj => by have := (HO5.out.lt j hj).1; omega)⟩, by simp [intOf]; omega⟩
    · obtain rfl : k = P.length := by omega
      have HV : Hid (pairsP (P.take P.length) = V) := by show _ = _; rw [List.take_length, HK.out]
      rw [HV.out] at hO
      rw [HV.out]
      go_wp2_with fail
      go_ret
      exact ⟨_, rfl, C.owns_mono hO.out z2, hBw.out⟩
end Go.Proofs.YtmfhhpacojodkaaGreatDoor.L
