/- What is proved here: the statement TokenPrints (Print and List of any tokens are the document's) holds for any tokens, where the argument holds at most 1048576 values, with no other condition but what the card says of the table of words. -/
import Derived.Test.YthbmlffhcppcaaaDoorCards
import Derived.Test.YthbmlffhcppcaaaDoorTie
import Derived.Test.YthbmlffhcppcaaaDoorTList
namespace Go.Proofs.YthbmlffhcppcaaaDoor.TPrints
open Go.ChangeShapes Go.WideShapes Go.ChangeAt Go.RowKit T N

def accB (L : TL) : List UInt8 := L.flatMap fun x => match checkB x.1 x.2 with | true => lineB x.1 x.2 ++ [10] | false => []
theorem accB_succ (L : TL) (k : Nat) (h : k < L.length) : accB (L.take (k + 1)) = accB (L.take k) ++ (match checkB L[k].1 L[k].2 with | true => lineB L[k].1 L[k].2 ++ [10] | false => []) := by
  unfold accB
  rw [List.take_succ_eq_append_getElem h, List.flatMap_append]; simp
theorem accB_all (L : TL) (h : okL L = true) : accB L = linesB L := by
  unfold accB linesB
  induction L with
  | nil => rfl
  | cons x r ih =>
    unfold okL at h ih
    simp only [List.all_cons, Bool.and_eq_true] at h
    rw [List.flatMap_cons, List.flatMap_cons, ih h.2, h.1]
theorem accB_len (L : TL) : (accB L).length ≤ 13 * bulkL L := by
  unfold accB bulkL
  induction L with
  | nil => simp
  | cons x r ih =>
    have h1 := lineB_len x.1 x.2
    unfold sizeT at h1
    have h2 : 13 * bulkT x = 13 * (x.1.name.size + x.1.text.size + (x.2.length + sumA x.2) + 1) := rfl
    simp only [List.flatMap_cons, List.length_append, List.map_cons, List.sum_cons]
    split
    · simp only [List.length_append, List.length_cons, List.length_nil]; omega
    · simp only [List.length_nil]; omega

set_option maxRecDepth 100000 in
set_option maxHeartbeats 4000000 in
theorem walk (w : World) (hW : Words w) (v : Value) (L : TL) (hH : HasT w v L) (hbk : bulkL L ≤ 1048576) :
    Calls Tryd.prog 6 #[v] w fun e w' => e = .returned (.bool true) ∧ Below w.heap.size w w' := by
  obtain ⟨va, vc, rfl⟩ := hH.slice
  have HS : Hid (HasT w (.slice va L.length vc) L) := hH
  have HW : Hid (Words w) := hW
  have LC : Hid (∀ W, Below w.heap.size w W → Calls Tryd.prog 22 #[.slice va L.length vc] W fun e w' => e = .returned (.tuple #[.string ⟨(listB L).toArray⟩, .int .i64 (okZ (okL L))]) ∧ Below W.heap.size W w') := fun W hb => list_calls L _ W (hW.below hb) (hH.below hb) hbk
  have LV : Hid (∀ W, Below w.heap.size w W → Calls Tryd.prog 9 #[] W fun e w' => e = .returned (.bool true) ∧ Below W.heap.size W w') := fun W hb => lives_calls W (hW.below hb)
  have hLn := bulkL_len L
  have hll : (L.length : Int) ≤ 1048576 := by omega
  have HLB : Hid (listB L = match okL L with | true => linesB L | false => []) := rfl
  clear hH hW
  go_enter Tryd.func6, Tryd.ntmps6
  go_wp2
  go_loopw [3, 4, 6, 7, 8, 13] (fun v3 v4 _ _ _ i wr => ∃ (k : Nat) (S : ByteArray) (O : Bool), k ≤ L.length ∧ v3 = .string S ∧ v4 = .bool O ∧ i = .int .i64 k ∧ Hid (S.data.toList = accB (L.take k)) ∧ Hid (O = okL (L.take k)) ∧ Hid (Below w.heap.size w wr)) (fun _ _ _ _ _ i _ => L.length - (intOf i).toNat)
  case atStart => exact ⟨0, ⟨#[]⟩, true, by omega, rfl, rfl, rfl, by show _ = _; simp [accB], by show _ = _; simp [okL], Below.refl _ _⟩
  case round =>
    obtain ⟨k, S, O, hk, rfl, rfl, rfl, hS, hO, hbe⟩ := hrel
    have hzr := hbe.out.size
    by_cases hlt : k < L.length
    · obtain ⟨tb, off, rfl, av, d0, d1, d2, d3, d4, d5, d6, d7, hA⟩ := HS.out.at k hlt
      have hbt := bulkL_at L k hlt
      have hbs := bulkL_succ L k hlt
      have hbk2 := bulkL_take L (k + 1)
      have hln := accB_len (L.take k)
      have hsx := accB_succ L k hlt
      have HOK : Hid (okL (L.take (k + 1)) = (O && checkB L[k].1 L[k].2)) := by
        show _ = _
        rw [hO.out]
        unfold okL
        rw [List.take_succ_eq_append_getElem hlt, List.all_append]; simp
      rcases hx : L[k] with ⟨t, l⟩
      rw [hx] at d0 d1 d2 d4 d5 d6 d7 hA hbt hbs hsx HOK
      simp only at d0 d1 d2 d4 d5 d6 d7 hA hbt hbs hsx HOK
      clear hx
      obtain ⟨aa, ac, rfl⟩ := hA.slice
      unfold bulkT at hbt hbs
      simp only at hbt hbs
      obtain ⟨sa, st, sz⟩ := sizes_of hbk (t := t) (l := l) hbt
      have hSs : S.size ≤ 13 * 1048576 := by rw [← size_data, hS.out]; omega
      have hlen2 := lineB_len t l
      rw [← hS.out] at hsx
      have HSX := hsx
      have e0 := (hbe.out.cell (p := ⟨tb, off + k * 8, none⟩) (C.cell_lt d0)).trans d0
      have e1 := (hbe.out.cell (p := ⟨tb, off + k * 8 + 1, none⟩) (C.cell_lt d1)).trans d1
      have e2 := (hbe.out.cell (p := ⟨tb, off + k * 8 + 2, none⟩) (C.cell_lt d2)).trans d2
      have e3 := (hbe.out.cell (p := ⟨tb, off + k * 8 + 3, none⟩) (C.cell_lt d3)).trans d3
      have e4 := (hbe.out.cell (p := ⟨tb, off + k * 8 + 4, none⟩) (C.cell_lt d4)).trans d4
      have e5 := (hbe.out.cell (p := ⟨tb, off + k * 8 + 5, none⟩) (C.cell_lt d5)).trans d5
      have e6 := (hbe.out.cell (p := ⟨tb, off + k * 8 + 6, none⟩) (C.cell_lt d6)).trans d6
      have e7 := (hbe.out.cell (p := ⟨tb, off + k * 8 + 7, none⟩) (C.cell_lt d7)).trans d7
      obtain ⟨W1, hW1⟩ : ∃ W1, wr.alloc (.cells #[.int .i64 t.kind, .string t.name, .string t.text, .slice aa l.length ac, .bool t.self, .int .i64 t.p0, .int .i64 t.p1, .int .i64 t.p2] 28) = W1 := ⟨_, rfl⟩
      have hT1 : W1.heap[wr.heap.size]? = some (.cells #[.int .i64 t.kind, .string t.name, .string t.text, .slice aa l.length ac, .bool t.self, .int .i64 t.p0, .int .i64 t.p1, .int .i64 t.p2] 28 (0, 0)) := by rw [← hW1]; exact new_at _ _ _
      have hz1 : wr.heap.size < W1.heap.size := by rw [← hW1]; simp
      have b1 : Below wr.heap.size wr W1 := by rw [← hW1]; exact (Below.refl _ wr).alloc (Nat.le_refl _) _
      have HB1 : Hid (Below w.heap.size w W1) := hbe.out.trans (b1.mono hzr)
      obtain ⟨Q, hQ⟩ : ∃ Q : ByteArray, (⟨(printB t l).toArray⟩ : ByteArray) = Q := ⟨_, rfl⟩
      have hqd : Q.data.toList = printB t l := by rw [← hQ]
      have PC : Hid (∀ W, Below w.heap.size w W → Calls Tryd.prog 20 #[.agg #[.int .i64 t.kind, .string t.name, .string t.text, .slice aa l.length ac, .bool t.self, .int .i64 t.p0, .int .i64 t.p1, .int .i64 t.p2]] W fun e w' => e = .returned (.tuple #[.string Q, .int .i64 (okZ (checkB t l))]) ∧ Below W.heap.size W w') := fun W hb => by rw [← hQ]; exact print_calls t l _ W (HW.out.below hb) (hA.below hb) sa st (by omega)
      have MC : Hid (∀ W, Below w.heap.size w W → Calls Tryd.prog 11 #[.agg #[.int .i64 t.kind, .string t.name, .string t.text, .slice aa l.length ac, .bool t.self, .int .i64 t.p0, .int .i64 t.p1, .int .i64 t.p2]] W fun e w' => e = .returned (.bool (checkB t l)) ∧ Below W.heap.size W w') := fun W hb => may_calls t l _ W (hA.below hb) sa st
      have NC : Hid (checkB t l = true → ∀ W, Below w.heap.size w W → Calls Tryd.prog 21 #[.agg #[.int .i64 t.kind, .string t.name, .string t.text, .slice aa l.length ac, .bool t.self, .int .i64 t.p0, .int .i64 t.p1, .int .i64 t.p2]] W fun e w' => e = .returned (.string Q) ∧ Below W.heap.size W w') := fun hc W hb => by
        have h := line_calls t l _ W (hA.below hb) sa st hc (by omega)
        rw [show lineB t l = printB t l by unfold printB; rw [hc]] at h
        rw [← hQ]; exact h
      have z0 : W1.cell? ⟨wr.heap.size, 0, none⟩ = some (.int .i64 t.kind) := cell_at hT1
      have z1 : W1.cell? ⟨wr.heap.size, 1, none⟩ = some (.string t.name) := cell_at hT1
      have z2 : W1.cell? ⟨wr.heap.size, 2, none⟩ = some (.string t.text) := cell_at hT1
      have z3 : W1.cell? ⟨wr.heap.size, 3, none⟩ = some (.slice aa l.length ac) := cell_at hT1
      have z4 : W1.cell? ⟨wr.heap.size, 4, none⟩ = some (.bool t.self) := cell_at hT1
      have z5 : W1.cell? ⟨wr.heap.size, 5, none⟩ = some (.int .i64 t.p0) := cell_at hT1
      have z6 : W1.cell? ⟨wr.heap.size, 6, none⟩ = some (.int .i64 t.p1) := cell_at hT1
      have z7 : W1.cell? ⟨wr.heap.size, 7, none⟩ = some (.int .i64 t.p2) := cell_at hT1
      clear d0 d1 d2 d3 d4 d5 d6 d7 hbt hbs hbk2 hln hA sa st b1 hQ
      cases hc : checkB t l with
      | false =>
        rw [hc] at PC MC HOK HSX
        have hq0 : Q.toList.isEmpty = true := by rw [Lib.toList_data, hqd]; unfold printB; rw [hc]; rfl
        have hqe : Q = ByteArray.empty := by
          apply data_inj; rw [hqd]; unfold printB; rw [hc]; rfl
        have HSN : Hid (S.data.toList = accB (L.take (k + 1))) := by show _ = _; rw [HSX]; simp
        have HON : Hid (false = okL (L.take (k + 1))) := by show _ = _; rw [HOK.out, Bool.and_false]
        clear HSX hsx HOK hqd hlen2
        subst hqe
        go_wp2_with fail
        refine (PC.out W1 HB1.out).mono ?_
        rintro e w2 ⟨rfl, hb2⟩
        rw [show okZ false = 70 from rfl]
        have hT2 := (hb2.block wr.heap.size hz1).trans hT1
        have HB2 : Hid (Below w.heap.size w w2) := HB1.out.trans (hb2.mono HB1.out.size)
        clear z0 z1 z2 z3 z4 z5 z6 z7 hb2
        have z0 : w2.cell? ⟨wr.heap.size, 0, none⟩ = some (.int .i64 t.kind) := cell_at hT2
        have z1 : w2.cell? ⟨wr.heap.size, 1, none⟩ = some (.string t.name) := cell_at hT2
        have z2 : w2.cell? ⟨wr.heap.size, 2, none⟩ = some (.string t.text) := cell_at hT2
        have z3 : w2.cell? ⟨wr.heap.size, 3, none⟩ = some (.slice aa l.length ac) := cell_at hT2
        have z4 : w2.cell? ⟨wr.heap.size, 4, none⟩ = some (.bool t.self) := cell_at hT2
        have z5 : w2.cell? ⟨wr.heap.size, 5, none⟩ = some (.int .i64 t.p0) := cell_at hT2
        have z6 : w2.cell? ⟨wr.heap.size, 6, none⟩ = some (.int .i64 t.p1) := cell_at hT2
        have z7 : w2.cell? ⟨wr.heap.size, 7, none⟩ = some (.int .i64 t.p2) := cell_at hT2
        clear hT1 hT2
        go_wp2_with (go_at_call 11; refine (MC.out _ HB2.out).mono ?_; rintro e w3 ⟨rfl, hb3⟩)
        have HB3 : Hid (Below w.heap.size w w3) := HB2.out.trans (hb3.mono HB2.out.size)
        clear hb3
        all_goals first
          | exact ⟨⟨k + 1, S, false, by omega, rfl, rfl, by go_num, HSN, HON, HB3⟩, by simp [intOf]; omega⟩
          | (go_roundw
             case rel => exact ⟨k + 1, S, false, by omega, rfl, rfl, by go_num, HSN, HON, HB3⟩
             case measure => simp [intOf]; omega)
      | true =>
        rw [hc] at PC MC HOK HSX
        have NC' : Hid (∀ W, Below w.heap.size w W → Calls Tryd.prog 21 #[.agg #[.int .i64 t.kind, .string t.name, .string t.text, .slice aa l.length ac, .bool t.self, .int .i64 t.p0, .int .i64 t.p1, .int .i64 t.p2]] W fun e w' => e = .returned (.string Q) ∧ Below W.heap.size W w') := NC.out hc
        have hql : Q.data.toList = lineB t l := by rw [hqd]; unfold printB; rw [hc]
        have HSN : Hid ((S ++ (Q ++ ⟨#[10]⟩)).data.toList = accB (L.take (k + 1))) := by show _ = _; rw [HSX, app_data, app_data, hql]
        have HON : Hid (O = okL (L.take (k + 1))) := by show _ = _; rw [HOK.out, Bool.and_true]
        have hQs : Q.size ≤ 100000000 := by rw [← size_data, hql]; omega
        have r1 : Q.size + 1 ≤ 9223372036854775807 := by omega
        have r2 : S.size + (Q.size + 1) ≤ 9223372036854775807 := by omega
        have qq : (Q.toList != Q.toList) = false := by simp
        have qq' : (Q.toList == Q.toList) = true := by simp
        clear HSX hsx HOK hqd hql hlen2 NC
        go_wp2_with fail
        refine (PC.out W1 HB1.out).mono ?_
        rintro e w2 ⟨rfl, hb2⟩
        rw [show okZ true = 0 from rfl]
        have hT2 := (hb2.block wr.heap.size hz1).trans hT1
        have HB2 : Hid (Below w.heap.size w w2) := HB1.out.trans (hb2.mono HB1.out.size)
        have hz2 := hb2.size
        clear z0 z1 z2 z3 z4 z5 z6 z7 hb2
        have z0 : w2.cell? ⟨wr.heap.size, 0, none⟩ = some (.int .i64 t.kind) := cell_at hT2
        have z1 : w2.cell? ⟨wr.heap.size, 1, none⟩ = some (.string t.name) := cell_at hT2
        have z2 : w2.cell? ⟨wr.heap.size, 2, none⟩ = some (.string t.text) := cell_at hT2
        have z3 : w2.cell? ⟨wr.heap.size, 3, none⟩ = some (.slice aa l.length ac) := cell_at hT2
        have z4 : w2.cell? ⟨wr.heap.size, 4, none⟩ = some (.bool t.self) := cell_at hT2
        have z5 : w2.cell? ⟨wr.heap.size, 5, none⟩ = some (.int .i64 t.p0) := cell_at hT2
        have z6 : w2.cell? ⟨wr.heap.size, 6, none⟩ = some (.int .i64 t.p1) := cell_at hT2
        have z7 : w2.cell? ⟨wr.heap.size, 7, none⟩ = some (.int .i64 t.p2) := cell_at hT2
        go_wp2_with fail
        refine (MC.out w2 HB2.out).mono ?_
        rintro e w3 ⟨rfl, hb3⟩
        have hT3 := (hb3.block wr.heap.size (by omega)).trans hT2
        have HB3 : Hid (Below w.heap.size w w3) := HB2.out.trans (hb3.mono HB2.out.size)
        clear z0 z1 z2 z3 z4 z5 z6 z7 hb3
        have z0 : w3.cell? ⟨wr.heap.size, 0, none⟩ = some (.int .i64 t.kind) := cell_at hT3
        have z1 : w3.cell? ⟨wr.heap.size, 1, none⟩ = some (.string t.name) := cell_at hT3
        have z2 : w3.cell? ⟨wr.heap.size, 2, none⟩ = some (.string t.text) := cell_at hT3
        have z3 : w3.cell? ⟨wr.heap.size, 3, none⟩ = some (.slice aa l.length ac) := cell_at hT3
        have z4 : w3.cell? ⟨wr.heap.size, 4, none⟩ = some (.bool t.self) := cell_at hT3
        have z5 : w3.cell? ⟨wr.heap.size, 5, none⟩ = some (.int .i64 t.p0) := cell_at hT3
        have z6 : w3.cell? ⟨wr.heap.size, 6, none⟩ = some (.int .i64 t.p1) := cell_at hT3
        have z7 : w3.cell? ⟨wr.heap.size, 7, none⟩ = some (.int .i64 t.p2) := cell_at hT3
        clear hT1 hT2 hT3
        go_wp2_with (go_at_call 21; refine (NC'.out _ HB3.out).mono ?_; rintro e w4 ⟨rfl, hb4⟩)
        have HB4 : Hid (Below w.heap.size w w4) := HB3.out.trans (hb4.mono HB3.out.size)
        clear hb4
        all_goals first
          | exact ⟨⟨k + 1, S ++ (Q ++ ⟨#[10]⟩), O, by omega, rfl, rfl, by go_num, HSN, HON, HB4⟩, by simp [intOf]; omega⟩
          | (go_roundw
             case rel => exact ⟨k + 1, S ++ (Q ++ ⟨#[10]⟩), O, by omega, rfl, rfl, by go_num, HSN, HON, HB4⟩
             case measure => simp [intOf]; omega)
    · obtain rfl : k = L.length := by omega
      rw [List.take_length] at hS hO
      cases O with
      | false =>
        have hok : okL L = false := hO.out.symm
        rw [show listB L = [] by rw [HLB.out, hok], hok] at LC
        go_wp2_with fail
        refine (LC.out wr hbe.out).mono ?_
        rintro e w2 ⟨rfl, hb2⟩
        rw [show okZ false = 70 from rfl]
        have HB2 : Hid (Below w.heap.size w w2) := hbe.out.trans (hb2.mono hbe.out.size)
        clear hb2
        go_wp2_with (go_at_call 9; refine (LV.out _ HB2.out).mono ?_; rintro e w3 ⟨rfl, hb3⟩)
        all_goals go_ret
        all_goals exact ⟨rfl, HB2.out.trans (hb3.mono HB2.out.size)⟩
      | true =>
        have hok : okL L = true := hO.out.symm
        have hSe : (⟨(listB L).toArray⟩ : ByteArray) = S := by
          apply data_inj
          rw [hS.out, accB_all L hok, HLB.out, hok]
        rw [hSe, hok] at LC
        have qq' : (S.toList == S.toList) = true := by simp
        clear hSe
        go_wp2_with fail
        refine (LC.out wr hbe.out).mono ?_
        rintro e w2 ⟨rfl, hb2⟩
        rw [show okZ true = 0 from rfl]
        have HB2 : Hid (Below w.heap.size w w2) := hbe.out.trans (hb2.mono hbe.out.size)
        clear hb2
        go_wp2_with (go_at_call 9; refine (LV.out _ HB2.out).mono ?_; rintro e w3 ⟨rfl, hb3⟩)
        all_goals go_ret
        all_goals exact ⟨rfl, HB2.out.trans (hb3.mono HB2.out.size)⟩

set_option maxRecDepth 100000 in
theorem contract (H : Type) (enc : TypeId × Value → H) (W : World) (base : Nat) (args : Array Value) (ds gs : List (DataW H)) (before : List MemPlace)
    (hval : ∀ (j : Nat) t v, Tryd.f6.params[j]? = some t → args[j]? = some v → Value.okWide Tryd.prog W .any base t v)
    (hW : DataW.Whole enc Tryd.prog Tryd.f6.params.toList Rows.tokenPrintsSpec.vars false W args.toList ds gs before) (hL : laidMetH Tryd.prog Rows.tokenPrintsUptoRow.laid W) (hk : Rows.uptoSmall H (ds ++ gs) = true) :
    Calls Tryd.prog 6 args W fun e W' => ∃ v, e = .returned v ∧ Rows.tokenPrintsSpec.post enc Tryd.prog Tryd.f6 false true false false W args v W' := by
  have hW' := hW
  have hlt := hW.lt
  obtain ⟨p, q, hA0, hV, rfl, hfz, hnd⟩ := hW
  have hA : DataW.TrodAll enc Tryd.prog W 0 (fun _ => true) true Tryd.f6.params.toList args.toList ds p := hA0
  rw [Tryd.params6] at hA hval
  obtain ⟨v0, vs0, d0, ds0, p0, q0, hargs, rfl, rfl, h0, r0⟩ := trodAll_cons hA
  obtain ⟨rfl, rfl, rfl⟩ := trodAll_nil r0
  obtain rfl : args = #[v0] := by cases args; simp_all
  obtain ⟨rfl, rfl⟩ := trodVars_none hV
  clear hA0
  simp only [List.append_nil] at hW' hlt hk
  have hbulk := of_decide_eq_true hk
  simp only [Rows.uptoBulkAll] at hbulk
  have e0 := okWide_slice Tryd.underlying38 (hval 0 38 v0 rfl rfl)
  obtain ⟨L0, hL0, l0⟩ := T.toks_of_read e0 h0
  refine (walk W (tabs_of_laid hL) v0 L0 hL0 (by omega)).mono fun e W' ⟨he, hb⟩ => ?_
  subst he
  exact ⟨_, rfl, post_below hW' (fun _ _ _ => trodAll_cons_mk (shut_bool Tryd.underlying4 _) trodAll_mk0) (trodAll_cons_mk (stays (by kernel_rfl) (of_decide_eq_true (by kernel_rfl)) h0 hb (fun x hx => hlt x (by simp [hx]))) trodAll_mk0) rfl hb⟩

set_option maxRecDepth 100000 in
theorem laid_met (os : Os) : laidMet Tryd.prog Rows.tokenPrintsUptoRow.laid ((withTabs (World.holding Tryd.prog os ⟨#[], #[], []⟩)).forCall (fun _ _ => 0) ⟨#[], #[Value.slice none 0 0], []⟩).memory :=
  laidMet_of_run' 8 (by kernel_rfl) (by kernel_rfl)
set_option maxRecDepth 100000 in
theorem reads (os : Os) {H : Type} (enc : TypeId × Value → H) : ∃ places, DataW.whole enc Tryd.prog ((withTabs (World.holding Tryd.prog os ⟨#[], #[], []⟩)).forCall (fun _ _ => 0) ⟨#[], #[Value.slice none 0 0], []⟩).memory Tryd.f6.params.toList Rows.tokenPrintsSpec.vars false #[Value.slice none 0 0].toList 8 = some ([.nil], [], places) :=
  ⟨[], by kernel_rfl⟩

set_option maxRecDepth 100000 in
theorem lifted (os : Os) (started : os.Started) (H : Type) (enc : TypeId × Value → H) (F : Stop.Interp) :
    ReturnsInHanded {} Tryd.checked os 6 .any ((Rows.OpenSpec.upto Rows.tokenPrintsSpec).preRow enc Tryd.prog Tryd.f6 Rows.tokenPrintsUptoRow.domain false Rows.tokenPrintsUptoRow.laid) (((Rows.OpenSpec.upto Rows.tokenPrintsSpec).at F).post enc Tryd.prog Tryd.f6 false true false false) := by
  obtain ⟨places, hx⟩ := reads os enc
  refine returnsInHanded_of_row (C := Tryd.checked) (s := Rows.OpenSpec.upto Rows.tokenPrintsSpec) own started (by kernel_rfl) Tryd.func6
    (witness_row_at (enc := enc) (C := Tryd.checked) false (withTabs (World.holding Tryd.prog os ⟨#[], #[], []⟩)) #[Value.slice none 0 0] rfl (by kernel_rfl) (by kernel_rfl) (by kernel_rfl)
      (OpenSpec.preRow_of_cond 8 hx (by kernel_rfl) (fun k hk => by cases hk; kernel_rfl) (by kernel_rfl) (laid_met os))) ?_
  intro W base args ds gs before hval hW _ hcond _ hL _ _
  exact contract H enc W base args ds gs before hval hW hL (hcond _ rfl)

set_option maxRecDepth 100000 in
theorem said : Rows.TokenPrintsUptoSaid :=
  OpenClaim.holds_of_cond 6 Tryd.f6 rfl rfl rfl rfl rfl rfl rfl ⟨rfl, rfl, rfl, rfl, rfl⟩ rfl rfl rfl rfl rfl (by kernel_rfl) Tryd.func6 (by kernel_rfl)
    (of_decide_eq_true (by kernel_rfl)) (by unfold Func.isWrapper; first | (rw [if_pos (by decide +kernel)]; kernel_rfl) | (rw [if_neg (by decide +kernel)]; exact ⟨rfl, rfl⟩))
    (fun os started H enc _ F => by rw [OpenClaim.pre_eq_preRow]; exact lifted os started H enc F)

theorem plain (f : FuncId) (fn : Func) (hf : Tryd.pinned.checked.prog.funcNamed "sieve/sievelaw07.TokenPrints" = some f) (hfn : Tryd.pinned.checked.prog.funcs[f]? = some fn) :
    false = Tryd.pinned.checked.prog.looks [] ∧ ∀ (j : Nat) t, fn.params[j]? = some t → Tryd.pinned.checked.prog.wantsStandIn t = false := by
  obtain rfl : f = 6 := Option.some.inj ((show Tryd.prog.funcNamed "sieve/sievelaw07.TokenPrints" = some 6 by kernel_rfl).symm.trans hf) |>.symm
  obtain rfl : fn = Tryd.f6 := (Option.some.inj (Tryd.func6.symm.trans hfn)).symm
  refine ⟨by kernel_rfl, fun j t ht => ?_⟩
  rw [Tryd.params6] at ht
  have hm := Array.mem_of_getElem? ht
  simp only [List.mem_toArray, List.mem_cons, List.not_mem_nil, or_false] at hm
  subst hm
  · exact (show Tryd.prog.wantsStandIn 38 = false by kernel_rfl)

theorem card : Rows.TokenPrintsUptoCardSaid :=
  Claim7.holds_tied_plain_at .later [] _ _ _ _ said (fun _ h => by cases h) (by kernel_rfl) (fun _ h => by cases h) tokenPrintsUpto_row_tie rfl ⟨rfl, rfl⟩ (by kernel_rfl) rfl plain (by kernel_rfl)

end Go.Proofs.YthbmlffhcppcaaaDoor.TPrints
