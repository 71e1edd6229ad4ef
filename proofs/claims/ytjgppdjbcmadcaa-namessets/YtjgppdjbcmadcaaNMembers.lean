/- What is proved here: the contracts of names.members (a set as a map) and of names.List (its names in rising order), at any number. -/
import Derived.Maps.Own
import Derived.Maps.OwnOps
import Derived.Maps.OwnSet
import Derived.Maps.RangeWalk
import Derived.Maps.Ext
import Derived.Sort.MapsRangeIn
import Derived.Laws.MakeOwn
import Derived.Test.YtjgppdjbcmadcaaNIn
namespace Go.Proofs.Ytjgppdjbcmadcaa.N
open Go.RowKit Go.Maps C

theorem lawS : Keyed Try.prog 9 := string_keyed Try.underlying9
/-- The names with their numbers, the first k of them. -/
def memTo (L : List (List UInt8)) : Nat → DataW Unit
  | 0 => .map []
  | k + 1 => (memTo L k).put (.string (L.getD k [])) (.lit (.int .i64 k))
theorem memTo_tidy (L : List (List UInt8)) : ∀ k, Tidy (memTo L k)
  | 0 => tidy_empty
  | k + 1 => (memTo_tidy L k).put (k := .string (L.getD k [])) trivial _
theorem memTo_has (L : List (List UInt8)) (x : List UInt8) : ∀ k, Maps.has (memTo L k) (.string x) = true ↔ ∃ j, j < k ∧ L.getD j [] = x
  | 0 => by simp [memTo, Maps.has]
  | k + 1 => by
    rw [memTo]
    by_cases h : (Lit.string x) = .string (L.getD k [])
    · rw [h, has_put_same (k := .string (L.getD k [])) (memTo_tidy L k).isMap trivial]
      simp only [true_iff]
      exact ⟨k, by omega, by injection h with h; exact h.symm⟩
    · rw [has_put_other h, memTo_has L x k]
      constructor
      · rintro ⟨j, hj, e⟩; exact ⟨j, by omega, e⟩
      · rintro ⟨j, hj, e⟩
        by_cases hjk : j = k
        · subst hjk; rw [e] at h; exact absurd rfl h
        · exact ⟨j, by omega, e⟩
/-- No name twice. -/
def Once (L : List (List UInt8)) : Prop := ∀ i j, i < L.length → j < L.length → L.getD i [] = L.getD j [] → i = j
theorem memTo_size (L : List (List UInt8)) (hL : Once L) : ∀ k, k ≤ L.length → Maps.size (memTo L k) = k
  | 0, _ => rfl
  | k + 1, hk => by
    rw [memTo, size_put (memTo_tidy L k), memTo_size L hL k (by omega)]
    split
    · rename_i h
      obtain ⟨j, hj, e⟩ := (memTo_has L _ k).1 h
      have := hL j k (by omega) (by omega) e
      omega
    · rfl
theorem memTo_at (L : List (List UInt8)) (hL : Once L) (j : Nat) (z : DataW Unit) : ∀ k, k ≤ L.length → j < k → (memTo L k).atKey (.string (L.getD j [])) z = .lit (.int .i64 j)
  | 0, _, h => by omega
  | k + 1, hk, h => by
    rw [memTo]
    by_cases e : j = k
    · subst e; exact atKey_put_same (k := .string (L.getD j [])) (memTo_tidy L j).isMap trivial _ _
    · rw [atKey_put_other (fun h' => e (hL j k (by omega) (by omega) (by injection h')))]
      exact memTo_at L hL j z k (by omega) (by omega)
theorem key_str (x : List UInt8) (h : x.length ≤ 1000000) : keyOf Try.prog 9 (.string ⟨x.toArray⟩) = some (.string x) := by
  have := WideMaps.keyOf_string_mk (P := Try.prog) (k := 9) (s := ⟨x.toArray⟩) Try.underlying9 (by rw [← size_data]; unfold maxLen; show x.length ≤ _; omega)
  exact this
theorem elem_len (L : List (List UInt8)) (n : Nat) (h : Lib.lens L ≤ n) (j : Nat) (hj : j < L.length) : L[j].length ≤ n := by
  have h2 := Lib.lens_take_succ L j _ (List.getElem?_eq_getElem hj)
  have h3 := Lib.lens_take_le L (j + 1)
  omega
theorem fields_lens (l : List UInt8) : Lib.lens (fields l) + (fields l).length ≤ l.length + 1 := by
  have := fieldsFrom_sum l []
  simpa [fields] using this

set_option maxRecDepth 100000 in
set_option maxHeartbeats 2000000 in
theorem members_calls (z : Int) (w : World) :
    Calls Try.prog 11 #[.int .i64 z] w fun e w' => e = .returned (.map (some w.heap.size)) ∧ w'.ownsMap Try.prog 9 (plainElem Try.prog 3) w.heap.size (fields (txtZ z).data.toList).length (memTo (fields (txtZ z).data.toList) (fields (txtZ z).data.toList).length) ∧ Below w.heap.size w w' := by
  have hmm := @run_makeMap Try.prog
  have HX : Hid ((txtZ z).size ≤ 100000) := txtZ_size z
  have HTC : Hid (∀ w, Calls Try.prog 14 #[.int .i64 z] w fun e w' => e = .returned (.string (txtZ z)) ∧ w' = w) := text_calls z
  generalize txtZ z = T at *
  go_enter Try.func11, Try.ntmps11
  go_wp2_with (go_at_call 14; refine (HTC.out _).mono ?_; rintro e w' ⟨rfl, hw'⟩; have hx' := hw'.symm; subst hx')
  refine (fields_calls T _ (by have := HX.out; omega)).mono ?_
  rintro e W1 ⟨v, rfl, hO, hB⟩
  obtain ⟨a, cap, rfl⟩ := owns_slice hO
  have hcnt : (fields T.data.toList).length ≤ 100001 := by have := fields_count T.data.toList; rw [size_data] at this; have := HX.out; omega
  have HLN : Hid (Lib.lens (fields T.data.toList) ≤ 100001) := by have := fields_lens T.data.toList; rw [size_data] at this; have := HX.out; show _ ≤ _; omega
  have HT : Hid (HasT W1 (.slice a (fields T.data.toList).length cap) (fields T.data.toList)) := HasT.of hO
  have HM : Hid (W1.ownsMap Try.prog 9 (plainElem (H := Unit) Try.prog 3) w.heap.size 0 (.map [])) := World.ownsMap.kept (World.ownsMap_made _ _ _ _) (grownBy_of_below hB) (by simp)
  have HB : Hid (Below w.heap.size w W1) := ((Below.refl _ w).alloc (Nat.le_refl _) _).trans (hB.mono (by simp))
  have hgt : Hid (∀ b : Nat, a = some ⟨b, 0, none⟩ → w.heap.size < b) := fun b e => by
    subst e
    have := (hO.lt b rfl).1
    simp at this
    omega
  clear hO hB
  obtain ⟨L, hL⟩ : ∃ L, fields T.data.toList = L := ⟨_, rfl⟩
  have HLE : Hid (fields T.data.toList = L) := hL
  rw [hL] at hcnt HLN HT
  rw [hL]
  clear hL
  go_wp2
  clear hmm
  go_loopw [4, 5, 11] (fun _ _ i wr => ∃ k : Nat, k ≤ L.length ∧ i = .int .i64 k ∧ Hid (wr.ownsMap Try.prog 9 (plainElem Try.prog 3) w.heap.size k (memTo L k)) ∧ Hid (Below w.heap.size w wr) ∧ Hid (HasT wr (.slice a L.length cap) L)) (fun _ _ i _ => L.length - (intOf i).toNat)
  case atStart => exact ⟨0, by omega, rfl, HM, HB, HT⟩
  case round =>
    obtain ⟨k, hk, rfl, hM, hB, hT⟩ := hrel
    by_cases hlt : k < L.length
    · obtain ⟨b, rfl, hb, hcap, hcell⟩ := hT.out.at (by omega)
      have hc := hcell k hlt
      have hbw := hgt.out b rfl
      have hkey := key_str L[k] (by have := elem_len L _ HLN.out k hlt; omega)
      have HMS : Hid (memTo L (k + 1) = (memTo L k).put (.string L[k]) (.lit (.int .i64 k))) := by show _ = _; rw [memTo]; simp [List.getD, hlt]
      have HBC : Hid (∀ w1 : World, wr.grownBy w1 (some w.heap.size) → HasT w1 (.slice (some ⟨b, 0, none⟩) L.length cap) L) := fun w1 hg => .inr ⟨b, cap, rfl, hcap, Nat.lt_of_lt_of_le hb hg.size, fun j hj => hg.cell (hcell j hj) (by simp; omega)⟩
      generalize (⟨L[k].toArray⟩ : ByteArray) = f at *
      clear hcell
      go_wp2_with (at_mapUpdate; refine wpList_mapUpdate_own _ rfl _ _ _ 35 rfl 9 3 lawS Try.underlying35 _ w.heap.size k _ rfl hM.out (by unfold maxLen; omega) _ _ _ rfl rfl hkey _ [] (plainElem_int Try.underlying3 (WalkArith.wf_i64 (by omega))) ?_; intro w1 hown1 hgrow1)
      go_roundw
      case rel => exact ⟨k + 1, by omega, by go_num, by rw [HMS.out]; exact hown1, hB.out.grown hgrow1 hB.out.size (fun j hj => by cases hj; exact Nat.le_refl _), HBC.out w1 hgrow1⟩
      case measure => simp [intOf]; omega
    · obtain rfl : k = L.length := by omega
      go_wp2
      go_ret
      exact ⟨rfl, by rw [HLE.out]; exact hM.out, hB.out⟩

theorem sets_once : ((List.range 16).all fun k => decide (SW k).Nodup) = true := by decide +kernel
theorem once_of_nodup {L : List (List UInt8)} (h : L.Nodup) : Once L := by
  intro i j hi hj e
  simp only [List.getD, List.getElem?_eq_getElem hi, List.getElem?_eq_getElem hj, Option.getD_some] at e
  by_cases hij : i = j
  · exact hij
  · rcases Nat.lt_or_gt_of_ne hij with h' | h'
    · exact absurd e (List.pairwise_iff_getElem.1 h i j hi hj h')
    · exact absurd e.symm (List.pairwise_iff_getElem.1 h j i hj hi h')
theorem fields_once (z : Int) : Once (fields (txtZ z).data.toList) := by
  unfold txtZ
  split
  · have h := List.all_eq_true.1 sets_once z.toNat (List.mem_range.2 (by omega))
    exact once_of_nodup (of_decide_eq_true h)
  · intro i j hi
    simp [fields, fieldsFrom] at hi
theorem key_str_inv {x : ByteArray} {kl : Lit} (h : keyOf Try.prog 9 (.string x) = some kl) : kl = .string x.data.toList := by
  simp [keyOf, Try.underlying9, mapKey] at h
  exact h.2.symm
/-- The row while the map's names come: those that have come stand at their numbers. -/
def rowOf (L : List (List UInt8)) (left : Lit → Bool) : List Value := L.map fun x => if left (.string x) then .string ⟨#[]⟩ else .string ⟨x.toArray⟩
theorem rowOf_all (L : List (List UInt8)) (left : Lit → Bool) (h : ∀ x ∈ L, left (.string x) = true) : rowOf L left = List.replicate L.length (.string ⟨#[]⟩) := by
  unfold rowOf
  rw [List.eq_replicate_iff]
  refine ⟨by simp, fun v hv => ?_⟩
  rw [List.mem_map] at hv
  obtain ⟨x, hx, rfl⟩ := hv
  rw [if_pos (h x hx)]
theorem rowOf_none (L : List (List UInt8)) (left : Lit → Bool) (h : ∀ k, left k = false) : rowOf L left = svs L := by
  unfold rowOf svs
  exact List.map_congr_left fun x _ => by rw [h]; rfl
theorem sameKey_str (a b : List UInt8) : (Lit.string a).sameKey (.string b) = decide (a = b) := by
  by_cases h : a = b
  · subst h
    rw [decide_eq_true rfl]
    simp [Lit.sameKey]
  · rw [decide_eq_false h]
    exact sameKey_ne (fun e => h (by injection e))
theorem rowOf_step (L : List (List UInt8)) (hL : Once L) (left : Lit → Bool) (j : Nat) (hj : j < L.length) : rowOf L (fun z => left z && !z.sameKey (.string L[j])) = (rowOf L left).set j (.string ⟨L[j].toArray⟩) := by
  apply List.ext_getElem
  · simp [rowOf]
  · intro i h1 h2
    have hi : i < L.length := by simpa [rowOf] using h1
    by_cases e : i = j
    · subst e
      rw [List.getElem_set_self]
      simp [rowOf, sameKey_str]
    · rw [List.getElem_set_ne (fun h => e h.symm)]
      have hne : L[i] ≠ L[j] := fun h => e (hL i j hi hj (by simp [List.getD, hi, hj, h]))
      simp [rowOf, sameKey_str, hne]

set_option maxRecDepth 100000 in
set_option maxHeartbeats 2000000 in
/-- **List of any number.** -/
theorem list_calls (z : Int) (w : World) :
    Calls Try.prog 4 #[.int .i64 z] w fun e w' => ∃ v c, e = .returned (.tuple #[v, .int .i64 c]) ∧ OwnT w.heap.size w' v (fields (txtZ z).data.toList) ∧ (c = if (fields (txtZ z).data.toList).length = 0 then 41 else 0) ∧ Below w.heap.size w w' := by
  obtain ⟨i0, hi, hz0, hz1, hz2⟩ := info_parts infoStr
  have HX : Hid ((txtZ z).size ≤ 100000) := txtZ_size z
  have HON : Hid (Once (fields (txtZ z).data.toList)) := fields_once z
  have hMC := members_calls z w
  have hcnt : (fields (txtZ z).data.toList).length ≤ 100001 := by have := fields_count (txtZ z).data.toList; rw [size_data] at this; have := HX.out; omega
  generalize fields (txtZ z).data.toList = L at *
  have HMC : Hid (Calls Try.prog 11 #[.int .i64 z] w fun e w' => e = .returned (.map (some w.heap.size)) ∧ w'.ownsMap Try.prog 9 (plainElem Try.prog 3) w.heap.size L.length (memTo L L.length) ∧ Below w.heap.size w w') := hMC
  clear hMC
  have HSZ : Hid (Maps.size (memTo L L.length) = L.length) := memTo_size L HON.out L.length (Nat.le_refl _)
  go_enter Try.func4, Try.ntmps4
  go_wp2_with fail
  refine Calls.mono HMC.out ?_
  rintro e W1 ⟨rfl, hM, hB⟩
  have HM : Hid (W1.ownsMap Try.prog 9 (plainElem Try.prog 3) w.heap.size L.length (memTo L L.length)) := hM
  have hml := hM.lt
  have HB : Hid (Below w.heap.size w W1) := hB
  have s1 := hB.size
  clear hM hB HMC
  by_cases h0 : L.length = 0
  · have hS0 : Hid (Maps.size (memTo L L.length) = 0) := by rw [HSZ.out]; exact h0
    go_wp2_with (at_len; refine wpList_len_own _ rfl _ 35 rfl 9 3 Try.underlying35 _ w.heap.size _ _ rfl HM.out ?_; rw [hS0.out])
    go_ret2
    refine ⟨.slice none 0 0, 41, rfl, ?_, ?_, HB.out⟩
    · obtain rfl : L = [] := List.length_eq_zero_iff.1 h0
      exact World.ownsRow_nil _ _ _ _
    · first | rfl | rw [if_pos h0]
  · obtain ⟨W2, hrun, hrow, hgr⟩ := run_make_full (P := Try.prog) W1 w.heap.size 23 9 i0 (.string ⟨#[]⟩) 1 Try.underlying23 hi hz0 hz1 .i64 .i64 L.length (by rw [hz2]; omega) (by unfold maxLen; omega) s1
    have hne : ((L.length : Int) == 0) = false := by rw [beq_eq_false_iff_ne]; omega
    have HM2 : Hid (W2.ownsMap Try.prog 9 (plainElem Try.prog 3) w.heap.size L.length (memTo L L.length)) := World.ownsMap.kept HM.out hgr (by simp)
    have HR2 : Hid (W2.ownsRow w.heap.size 9 1 (.slice (some ⟨W1.heap.size, 0, none⟩) L.length L.length) L.length (rowOf L (Maps.has (memTo L L.length)))) := by
      rw [rowOf_all L _ (fun x hx => (memTo_has L x L.length).2 (by obtain ⟨j, hj, e⟩ := List.mem_iff_getElem.1 hx; exact ⟨j, hj, by simp [List.getD, hj, e]⟩))]
      rw [Nat.mul_one, show (Value.string ⟨#[]⟩).cells = #[.string ⟨#[]⟩] from rfl, toList_madeCells_one] at hrow
      exact hrow
    have HB2 : Hid (Below w.heap.size w W2) := HB.out.grown hgr s1 (fun j hj => by cases hj)
    have HG1 : Hid (W1.heap.size < W2.heap.size) := (hrow.lt W1.heap.size rfl).2
    clear hgr hrow
    go_wp2_with (first
      | (at_len; refine wpList_len_own _ rfl _ 35 rfl 9 3 Try.underlying35 _ w.heap.size _ _ rfl HM.out ?_; rw [HSZ.out])
      | (at_range; refine wpList_range_own _ rfl _ 35 rfl 9 3 lawS Try.underlying35 _ w.heap.size _ _ rfl HM2.out ?_; intro w0 hrg0 hg0 hs0)
      | go_in)
    go_frame
    have HRW : Hid (w0.ownsRow w.heap.size 9 1 (.slice (some ⟨W1.heap.size, 0, none⟩) L.length L.length) L.length (rowOf L (Maps.has (memTo L L.length)))) := World.ownsRow.kept HR2.out hg0 (.inr (by simp [Value.ownBlock]))
    have HB3 : Hid (Below w.heap.size w w0) := HB2.out.grown hg0 HB2.out.size (fun j hj => by cases hj)
    have s2 := HB2.out.size
    have hl2 := HG1.out
    clear hg0 hrun
    go_loopw [6, 7] (fun _ _ wr => ∃ (left : Lit → Bool) (cnt : Nat), Hid (wr.ranges Try.prog 9 (plainElem Try.prog 3) w.heap.size W2.heap.size L.length (memTo L L.length) left cnt) ∧ Hid (wr.ownsRow w.heap.size 9 1 (.slice (some ⟨W1.heap.size, 0, none⟩) L.length L.length) L.length (rowOf L left)) ∧ Hid (Below w.heap.size w wr)) (fun _ _ wr => wr.rangeLeft w.heap.size W2.heap.size)
    case atStart => exact ⟨_, _, hrg0, HRW, HB3⟩
    case round =>
      obtain ⟨left, cnt, hrg, hR, hB⟩ := hrel
      go_wp2_with (first
        | (at_next; refine wpList_next_ranges _ rfl _ rfl 9 lawS (plainElem Try.prog 3) (fun s : ByteArray => Value.string s) (fun c : Int => Value.int .i64 c) (fun key kl h => Maps.keyOf_string_inv Try.underlying9 h) (fun v y h => by obtain ⟨c, rfl, _⟩ := plainElem_int_inv Try.underlying3 h; exact ⟨c, rfl⟩) w.heap.size W2.heap.size L.length _ _ _ rfl hrg.out ?_ ?_)
        | go_in)
      · intro hc0 hl0
        have HRE : Hid (rowOf L left = svs L) := rowOf_none L left hl0
        go_wp2
        go_ret2
        refine ⟨.slice (some ⟨W1.heap.size, 0, none⟩) L.length L.length, 0, rfl, ?_, ?_, hB.out⟩
        · have := hR.out; rw [HRE.out] at this; exact this
        · first | rfl | rw [if_neg h0]
      · intro x c kl y yp w1 cnt1 hkey hlk hv hat hrg1 hlt hg1 hs1 hen
        obtain ⟨c', ec, ey, hwc⟩ := plainElem_int_inv Try.underlying3 hv
        obtain ⟨ey, -⟩ := Prod.mk.inj ey
        obtain rfl : kl = .string x.data.toList := key_str_inv hkey
        obtain ⟨j, hj, ej⟩ := (memTo_has L x.data.toList L.length).1 (has_true_of_atKey hat)
        have hat2 := memTo_at L HON.out j (.lit (.int .i64 0)) L.length (Nat.le_refl _) hj
        rw [ej, hat, ey] at hat2
        obtain rfl : c = (j : Int) := by
          injection ec with _ ec
          injection hat2 with hat2
          injection hat2 with _ hat2
          omega
        have hxj : x = ⟨L[j].toArray⟩ := str_of x _ (by rw [← ej]; simp [List.getD, hj])
        have HRS : Hid (rowOf L (fun z => left z && !z.sameKey (.string x.data.toList)) = (rowOf L left).set j (.string x)) := by
          have h := rowOf_step L HON.out left j hj
          rw [hxj]
          exact h
        have hR1 : Hid (w1.ownsRow w.heap.size 9 1 (.slice (some ⟨W1.heap.size, 0, none⟩) L.length L.length) L.length (rowOf L left)) := World.ownsRow.kept hR.out hg1 (.inr (by simp [Value.ownBlock]; omega))
        have hcell : w1.cell? ⟨W1.heap.size, j, none⟩ = some ((rowOf L left)[j]'(by simp [rowOf]; exact hj)) := by rw [World.ownsRow.cellAt hR1.out j (by omega)]; exact List.getElem?_eq_getElem _
        have hfz := World.ownsRow.frozenAt hR1.out j
        have HST : Hid _ := World.ownsRow.stored hR1.out j (.string x)
        have HRG : Hid (w1.ranges Try.prog 9 (plainElem Try.prog 3) w.heap.size W2.heap.size L.length (memTo L L.length) (fun z => left z && !z.sameKey (.string x.data.toList)) cnt1) := hrg1
        have HBS : Hid (Below w.heap.size w (w1.setCell ⟨W1.heap.size, j, none⟩ (.string x))) := (hB.out.grown hg1 hB.out.size (fun j hj => by cases hj; omega)).setCell s1 _
        have HLT : Hid (cnt1 < cnt) := hlt
        generalize (rowOf L left)[j]'(by simp [rowOf]; exact hj) = old at hcell
        clear hat hat2 ec ey hv hkey hlk hxj hg1 hrg1 hwc ej
        have HRG2 : Hid ((w1.setCell ⟨W1.heap.size, j, none⟩ (.string x)).ranges Try.prog 9 (plainElem Try.prog 3) w.heap.size W2.heap.size L.length (memTo L L.length) (fun z => left z && !z.sameKey (.string x.data.toList)) cnt1) := World.ranges.kept HRG.out HST.out.2 (by simp; omega) (by simp; omega)
        go_wp2
        exact ⟨⟨_, cnt1, HRG2, by rw [HRS.out]; exact HST.out.1, HBS⟩, by rw [World.ranges.left_eq HRG2.out, World.ranges.left_eq hrg.out]; exact HLT.out⟩

end Go.Proofs.Ytjgppdjbcmadcaa.N
