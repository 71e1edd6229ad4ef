/- What is proved here: the contract of Merge of token. -/
import Derived.Test.YtelfejbhlolppaaDoorTJoin
namespace Go.Proofs.YtelfejbhlolppaaDoor.T
open Go.RowKit N

def lenV : Value → Nat
  | .slice _ n _ => n
  | _ => 0
theorem refM_len (L : TL) : (refM L).length ≤ L.length := by
  refine snoc_ind (P := fun L => (refM L).length ≤ L.length) (by simp [refM]) (fun R x ih => ?_) L
  have e : refM (R ++ [x]) = stepM (refM R) x := by unfold refM; rw [List.foldl_append]; rfl
  rw [e, List.length_append]
  unfold stepM
  split
  · simp; omega
  · split
    · simp; omega
    · split
      · split
        · simp only [List.length_append, List.length_dropLast, List.length_cons, List.length_nil]; omega
        · simp; omega
      · simp; omega
theorem bulk_drop (L : TL) (j : Nat) : bulkL (L.drop j) ≤ bulkL L := by
  unfold bulkL
  conv => rhs; rw [← List.take_append_drop j L, List.map_append, List.sum_append]
  omega

set_option maxRecDepth 100000 in
set_option maxHeartbeats 4000000 in
/-- **Merge of any tokens.** -/
theorem merge_calls (L : TL) (v : Value) (w : World) (hH : HasT w v L) (hbk : bulkL L ≤ 1048576) :
    Calls Tryd.prog 16 #[v] w fun e w' => ∃ v', e = .returned v' ∧ OwnT w.heap.size w' v' (refM L) ∧ Below w.heap.size w w' := by
  obtain ⟨va, vc, rfl⟩ := hH.slice
  have HS : Hid (HasT w (.slice va L.length vc) L) := hH
  have hLn := bulkL_len L
  have hll : (L.length : Int) ≤ 1048576 := by omega
  obtain ⟨i0, hi, hz0, hz1, hz2⟩ := info_parts infoTok
  have HI : Hid (Tryd.prog.info? 28 = some i0 ∧ i0.zero = some (.agg #[.int .i64 0, .string ⟨#[]⟩, .string ⟨#[]⟩, .slice none 0 0, .bool false, .int .i64 0, .int .i64 0, .int .i64 0]) ∧ i0.size = 8 ∧ i0.bytes = 96) := ⟨hi, hz0, hz1, hz2⟩
  clear hH hi hz0 hz1 hz2
  go_enter Tryd.func16, Tryd.ntmps16
  go_wp2
  go_loopw [0, 3, 4, 5] (fun v0 v3 _ _ wr => ∃ (j : Nat) (a1 : Option Addr) (c1 : Nat), j ≤ L.length ∧ v0 = .slice a1 (L.length - j) c1 ∧ Hid (HasT w (.slice a1 (L.length - j) c1) (L.drop j)) ∧ Hid (OwnT w.heap.size wr v3 (refM (L.take j))) ∧ Hid (CanGo L j) ∧ Hid (Below w.heap.size w wr)) (fun v0 _ _ _ _ => lenV v0)
  case atStart => exact ⟨0, va, vc, by omega, rfl, by simpa [Hid] using HS.out, by show OwnT _ _ _ _; simpa [refM] using OwnT.nil _ _, CanGo.zero L, Below.refl _ _⟩
  case round =>
    obtain ⟨j, a1, c1, hj, rfl, hT, hO, hG, hB⟩ := hrel
    have hzr := hB.out.size
    by_cases hlt : j < L.length
    · have q0 : decide ((0 : Int) < ((L.length - j : Nat) : Int)) = true := by simp; omega
      have q0' : decide (0 < L.length - j) = true := by simp; omega
      have hdl : (L.drop j).length = L.length - j := by simp
      have hrl := refM_len (L.take j)
      rw [List.length_take] at hrl
      have AC : Hid (Calls Tryd.prog 32 #[.slice a1 (L.length - j) c1] wr fun e w' => ∃ n : Nat, e = .returned (.int .i64 n) ∧ n ≤ (L.drop j).length ∧ (∀ i (h : i < (L.drop j).length), i < n → (L.drop j)[i].1.kind = 0) ∧ (∀ h : n < (L.drop j).length, (L.drop j)[n].1.kind ≠ 0) ∧ wr = w') := ahead_calls (L.drop j) _ wr (hT.out.below hB.out) (by omega)
      go_wp2_with fail
      refine AC.out.mono ?_
      rintro e wx ⟨n, rfl, hn, hk1, hk2, rfl⟩
      rw [hdl] at hn
      obtain ⟨xs, x1, x2, x3⟩ := hO.out
      obtain ⟨va3, vc3, rfl⟩ := C.owns_slice x2
      have HX : Hid (xs.map Prod.snd = refM (L.take j) ∧ ∀ x ∈ xs, OwnA w.heap.size wr x.1 x.2.2) := ⟨x1, x3⟩
      have HX2 : Hid (wr.ownsRow w.heap.size 28 8 (.slice va3 (refM (L.take j)).length vc3) (refM (L.take j)).length (xs.flatMap fun x => tvs x.2.1 x.1)) := x2
      clear x1 x2 x3 hO AC
      by_cases hn0 : n = 0
      · subst hn0
        have hkj : L[j].1.kind ≠ 0 := by
          have := hk2 (by omega)
          simpa using this
        obtain ⟨hM, hG2⟩ := CanGo.other L j hlt hkj
        obtain ⟨tb, off, rfl, av, d0, d1, d2, d3, d4, d5, d6, d7, hA⟩ := hT.out.at 0 (by omega)
        rw [List.getElem_drop] at d0 d1 d2 d4 d5 d6 d7 hA
        simp only [Nat.add_zero, Nat.zero_mul] at d0 d1 d2 d3 d4 d5 d6 d7 hA
        have hbt := bulkL_at L j hlt
        rcases hx : L[j] with ⟨t, l⟩
        rw [hx] at d0 d1 d2 d4 d5 d6 d7 hA hbt hM
        simp only at d0 d1 d2 d4 d5 d6 d7 hA
        unfold bulkT at hbt
        simp only at hbt
        clear hx hk1 hk2 hkj
        obtain ⟨aa, ac, rfl⟩ := hA.slice
        have e0 := (hB.out.cell (p := ⟨tb, off, none⟩) (C.cell_lt d0)).trans d0
        have e1 := (hB.out.cell (p := ⟨tb, off + 1, none⟩) (C.cell_lt d1)).trans d1
        have e2 := (hB.out.cell (p := ⟨tb, off + 2, none⟩) (C.cell_lt d2)).trans d2
        have e3 := (hB.out.cell (p := ⟨tb, off + 3, none⟩) (C.cell_lt d3)).trans d3
        have e4 := (hB.out.cell (p := ⟨tb, off + 4, none⟩) (C.cell_lt d4)).trans d4
        have e5 := (hB.out.cell (p := ⟨tb, off + 5, none⟩) (C.cell_lt d5)).trans d5
        have e6 := (hB.out.cell (p := ⟨tb, off + 6, none⟩) (C.cell_lt d6)).trans d6
        have e7 := (hB.out.cell (p := ⟨tb, off + 7, none⟩) (C.cell_lt d7)).trans d7
        have OC : Hid (Calls Tryd.prog 33 #[.agg #[.int .i64 t.kind, .string t.name, .string t.text, .slice aa l.length ac, .bool t.self, .int .i64 t.p0, .int .i64 t.p1, .int .i64 t.p2]] wr fun e w' => ∃ av', e = .returned (t.val av') ∧ OwnA wr.heap.size w' av' l ∧ Below wr.heap.size wr w') := own_calls t l _ wr (hA.below hB.out) (by omega)
        have HM : Hid (refM (L.take (j + 1)) = refM (L.take j) ++ [(t, l)]) := hM
        have HG2 : Hid (CanGo L (j + 1)) := hG2
        obtain ⟨a2, ha2⟩ : ∃ a2, (if c1 = 1 then some (⟨tb, off, none⟩ : Addr) else some ⟨tb, off + 8, none⟩) = a2 := ⟨_, rfl⟩
        have HT2 : Hid (HasT w (.slice a2 (L.length - (j + 1)) (c1 - 1)) (L.drop (j + 1))) := by
          have h := HasT.drop (L := L.drop j) (a1 := a2) (by rw [hdl]; exact hT.out) 1 (by omega) (fun h => by rw [← ha2, if_neg (by omega)]; simp [Addr.add])
          rw [hdl, List.drop_drop] at h
          rw [show L.length - (j + 1) = L.length - j - 1 by omega]; exact h
        have HLE : Hid (Value.slice a2 (L.length - j - 1) (c1 - 1) = .slice a2 (L.length - (j + 1)) (c1 - 1)) := by show _ = _; rw [show L.length - j - 1 = L.length - (j + 1) by omega]
        clear d0 d1 d2 d3 d4 d5 d6 d7 hA hM hG2 hT hbt
        go_wp2_with fail
        refine OC.out.mono ?_
        rintro e w2 ⟨av2, rfl, ho2, hb2⟩
        obtain ⟨a3, c3, rfl⟩ := C.owns_slice ho2
        have hz2 := hb2.size
        have hX2 := C.owns_below HX2.out hb2
        have HO2 : Hid (OwnA w.heap.size w2 (.slice a3 l.length c3) l) := C.owns_mono ho2 (by omega)
        have HX3 : Hid (∀ x ∈ xs, OwnA w.heap.size w2 x.1 x.2.2) := fun x hx => C.owns_below (HX.out.2 x hx) hb2
        have HB2 : Hid (Below w.heap.size w w2) := hB.out.trans (hb2.mono hzr)
        unfold T.Tok.val
        clear ho2 hb2 OC
        go_wp2_with (at_builtin; refine wpList_append_own _ rfl _ _ 38 rfl w.heap.size 28 i0 (.agg #[.int .i64 0, .string ⟨#[]⟩, .string ⟨#[]⟩, .slice none 0 0, .bool false, .int .i64 0, .int .i64 0, .int .i64 0]) 8 96 Tryd.underlying38 HI.out.1 HI.out.2.1 HI.out.2.2.1 HI.out.2.2.2 rfl (by decide) _ _ _ rfl (hX2.alloc _) ⟨w2.heap.size, 0, none⟩ 1 1 (tvs t (.slice a3 l.length c3)) rfl rfl (cells_eight _ t _ _ _ rfl) (tvs_one _ _ _ _) ?c3 ?c4 ?c5 ?_)
        case c3 => unfold maxLen; omega
        case c4 => omega
        case c5 => simp; omega
        intro v4 w4 ho4 hg4 _
        have HO4 : Hid (OwnT w.heap.size w4 v4 (refM (L.take (j + 1)))) := by
          rw [HM.out]
          exact OwnT.snoc HX.out.1 hX2 HX3.out HO2.out ho4 hg4
        have HB4 : Hid (Below w.heap.size w w4) := (HB2.out.alloc (by omega) _).grown hg4 (by simp; omega) (fun k e => (hX2.lt k e).1)
        obtain ⟨a4, c4, rfl⟩ := C.owns_slice ho4
        clear ho4 hg4
        go_wp2
        all_goals first
          | exact ⟨⟨j + 1, a2, c1 - 1, by omega, HLE.out, HT2, HO4, HG2, HB4⟩, by simp [lenV]; omega⟩
          | (go_roundw
             case rel => exact ⟨j + 1, a2, c1 - 1, by omega, HLE.out, HT2, HO4, HG2, HB4⟩
             case measure => simp [lenV]; omega)
      · have qn : ((n : Int) == 0) = false := by simp; omega
        obtain ⟨hM, hG2⟩ := CanGo.run L j n (by omega) (by omega) hG.out (fun i hi h1 h2 => by
            have := hk1 (i - j) (by omega) (by omega)
            rw [List.getElem_drop] at this
            simpa [show j + (i - j) = i by omega] using this) (fun hi => by
            have := hk2 (by omega)
            rw [List.getElem_drop] at this
            exact this)
        obtain ⟨a2, ha2, hsl⟩ := slice_fromT a1 (L.length - j) c1 n (by omega)
        have hcap : L.length - j ≤ c1 := by
          rcases HasT.cap hT.out with h | h <;> omega
        have hst := slice_toT a1 (L.length - j) c1 n (by omega) (by omega)
        have hTk : HasT w (.slice a1 n c1) ((L.drop j).take n) := HasT.take (L := L.drop j) (by rw [hdl]; exact hT.out) n (by omega)
        have HT2 : Hid (HasT w (.slice a2 (L.length - (j + n)) (c1 - n)) (L.drop (j + n))) := by
          have h := HasT.drop (L := L.drop j) (by rw [hdl]; exact hT.out) n (by omega) ha2
          rw [hdl, List.drop_drop] at h
          rw [show L.length - (j + n) = L.length - j - n by omega]; exact h
        rw [show L.length - j - n = L.length - (j + n) by omega] at hsl
        have hbj : bulkL ((L.drop j).take n) ≤ 1048576 := by
          have h1 := bulkL_take (L.drop j) n
          have h2 := bulk_drop L j
          omega
        have JC : Hid (Calls Tryd.prog 34 #[.slice a1 n c1] wr fun e w' => ∃ av', e = .returned ((joined ((L.drop j).take n)).1.val av') ∧ OwnA wr.heap.size w' av' (joined ((L.drop j).take n)).2 ∧ Below wr.heap.size wr w') := join_calls _ _ wr (hTk.below hB.out) hbj
        have hjt : (joined ((L.drop j).take n)).1.text.data.toList = (joinAcc ((L.drop j).take n)).2 := rfl
        rcases hJ : joined ((L.drop j).take n) with ⟨t, l⟩
        rw [hJ] at JC hM hjt
        simp only at hjt
        have HM : Hid (refM (L.take (j + n)) = if t.text.data.toList = [] then refM (L.take j) else refM (L.take j) ++ [(t, l)]) := by rw [hjt]; exact hM
        have HG2 : Hid (CanGo L (j + n)) := hG2
        clear hM hG2 hJ hjt hTk ha2 hT hk1 hk2 hbj
        go_wp2_with fail
        refine JC.out.mono ?_
        rintro e w2 ⟨av2, rfl, ho2, hb2⟩
        obtain ⟨a3, c3, rfl⟩ := C.owns_slice ho2
        have hz2 := hb2.size
        unfold T.Tok.val
        obtain ⟨W3, hW3⟩ : ∃ W3, w2.alloc (.cells #[.int .i64 t.kind, .string t.name, .string t.text, .slice a3 l.length c3, .bool t.self, .int .i64 t.p0, .int .i64 t.p1, .int .i64 t.p2] 28) = W3 := ⟨_, rfl⟩
        have hT3 : W3.heap[w2.heap.size]? = some (.cells #[.int .i64 t.kind, .string t.name, .string t.text, .slice a3 l.length c3, .bool t.self, .int .i64 t.p0, .int .i64 t.p1, .int .i64 t.p2] 28 (0, 0)) := by rw [← hW3]; exact new_at _ _ _
        have b3 : Below w2.heap.size w2 W3 := by rw [← hW3]; exact (Below.refl _ w2).alloc (Nat.le_refl _) _
        have hz3 : W3.heap.size = w2.heap.size + 1 := by rw [← hW3]; simp
        have hX2 := C.owns_below (C.owns_below HX2.out hb2) b3
        have HO2 : Hid (OwnA w.heap.size W3 (.slice a3 l.length c3) l) := C.owns_below (C.owns_mono ho2 (by omega)) b3
        have HX3 : Hid (∀ x ∈ xs, OwnA w.heap.size W3 x.1 x.2.2) := fun x hx => C.owns_below (C.owns_below (HX.out.2 x hx) hb2) b3
        have HB3 : Hid (Below w.heap.size w W3) := (hB.out.trans (hb2.mono hzr)).trans (b3.mono (by omega))
        have y0 : W3.cell? ⟨w2.heap.size, 0, none⟩ = some (.int .i64 t.kind) := cell_at hT3
        have y1 : W3.cell? ⟨w2.heap.size, 1, none⟩ = some (.string t.name) := cell_at hT3
        have y2 : W3.cell? ⟨w2.heap.size, 2, none⟩ = some (.string t.text) := cell_at hT3
        have y3 : W3.cell? ⟨w2.heap.size, 3, none⟩ = some (.slice a3 l.length c3) := cell_at hT3
        have y4 : W3.cell? ⟨w2.heap.size, 4, none⟩ = some (.bool t.self) := cell_at hT3
        have y5 : W3.cell? ⟨w2.heap.size, 5, none⟩ = some (.int .i64 t.p0) := cell_at hT3
        have y6 : W3.cell? ⟨w2.heap.size, 6, none⟩ = some (.int .i64 t.p1) := cell_at hT3
        have y7 : W3.cell? ⟨w2.heap.size, 7, none⟩ = some (.int .i64 t.p2) := cell_at hT3
        clear ho2 hb2 b3 hT3 JC
        by_cases hte : t.text.data.toList = []
        · have q2 : t.text.toList.isEmpty = true := by rw [Lib.toList_data, hte]; rfl
          have HO4 : Hid (OwnT w.heap.size W3 (.slice va3 (refM (L.take j)).length vc3) (refM (L.take (j + n)))) := by
            rw [HM.out, if_pos hte]
            exact ⟨xs, HX.out.1, hX2, HX3.out⟩
          clear hte
          go_wp2
          all_goals first
            | exact ⟨⟨j + n, a2, c1 - n, by omega, rfl, HT2, HO4, HG2, HB3⟩, by simp [lenV]; omega⟩
            | (go_roundw
               case rel => exact ⟨j + n, a2, c1 - n, by omega, rfl, HT2, HO4, HG2, HB3⟩
               case measure => simp [lenV]; omega)
        · have q2 : t.text.toList.isEmpty = false := by rw [Lib.toList_data]; simpa using hte
          have HM' : Hid (refM (L.take (j + n)) = refM (L.take j) ++ [(t, l)]) := by show _ = _; rw [HM.out, if_neg hte]
          clear hte
          go_wp2_with (at_builtin; refine wpList_append_own _ rfl _ _ 38 rfl w.heap.size 28 i0 (.agg #[.int .i64 0, .string ⟨#[]⟩, .string ⟨#[]⟩, .slice none 0 0, .bool false, .int .i64 0, .int .i64 0, .int .i64 0]) 8 96 Tryd.underlying38 HI.out.1 HI.out.2.1 HI.out.2.2.1 HI.out.2.2.2 rfl (by decide) _ _ _ rfl (hX2.alloc _) ⟨w2.heap.size + 1, 0, none⟩ 1 1 (tvs t (.slice a3 l.length c3)) rfl rfl (cells_eight _ t _ _ _ hz3.symm) (tvs_one _ _ _ _) ?c3 ?c4 ?c5 ?_)
          case c3 => unfold maxLen; omega
          case c4 => omega
          case c5 => simp; omega
          intro v4 w4 ho4 hg4 _
          have HO4 : Hid (OwnT w.heap.size w4 v4 (refM (L.take (j + n)))) := by
            rw [HM'.out]
            exact OwnT.snoc HX.out.1 hX2 HX3.out HO2.out ho4 hg4
          have HB4 : Hid (Below w.heap.size w w4) := (HB3.out.alloc (by omega) _).grown hg4 (by simp; omega) (fun k e => (hX2.lt k e).1)
          obtain ⟨a4, c4, rfl⟩ := C.owns_slice ho4
          clear ho4 hg4
          go_wp2
          all_goals first
            | exact ⟨⟨j + n, a2, c1 - n, by omega, rfl, HT2, HO4, HG2, HB4⟩, by simp [lenV]; omega⟩
            | (go_roundw
               case rel => exact ⟨j + n, a2, c1 - n, by omega, rfl, HT2, HO4, HG2, HB4⟩
               case measure => simp [lenV]; omega)
    · obtain rfl : j = L.length := by omega
      rw [List.take_length] at hO
      have q0 : decide ((0 : Int) < ((L.length - L.length : Nat) : Int)) = false := by simp
      go_wp2
      go_ret
      exact ⟨_, rfl, hO.out, hB.out⟩
end Go.Proofs.YtelfejbhlolppaaDoor.T
