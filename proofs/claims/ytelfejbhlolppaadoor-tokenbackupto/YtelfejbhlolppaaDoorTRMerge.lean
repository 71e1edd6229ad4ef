/- What is proved here: the contract of Merge of sieveref07. -/
import Derived.Test.YtelfejbhlolppaaDoorTCopied
namespace Go.Proofs.YtelfejbhlolppaaDoor.T
open Go.RowKit N

/-- Tokens in a row of one's own, their attributes of a kind. -/
def OwnR (base : Nat) (Q : Value → AL → Prop) (w : World) (v : Value) (L : TL) : Prop :=
  ∃ xs : List (Value × (T.Tok × AL)), xs.map Prod.snd = L ∧ w.ownsRow base 28 8 v L.length (xs.flatMap fun x => tvs x.2.1 x.1) ∧ ∀ x ∈ xs, Q x.1 x.2.2
theorem OwnR.drew {base : Nat} {Q : Value → AL → Prop} {w : World} {v : Value} {L : TL} (h : OwnR base Q w v L) : OwnR base Q w.drew v L := h
theorem OwnR.has {base : Nat} {Q : Value → AL → Prop} {w : World} {v : Value} {L : TL} (h : OwnR base Q w v L) (hq : ∀ a l, Q a l → HasA w a l) : HasT w v L := by
  obtain ⟨xs, rfl, h2, h3⟩ := h
  have h2' := h2
  have hl : (xs.map Prod.snd).length = xs.length := by simp
  rcases h2.2 with ⟨rfl, e⟩ | ⟨g, cap, cur, rfl, _, hg, hc, _⟩
  · exact .inl ⟨List.length_eq_zero_iff.1 e, none, 0, rfl⟩
  · by_cases h0 : (xs.map Prod.snd).length = 0
    · exact .inl ⟨List.length_eq_zero_iff.1 h0, some ⟨g, 0, none⟩, cap, by rw [h0]⟩
    · refine .inr ⟨by omega, g, 0, cap, rfl, hc, fun i hi => ?_⟩
      have hi' : i < xs.length := by omega
      have hcell : ∀ j (hj : j < 8), w.cell? ⟨g, 0 + i * 8 + j, none⟩ = (tvs xs[i].2.1 xs[i].1)[j]? := fun j hj => by
        rw [Nat.zero_add, World.ownsRow.cellAt h2' (i * 8 + j) (by omega), flat8 xs i j hi' hj]
      simp only [List.getElem_map]
      exact ⟨xs[i].1, hcell 0 (by omega), hcell 1 (by omega), hcell 2 (by omega), hcell 3 (by omega), hcell 4 (by omega), hcell 5 (by omega), hcell 6 (by omega), hcell 7 (by omega), hq _ _ (h3 _ (List.getElem_mem _))⟩
theorem OwnR.snoc {base : Nat} {Q : Value → AL → Prop} {w' : World} {v' av : Value} {L : TL} {xs : List (Value × (T.Tok × AL))} {t : T.Tok} {l : AL} (h1 : xs.map Prod.snd = L) (h3 : ∀ x ∈ xs, Q x.1 x.2.2) (hd : Q av l) (hr : w'.ownsRow base 28 8 v' (L.length + 1) ((xs.flatMap fun x => tvs x.2.1 x.1) ++ tvs t av)) : OwnR base Q w' v' (L ++ [(t, l)]) := by
  refine ⟨xs ++ [(av, (t, l))], by simp [h1], by simpa using hr, fun x hx => ?_⟩
  rcases List.mem_append.1 hx with hx | hx
  · exact h3 x hx
  · simp at hx; subst hx; exact hd
theorem flat_len (xs : List (Value × (T.Tok × AL))) : (xs.flatMap fun x => tvs x.2.1 x.1).length = xs.length * 8 := by
  induction xs with
  | nil => rfl
  | cons a r ih => simp only [List.flatMap_cons, List.length_append, ih, List.length_cons]; simp [tvs]; omega
theorem flat_set (ys : List (Value × (T.Tok × AL))) (y : Value × (T.Tok × AL)) (s : ByteArray) : (((ys ++ [y]).flatMap fun x => tvs x.2.1 x.1).set (ys.length * 8 + 2) (.string s)) = (ys ++ [((y.1, ({ y.2.1 with text := s }, y.2.2)) : Value × (T.Tok × AL))]).flatMap fun x => tvs x.2.1 x.1 := by
  rw [List.flatMap_append, List.flatMap_append, List.set_append_right _ _ (by rw [flat_len]; omega), flat_len]
  congr 1
  simp [tvs]

set_option maxRecDepth 100000 in
set_option maxHeartbeats 4000000 in
/-- **The document's Merge.** -/
theorem rmerge_calls (Q : Value → AL → Prop) (L : TL) (v : Value) (w : World) (hH : HasT w v L) (hQ : ∀ k (hk : k < L.length) tb off n cap av, v = .slice (some ⟨tb, off, none⟩) n cap → w.cell? ⟨tb, off + k * 8 + 3, none⟩ = some av → Q av L[k].2) (hbk : bulkL L ≤ 1048576) :
    Calls Tryd.prog 17 #[v] w fun e w' => ∃ v', e = .returned v' ∧ OwnR w.heap.size Q w' v' (refM L) ∧ Below w.heap.size w w' := by
  have HQ : Hid (∀ k (hk : k < L.length) tb off n cap av, v = .slice (some ⟨tb, off, none⟩) n cap → w.cell? ⟨tb, off + k * 8 + 3, none⟩ = some av → Q av L[k].2) := hQ
  clear hQ
  obtain ⟨va, vc, rfl⟩ := hH.slice
  have HS : Hid (HasT w (.slice va L.length vc) L) := hH
  have hLn := bulkL_len L
  have hll : (L.length : Int) ≤ 1048576 := by omega
  obtain ⟨i0, hi, hz0, hz1, hz2⟩ := info_parts infoTok
  have HI : Hid (Tryd.prog.info? 28 = some i0 ∧ i0.zero = some (.agg #[.int .i64 0, .string ⟨#[]⟩, .string ⟨#[]⟩, .slice none 0 0, .bool false, .int .i64 0, .int .i64 0, .int .i64 0]) ∧ i0.size = 8 ∧ i0.bytes = 96) := ⟨hi, hz0, hz1, hz2⟩
  clear hH hi hz0 hz1 hz2
  go_enter Tryd.func17, Tryd.ntmps17
  go_wp2
  go_loopw [3, 5, 6, 9] (fun v3 _ _ i wr => ∃ k : Nat, k ≤ L.length ∧ i = .int .i64 k ∧ Hid (OwnR w.heap.size Q wr v3 (refM (L.take k))) ∧ Hid (Below w.heap.size w wr) ∧ Hid (∀ x ∈ refM (L.take k), x.1.text.size ≤ bulkL (L.take k))) (fun _ _ _ i _ => L.length - (intOf i).toNat)
  case atStart => exact ⟨0, by omega, rfl, ⟨[], by simp [refM], by simpa [refM] using World.ownsRow_nil _ _ _ _, fun x hx => by cases hx⟩, Below.refl _ _, fun x hx => by simp [refM] at hx⟩
  case round =>
    obtain ⟨k, hk, rfl, hO, hB, hZ⟩ := hrel
    have hzr := hB.out.size
    by_cases hlt : k < L.length
    · obtain ⟨tb, off, rfl, av, d0, d1, d2, d3, d4, d5, d6, d7, hA⟩ := HS.out.at k hlt
      have hqa := HQ.out k hlt _ _ _ _ _ rfl d3
      have hbs := bulkL_succ L k hlt
      have hbt := bulkL_take L (k + 1)
      have hM := refM_succ L k hlt
      have hrl := refM_len (L.take k)
      rw [List.length_take] at hrl
      rcases hx : L[k] with ⟨t, l⟩
      rw [hx] at d0 d1 d2 d4 d5 d6 d7 hA hbs hM hqa
      simp only at d0 d1 d2 d4 d5 d6 d7 hA hqa
      unfold bulkT at hbs
      simp only at hbs
      clear hx
      obtain ⟨aa, ac, rfl⟩ := hA.slice
      have e0 := (hB.out.cell (p := ⟨tb, off + k * 8, none⟩) (C.cell_lt d0)).trans d0
      have e1 := (hB.out.cell (p := ⟨tb, off + k * 8 + 1, none⟩) (C.cell_lt d1)).trans d1
      have e2 := (hB.out.cell (p := ⟨tb, off + k * 8 + 2, none⟩) (C.cell_lt d2)).trans d2
      have e3 := (hB.out.cell (p := ⟨tb, off + k * 8 + 3, none⟩) (C.cell_lt d3)).trans d3
      have e4 := (hB.out.cell (p := ⟨tb, off + k * 8 + 4, none⟩) (C.cell_lt d4)).trans d4
      have e5 := (hB.out.cell (p := ⟨tb, off + k * 8 + 5, none⟩) (C.cell_lt d5)).trans d5
      have e6 := (hB.out.cell (p := ⟨tb, off + k * 8 + 6, none⟩) (C.cell_lt d6)).trans d6
      have e7 := (hB.out.cell (p := ⟨tb, off + k * 8 + 7, none⟩) (C.cell_lt d7)).trans d7
      obtain ⟨M, hMe⟩ : ∃ M, refM (L.take k) = M := ⟨_, rfl⟩
      rw [hMe] at hO hZ hM hrl
      clear hMe
      obtain ⟨xs, x1, x2, x3⟩ := hO.out
      obtain ⟨va3, vc3, rfl⟩ := C.owns_slice x2
      obtain ⟨W1, hW1⟩ : ∃ W1, wr.alloc (.cells #[.int .i64 t.kind, .string t.name, .string t.text, .slice aa l.length ac, .bool t.self, .int .i64 t.p0, .int .i64 t.p1, .int .i64 t.p2] 28) = W1 := ⟨_, rfl⟩
      have hT1 : W1.heap[wr.heap.size]? = some (.cells #[.int .i64 t.kind, .string t.name, .string t.text, .slice aa l.length ac, .bool t.self, .int .i64 t.p0, .int .i64 t.p1, .int .i64 t.p2] 28 (0, 0)) := by rw [← hW1]; exact new_at _ _ _
      have b1 : Below wr.heap.size wr W1 := by rw [← hW1]; exact (Below.refl _ wr).alloc (Nat.le_refl _) _
      have hz1 : W1.heap.size = wr.heap.size + 1 := by rw [← hW1]; simp
      have hX2 := C.owns_below x2 b1
      have HX : Hid (xs.map Prod.snd = M ∧ ∀ x ∈ xs, Q x.1 x.2.2) := ⟨x1, x3⟩
      have HX2 : Hid (W1.ownsRow w.heap.size 28 8 (.slice va3 M.length vc3) M.length (xs.flatMap fun x => tvs x.2.1 x.1)) := hX2
      have HXN : Hid (∀ g, (Value.slice va3 M.length vc3).ownBlock = some g → w.heap.size ≤ g ∧ g < wr.heap.size) := x2.lt
      have HB1 : Hid (Below w.heap.size w W1) := hB.out.trans (b1.mono hzr)
      have HA : Hid (Q (.slice aa l.length ac) l) := hqa
      have u0 : W1.cell? ⟨wr.heap.size, 0, none⟩ = some (.int .i64 t.kind) := cell_at hT1
      have u1 : W1.cell? ⟨wr.heap.size, 1, none⟩ = some (.string t.name) := cell_at hT1
      have u2 : W1.cell? ⟨wr.heap.size, 2, none⟩ = some (.string t.text) := cell_at hT1
      have u3 : W1.cell? ⟨wr.heap.size, 3, none⟩ = some (.slice aa l.length ac) := cell_at hT1
      have u4 : W1.cell? ⟨wr.heap.size, 4, none⟩ = some (.bool t.self) := cell_at hT1
      have u5 : W1.cell? ⟨wr.heap.size, 5, none⟩ = some (.int .i64 t.p0) := cell_at hT1
      have u6 : W1.cell? ⟨wr.heap.size, 6, none⟩ = some (.int .i64 t.p1) := cell_at hT1
      have u7 : W1.cell? ⟨wr.heap.size, 7, none⟩ = some (.int .i64 t.p2) := cell_at hT1
      have HM : Hid (refM (L.take (k + 1)) = stepM M (t, l)) := hM
      have HZN : Hid (∀ x ∈ stepM M (t, l), x.1.text.size ≤ bulkL (L.take (k + 1))) := by
        intro x hx
        have hz : ∀ y ∈ M, y.1.text.size ≤ bulkL (L.take k) := hZ.out
        unfold stepM at hx
        split at hx
        · rcases List.mem_append.1 hx with h | h
          · have := hz x h; omega
          · simp at h; subst h; simp only; omega
        · split at hx
          · have := hz x hx; omega
          · split at hx
            · rename_i y hy
              have hyM : y ∈ M := List.mem_of_getLast? hy
              split at hx
              · rcases List.mem_append.1 hx with h | h
                · have := hz x ((List.dropLast_sublist M).subset h); omega
                · simp at h; subst h
                  have := hz y hyM
                  simp only [addText, ByteArray.size_append]; omega
              · rcases List.mem_append.1 hx with h | h
                · have := hz x h; omega
                · simp at h; subst h; simp only; omega
            · rcases List.mem_append.1 hx with h | h
              · have := hz x h; omega
              · simp at h; subst h; simp only; omega
      have HZM : Hid (∀ x ∈ M, x.1.text.size ≤ bulkL (L.take k)) := hZ
      clear d0 d1 d2 d3 d4 d5 d6 d7 hA hqa x1 x2 x3 hO hX2 hT1 b1 hM hZ
      by_cases hk0 : t.kind = 0
      · by_cases hte : t.text.data.toList = []
        · have q0 : (t.kind != 0) = false := by rw [hk0]; rfl
          have q1 : (t.kind == 0) = true := by rw [hk0]; rfl
          have q2 : t.text.toList.isEmpty = true := by rw [Lib.toList_data, hte]; rfl
          have HE : Hid (stepM M (t, l) = M) := by show _ = _; unfold stepM; rw [if_neg (by simp [hk0]), if_pos hte]
          have HO1 : Hid (OwnR w.heap.size Q W1 (.slice va3 M.length vc3) (refM (L.take (k + 1)))) := by rw [HM.out, HE.out]; exact ⟨xs, HX.out.1, HX2.out, HX.out.2⟩
          have HZ1 : Hid (∀ x ∈ refM (L.take (k + 1)), x.1.text.size ≤ bulkL (L.take (k + 1))) := by rw [HM.out]; exact HZN.out
          clear hte hk0
          go_wp2
          all_goals first
            | exact ⟨⟨k + 1, by omega, by go_num, HO1, HB1, HZ1⟩, by simp [intOf]; omega⟩
            | (go_roundw
               case rel => exact ⟨k + 1, by omega, by go_num, HO1, HB1, HZ1⟩
               case measure => simp [intOf]; omega)
        · have q0 : (t.kind != 0) = false := by rw [hk0]; rfl
          have q1 : (t.kind == 0) = true := by rw [hk0]; rfl
          have q2 : t.text.toList.isEmpty = false := by rw [Lib.toList_data]; simpa using hte
          by_cases hM0 : M.length = 0
          · have hxs0 : xs = [] := by
              have := congrArg List.length HX.out.1
              rw [List.length_map, hM0] at this
              exact List.length_eq_zero_iff.1 this
            rw [hM0]
            have HE : Hid (stepM M (t, l) = M ++ [(t, l)]) := by
              show _ = _
              unfold stepM
              rw [if_neg (by simp [hk0]), if_neg hte, List.length_eq_zero_iff.1 hM0]; rfl
            rw [hM0] at HX2
            clear hte hk0
            have HZ1 : Hid (∀ x ∈ refM (L.take (k + 1)), x.1.text.size ≤ bulkL (L.take (k + 1))) := by rw [HM.out]; exact HZN.out
            go_wp2_with (at_builtin; refine wpList_append_own _ rfl _ _ 38 rfl w.heap.size 28 i0 (.agg #[.int .i64 0, .string ⟨#[]⟩, .string ⟨#[]⟩, .slice none 0 0, .bool false, .int .i64 0, .int .i64 0, .int .i64 0]) 8 96 Tryd.underlying38 HI.out.1 HI.out.2.1 HI.out.2.2.1 HI.out.2.2.2 rfl (by decide) _ _ _ rfl (HX2.out.alloc _) ⟨wr.heap.size + 1, 0, none⟩ 1 1 (tvs t (.slice aa l.length ac)) rfl rfl (cells_eight _ t _ _ _ hz1.symm) (tvs_one _ _ _ _) (by unfold maxLen; omega) (by omega) (by simp; omega) ?_; intro v6 w6 ho6 hg6 _; obtain ⟨a6, c6, rfl⟩ := C.owns_slice ho6)
            have HO6 : Hid (OwnR w.heap.size Q w6 (.slice a6 (0 + 1) c6) (refM (L.take (k + 1)))) := by
              rw [HM.out, HE.out]
              exact OwnR.snoc HX.out.1 HX.out.2 HA.out (by rw [hM0]; exact ho6)
            have HB6 : Hid (Below w.heap.size w w6) := (HB1.out.alloc (by omega) _).grown hg6 (by simp; omega) (fun k e => (HX2.out.lt k e).1)
            clear ho6 hg6
            all_goals first
              | exact ⟨⟨k + 1, by omega, by go_num, HO6, HB6, HZ1⟩, by simp [intOf]; omega⟩
              | (go_roundw
                 case rel => exact ⟨k + 1, by omega, by go_num, HO6, HB6, HZ1⟩
                 case measure => simp [intOf]; omega)
          · obtain ⟨m, hm⟩ : ∃ m, M.length = m + 1 := ⟨M.length - 1, by omega⟩
            obtain ⟨ys, y, hxy⟩ : ∃ ys y, xs = ys ++ [y] := by
              have hne : xs ≠ [] := fun e => by
                have := congrArg List.length HX.out.1
                rw [e, hm] at this; simp at this
              exact ⟨xs.dropLast, xs.getLast hne, (List.dropLast_concat_getLast hne).symm⟩
            have hyl : ys.length = m := by
              have := congrArg List.length HX.out.1
              rw [hxy, hm] at this
              simp at this; exact this
            have hMy : M = ys.map Prod.snd ++ [y.2] := by rw [← HX.out.1, hxy]; simp
            have hlast : M.getLast? = some y.2 := by rw [hMy]; simp
            have hX2' := HX2.out
            rw [hm] at hX2'
            obtain ⟨g, rfl⟩ : ∃ g, va3 = some ⟨g, 0, none⟩ := by
              rcases hX2'.2 with ⟨e, h0⟩ | ⟨g, cap, cur, e, _⟩
              · omega
              · simp at e; exact ⟨g, e.1⟩
            have hcell : ∀ j (hj : j < 8), W1.cell? ⟨g, m * 8 + j, none⟩ = (tvs y.2.1 y.1)[j]? := fun j hj => by
              rw [World.ownsRow.cellAt hX2' (m * 8 + j) (by omega), flat8 xs m j (by rw [hxy]; simp; omega) hj]
              simp [hxy, ← hyl]
            have w0 : W1.cell? ⟨g, m * 8, none⟩ = some (.int .i64 y.2.1.kind) := hcell 0 (by omega)
            have hgl := HXN.out g rfl
            rw [hm] at HX2 ⊢
            by_cases hyk : y.2.1.kind = 0
            · have q3 : (y.2.1.kind == 0) = true := by rw [hyk]; rfl
              have w2 : W1.cell? ⟨g, m * 8 + 2, none⟩ = some (.string y.2.1.text) := hcell 2 (by omega)
              have fz : W1.frozen? ⟨g, m * 8 + 2, none⟩ = false := World.ownsRow.frozenAt hX2' _
              have hyt : y.2.1.text.size ≤ bulkL (L.take k) := HZM.out y.2 (List.mem_of_getLast? hlast)
              have r1 : y.2.1.text.size + t.text.size ≤ 9223372036854775807 := by omega
              have hne1 : g ≠ wr.heap.size := by omega
              have hne2 : wr.heap.size ≠ g := by omega
              have HE : Hid (stepM M (t, l) = ys.map Prod.snd ++ [addText y.2 t.text]) := by
                show _ = _
                unfold stepM
                rw [if_neg (by simp [hk0]), if_neg hte, hlast]
                simp only [if_pos hyk]
                rw [hMy, List.dropLast_concat]
              have HO5 : Hid (OwnR w.heap.size Q (W1.setCell ⟨g, m * 8 + 2, none⟩ (.string (y.2.1.text ++ t.text))) (.slice (some ⟨g, 0, none⟩) (m + 1) vc3) (refM (L.take (k + 1)))) := by
                rw [HM.out, HE.out]
                refine ⟨ys ++ [(y.1, addText y.2 t.text)], by simp, ?_, fun x hx => ?_⟩
                · have h5 := (hX2'.stored (m * 8 + 2) (.string (y.2.1.text ++ t.text))).1
                  rw [hxy, ← hyl, flat_set] at h5
                  simpa [hyl, addText] using h5
                · rcases List.mem_append.1 hx with h | h
                  · exact HX.out.2 x (by rw [hxy]; simp [h])
                  · simp at h; subst h
                    exact HX.out.2 y (by rw [hxy]; simp)
              have HB5 : Hid (Below w.heap.size w (W1.setCell ⟨g, m * 8 + 2, none⟩ (.string (y.2.1.text ++ t.text)))) := HB1.out.setCell (p := ⟨g, m * 8 + 2, none⟩) hgl.1 _
              have HZ1 : Hid (∀ x ∈ refM (L.take (k + 1)), x.1.text.size ≤ bulkL (L.take (k + 1))) := by rw [HM.out]; exact HZN.out
              clear hte hk0 hyk hlast hcell hX2' hMy hxy
              generalize y.2.1 = yt at *
              go_wp2
              go_region
              all_goals go_wp2
              all_goals first
                | exact ⟨⟨k + 1, by omega, by go_num, HO5.out.drew, HB5.out.drew, HZ1⟩, by simp [intOf]; omega⟩
                | (go_roundw
                   case rel => exact ⟨k + 1, by omega, by go_num, HO5.out.drew, HB5.out.drew, HZ1⟩
                   case measure => simp [intOf]; omega)
                | trace_state
            · have HE : Hid (stepM M (t, l) = M ++ [(t, l)]) := by
                show _ = _
                unfold stepM
                rw [if_neg (by simp [hk0]), if_neg hte, hlast]
                simp only [if_neg hyk]
              have q3 : (y.2.1.kind == 0) = false := by simpa using hyk
              clear hte hk0 hyk hlast
              have HZ1 : Hid (∀ x ∈ refM (L.take (k + 1)), x.1.text.size ≤ bulkL (L.take (k + 1))) := by rw [HM.out]; exact HZN.out
              go_wp2_with (at_builtin; refine wpList_append_own _ rfl _ _ 38 rfl w.heap.size 28 i0 (.agg #[.int .i64 0, .string ⟨#[]⟩, .string ⟨#[]⟩, .slice none 0 0, .bool false, .int .i64 0, .int .i64 0, .int .i64 0]) 8 96 Tryd.underlying38 HI.out.1 HI.out.2.1 HI.out.2.2.1 HI.out.2.2.2 rfl (by decide) _ _ _ rfl (HX2.out.alloc _) ⟨wr.heap.size + 1, 0, none⟩ 1 1 (tvs t (.slice aa l.length ac)) rfl rfl (cells_eight _ t _ _ _ hz1.symm) (tvs_one _ _ _ _) (by unfold maxLen; omega) (by omega) (by simp; omega) ?_; intro v6 w6 ho6 hg6 _; obtain ⟨a6, c6, rfl⟩ := C.owns_slice ho6)
              have HO6 : Hid (OwnR w.heap.size Q w6 (.slice a6 ((m + 1) + 1) c6) (refM (L.take (k + 1)))) := by
                rw [HM.out, HE.out]
                exact OwnR.snoc HX.out.1 HX.out.2 HA.out (by rw [hm]; exact ho6)
              have HB6 : Hid (Below w.heap.size w w6) := (HB1.out.alloc (by omega) _).grown hg6 (by simp; omega) (fun k e => (HX2.out.lt k e).1)
              clear ho6 hg6
              all_goals first
                | exact ⟨⟨k + 1, by omega, by go_num, HO6, HB6, HZ1⟩, by simp [intOf]; omega⟩
                | (go_roundw
                   case rel => exact ⟨k + 1, by omega, by go_num, HO6, HB6, HZ1⟩
                   case measure => simp [intOf]; omega)
      · have q0 : (t.kind != 0) = true := by simpa using hk0
        have q1 : (t.kind == 0) = false := by simpa using hk0
        have HE : Hid (stepM M (t, l) = M ++ [(t, l)]) := by show _ = _; unfold stepM; rw [if_pos hk0]
        clear hk0
        have HZ1 : Hid (∀ x ∈ refM (L.take (k + 1)), x.1.text.size ≤ bulkL (L.take (k + 1))) := by rw [HM.out]; exact HZN.out
        go_wp2_with (at_builtin; refine wpList_append_own _ rfl _ _ 38 rfl w.heap.size 28 i0 (.agg #[.int .i64 0, .string ⟨#[]⟩, .string ⟨#[]⟩, .slice none 0 0, .bool false, .int .i64 0, .int .i64 0, .int .i64 0]) 8 96 Tryd.underlying38 HI.out.1 HI.out.2.1 HI.out.2.2.1 HI.out.2.2.2 rfl (by decide) _ _ _ rfl (HX2.out.alloc _) ⟨wr.heap.size + 1, 0, none⟩ 1 1 (tvs t (.slice aa l.length ac)) rfl rfl (cells_eight _ t _ _ _ hz1.symm) (tvs_one _ _ _ _) (by unfold maxLen; omega) (by omega) (by simp; omega) ?_; intro v6 w6 ho6 hg6 _; obtain ⟨a6, c6, rfl⟩ := C.owns_slice ho6)
        have HO6 : Hid (OwnR w.heap.size Q w6 (.slice a6 (M.length + 1) c6) (refM (L.take (k + 1)))) := by
          rw [HM.out, HE.out]
          exact OwnR.snoc HX.out.1 HX.out.2 HA.out ho6
        have HB6 : Hid (Below w.heap.size w w6) := (HB1.out.alloc (by omega) _).grown hg6 (by simp; omega) (fun k e => (HX2.out.lt k e).1)
        clear ho6 hg6
        all_goals first
          | exact ⟨⟨k + 1, by omega, by go_num, HO6, HB6, HZ1⟩, by simp [intOf]; omega⟩
          | (go_roundw
             case rel => exact ⟨k + 1, by omega, by go_num, HO6, HB6, HZ1⟩
             case measure => simp [intOf]; omega)
    · obtain rfl : k = L.length := by omega
      rw [List.take_length] at hO
      go_wp2
      go_ret
      exact ⟨_, rfl, hO.out, hB.out⟩
end Go.Proofs.YtelfejbhlolppaaDoor.T
