/- What is proved here: the contract of Parse of sieveref07. -/
import Derived.Test.YtelfejbhlolppaaDoorTRRead
import Derived.Test.YtelfejbhlolppaaDoorTLines
namespace Go.Proofs.YtelfejbhlolppaaDoor.T
open Go.RowKit N

theorem lines_cell {base : Nat} {w : World} {a : Option Addr} {n cap : Nat} {L : List (List UInt8)} (h : N.OwnT base w (.slice a n cap) L) (k : Nat) (hk : k < L.length) : ∃ b, a = some ⟨b, 0, none⟩ ∧ n = L.length ∧ L.length ≤ cap ∧ w.cell? ⟨b, k, none⟩ = some (.string ⟨L[k].toArray⟩) := by
  have h' := h
  rcases h.2 with ⟨e, e0⟩ | ⟨g, cap', cur, e, _, hg, hc, _⟩
  · simp at e; omega
  · simp only [Value.slice.injEq] at e
    obtain ⟨rfl, rfl, rfl⟩ := e
    refine ⟨g, rfl, rfl, hc, ?_⟩
    rw [World.ownsRow.cellAt h' k (by omega)]
    simp [svs, hk]
theorem len_le_sum : ∀ (M : List (List UInt8)) (x : List UInt8), x ∈ M → x.length ≤ (M.map List.length).sum := by
  intro M x h
  induction M with
  | nil => cases h
  | cons y r ih =>
    simp only [List.map_cons, List.sum_cons]
    rcases List.mem_cons.1 h with rfl | h
    · omega
    · have := ih h; omega
theorem parseL_step (n : Nat) (L : TL) (M : List (List UInt8)) (k : Nat) (hk : k < M.length) : parseL n L (M.drop k) = match readP M[k] with
    | none => (none, n)
    | some t => parseL (n + 1) (L ++ [t]) (M.drop (k + 1)) := by
  rw [List.drop_eq_getElem_cons hk]
  rfl
theorem OwnT.mono {a b : Nat} {w : World} {v : Value} {L : TL} (h : OwnT a w v L) (hab : b ≤ a) : OwnT b w v L := by
  obtain ⟨xs, h1, h2, h3⟩ := h
  exact ⟨xs, h1, C.owns_mono h2 hab, fun x hx => C.owns_mono (h3 x hx) hab⟩
def RParse (s : ByteArray) (w : World) (e : Ending) (w' : World) : Prop :=
  (∃ L v, parseL 1 [] (linesOf s.data.toList) = (some L, 0) ∧ e = .returned (.tuple #[v, .int .i64 0]) ∧ OwnT w.heap.size w' v L ∧ Below w.heap.size w w') ∨ (∃ n : Nat, 1 ≤ n ∧ n ≤ s.size + 1 ∧ parseL 1 [] (linesOf s.data.toList) = (none, n) ∧ e = .returned (.tuple #[.slice none 0 0, .int .i64 n]) ∧ Below w.heap.size w w')

set_option maxRecDepth 100000 in
set_option maxHeartbeats 4000000 in
/-- **Parse of the document.** -/
theorem rparse_calls (s : ByteArray) (w : World) (hs : s.size ≤ 1048576) :
    Calls Tryd.prog 24 #[.string s] w fun e w' => RParse s w e w' := by
  obtain ⟨i0, hi, hz0, hz1, hz2⟩ := info_parts infoTok
  have HI : Hid (Tryd.prog.info? 28 = some i0 ∧ i0.zero = some (.agg #[.int .i64 0, .string ⟨#[]⟩, .string ⟨#[]⟩, .slice none 0 0, .bool false, .int .i64 0, .int .i64 0, .int .i64 0]) ∧ i0.size = 8 ∧ i0.bytes = 96) := ⟨hi, hz0, hz1, hz2⟩
  clear hi hz0 hz1 hz2
  obtain ⟨M, hM⟩ : ∃ M, linesOf s.data.toList = M := ⟨_, rfl⟩
  have HM : Hid (linesOf s.data.toList = M) := hM
  have hml : M.length ≤ s.size := by rw [← hM, ← size_data]; exact (linesF_sum _ _).2
  have HMS : Hid (∀ x ∈ M, x.length ≤ 1048576) := fun x hx => by
    have h1 := (linesF_sum (s.data.toList.length + 1) s.data.toList).1
    have h2 : (M.map List.length).sum ≤ s.data.toList.length := by rw [← hM]; exact h1
    have h3 : x.length ≤ (M.map List.length).sum := len_le_sum M x hx
    rw [size_data] at h2
    omega
  clear hM
  go_enter Tryd.func24, Tryd.ntmps24
  go_wp2_with fail
  refine (rlines_calls s w hs).mono ?_
  rintro e w1 ⟨lv, rfl, hO1, hb1⟩
  rw [HM.out] at hO1
  obtain ⟨la, lc, rfl⟩ := C.owns_slice hO1
  have HO1 : Hid (N.OwnT w.heap.size w1 (.slice la M.length lc) M) := hO1
  have HB1 : Hid (Below w.heap.size w w1) := hb1
  clear hO1 hb1
  obtain ⟨R, hR⟩ : ∃ R, parseL 1 [] M = R := ⟨_, rfl⟩
  have HR : Hid (parseL 1 [] M = R) := hR
  have HRP : Hid (∀ e w', ((∃ L v, R = (some L, 0) ∧ e = .returned (.tuple #[v, .int .i64 0]) ∧ OwnT w.heap.size w' v L ∧ Below w.heap.size w w') ∨ (∃ n : Nat, 1 ≤ n ∧ n ≤ s.size + 1 ∧ R = (none, n) ∧ e = .returned (.tuple #[.slice none 0 0, .int .i64 n]) ∧ Below w.heap.size w w')) → RParse s w e w') := fun e w' h => by
    unfold RParse; rw [HM.out, hR]; exact h
  clear hR
  go_wp2_with fail
  go_loopw [4, 5, 6, 7, 8, 12] (fun v4 _ _ _ _ v12 wr => ∃ (k : Nat) (L : TL), v12 = .int .i64 k ∧ k ≤ M.length ∧ Hid (L.length = k) ∧ Hid (parseL (k + 1) L (M.drop k) = R) ∧ Hid (OwnT w1.heap.size wr v4 L) ∧ Hid (Below w1.heap.size w1 wr)) (fun _ _ _ _ _ v12 _ => M.length - (intOf v12).toNat)
  case atStart => exact ⟨0, [], rfl, by omega, rfl, HR, OwnT.nil _ _, Below.refl _ _⟩
  case round =>
    obtain ⟨k, L, rfl, hk, hLk, hE, hO, hB⟩ := hrel
    obtain ⟨va3, vc3, rfl⟩ := hO.out.slice
    by_cases hlt : k < M.length
    · obtain ⟨b, rfl, _, hcap, hcell⟩ := lines_cell (C.owns_below HO1.out hB.out) k hlt
      obtain ⟨X, hX⟩ : ∃ X : ByteArray, (⟨M[k].toArray⟩ : ByteArray) = X := ⟨_, rfl⟩
      rw [hX] at hcell
      have hXd : X.data.toList = M[k] := by rw [← hX]
      have hXz : X.size ≤ 1048576 := by rw [← size_data, hXd]; exact HMS.out _ (List.getElem_mem hlt)
      have RC : Hid (∀ W, Calls Tryd.prog 42 #[.string X] W fun e w' => RPost X W e w') := fun W => rread_calls X W hXz
      have HE2 := hE.out
      rw [parseL_step _ _ _ _ hlt, ← hXd] at HE2
      have HE3 : Hid ((match readP X.data.toList with | none => (none, k + 1) | some t => parseL (k + 1 + 1) (L ++ [t]) (M.drop (k + 1))) = R) := HE2
      clear hX hXd HE2
      go_wp2_with fail
      refine (RC.out wr).mono ?_
      rintro e w3 ⟨t, l, v, bb, rfl, ho3, hb3, hf⟩
      obtain ⟨aa, ac, rfl⟩ := C.owns_slice ho3
      have s2 := hB.out.size
      have s3 := hb3.size
      have s0 := HB1.out.size
      unfold T.Tok.val
      cases bb with
      | false =>
        have HN : Hid (R = (none, k + 1)) := by show _ = _; rw [← HE3.out, hf.2 rfl]
        have HB3 : Hid (Below w.heap.size w w3) := HB1.out.trans ((hB.out.trans (hb3.mono s2)).mono s0)
        clear hf ho3 hb3
        go_wp2
        all_goals go_ret2
        all_goals exact HRP.out _ _ (.inr ⟨k + 1, by omega, by omega, HN.out, by go_num, HB3.out.alloc (by have := HB3.out.size; omega) _⟩)
      | true =>
        have HE4 : Hid (parseL (k + 1 + 1) (L ++ [(t, l)]) (M.drop (k + 1)) = R) := by show _ = _; rw [← HE3.out, hf.1 rfl]
        obtain ⟨W4, hW4⟩ : ∃ W4, w3.alloc (.cells #[.int .i64 t.kind, .string t.name, .string t.text, .slice aa l.length ac, .bool t.self, .int .i64 t.p0, .int .i64 t.p1, .int .i64 t.p2] 28) = W4 := ⟨_, rfl⟩
        have hz4 : W4.heap.size = w3.heap.size + 1 := by rw [← hW4]; simp
        have HB4 : Hid (Below w1.heap.size w1 W4) := by rw [← hW4]; exact (hB.out.trans (hb3.mono s2)).alloc (by omega) _
        have HO4 : Hid (OwnT w1.heap.size W4 (.slice va3 L.length vc3) L) := by rw [← hW4]; exact (hO.out.below hb3).below ((Below.refl _ w3).alloc (Nat.le_refl _) _)
        have HA4 : Hid (OwnA w1.heap.size W4 (.slice aa l.length ac) l) := by rw [← hW4]; exact World.ownsRow.alloc (C.owns_mono ho3 s2) _
        have HW4 : Hid (w3.alloc (.cells #[.int .i64 t.kind, .string t.name, .string t.text, .slice aa l.length ac, .bool t.self, .int .i64 t.p0, .int .i64 t.p1, .int .i64 t.p2] 28) = W4) := hW4
        obtain ⟨xs, x1, x2, x3⟩ := HO4.out
        have HX : Hid (xs.map Prod.snd = L ∧ ∀ x ∈ xs, OwnA w1.heap.size W4 x.1 x.2.2) := ⟨x1, x3⟩
        have HX4 : Hid (W4.ownsRow w1.heap.size 28 8 (.slice va3 L.length vc3) L.length (xs.flatMap fun x => tvs x.2.1 x.1)) := x2
        have HX2 : Hid ((w3.alloc (.cells #[.int .i64 t.kind, .string t.name, .string t.text, .slice aa l.length ac, .bool t.self, .int .i64 t.p0, .int .i64 t.p1, .int .i64 t.p2] 28)).ownsRow w1.heap.size 28 8 (.slice va3 L.length vc3) L.length (xs.flatMap fun x => tvs x.2.1 x.1)) := by rw [hW4]; exact x2
        have hLk2 : L.length ≤ M.length := by have := hLk.out; omega
        clear hW4 x1 x2 x3 ho3 hb3 hz4 hf HE3
        go_wp2_with (at_builtin; refine wpList_append_own _ rfl _ _ 38 rfl w1.heap.size 28 i0 (.agg #[.int .i64 0, .string ⟨#[]⟩, .string ⟨#[]⟩, .slice none 0 0, .bool false, .int .i64 0, .int .i64 0, .int .i64 0]) 8 96 Tryd.underlying38 HI.out.1 HI.out.2.1 HI.out.2.2.1 HI.out.2.2.2 rfl (by decide) _ _ _ rfl (World.ownsRow.alloc HX2.out _) ⟨w3.heap.size + 1, 0, none⟩ 1 1 (tvs t (.slice aa l.length ac)) rfl rfl (cells_eight _ t _ _ _ (by simp)) (tvs_one _ _ _ _) (by unfold maxLen; omega) (by omega) (by simp; omega) ?_; intro v6 w6 ho6 hg6 _; obtain ⟨a6, c6, rfl⟩ := C.owns_slice ho6)
        rw [HW4.out] at hg6
        have HO6 : Hid (OwnT w1.heap.size w6 (.slice a6 (L.length + 1) c6) (L ++ [(t, l)])) := OwnT.snoc HX.out.1 HX4.out HX.out.2 HA4.out ho6 hg6
        have HB6 : Hid (Below w1.heap.size w1 w6) := (HB4.out.alloc HB4.out.size _).grown hg6 (by simp; have := HB4.out.size; omega) (fun k e => (HX4.out.lt k e).1)
        have HL6 : Hid ((L ++ [(t, l)]).length = k + 1) := by show _ = _; have := hLk.out; simp; omega
        clear ho6 hg6
        all_goals first
          | exact ⟨⟨k + 1, L ++ [(t, l)], by go_num, by omega, HL6, HE4, HO6, HB6⟩, by simp [intOf]; omega⟩
          | (go_roundw
             case rel => exact ⟨k + 1, L ++ [(t, l)], by go_num, by omega, HL6, HE4, HO6, HB6⟩
             case measure => simp [intOf]; omega)
          | trace_state
    · have HN : Hid (R = (some L, 0)) := by show _ = _; rw [← hE.out, List.drop_eq_nil_of_le (by omega)]; rfl
      go_wp2
      all_goals go_ret2
      all_goals exact HRP.out _ _ (.inl ⟨L, _, HN.out, rfl, hO.out.mono HB1.out.size, HB1.out.trans (hB.out.mono HB1.out.size)⟩)
end Go.Proofs.YtelfejbhlolppaaDoor.T
