/- What is proved here: the contract of token of token's reader. -/
import Derived.Test.YtelfejbhlolppaaDoorTKind
import Derived.Test.YtelfejbhlolppaaDoorTCheck2
import Derived.Test.YtelfejbhlolppaaDoorTOwnT
namespace Go.Proofs.YtelfejbhlolppaaDoor.T
open Go.RowKit N

/-- What stands behind a blank, between marks. -/
def qd (s : List UInt8) : Option (List UInt8 × List UInt8) := if s.head? = some 32 then unqd s.tail else none
def bodyP (k : Nat) (s : List UInt8) : Option (T.Tok × AL × List UInt8) :=
  if k = 0 ∨ k = 3 then (match qd s with | none => none | some (a, r) => some (⟨k, ⟨#[]⟩, ⟨a.toArray⟩, false, 0, 0, 0⟩, [], r))
  else if k = 1 then (match qd s with | none => none | some (a, r) => match attrsP (r.length + 1) [] r with | none => none | some (l, b, r2) => some (⟨1, ⟨a.toArray⟩, ⟨#[]⟩, b, 0, 0, 0⟩, l, r2))
  else if k = 2 then (match qd s with | none => none | some (a, r) => some (⟨2, ⟨a.toArray⟩, ⟨#[]⟩, false, 0, 0, 0⟩, [], r))
  else some (⟨4, ⟨#[]⟩, ⟨#[]⟩, false, 0, 0, 0⟩, [], s)
/-- The token of a line. -/
def readP (s : List UInt8) : Option (T.Tok × AL) := match kindP (firstW s) with
  | none => none
  | some k => match bodyP k (s.drop (firstW s).length) with
    | none => none
    | some (t, l, r) => if r = [] ∧ checkB t l = true then some (t, l) else none

theorem attrsP_len : ∀ (n : Nat) (l : AL) (s : List UInt8) (l' : AL) (b : Bool) (r : List UInt8), attrsP n l s = some (l', b, r) → l'.length + sumA l' ≤ l.length + sumA l + s.length := by
  intro n
  induction n with
  | zero => intro l s l' b r h; simp [attrsP] at h
  | succ n ih =>
    intro l s l' b r h
    by_cases hs : s.head? = some 32
    · obtain ⟨y, rfl⟩ : ∃ y, s = 32 :: y := by
        cases s with
        | nil => simp at hs
        | cons c y => simp at hs; exact ⟨y, by rw [hs]⟩
      by_cases hy : y.head? = some 47
      · obtain ⟨z, rfl⟩ : ∃ z, y = 47 :: z := by
          cases y with
          | nil => simp at hy
          | cons c z => simp at hy; exact ⟨z, by rw [hy]⟩
        rw [attrsP_self] at h
        simp at h
        rw [h.1]; omega
      · rw [attrsP_attr _ _ _ hy] at h
        cases hq : unqd y with
        | none => rw [hq] at h; cases h
        | some ar =>
          obtain ⟨a, r1⟩ := ar
          rw [hq] at h
          simp only at h
          have h1 := unqd_len hq
          split at h
          · rename_i h61
            cases hq2 : unqd r1.tail with
            | none => rw [hq2] at h; cases h
            | some br =>
              obtain ⟨c, r2⟩ := br
              rw [hq2] at h
              simp only at h
              have h2 := unqd_len hq2
              have h3 := ih _ _ _ _ _ h
              have h4 : r1.tail.length + 1 = r1.length := by
                cases r1 with
                | nil => simp at h61
                | cons c r => simp
              have h5 : sumA (l ++ [((⟨a.toArray⟩ : ByteArray), (⟨c.toArray⟩ : ByteArray))]) = sumA l + (a.length + c.length) := by
                unfold sumA
                rw [List.map_append, List.sum_append]
                simp only [List.map_cons, List.map_nil, List.sum_cons, List.sum_nil]
                rw [← size_data, ← size_data]
                rfl
              rw [h5] at h3
              simp only [List.length_append, List.length_cons, List.length_nil] at h3 ⊢
              omega
          · cases h
    · rw [attrsP_end _ _ _ hs] at h
      simp at h
      rw [← h.1]; omega
theorem lt_of_at {w : World} {k : Nat} {o : Obj} (h : w.heap[k]? = some o) : k < w.heap.size := by
  rw [Array.getElem?_eq_some_iff] at h; exact h.1
/-- A block is as it was. -/
def KeepR (_g b : Nat) (A W : World) : Prop := W.heap[b]? = A.heap[b]?
theorem keep_put8 {g A : Nat} {w W : World} (h : KeepP (fun k => k = g) w W) (hA : w.heap.size ≤ A) (v0 v1 v2 v3 v4 v5 v6 v7 : Value) :
    KeepP (fun k => k = g) w ((((((((W.setCell ⟨A, 0, none⟩ v0).setCell ⟨A, 1, none⟩ v1).setCell ⟨A, 2, none⟩ v2).setCell ⟨A, 3, none⟩ v3).setCell ⟨A, 4, none⟩ v4).setCell ⟨A, 5, none⟩ v5).setCell ⟨A, 6, none⟩ v6).setCell ⟨A, 7, none⟩ v7) := by
  have go : ∀ (X : World) (j : Nat) (u : Value), KeepP (fun k => k = g) w X → KeepP (fun k => k = g) w (X.setCell ⟨A, j, none⟩ u) := fun X j u h => h.gt (grown_set _ _ _ _) (fun j e => by cases e; exact hA)
  exact go _ _ _ (go _ _ _ (go _ _ _ (go _ _ _ (go _ _ _ (go _ _ _ (go _ _ _ (go _ _ _ h)))))))
theorem results_token {tmps : Array Value} {W : World} {A : Nat} {v0 v1 v2 v3 v4 v5 v6 v7 : Value} {fz : Nat × Nat} (h2 : tmps[2]?.getD undef = .pointer (some ⟨A, 0, none⟩)) (h : W.heap[A]? = some (.cells #[v0, v1, v2, v3, v4, v5, v6, v7] 28 fz)) :
    (results Tryd.f55 tmps).run Tryd.prog W = .ok (.agg #[v0, v1, v2, v3, v4, v5, v6, v7]) W := by
  have c0 : W.cell? ⟨A, 0, none⟩ = some v0 := cell_at h
  have c1 : W.cell? ⟨A, 1, none⟩ = some v1 := cell_at h
  have c2 : W.cell? ⟨A, 2, none⟩ = some v2 := cell_at h
  have c3 : W.cell? ⟨A, 3, none⟩ = some v3 := cell_at h
  have c4 : W.cell? ⟨A, 4, none⟩ = some v4 := cell_at h
  have c5 : W.cell? ⟨A, 5, none⟩ = some v5 := cell_at h
  have c6 : W.cell? ⟨A, 6, none⟩ = some v6 := cell_at h
  have c7 : W.cell? ⟨A, 7, none⟩ = some v7 := cell_at h
  simp [results, Tryd.results55, go_sem, h2, c0, c1, c2, c3, c4, c5, c6, c7]

set_option maxRecDepth 100000 in
set_option maxHeartbeats 8000000 in
/-- **token.** -/
theorem token_calls (g : Nat) (s : List UInt8) (w : World) (hW : Words w) (hm : MaxOk w) (hg : g < w.heap.size) (hl : s.length ≤ 100000000) (h10 : (10 : UInt8) ∉ s) (hc : w.cell? ⟨g, 0, none⟩ = some (.string ⟨s.toArray⟩)) (hf : w.frozen? ⟨g, 0, none⟩ = false) :
    Calls Tryd.prog 55 #[.pointer (some ⟨g, 0, none⟩)] w fun e w' => (∃ t l v, readP s = some (t, l) ∧ e = .returned (t.val v) ∧ OwnA w.heap.size w' v l ∧ KeepP (fun k => k = g) w w') ∨ (readP s = none ∧ e = Ending.panicked [{ v := Value.iface 29 (Value.int IntKind.i64 70), recovered := false }] ∧ KeepP (fun k => k = g) w w') := by
  obtain ⟨W1, hW1⟩ : ∃ W1, w.alloc (.cells #[.int .i64 0, .string ⟨#[]⟩, .string ⟨#[]⟩, .slice none 0 0, .bool false, .int .i64 0, .int .i64 0, .int .i64 0] 28) = W1 := ⟨_, rfl⟩
  have hg1 : w.grownBy W1 none := by rw [← hW1]; exact World.grownBy_alloc _ _ _
  have b1 : Below w.heap.size w W1 := by rw [← hW1]; exact (Below.refl _ w).alloc (Nat.le_refl _) _
  have HF1 : Hid (Fr g w W1 s) := Fr.gt (g := g) (w := w) (A := w) ⟨hc, hf, KeepP.refl _ _⟩ hg hg1 (fun _ e => by cases e)
  have hR1 : W1.heap[w.heap.size]? = some (.cells #[.int .i64 0, .string ⟨#[]⟩, .string ⟨#[]⟩, .slice none 0 0, .bool false, .int .i64 0, .int .i64 0, .int .i64 0] 28 (0, 0)) := by rw [← hW1]; exact new_at _ _ _
  have s1 : w.heap.size < W1.heap.size := lt_of_at hR1
  have KC := kind_calls g s W1 (hW.below b1) (hm.below b1) (by omega) hl HF1.out.cell HF1.out.fz
  have HRES0 : Hid (W1.heap[w.heap.size]? = some (.cells #[.int .i64 0, .string ⟨#[]⟩, .string ⟨#[]⟩, .slice none 0 0, .bool false, .int .i64 0, .int .i64 0, .int .i64 0] 28 (0, 0))) := hR1
  clear hg1 b1 hc hf hR1
  go_enter Tryd.func55, Tryd.ntmps55
  cases hk : kindP (firstW s) with
  | none =>
    have HK : Hid (Calls Tryd.prog 64 #[.pointer (some ⟨g, 0, none⟩)] W1 fun e w' => e = Ending.panicked [{ v := Value.iface 29 (Value.int IntKind.i64 70), recovered := false }] ∧ KeepP (fun k => k = g) W1 w') := KC.mono fun e w' h => by
      rcases h with ⟨k, h1, _⟩ | ⟨_, h2⟩
      · rw [hk] at h1; cases h1
      · exact h2
    have HN : Hid (readP s = none) := by show _ = _; unfold readP; rw [hk]
    clear KC hk
    go_wp2_with fail
    refine HK.out.mono ?_
    rintro e w2 ⟨rfl, hk2⟩
    go_wp2
    all_goals exact ⟨rfl, .inr ⟨HN.out, rfl, HF1.out.keep.trans hk2⟩⟩
  | some k =>
    have HK : Hid (Calls Tryd.prog 64 #[.pointer (some ⟨g, 0, none⟩)] W1 fun e w' => e = .returned (.int .i64 k) ∧ Fr g W1 w' (s.drop (firstW s).length)) := KC.mono fun e w' h => by
      rcases h with ⟨k', h1, h2, h3⟩ | ⟨h1, _⟩
      · rw [hk] at h1; cases h1; exact ⟨h2, h3⟩
      · rw [hk] at h1; cases h1
    have HRD : Hid (readP s = match bodyP k (s.drop (firstW s).length) with | none => none | some (t, l, r) => if r = [] ∧ checkB t l = true then some (t, l) else none) := by show _ = _; unfold readP; rw [hk]
    have hk5 : k < 5 := by
      unfold kindP at hk
      have := List.mem_of_find?_eq_some hk
      simpa using this
    clear KC hk
    have hdl : (s.drop (firstW s).length).length ≤ 100000000 := by rw [List.length_drop]; omega
    have HD10 : Hid ((10 : UInt8) ∉ s.drop (firstW s).length) := fun h => h10 ((List.drop_sublist _ _).subset h)
    generalize s.drop (firstW s).length = d at HK HRD hdl HD10
    clear h10
    have hgW : g < W1.heap.size := by omega
    obtain rfl | rfl | rfl | rfl | rfl : k = 0 ∨ k = 1 ∨ k = 2 ∨ k = 3 ∨ k = 4 := by omega
    · have HKK : Hid (Calls Tryd.prog 64 #[.pointer (some ⟨g, 0, none⟩)] W1 fun e w' => e = .returned (.int .i64 0) ∧ Fr g W1 w' d) := HK
      clear HK hk5
      go_wp2_with fail
      refine HKK.out.mono ?_
      rintro e W2 ⟨rfl, hF2⟩
      have s2 := hF2.keep.size
      go_wp2_with fail
      obtain ⟨W3, hW3⟩ : ∃ W3, W2.alloc (.cells #[.int .i64 0, .string ⟨#[]⟩, .string ⟨#[]⟩, .slice none 0 0, .bool false, .int .i64 0, .int .i64 0, .int .i64 0] 28) = W3 := ⟨_, rfl⟩
      rw [hW3]
      have HW3 : Hid (W2.alloc (.cells #[.int .i64 0, .string ⟨#[]⟩, .string ⟨#[]⟩, .slice none 0 0, .bool false, .int .i64 0, .int .i64 0, .int .i64 0] 28) = W3) := hW3
      have hT3 : W3.heap[W2.heap.size]? = some (.cells #[.int .i64 0, .string ⟨#[]⟩, .string ⟨#[]⟩, .slice none 0 0, .bool false, .int .i64 0, .int .i64 0, .int .i64 0] 28 (0, 0)) := by rw [← hW3]; exact new_at _ _ _
      have HF3 : Hid (Fr g W1 W3 d) := by rw [← hW3]; exact hF2.gt hgW (row := none) (World.grownBy_alloc _ _ _) (fun _ e => by cases e)
      clear hW3
      have k0 : W3.cell? ⟨W2.heap.size, 0, none⟩ = some (.int .i64 0) := cell_at hT3
      have f3 : ∀ i, W3.frozen? ⟨W2.heap.size, i, none⟩ = false := fun i => frozen_at hT3
      clear hF2
      have HQD : Hid (qd d = if d.head? = some 32 then unqd d.tail else none) := rfl
      by_cases hd : d.head? = some 32
      · obtain ⟨x, rfl⟩ : ∃ x, d = 32 :: x := by
          cases d with
          | nil => simp at hd
          | cons c x => simp at hd; exact ⟨x, by rw [hd]⟩
        simp only [List.length_cons] at hdl
        have HNx : Hid ((10 : UInt8) ∉ x) := fun h => HD10.out (List.mem_cons_of_mem _ h)
        have T1 : Hid (Calls Tryd.prog 65 #[.pointer (some ⟨g, 0, none⟩), .string ⟨#[32]⟩] W3 fun e w' => e = .returned (.tuple #[]) ∧ W3.setCell ⟨g, 0, none⟩ (.string ⟨x.toArray⟩) = w') := (want_yes g 32 x W3 (by omega) HF3.out.cell HF3.out.fz).mono fun e w' h => ⟨h.1, h.2.symm⟩
        obtain ⟨W4, hW4⟩ : ∃ W4, W3.setCell ⟨g, 0, none⟩ (.string ⟨x.toArray⟩) = W4 := ⟨_, rfl⟩
        have HF4 : Hid (Fr g W1 W4 x) := by rw [← hW4]; exact HF3.out.set x
        have hT4 : W4.heap[W2.heap.size]? = some (.cells #[.int .i64 0, .string ⟨#[]⟩, .string ⟨#[]⟩, .slice none 0 0, .bool false, .int .i64 0, .int .i64 0, .int .i64 0] 28 (0, 0)) := by rw [← hW4]; exact (Below.heap_setCell _ _ _ _ (fun e => by have : W2.heap.size = g := e; omega)).trans hT3
        rw [hW4] at T1
        have s4 : W2.heap.size < W4.heap.size := lt_of_at hT4
        have QC := quoted_calls g x W4 (by omega) (by omega) HNx.out HF4.out.cell HF4.out.fz
        clear hW4 hd hT3
        cases hq : unqd x with
        | none =>
          have HQ : Hid (Calls Tryd.prog 66 #[.pointer (some ⟨g, 0, none⟩)] W4 fun e w' => e = Ending.panicked [{ v := Value.iface 29 (Value.int IntKind.i64 70), recovered := false }] ∧ KeepP (fun k => k = g) W4 w') := QC.mono fun e w' h => ⟨by rcases h.1 with ⟨a, r, h1, _⟩ | ⟨_, h2⟩; (rw [hq] at h1; cases h1); exact h2, h.2⟩
          have HN : Hid (readP s = none) := by show _ = _; rw [HRD.out]; simp [bodyP, HQD.out, hq]
          clear QC hq hT4
          refine T1.out.mono ?_
          rintro e w4 ⟨rfl, rfl⟩
          go_wp2_with fail
          refine HQ.out.mono ?_
          rintro e w5 ⟨rfl, hk5⟩
          go_wp2
          all_goals exact ⟨rfl, .inr ⟨HN.out, rfl, HF1.out.keep.trans (HF4.out.keep.trans hk5)⟩⟩
        | some ar =>
          obtain ⟨a, r⟩ := ar
          have hu := unqd_len hq
          have HQ : Hid (Calls Tryd.prog 66 #[.pointer (some ⟨g, 0, none⟩)] W4 fun e w' => e = .returned (.string ⟨a.toArray⟩) ∧ Fr g W4 w' r) := QC.mono fun e w' h => by
            rcases h.1 with ⟨a', r', h1, h2, h3, h4⟩ | ⟨h1, _⟩
            · rw [hq] at h1; cases h1; exact ⟨h2, h3, h4, h.2⟩
            · rw [hq] at h1; cases h1
          have HQR : Hid (qd (32 :: x) = some (a, r)) := by show _ = _; rw [HQD.out]; simp [hq]
          have HNr : Hid ((10 : UInt8) ∉ r) := fun h => HNx.out (hu.2.2 _ h)
          obtain ⟨A, hA⟩ : ∃ A : ByteArray, (⟨a.toArray⟩ : ByteArray) = A := ⟨_, rfl⟩
          have hAz : A.size = a.length := by rw [← hA]; simp [ByteArray.size]
          rw [hA] at HQ
          have HA : Hid ((⟨a.toArray⟩ : ByteArray) = A) := hA
          clear QC hq hA
          refine T1.out.mono ?_
          rintro e w4 ⟨rfl, rfl⟩
          go_wp2_with fail
          refine HQ.out.mono ?_
          rintro e w5 ⟨rfl, hF5⟩
          have hT5 : w5.heap[W2.heap.size]? = some (.cells #[.int .i64 0, .string ⟨#[]⟩, .string ⟨#[]⟩, .slice none 0 0, .bool false, .int .i64 0, .int .i64 0, .int .i64 0] 28 (0, 0)) := (hF5.keep.block _ s4 (by show ¬ _ = _; omega)).trans hT4
          have z2 : w5.cell? ⟨W2.heap.size, 2, none⟩ = some (.string ⟨#[]⟩) := cell_at hT5
          have f2 : w5.frozen? ⟨W2.heap.size, 2, none⟩ = false := frozen_at hT5
          have HF5 : Hid (Fr g W1 w5 r) := ⟨hF5.cell, hF5.fz, HF4.out.keep.trans hF5.keep⟩
          obtain ⟨W6, hW6⟩ : ∃ W6, w5.setCell ⟨W2.heap.size, 2, none⟩ (.string A) = W6 := ⟨_, rfl⟩
          have hT6 : W6.heap[W2.heap.size]? = some (.cells #[.int .i64 0, .string ⟨#[]⟩, .string A, .slice none 0 0, .bool false, .int .i64 0, .int .i64 0, .int .i64 0] 28 (0, 0)) := by rw [← hW6]; exact set_block hT5 2 _
          have HF6 : Hid (Fr g W1 W6 r) := by rw [← hW6]; exact HF5.out.gt hgW (grown_set _ _ _ _) (fun j e => by cases e; omega)
          clear hF5 hT5 hT4
          have HB : Hid (bodyP 0 (32 :: x) = some ((⟨0, ⟨#[]⟩, A, false, 0, 0, 0⟩ : T.Tok), [], r)) := by
            show _ = _
            simp [bodyP, HQR.out, HA.out]
          have HO6 : Hid (OwnA w.heap.size W6 (.slice none 0 0) []) := World.ownsRow_nil _ _ _ _
          have HZ : Hid (SizesA [] ∧ T.Tok.Sizes ⟨0, ⟨#[]⟩, A, false, 0, 0, 0⟩) := ⟨⟨by simp, fun x hx => by cases hx⟩, Nat.zero_le _, (by show A.size ≤ _; omega)⟩
          have y0 : W6.cell? ⟨W2.heap.size, 0, none⟩ = some (.int .i64 0) := cell_at hT6
          have y1 : W6.cell? ⟨W2.heap.size, 1, none⟩ = some (.string ⟨#[]⟩) := cell_at hT6
          have y2 : W6.cell? ⟨W2.heap.size, 2, none⟩ = some (.string A) := cell_at hT6
          have y3 : W6.cell? ⟨W2.heap.size, 3, none⟩ = some (.slice none 0 0) := cell_at hT6
          have y4 : W6.cell? ⟨W2.heap.size, 4, none⟩ = some (.bool false) := cell_at hT6
          have y5 : W6.cell? ⟨W2.heap.size, 5, none⟩ = some (.int .i64 0) := cell_at hT6
          have y6 : W6.cell? ⟨W2.heap.size, 6, none⟩ = some (.int .i64 0) := cell_at hT6
          have y7 : W6.cell? ⟨W2.heap.size, 7, none⟩ = some (.int .i64 0) := cell_at hT6
          have hrc := HF6.out.cell
          have sX := HF6.out.keep.size
          have s2X : W2.heap.size < W6.heap.size := lt_of_at hT6
          obtain ⟨RS, hRS⟩ : ∃ RS : ByteArray, (⟨r.toArray⟩ : ByteArray) = RS := ⟨_, rfl⟩
          have hRSd : RS.data.toList = r := by rw [← hRS]
          rw [hRS] at hrc
          by_cases hr : r = []
          · have q0 : RS.toList.isEmpty = true := by rw [Lib.toList_data, hRSd, hr]; rfl
            have CK : Hid (Calls Tryd.prog 10 #[.agg #[.int .i64 0, .string ⟨#[]⟩, .string A, .slice none 0 0, .bool false, .int .i64 0, .int .i64 0, .int .i64 0]] W6 fun e w' => e = .returned (.int .i64 (okZ (checkB (⟨0, ⟨#[]⟩, A, false, 0, 0, 0⟩ : T.Tok) []))) ∧ Below W6.heap.size W6 w') := check_calls (⟨0, ⟨#[]⟩, A, false, 0, 0, 0⟩ : T.Tok) [] (.slice none 0 0) W6 (OwnA.has HO6.out) HZ.out.1 HZ.out.2
            cases hck : checkB (⟨0, ⟨#[]⟩, A, false, 0, 0, 0⟩ : T.Tok) [] with
            | false =>
              have HN : Hid (readP s = none) := by show _ = _; rw [HRD.out, HB.out]; simp only; rw [if_neg (fun h => by rw [hck] at h; exact absurd h.2 (by decide))]
              rw [hck, show okZ false = 70 from rfl] at CK
              clear hck hr hRSd hRS hT6
              go_wp2_with fail
              refine CK.out.mono ?_
              rintro e w9 ⟨rfl, hb9⟩
              go_wp2_with (go_at_call 68; refine (giveUp_calls _).mono ?_; rintro e w10 ⟨rfl, h10⟩; obtain rfl := h10.symm)
              all_goals exact ⟨rfl, .inr ⟨HN.out, rfl, HF1.out.keep.trans (HF6.out.keep.then (hb9.mono sX))⟩⟩
            | true =>
              have HN : Hid (readP s = some ((⟨0, ⟨#[]⟩, A, false, 0, 0, 0⟩ : T.Tok), [])) := by show _ = _; rw [HRD.out, HB.out]; simp only; rw [if_pos ⟨hr, hck⟩]
              rw [hck, show okZ true = 0 from rfl] at CK
              have HT : Hid (W6.heap[W2.heap.size]? = some (.cells #[.int .i64 0, .string ⟨#[]⟩, .string A, .slice none 0 0, .bool false, .int .i64 0, .int .i64 0, .int .i64 0] 28 (0, 0))) := hT6
              have HRb : Hid (W6.heap[w.heap.size]? = some (.cells #[.int .i64 0, .string ⟨#[]⟩, .string ⟨#[]⟩, .slice none 0 0, .bool false, .int .i64 0, .int .i64 0, .int .i64 0] 28 (0, 0))) := (HF6.out.keep.block w.heap.size s1 (by show ¬ _ = _; omega)).trans HRES0.out
              clear hck hr hRSd hRS hT6
              go_wp2_with fail
              refine CK.out.mono ?_
              rintro e w9 ⟨rfl, hb9⟩
              have hT9 := (hb9.block W2.heap.size s2X).trans HT.out
              have hR9 := (hb9.block w.heap.size (by omega)).trans HRb.out
              have HF9 : Hid (KeepP (fun k => k = g) w w9) := HF1.out.keep.trans (HF6.out.keep.then (hb9.mono sX))
              have HO9 : Hid (OwnA w.heap.size w9 (.slice none 0 0) []) := C.owns_below HO6.out hb9
              clear y0 y1 y2 y3 y4 y5 y6 y7 hb9 hrc
              have y0 : w9.cell? ⟨W2.heap.size, 0, none⟩ = some (.int .i64 0) := cell_at hT9
              have y1 : w9.cell? ⟨W2.heap.size, 1, none⟩ = some (.string ⟨#[]⟩) := cell_at hT9
              have y2 : w9.cell? ⟨W2.heap.size, 2, none⟩ = some (.string A) := cell_at hT9
              have y3 : w9.cell? ⟨W2.heap.size, 3, none⟩ = some (.slice none 0 0) := cell_at hT9
              have y4 : w9.cell? ⟨W2.heap.size, 4, none⟩ = some (.bool false) := cell_at hT9
              have y5 : w9.cell? ⟨W2.heap.size, 5, none⟩ = some (.int .i64 0) := cell_at hT9
              have y6 : w9.cell? ⟨W2.heap.size, 6, none⟩ = some (.int .i64 0) := cell_at hT9
              have y7 : w9.cell? ⟨W2.heap.size, 7, none⟩ = some (.int .i64 0) := cell_at hT9
              have r0 : w9.cell? ⟨w.heap.size, 0, none⟩ = some (.int .i64 0) := cell_at hR9
              have r1 : w9.cell? ⟨w.heap.size, 1, none⟩ = some (.string ⟨#[]⟩) := cell_at hR9
              have r2 : w9.cell? ⟨w.heap.size, 2, none⟩ = some (.string ⟨#[]⟩) := cell_at hR9
              have r3 : w9.cell? ⟨w.heap.size, 3, none⟩ = some (.slice none 0 0) := cell_at hR9
              have r4 : w9.cell? ⟨w.heap.size, 4, none⟩ = some (.bool false) := cell_at hR9
              have r5 : w9.cell? ⟨w.heap.size, 5, none⟩ = some (.int .i64 0) := cell_at hR9
              have r6 : w9.cell? ⟨w.heap.size, 6, none⟩ = some (.int .i64 0) := cell_at hR9
              have r7 : w9.cell? ⟨w.heap.size, 7, none⟩ = some (.int .i64 0) := cell_at hR9
              have fz : ∀ i, w9.frozen? ⟨w.heap.size, i, none⟩ = false := fun i => frozen_at hR9
              have HR9 : Hid (w9.heap[w.heap.size]? = some (.cells #[.int .i64 0, .string ⟨#[]⟩, .string ⟨#[]⟩, .slice none 0 0, .bool false, .int .i64 0, .int .i64 0, .int .i64 0] 28 (0, 0))) := hR9
              clear hT9 hR9
              go_wp2
              all_goals exact bodyPost_ret (results_token rfl (put8_at HR9.out _ _ _ _ _ _ _ _)) rfl (.inl ⟨(⟨0, ⟨#[]⟩, A, false, 0, 0, 0⟩ : T.Tok), [], .slice none 0 0, HN.out, rfl, OwnA.put8 HO9.out (OwnA.apart HO9.out HR9.out (by decide)) _ _ _ _ _ _ _ _, keep_put8 HF9.out (Nat.le_refl _) _ _ _ _ _ _ _ _⟩)
          · have q0 : RS.toList.isEmpty = false := by rw [Lib.toList_data, hRSd]; simpa using hr
            have HN : Hid (readP s = none) := by show _ = _; rw [HRD.out, HB.out]; simp only; rw [if_neg (fun h => hr h.1)]
            clear hr hRSd hRS hT6
            go_wp2_with (go_at_call 68; refine (giveUp_calls _).mono ?_; rintro e w10 ⟨rfl, h10⟩; obtain rfl := h10.symm)
            all_goals exact ⟨rfl, .inr ⟨HN.out, rfl, by exact HF1.out.keep.trans HF6.out.keep⟩⟩
      · have T1 : Hid (Calls Tryd.prog 65 #[.pointer (some ⟨g, 0, none⟩), .string ⟨#[32]⟩] W3 fun e w' => e = Ending.panicked [{ v := Value.iface 29 (Value.int IntKind.i64 70), recovered := false }] ∧ W3.setCell ⟨g, 0, none⟩ (.string ⟨d.toArray⟩) = w') := (want_no g 32 d W3 (by omega) hd HF3.out.cell HF3.out.fz).mono fun e w' h => ⟨h.1, h.2.symm⟩
        have HF4 : Hid (Fr g W1 (W3.setCell ⟨g, 0, none⟩ (.string ⟨d.toArray⟩)) d) := HF3.out.set d
        have HN : Hid (readP s = none) := by show _ = _; rw [HRD.out]; simp [bodyP, HQD.out, hd]
        clear hd hT3
        refine T1.out.mono ?_
        rintro e w4 ⟨rfl, rfl⟩
        go_wp2
        all_goals exact ⟨rfl, .inr ⟨HN.out, rfl, HF1.out.keep.trans HF4.out.keep⟩⟩
    · have HKK : Hid (Calls Tryd.prog 64 #[.pointer (some ⟨g, 0, none⟩)] W1 fun e w' => e = .returned (.int .i64 1) ∧ Fr g W1 w' d) := HK
      clear HK hk5
      go_wp2_with fail
      refine HKK.out.mono ?_
      rintro e W2 ⟨rfl, hF2⟩
      have s2 := hF2.keep.size
      go_wp2_with fail
      obtain ⟨W3, hW3⟩ : ∃ W3, W2.alloc (.cells #[.int .i64 1, .string ⟨#[]⟩, .string ⟨#[]⟩, .slice none 0 0, .bool false, .int .i64 0, .int .i64 0, .int .i64 0] 28) = W3 := ⟨_, rfl⟩
      rw [hW3]
      have HW3 : Hid (W2.alloc (.cells #[.int .i64 1, .string ⟨#[]⟩, .string ⟨#[]⟩, .slice none 0 0, .bool false, .int .i64 0, .int .i64 0, .int .i64 0] 28) = W3) := hW3
      have hT3 : W3.heap[W2.heap.size]? = some (.cells #[.int .i64 1, .string ⟨#[]⟩, .string ⟨#[]⟩, .slice none 0 0, .bool false, .int .i64 0, .int .i64 0, .int .i64 0] 28 (0, 0)) := by rw [← hW3]; exact new_at _ _ _
      have HF3 : Hid (Fr g W1 W3 d) := by rw [← hW3]; exact hF2.gt hgW (row := none) (World.grownBy_alloc _ _ _) (fun _ e => by cases e)
      clear hW3
      have k0 : W3.cell? ⟨W2.heap.size, 0, none⟩ = some (.int .i64 1) := cell_at hT3
      have f3 : ∀ i, W3.frozen? ⟨W2.heap.size, i, none⟩ = false := fun i => frozen_at hT3
      clear hF2
      have HQD : Hid (qd d = if d.head? = some 32 then unqd d.tail else none) := rfl
      by_cases hd : d.head? = some 32
      · obtain ⟨x, rfl⟩ : ∃ x, d = 32 :: x := by
          cases d with
          | nil => simp at hd
          | cons c x => simp at hd; exact ⟨x, by rw [hd]⟩
        simp only [List.length_cons] at hdl
        have HNx : Hid ((10 : UInt8) ∉ x) := fun h => HD10.out (List.mem_cons_of_mem _ h)
        have T1 : Hid (Calls Tryd.prog 65 #[.pointer (some ⟨g, 0, none⟩), .string ⟨#[32]⟩] W3 fun e w' => e = .returned (.tuple #[]) ∧ W3.setCell ⟨g, 0, none⟩ (.string ⟨x.toArray⟩) = w') := (want_yes g 32 x W3 (by omega) HF3.out.cell HF3.out.fz).mono fun e w' h => ⟨h.1, h.2.symm⟩
        obtain ⟨W4, hW4⟩ : ∃ W4, W3.setCell ⟨g, 0, none⟩ (.string ⟨x.toArray⟩) = W4 := ⟨_, rfl⟩
        have HF4 : Hid (Fr g W1 W4 x) := by rw [← hW4]; exact HF3.out.set x
        have hT4 : W4.heap[W2.heap.size]? = some (.cells #[.int .i64 1, .string ⟨#[]⟩, .string ⟨#[]⟩, .slice none 0 0, .bool false, .int .i64 0, .int .i64 0, .int .i64 0] 28 (0, 0)) := by rw [← hW4]; exact (Below.heap_setCell _ _ _ _ (fun e => by have : W2.heap.size = g := e; omega)).trans hT3
        rw [hW4] at T1
        have s4 : W2.heap.size < W4.heap.size := lt_of_at hT4
        have QC := quoted_calls g x W4 (by omega) (by omega) HNx.out HF4.out.cell HF4.out.fz
        clear hW4 hd hT3
        cases hq : unqd x with
        | none =>
          have HQ : Hid (Calls Tryd.prog 66 #[.pointer (some ⟨g, 0, none⟩)] W4 fun e w' => e = Ending.panicked [{ v := Value.iface 29 (Value.int IntKind.i64 70), recovered := false }] ∧ KeepP (fun k => k = g) W4 w') := QC.mono fun e w' h => ⟨by rcases h.1 with ⟨a, r, h1, _⟩ | ⟨_, h2⟩; (rw [hq] at h1; cases h1); exact h2, h.2⟩
          have HN : Hid (readP s = none) := by show _ = _; rw [HRD.out]; simp [bodyP, HQD.out, hq]
          clear QC hq hT4
          refine T1.out.mono ?_
          rintro e w4 ⟨rfl, rfl⟩
          go_wp2_with fail
          refine HQ.out.mono ?_
          rintro e w5 ⟨rfl, hk5⟩
          go_wp2
          all_goals exact ⟨rfl, .inr ⟨HN.out, rfl, HF1.out.keep.trans (HF4.out.keep.trans hk5)⟩⟩
        | some ar =>
          obtain ⟨a, r⟩ := ar
          have hu := unqd_len hq
          have HQ : Hid (Calls Tryd.prog 66 #[.pointer (some ⟨g, 0, none⟩)] W4 fun e w' => e = .returned (.string ⟨a.toArray⟩) ∧ Fr g W4 w' r) := QC.mono fun e w' h => by
            rcases h.1 with ⟨a', r', h1, h2, h3, h4⟩ | ⟨h1, _⟩
            · rw [hq] at h1; cases h1; exact ⟨h2, h3, h4, h.2⟩
            · rw [hq] at h1; cases h1
          have HQR : Hid (qd (32 :: x) = some (a, r)) := by show _ = _; rw [HQD.out]; simp [hq]
          have HNr : Hid ((10 : UInt8) ∉ r) := fun h => HNx.out (hu.2.2 _ h)
          obtain ⟨A, hA⟩ : ∃ A : ByteArray, (⟨a.toArray⟩ : ByteArray) = A := ⟨_, rfl⟩
          have hAz : A.size = a.length := by rw [← hA]; simp [ByteArray.size]
          rw [hA] at HQ
          have HA : Hid ((⟨a.toArray⟩ : ByteArray) = A) := hA
          clear QC hq hA
          refine T1.out.mono ?_
          rintro e w4 ⟨rfl, rfl⟩
          go_wp2_with fail
          refine HQ.out.mono ?_
          rintro e w5 ⟨rfl, hF5⟩
          have hT5 : w5.heap[W2.heap.size]? = some (.cells #[.int .i64 1, .string ⟨#[]⟩, .string ⟨#[]⟩, .slice none 0 0, .bool false, .int .i64 0, .int .i64 0, .int .i64 0] 28 (0, 0)) := (hF5.keep.block _ s4 (by show ¬ _ = _; omega)).trans hT4
          have z1 : w5.cell? ⟨W2.heap.size, 1, none⟩ = some (.string ⟨#[]⟩) := cell_at hT5
          have f1 : w5.frozen? ⟨W2.heap.size, 1, none⟩ = false := frozen_at hT5
          have HF5 : Hid (Fr g W1 w5 r) := ⟨hF5.cell, hF5.fz, HF4.out.keep.trans hF5.keep⟩
          obtain ⟨W6, hW6⟩ : ∃ W6, w5.setCell ⟨W2.heap.size, 1, none⟩ (.string A) = W6 := ⟨_, rfl⟩
          have hT6 : W6.heap[W2.heap.size]? = some (.cells #[.int .i64 1, .string A, .string ⟨#[]⟩, .slice none 0 0, .bool false, .int .i64 0, .int .i64 0, .int .i64 0] 28 (0, 0)) := by rw [← hW6]; exact set_block hT5 1 _
          have HF6 : Hid (Fr g W1 W6 r) := by rw [← hW6]; exact HF5.out.gt hgW (grown_set _ _ _ _) (fun j e => by cases e; omega)
          clear hF5 hT5 hT4
          have s6 : W2.heap.size < W6.heap.size := lt_of_at hT6
          have BC := behind_calls g r W6 (by omega) (by omega) HNr.out HF6.out.cell HF6.out.fz
          cases ha : attrsP (r.length + 1) [] r with
          | none =>
            have HBH : Hid (Calls Tryd.prog 67 #[.pointer (some ⟨g, 0, none⟩)] W6 fun e w' => e = Ending.panicked [{ v := Value.iface 29 (Value.int IntKind.i64 70), recovered := false }] ∧ KeepP (fun k => k = g) W6 w') := BC.mono fun e w' h => by
              rcases h with ⟨_, _, _, _, h1, _⟩ | ⟨_, h2⟩
              · rw [ha] at h1; cases h1
              · exact h2
            have HN : Hid (readP s = none) := by
              show _ = _
              rw [HRD.out]
              simp [bodyP, HQR.out, ha]
            clear BC ha hT6
            go_wp2_with fail
            refine HBH.out.mono ?_
            rintro e w7 ⟨rfl, hk7⟩
            go_wp2
            all_goals exact ⟨rfl, .inr ⟨HN.out, rfl, HF1.out.keep.trans (HF6.out.keep.trans hk7)⟩⟩
          | some lbr =>
            obtain ⟨l, b, rr⟩ := lbr
            have hal := attrsP_len _ _ _ _ _ _ ha
            rw [show sumA [] = 0 from rfl, List.length_nil] at hal
            have HBH : Hid (Calls Tryd.prog 67 #[.pointer (some ⟨g, 0, none⟩)] W6 fun e w' => ∃ v, e = .returned (.tuple #[v, .bool b]) ∧ OwnA W6.heap.size w' v l ∧ Fr g W6 w' rr) := BC.mono fun e w' h => by
              rcases h with ⟨_, _, _, v, h1, h2, h3, h4⟩ | ⟨h1, _⟩
              · rw [ha] at h1; cases h1; exact ⟨v, h2, h3, h4⟩
              · rw [ha] at h1; cases h1
            have HB : Hid (bodyP 1 (32 :: x) = some ((⟨1, A, ⟨#[]⟩, b, 0, 0, 0⟩ : T.Tok), l, rr)) := by
              show _ = _
              simp [bodyP, HQR.out, ha, HA.out]
            have HZ : Hid (SizesA l ∧ T.Tok.Sizes ⟨1, A, ⟨#[]⟩, b, 0, 0, 0⟩) := by
              refine ⟨⟨by omega, fun y hy => ?_⟩, (by show A.size ≤ _; omega), Nat.zero_le _⟩
              obtain ⟨j, hj, rfl⟩ := List.mem_iff_getElem.1 hy
              have h1 := sumA_succ l j hj
              have h2 := sumA_take l (j + 1)
              omega
            clear BC ha hal
            go_wp2_with fail
            refine HBH.out.mono ?_
            rintro e w7 ⟨v, rfl, ho7, hF7⟩
            obtain ⟨va, vc, rfl⟩ := C.owns_slice ho7
            have hT7 : w7.heap[W2.heap.size]? = some (.cells #[.int .i64 1, .string A, .string ⟨#[]⟩, .slice none 0 0, .bool false, .int .i64 0, .int .i64 0, .int .i64 0] 28 (0, 0)) := (hF7.keep.block _ s6 (by show ¬ _ = _; omega)).trans hT6
            have z3 : w7.cell? ⟨W2.heap.size, 3, none⟩ = some (.slice none 0 0) := cell_at hT7
            have z4 : w7.cell? ⟨W2.heap.size, 4, none⟩ = some (.bool false) := cell_at hT7
            have f7 : ∀ i, w7.frozen? ⟨W2.heap.size, i, none⟩ = false := fun i => frozen_at hT7
            have HF7 : Hid (Fr g W1 w7 rr) := ⟨hF7.cell, hF7.fz, HF6.out.keep.trans hF7.keep⟩
            have HO7 : Hid (OwnA w.heap.size w7 (.slice va l.length vc) l) := C.owns_mono ho7 (by omega)
            obtain ⟨W8, hW8⟩ : ∃ W8, (w7.setCell ⟨W2.heap.size, 3, none⟩ (.slice va l.length vc)).setCell ⟨W2.heap.size, 4, none⟩ (.bool b) = W8 := ⟨_, rfl⟩
            have hT8 : W8.heap[W2.heap.size]? = some (.cells #[.int .i64 1, .string A, .string ⟨#[]⟩, .slice va l.length vc, .bool b, .int .i64 0, .int .i64 0, .int .i64 0] 28 (0, 0)) := by rw [← hW8]; exact set_block (set_block hT7 3 _) 4 _
            have HF8 : Hid (Fr g W1 W8 rr) := by
              rw [← hW8]
              have go : ∀ (A : World) (j : Nat) (u : Value), Fr g W1 A rr → Fr g W1 (A.setCell ⟨W2.heap.size, j, none⟩ u) rr := fun A j u h => h.gt hgW (grown_set _ _ _ _) (fun j e => by cases e; omega)
              exact go _ _ _ (go _ _ _ HF7.out)
            have HO8 : Hid (OwnA w.heap.size W8 (.slice va l.length vc) l) := by
              rw [← hW8]
              have ha := OwnA.apart HO7.out hT7 (by decide)
              exact (OwnA.set HO7.out ha 3 _).set ha 4 _
            clear hF7 ho7 hT7 hT6
            have y0 : W8.cell? ⟨W2.heap.size, 0, none⟩ = some (.int .i64 1) := cell_at hT8
            have y1 : W8.cell? ⟨W2.heap.size, 1, none⟩ = some (.string A) := cell_at hT8
            have y2 : W8.cell? ⟨W2.heap.size, 2, none⟩ = some (.string ⟨#[]⟩) := cell_at hT8
            have y3 : W8.cell? ⟨W2.heap.size, 3, none⟩ = some (.slice va l.length vc) := cell_at hT8
            have y4 : W8.cell? ⟨W2.heap.size, 4, none⟩ = some (.bool b) := cell_at hT8
            have y5 : W8.cell? ⟨W2.heap.size, 5, none⟩ = some (.int .i64 0) := cell_at hT8
            have y6 : W8.cell? ⟨W2.heap.size, 6, none⟩ = some (.int .i64 0) := cell_at hT8
            have y7 : W8.cell? ⟨W2.heap.size, 7, none⟩ = some (.int .i64 0) := cell_at hT8
            have hrc := HF8.out.cell
            have sX := HF8.out.keep.size
            have s2X : W2.heap.size < W8.heap.size := lt_of_at hT8
            obtain ⟨RS, hRS⟩ : ∃ RS : ByteArray, (⟨rr.toArray⟩ : ByteArray) = RS := ⟨_, rfl⟩
            have hRSd : RS.data.toList = rr := by rw [← hRS]
            rw [hRS] at hrc
            by_cases hr : rr = []
            · have q0 : RS.toList.isEmpty = true := by rw [Lib.toList_data, hRSd, hr]; rfl
              have CK : Hid (Calls Tryd.prog 10 #[.agg #[.int .i64 1, .string A, .string ⟨#[]⟩, .slice va l.length vc, .bool b, .int .i64 0, .int .i64 0, .int .i64 0]] W8 fun e w' => e = .returned (.int .i64 (okZ (checkB (⟨1, A, ⟨#[]⟩, b, 0, 0, 0⟩ : T.Tok) l))) ∧ Below W8.heap.size W8 w') := check_calls (⟨1, A, ⟨#[]⟩, b, 0, 0, 0⟩ : T.Tok) l (.slice va l.length vc) W8 (OwnA.has HO8.out) HZ.out.1 HZ.out.2
              cases hck : checkB (⟨1, A, ⟨#[]⟩, b, 0, 0, 0⟩ : T.Tok) l with
              | false =>
                have HN : Hid (readP s = none) := by show _ = _; rw [HRD.out, HB.out]; simp only; rw [if_neg (fun h => by rw [hck] at h; exact absurd h.2 (by decide))]
                rw [hck, show okZ false = 70 from rfl] at CK
                clear hck hr hRSd hRS hT8
                go_wp2_with fail
                refine CK.out.mono ?_
                rintro e w9 ⟨rfl, hb9⟩
                go_wp2_with (go_at_call 68; refine (giveUp_calls _).mono ?_; rintro e w10 ⟨rfl, h10⟩; obtain rfl := h10.symm)
                all_goals exact ⟨rfl, .inr ⟨HN.out, rfl, HF1.out.keep.trans (HF8.out.keep.then (hb9.mono sX))⟩⟩
              | true =>
                have HN : Hid (readP s = some ((⟨1, A, ⟨#[]⟩, b, 0, 0, 0⟩ : T.Tok), l)) := by show _ = _; rw [HRD.out, HB.out]; simp only; rw [if_pos ⟨hr, hck⟩]
                rw [hck, show okZ true = 0 from rfl] at CK
                have HT : Hid (W8.heap[W2.heap.size]? = some (.cells #[.int .i64 1, .string A, .string ⟨#[]⟩, .slice va l.length vc, .bool b, .int .i64 0, .int .i64 0, .int .i64 0] 28 (0, 0))) := hT8
                have HRb : Hid (W8.heap[w.heap.size]? = some (.cells #[.int .i64 0, .string ⟨#[]⟩, .string ⟨#[]⟩, .slice none 0 0, .bool false, .int .i64 0, .int .i64 0, .int .i64 0] 28 (0, 0))) := (HF8.out.keep.block w.heap.size s1 (by show ¬ _ = _; omega)).trans HRES0.out
                clear hck hr hRSd hRS hT8
                go_wp2_with fail
                refine CK.out.mono ?_
                rintro e w9 ⟨rfl, hb9⟩
                have hT9 := (hb9.block W2.heap.size s2X).trans HT.out
                have hR9 := (hb9.block w.heap.size (by omega)).trans HRb.out
                have HF9 : Hid (KeepP (fun k => k = g) w w9) := HF1.out.keep.trans (HF8.out.keep.then (hb9.mono sX))
                have HO9 : Hid (OwnA w.heap.size w9 (.slice va l.length vc) l) := C.owns_below HO8.out hb9
                clear y0 y1 y2 y3 y4 y5 y6 y7 hb9 hrc
                have y0 : w9.cell? ⟨W2.heap.size, 0, none⟩ = some (.int .i64 1) := cell_at hT9
                have y1 : w9.cell? ⟨W2.heap.size, 1, none⟩ = some (.string A) := cell_at hT9
                have y2 : w9.cell? ⟨W2.heap.size, 2, none⟩ = some (.string ⟨#[]⟩) := cell_at hT9
                have y3 : w9.cell? ⟨W2.heap.size, 3, none⟩ = some (.slice va l.length vc) := cell_at hT9
                have y4 : w9.cell? ⟨W2.heap.size, 4, none⟩ = some (.bool b) := cell_at hT9
                have y5 : w9.cell? ⟨W2.heap.size, 5, none⟩ = some (.int .i64 0) := cell_at hT9
                have y6 : w9.cell? ⟨W2.heap.size, 6, none⟩ = some (.int .i64 0) := cell_at hT9
                have y7 : w9.cell? ⟨W2.heap.size, 7, none⟩ = some (.int .i64 0) := cell_at hT9
                have r0 : w9.cell? ⟨w.heap.size, 0, none⟩ = some (.int .i64 0) := cell_at hR9
                have r1 : w9.cell? ⟨w.heap.size, 1, none⟩ = some (.string ⟨#[]⟩) := cell_at hR9
                have r2 : w9.cell? ⟨w.heap.size, 2, none⟩ = some (.string ⟨#[]⟩) := cell_at hR9
                have r3 : w9.cell? ⟨w.heap.size, 3, none⟩ = some (.slice none 0 0) := cell_at hR9
                have r4 : w9.cell? ⟨w.heap.size, 4, none⟩ = some (.bool false) := cell_at hR9
                have r5 : w9.cell? ⟨w.heap.size, 5, none⟩ = some (.int .i64 0) := cell_at hR9
                have r6 : w9.cell? ⟨w.heap.size, 6, none⟩ = some (.int .i64 0) := cell_at hR9
                have r7 : w9.cell? ⟨w.heap.size, 7, none⟩ = some (.int .i64 0) := cell_at hR9
                have fz : ∀ i, w9.frozen? ⟨w.heap.size, i, none⟩ = false := fun i => frozen_at hR9
                have HR9 : Hid (w9.heap[w.heap.size]? = some (.cells #[.int .i64 0, .string ⟨#[]⟩, .string ⟨#[]⟩, .slice none 0 0, .bool false, .int .i64 0, .int .i64 0, .int .i64 0] 28 (0, 0))) := hR9
                clear hT9 hR9
                go_wp2
                all_goals exact bodyPost_ret (results_token rfl (put8_at HR9.out _ _ _ _ _ _ _ _)) rfl (.inl ⟨(⟨1, A, ⟨#[]⟩, b, 0, 0, 0⟩ : T.Tok), l, .slice va l.length vc, HN.out, rfl, OwnA.put8 HO9.out (OwnA.apart HO9.out HR9.out (by decide)) _ _ _ _ _ _ _ _, keep_put8 HF9.out (Nat.le_refl _) _ _ _ _ _ _ _ _⟩)
            · have q0 : RS.toList.isEmpty = false := by rw [Lib.toList_data, hRSd]; simpa using hr
              have HN : Hid (readP s = none) := by show _ = _; rw [HRD.out, HB.out]; simp only; rw [if_neg (fun h => hr h.1)]
              clear hr hRSd hRS hT8
              go_wp2_with (go_at_call 68; refine (giveUp_calls _).mono ?_; rintro e w10 ⟨rfl, h10⟩; obtain rfl := h10.symm)
              all_goals exact ⟨rfl, .inr ⟨HN.out, rfl, by exact HF1.out.keep.trans HF8.out.keep⟩⟩
      · have T1 : Hid (Calls Tryd.prog 65 #[.pointer (some ⟨g, 0, none⟩), .string ⟨#[32]⟩] W3 fun e w' => e = Ending.panicked [{ v := Value.iface 29 (Value.int IntKind.i64 70), recovered := false }] ∧ W3.setCell ⟨g, 0, none⟩ (.string ⟨d.toArray⟩) = w') := (want_no g 32 d W3 (by omega) hd HF3.out.cell HF3.out.fz).mono fun e w' h => ⟨h.1, h.2.symm⟩
        have HF4 : Hid (Fr g W1 (W3.setCell ⟨g, 0, none⟩ (.string ⟨d.toArray⟩)) d) := HF3.out.set d
        have HN : Hid (readP s = none) := by show _ = _; rw [HRD.out]; simp [bodyP, HQD.out, hd]
        clear hd hT3
        refine T1.out.mono ?_
        rintro e w4 ⟨rfl, rfl⟩
        go_wp2
        all_goals exact ⟨rfl, .inr ⟨HN.out, rfl, HF1.out.keep.trans HF4.out.keep⟩⟩
    · have HKK : Hid (Calls Tryd.prog 64 #[.pointer (some ⟨g, 0, none⟩)] W1 fun e w' => e = .returned (.int .i64 2) ∧ Fr g W1 w' d) := HK
      clear HK hk5
      go_wp2_with fail
      refine HKK.out.mono ?_
      rintro e W2 ⟨rfl, hF2⟩
      have s2 := hF2.keep.size
      go_wp2_with fail
      obtain ⟨W3, hW3⟩ : ∃ W3, W2.alloc (.cells #[.int .i64 2, .string ⟨#[]⟩, .string ⟨#[]⟩, .slice none 0 0, .bool false, .int .i64 0, .int .i64 0, .int .i64 0] 28) = W3 := ⟨_, rfl⟩
      rw [hW3]
      have HW3 : Hid (W2.alloc (.cells #[.int .i64 2, .string ⟨#[]⟩, .string ⟨#[]⟩, .slice none 0 0, .bool false, .int .i64 0, .int .i64 0, .int .i64 0] 28) = W3) := hW3
      have hT3 : W3.heap[W2.heap.size]? = some (.cells #[.int .i64 2, .string ⟨#[]⟩, .string ⟨#[]⟩, .slice none 0 0, .bool false, .int .i64 0, .int .i64 0, .int .i64 0] 28 (0, 0)) := by rw [← hW3]; exact new_at _ _ _
      have HF3 : Hid (Fr g W1 W3 d) := by rw [← hW3]; exact hF2.gt hgW (row := none) (World.grownBy_alloc _ _ _) (fun _ e => by cases e)
      clear hW3
      have k0 : W3.cell? ⟨W2.heap.size, 0, none⟩ = some (.int .i64 2) := cell_at hT3
      have f3 : ∀ i, W3.frozen? ⟨W2.heap.size, i, none⟩ = false := fun i => frozen_at hT3
      clear hF2
      have HQD : Hid (qd d = if d.head? = some 32 then unqd d.tail else none) := rfl
      by_cases hd : d.head? = some 32
      · obtain ⟨x, rfl⟩ : ∃ x, d = 32 :: x := by
          cases d with
          | nil => simp at hd
          | cons c x => simp at hd; exact ⟨x, by rw [hd]⟩
        simp only [List.length_cons] at hdl
        have HNx : Hid ((10 : UInt8) ∉ x) := fun h => HD10.out (List.mem_cons_of_mem _ h)
        have T1 : Hid (Calls Tryd.prog 65 #[.pointer (some ⟨g, 0, none⟩), .string ⟨#[32]⟩] W3 fun e w' => e = .returned (.tuple #[]) ∧ W3.setCell ⟨g, 0, none⟩ (.string ⟨x.toArray⟩) = w') := (want_yes g 32 x W3 (by omega) HF3.out.cell HF3.out.fz).mono fun e w' h => ⟨h.1, h.2.symm⟩
        obtain ⟨W4, hW4⟩ : ∃ W4, W3.setCell ⟨g, 0, none⟩ (.string ⟨x.toArray⟩) = W4 := ⟨_, rfl⟩
        have HF4 : Hid (Fr g W1 W4 x) := by rw [← hW4]; exact HF3.out.set x
        have hT4 : W4.heap[W2.heap.size]? = some (.cells #[.int .i64 2, .string ⟨#[]⟩, .string ⟨#[]⟩, .slice none 0 0, .bool false, .int .i64 0, .int .i64 0, .int .i64 0] 28 (0, 0)) := by rw [← hW4]; exact (Below.heap_setCell _ _ _ _ (fun e => by have : W2.heap.size = g := e; omega)).trans hT3
        rw [hW4] at T1
        have s4 : W2.heap.size < W4.heap.size := lt_of_at hT4
        have QC := quoted_calls g x W4 (by omega) (by omega) HNx.out HF4.out.cell HF4.out.fz
        clear hW4 hd hT3
        cases hq : unqd x with
        | none =>
          have HQ : Hid (Calls Tryd.prog 66 #[.pointer (some ⟨g, 0, none⟩)] W4 fun e w' => e = Ending.panicked [{ v := Value.iface 29 (Value.int IntKind.i64 70), recovered := false }] ∧ KeepP (fun k => k = g) W4 w') := QC.mono fun e w' h => ⟨by rcases h.1 with ⟨a, r, h1, _⟩ | ⟨_, h2⟩; (rw [hq] at h1; cases h1); exact h2, h.2⟩
          have HN : Hid (readP s = none) := by show _ = _; rw [HRD.out]; simp [bodyP, HQD.out, hq]
          clear QC hq hT4
          refine T1.out.mono ?_
          rintro e w4 ⟨rfl, rfl⟩
          go_wp2_with fail
          refine HQ.out.mono ?_
          rintro e w5 ⟨rfl, hk5⟩
          go_wp2
          all_goals exact ⟨rfl, .inr ⟨HN.out, rfl, HF1.out.keep.trans (HF4.out.keep.trans hk5)⟩⟩
        | some ar =>
          obtain ⟨a, r⟩ := ar
          have hu := unqd_len hq
          have HQ : Hid (Calls Tryd.prog 66 #[.pointer (some ⟨g, 0, none⟩)] W4 fun e w' => e = .returned (.string ⟨a.toArray⟩) ∧ Fr g W4 w' r) := QC.mono fun e w' h => by
            rcases h.1 with ⟨a', r', h1, h2, h3, h4⟩ | ⟨h1, _⟩
            · rw [hq] at h1; cases h1; exact ⟨h2, h3, h4, h.2⟩
            · rw [hq] at h1; cases h1
          have HQR : Hid (qd (32 :: x) = some (a, r)) := by show _ = _; rw [HQD.out]; simp [hq]
          have HNr : Hid ((10 : UInt8) ∉ r) := fun h => HNx.out (hu.2.2 _ h)
          obtain ⟨A, hA⟩ : ∃ A : ByteArray, (⟨a.toArray⟩ : ByteArray) = A := ⟨_, rfl⟩
          have hAz : A.size = a.length := by rw [← hA]; simp [ByteArray.size]
          rw [hA] at HQ
          have HA : Hid ((⟨a.toArray⟩ : ByteArray) = A) := hA
          clear QC hq hA
          refine T1.out.mono ?_
          rintro e w4 ⟨rfl, rfl⟩
          go_wp2_with fail
          refine HQ.out.mono ?_
          rintro e w5 ⟨rfl, hF5⟩
          have hT5 : w5.heap[W2.heap.size]? = some (.cells #[.int .i64 2, .string ⟨#[]⟩, .string ⟨#[]⟩, .slice none 0 0, .bool false, .int .i64 0, .int .i64 0, .int .i64 0] 28 (0, 0)) := (hF5.keep.block _ s4 (by show ¬ _ = _; omega)).trans hT4
          have z1 : w5.cell? ⟨W2.heap.size, 1, none⟩ = some (.string ⟨#[]⟩) := cell_at hT5
          have f1 : w5.frozen? ⟨W2.heap.size, 1, none⟩ = false := frozen_at hT5
          have HF5 : Hid (Fr g W1 w5 r) := ⟨hF5.cell, hF5.fz, HF4.out.keep.trans hF5.keep⟩
          obtain ⟨W6, hW6⟩ : ∃ W6, w5.setCell ⟨W2.heap.size, 1, none⟩ (.string A) = W6 := ⟨_, rfl⟩
          have hT6 : W6.heap[W2.heap.size]? = some (.cells #[.int .i64 2, .string A, .string ⟨#[]⟩, .slice none 0 0, .bool false, .int .i64 0, .int .i64 0, .int .i64 0] 28 (0, 0)) := by rw [← hW6]; exact set_block hT5 1 _
          have HF6 : Hid (Fr g W1 W6 r) := by rw [← hW6]; exact HF5.out.gt hgW (grown_set _ _ _ _) (fun j e => by cases e; omega)
          clear hF5 hT5 hT4
          have HB : Hid (bodyP 2 (32 :: x) = some ((⟨2, A, ⟨#[]⟩, false, 0, 0, 0⟩ : T.Tok), [], r)) := by
            show _ = _
            simp [bodyP, HQR.out, HA.out]
          have HO6 : Hid (OwnA w.heap.size W6 (.slice none 0 0) []) := World.ownsRow_nil _ _ _ _
          have HZ : Hid (SizesA [] ∧ T.Tok.Sizes ⟨2, A, ⟨#[]⟩, false, 0, 0, 0⟩) := ⟨⟨by simp, fun x hx => by cases hx⟩, (by show A.size ≤ _; omega), Nat.zero_le _⟩
          have y0 : W6.cell? ⟨W2.heap.size, 0, none⟩ = some (.int .i64 2) := cell_at hT6
          have y1 : W6.cell? ⟨W2.heap.size, 1, none⟩ = some (.string A) := cell_at hT6
          have y2 : W6.cell? ⟨W2.heap.size, 2, none⟩ = some (.string ⟨#[]⟩) := cell_at hT6
          have y3 : W6.cell? ⟨W2.heap.size, 3, none⟩ = some (.slice none 0 0) := cell_at hT6
          have y4 : W6.cell? ⟨W2.heap.size, 4, none⟩ = some (.bool false) := cell_at hT6
          have y5 : W6.cell? ⟨W2.heap.size, 5, none⟩ = some (.int .i64 0) := cell_at hT6
          have y6 : W6.cell? ⟨W2.heap.size, 6, none⟩ = some (.int .i64 0) := cell_at hT6
          have y7 : W6.cell? ⟨W2.heap.size, 7, none⟩ = some (.int .i64 0) := cell_at hT6
          have hrc := HF6.out.cell
          have sX := HF6.out.keep.size
          have s2X : W2.heap.size < W6.heap.size := lt_of_at hT6
          obtain ⟨RS, hRS⟩ : ∃ RS : ByteArray, (⟨r.toArray⟩ : ByteArray) = RS := ⟨_, rfl⟩
          have hRSd : RS.data.toList = r := by rw [← hRS]
          rw [hRS] at hrc
          by_cases hr : r = []
          · have q0 : RS.toList.isEmpty = true := by rw [Lib.toList_data, hRSd, hr]; rfl
            have CK : Hid (Calls Tryd.prog 10 #[.agg #[.int .i64 2, .string A, .string ⟨#[]⟩, .slice none 0 0, .bool false, .int .i64 0, .int .i64 0, .int .i64 0]] W6 fun e w' => e = .returned (.int .i64 (okZ (checkB (⟨2, A, ⟨#[]⟩, false, 0, 0, 0⟩ : T.Tok) []))) ∧ Below W6.heap.size W6 w') := check_calls (⟨2, A, ⟨#[]⟩, false, 0, 0, 0⟩ : T.Tok) [] (.slice none 0 0) W6 (OwnA.has HO6.out) HZ.out.1 HZ.out.2
            cases hck : checkB (⟨2, A, ⟨#[]⟩, false, 0, 0, 0⟩ : T.Tok) [] with
            | false =>
              have HN : Hid (readP s = none) := by show _ = _; rw [HRD.out, HB.out]; simp only; rw [if_neg (fun h => by rw [hck] at h; exact absurd h.2 (by decide))]
              rw [hck, show okZ false = 70 from rfl] at CK
              clear hck hr hRSd hRS hT6
              go_wp2_with fail
              refine CK.out.mono ?_
              rintro e w9 ⟨rfl, hb9⟩
              go_wp2_with (go_at_call 68; refine (giveUp_calls _).mono ?_; rintro e w10 ⟨rfl, h10⟩; obtain rfl := h10.symm)
              all_goals exact ⟨rfl, .inr ⟨HN.out, rfl, HF1.out.keep.trans (HF6.out.keep.then (hb9.mono sX))⟩⟩
            | true =>
              have HN : Hid (readP s = some ((⟨2, A, ⟨#[]⟩, false, 0, 0, 0⟩ : T.Tok), [])) := by show _ = _; rw [HRD.out, HB.out]; simp only; rw [if_pos ⟨hr, hck⟩]
              rw [hck, show okZ true = 0 from rfl] at CK
              have HT : Hid (W6.heap[W2.heap.size]? = some (.cells #[.int .i64 2, .string A, .string ⟨#[]⟩, .slice none 0 0, .bool false, .int .i64 0, .int .i64 0, .int .i64 0] 28 (0, 0))) := hT6
              have HRb : Hid (W6.heap[w.heap.size]? = some (.cells #[.int .i64 0, .string ⟨#[]⟩, .string ⟨#[]⟩, .slice none 0 0, .bool false, .int .i64 0, .int .i64 0, .int .i64 0] 28 (0, 0))) := (HF6.out.keep.block w.heap.size s1 (by show ¬ _ = _; omega)).trans HRES0.out
              clear hck hr hRSd hRS hT6
              go_wp2_with fail
              refine CK.out.mono ?_
              rintro e w9 ⟨rfl, hb9⟩
              have hT9 := (hb9.block W2.heap.size s2X).trans HT.out
              have hR9 := (hb9.block w.heap.size (by omega)).trans HRb.out
              have HF9 : Hid (KeepP (fun k => k = g) w w9) := HF1.out.keep.trans (HF6.out.keep.then (hb9.mono sX))
              have HO9 : Hid (OwnA w.heap.size w9 (.slice none 0 0) []) := C.owns_below HO6.out hb9
              clear y0 y1 y2 y3 y4 y5 y6 y7 hb9 hrc
              have y0 : w9.cell? ⟨W2.heap.size, 0, none⟩ = some (.int .i64 2) := cell_at hT9
              have y1 : w9.cell? ⟨W2.heap.size, 1, none⟩ = some (.string A) := cell_at hT9
              have y2 : w9.cell? ⟨W2.heap.size, 2, none⟩ = some (.string ⟨#[]⟩) := cell_at hT9
              have y3 : w9.cell? ⟨W2.heap.size, 3, none⟩ = some (.slice none 0 0) := cell_at hT9
              have y4 : w9.cell? ⟨W2.heap.size, 4, none⟩ = some (.bool false) := cell_at hT9
              have y5 : w9.cell? ⟨W2.heap.size, 5, none⟩ = some (.int .i64 0) := cell_at hT9
              have y6 : w9.cell? ⟨W2.heap.size, 6, none⟩ = some (.int .i64 0) := cell_at hT9
              have y7 : w9.cell? ⟨W2.heap.size, 7, none⟩ = some (.int .i64 0) := cell_at hT9
              have r0 : w9.cell? ⟨w.heap.size, 0, none⟩ = some (.int .i64 0) := cell_at hR9
              have r1 : w9.cell? ⟨w.heap.size, 1, none⟩ = some (.string ⟨#[]⟩) := cell_at hR9
              have r2 : w9.cell? ⟨w.heap.size, 2, none⟩ = some (.string ⟨#[]⟩) := cell_at hR9
              have r3 : w9.cell? ⟨w.heap.size, 3, none⟩ = some (.slice none 0 0) := cell_at hR9
              have r4 : w9.cell? ⟨w.heap.size, 4, none⟩ = some (.bool false) := cell_at hR9
              have r5 : w9.cell? ⟨w.heap.size, 5, none⟩ = some (.int .i64 0) := cell_at hR9
              have r6 : w9.cell? ⟨w.heap.size, 6, none⟩ = some (.int .i64 0) := cell_at hR9
              have r7 : w9.cell? ⟨w.heap.size, 7, none⟩ = some (.int .i64 0) := cell_at hR9
              have fz : ∀ i, w9.frozen? ⟨w.heap.size, i, none⟩ = false := fun i => frozen_at hR9
              have HR9 : Hid (w9.heap[w.heap.size]? = some (.cells #[.int .i64 0, .string ⟨#[]⟩, .string ⟨#[]⟩, .slice none 0 0, .bool false, .int .i64 0, .int .i64 0, .int .i64 0] 28 (0, 0))) := hR9
              clear hT9 hR9
              go_wp2
              all_goals exact bodyPost_ret (results_token rfl (put8_at HR9.out _ _ _ _ _ _ _ _)) rfl (.inl ⟨(⟨2, A, ⟨#[]⟩, false, 0, 0, 0⟩ : T.Tok), [], .slice none 0 0, HN.out, rfl, OwnA.put8 HO9.out (OwnA.apart HO9.out HR9.out (by decide)) _ _ _ _ _ _ _ _, keep_put8 HF9.out (Nat.le_refl _) _ _ _ _ _ _ _ _⟩)
          · have q0 : RS.toList.isEmpty = false := by rw [Lib.toList_data, hRSd]; simpa using hr
            have HN : Hid (readP s = none) := by show _ = _; rw [HRD.out, HB.out]; simp only; rw [if_neg (fun h => hr h.1)]
            clear hr hRSd hRS hT6
            go_wp2_with (go_at_call 68; refine (giveUp_calls _).mono ?_; rintro e w10 ⟨rfl, h10⟩; obtain rfl := h10.symm)
            all_goals exact ⟨rfl, .inr ⟨HN.out, rfl, by exact HF1.out.keep.trans HF6.out.keep⟩⟩
      · have T1 : Hid (Calls Tryd.prog 65 #[.pointer (some ⟨g, 0, none⟩), .string ⟨#[32]⟩] W3 fun e w' => e = Ending.panicked [{ v := Value.iface 29 (Value.int IntKind.i64 70), recovered := false }] ∧ W3.setCell ⟨g, 0, none⟩ (.string ⟨d.toArray⟩) = w') := (want_no g 32 d W3 (by omega) hd HF3.out.cell HF3.out.fz).mono fun e w' h => ⟨h.1, h.2.symm⟩
        have HF4 : Hid (Fr g W1 (W3.setCell ⟨g, 0, none⟩ (.string ⟨d.toArray⟩)) d) := HF3.out.set d
        have HN : Hid (readP s = none) := by show _ = _; rw [HRD.out]; simp [bodyP, HQD.out, hd]
        clear hd hT3
        refine T1.out.mono ?_
        rintro e w4 ⟨rfl, rfl⟩
        go_wp2
        all_goals exact ⟨rfl, .inr ⟨HN.out, rfl, HF1.out.keep.trans HF4.out.keep⟩⟩
    · have HKK : Hid (Calls Tryd.prog 64 #[.pointer (some ⟨g, 0, none⟩)] W1 fun e w' => e = .returned (.int .i64 3) ∧ Fr g W1 w' d) := HK
      clear HK hk5
      go_wp2_with fail
      refine HKK.out.mono ?_
      rintro e W2 ⟨rfl, hF2⟩
      have s2 := hF2.keep.size
      go_wp2_with fail
      obtain ⟨W3, hW3⟩ : ∃ W3, W2.alloc (.cells #[.int .i64 3, .string ⟨#[]⟩, .string ⟨#[]⟩, .slice none 0 0, .bool false, .int .i64 0, .int .i64 0, .int .i64 0] 28) = W3 := ⟨_, rfl⟩
      rw [hW3]
      have HW3 : Hid (W2.alloc (.cells #[.int .i64 3, .string ⟨#[]⟩, .string ⟨#[]⟩, .slice none 0 0, .bool false, .int .i64 0, .int .i64 0, .int .i64 0] 28) = W3) := hW3
      have hT3 : W3.heap[W2.heap.size]? = some (.cells #[.int .i64 3, .string ⟨#[]⟩, .string ⟨#[]⟩, .slice none 0 0, .bool false, .int .i64 0, .int .i64 0, .int .i64 0] 28 (0, 0)) := by rw [← hW3]; exact new_at _ _ _
      have HF3 : Hid (Fr g W1 W3 d) := by rw [← hW3]; exact hF2.gt hgW (row := none) (World.grownBy_alloc _ _ _) (fun _ e => by cases e)
      clear hW3
      have k0 : W3.cell? ⟨W2.heap.size, 0, none⟩ = some (.int .i64 3) := cell_at hT3
      have f3 : ∀ i, W3.frozen? ⟨W2.heap.size, i, none⟩ = false := fun i => frozen_at hT3
      clear hF2
      have HQD : Hid (qd d = if d.head? = some 32 then unqd d.tail else none) := rfl
      by_cases hd : d.head? = some 32
      · obtain ⟨x, rfl⟩ : ∃ x, d = 32 :: x := by
          cases d with
          | nil => simp at hd
          | cons c x => simp at hd; exact ⟨x, by rw [hd]⟩
        simp only [List.length_cons] at hdl
        have HNx : Hid ((10 : UInt8) ∉ x) := fun h => HD10.out (List.mem_cons_of_mem _ h)
        have T1 : Hid (Calls Tryd.prog 65 #[.pointer (some ⟨g, 0, none⟩), .string ⟨#[32]⟩] W3 fun e w' => e = .returned (.tuple #[]) ∧ W3.setCell ⟨g, 0, none⟩ (.string ⟨x.toArray⟩) = w') := (want_yes g 32 x W3 (by omega) HF3.out.cell HF3.out.fz).mono fun e w' h => ⟨h.1, h.2.symm⟩
        obtain ⟨W4, hW4⟩ : ∃ W4, W3.setCell ⟨g, 0, none⟩ (.string ⟨x.toArray⟩) = W4 := ⟨_, rfl⟩
        have HF4 : Hid (Fr g W1 W4 x) := by rw [← hW4]; exact HF3.out.set x
        have hT4 : W4.heap[W2.heap.size]? = some (.cells #[.int .i64 3, .string ⟨#[]⟩, .string ⟨#[]⟩, .slice none 0 0, .bool false, .int .i64 0, .int .i64 0, .int .i64 0] 28 (0, 0)) := by rw [← hW4]; exact (Below.heap_setCell _ _ _ _ (fun e => by have : W2.heap.size = g := e; omega)).trans hT3
        rw [hW4] at T1
        have s4 : W2.heap.size < W4.heap.size := lt_of_at hT4
        have QC := quoted_calls g x W4 (by omega) (by omega) HNx.out HF4.out.cell HF4.out.fz
        clear hW4 hd hT3
        cases hq : unqd x with
        | none =>
          have HQ : Hid (Calls Tryd.prog 66 #[.pointer (some ⟨g, 0, none⟩)] W4 fun e w' => e = Ending.panicked [{ v := Value.iface 29 (Value.int IntKind.i64 70), recovered := false }] ∧ KeepP (fun k => k = g) W4 w') := QC.mono fun e w' h => ⟨by rcases h.1 with ⟨a, r, h1, _⟩ | ⟨_, h2⟩; (rw [hq] at h1; cases h1); exact h2, h.2⟩
          have HN : Hid (readP s = none) := by show _ = _; rw [HRD.out]; simp [bodyP, HQD.out, hq]
          clear QC hq hT4
          refine T1.out.mono ?_
          rintro e w4 ⟨rfl, rfl⟩
          go_wp2_with fail
          refine HQ.out.mono ?_
          rintro e w5 ⟨rfl, hk5⟩
          go_wp2
          all_goals exact ⟨rfl, .inr ⟨HN.out, rfl, HF1.out.keep.trans (HF4.out.keep.trans hk5)⟩⟩
        | some ar =>
          obtain ⟨a, r⟩ := ar
          have hu := unqd_len hq
          have HQ : Hid (Calls Tryd.prog 66 #[.pointer (some ⟨g, 0, none⟩)] W4 fun e w' => e = .returned (.string ⟨a.toArray⟩) ∧ Fr g W4 w' r) := QC.mono fun e w' h => by
            rcases h.1 with ⟨a', r', h1, h2, h3, h4⟩ | ⟨h1, _⟩
            · rw [hq] at h1; cases h1; exact ⟨h2, h3, h4, h.2⟩
            · rw [hq] at h1; cases h1
          have HQR : Hid (qd (32 :: x) = some (a, r)) := by show _ = _; rw [HQD.out]; simp [hq]
          have HNr : Hid ((10 : UInt8) ∉ r) := fun h => HNx.out (hu.2.2 _ h)
          obtain ⟨A, hA⟩ : ∃ A : ByteArray, (⟨a.toArray⟩ : ByteArray) = A := ⟨_, rfl⟩
          have hAz : A.size = a.length := by rw [← hA]; simp [ByteArray.size]
          rw [hA] at HQ
          have HA : Hid ((⟨a.toArray⟩ : ByteArray) = A) := hA
          clear QC hq hA
          refine T1.out.mono ?_
          rintro e w4 ⟨rfl, rfl⟩
          go_wp2_with fail
          refine HQ.out.mono ?_
          rintro e w5 ⟨rfl, hF5⟩
          have hT5 : w5.heap[W2.heap.size]? = some (.cells #[.int .i64 3, .string ⟨#[]⟩, .string ⟨#[]⟩, .slice none 0 0, .bool false, .int .i64 0, .int .i64 0, .int .i64 0] 28 (0, 0)) := (hF5.keep.block _ s4 (by show ¬ _ = _; omega)).trans hT4
          have z2 : w5.cell? ⟨W2.heap.size, 2, none⟩ = some (.string ⟨#[]⟩) := cell_at hT5
          have f2 : w5.frozen? ⟨W2.heap.size, 2, none⟩ = false := frozen_at hT5
          have HF5 : Hid (Fr g W1 w5 r) := ⟨hF5.cell, hF5.fz, HF4.out.keep.trans hF5.keep⟩
          obtain ⟨W6, hW6⟩ : ∃ W6, w5.setCell ⟨W2.heap.size, 2, none⟩ (.string A) = W6 := ⟨_, rfl⟩
          have hT6 : W6.heap[W2.heap.size]? = some (.cells #[.int .i64 3, .string ⟨#[]⟩, .string A, .slice none 0 0, .bool false, .int .i64 0, .int .i64 0, .int .i64 0] 28 (0, 0)) := by rw [← hW6]; exact set_block hT5 2 _
          have HF6 : Hid (Fr g W1 W6 r) := by rw [← hW6]; exact HF5.out.gt hgW (grown_set _ _ _ _) (fun j e => by cases e; omega)
          clear hF5 hT5 hT4
          have HB : Hid (bodyP 3 (32 :: x) = some ((⟨3, ⟨#[]⟩, A, false, 0, 0, 0⟩ : T.Tok), [], r)) := by
            show _ = _
            simp [bodyP, HQR.out, HA.out]
          have HO6 : Hid (OwnA w.heap.size W6 (.slice none 0 0) []) := World.ownsRow_nil _ _ _ _
          have HZ : Hid (SizesA [] ∧ T.Tok.Sizes ⟨3, ⟨#[]⟩, A, false, 0, 0, 0⟩) := ⟨⟨by simp, fun x hx => by cases hx⟩, Nat.zero_le _, (by show A.size ≤ _; omega)⟩
          have y0 : W6.cell? ⟨W2.heap.size, 0, none⟩ = some (.int .i64 3) := cell_at hT6
          have y1 : W6.cell? ⟨W2.heap.size, 1, none⟩ = some (.string ⟨#[]⟩) := cell_at hT6
          have y2 : W6.cell? ⟨W2.heap.size, 2, none⟩ = some (.string A) := cell_at hT6
          have y3 : W6.cell? ⟨W2.heap.size, 3, none⟩ = some (.slice none 0 0) := cell_at hT6
          have y4 : W6.cell? ⟨W2.heap.size, 4, none⟩ = some (.bool false) := cell_at hT6
          have y5 : W6.cell? ⟨W2.heap.size, 5, none⟩ = some (.int .i64 0) := cell_at hT6
          have y6 : W6.cell? ⟨W2.heap.size, 6, none⟩ = some (.int .i64 0) := cell_at hT6
          have y7 : W6.cell? ⟨W2.heap.size, 7, none⟩ = some (.int .i64 0) := cell_at hT6
          have hrc := HF6.out.cell
          have sX := HF6.out.keep.size
          have s2X : W2.heap.size < W6.heap.size := lt_of_at hT6
          obtain ⟨RS, hRS⟩ : ∃ RS : ByteArray, (⟨r.toArray⟩ : ByteArray) = RS := ⟨_, rfl⟩
          have hRSd : RS.data.toList = r := by rw [← hRS]
          rw [hRS] at hrc
          by_cases hr : r = []
          · have q0 : RS.toList.isEmpty = true := by rw [Lib.toList_data, hRSd, hr]; rfl
            have CK : Hid (Calls Tryd.prog 10 #[.agg #[.int .i64 3, .string ⟨#[]⟩, .string A, .slice none 0 0, .bool false, .int .i64 0, .int .i64 0, .int .i64 0]] W6 fun e w' => e = .returned (.int .i64 (okZ (checkB (⟨3, ⟨#[]⟩, A, false, 0, 0, 0⟩ : T.Tok) []))) ∧ Below W6.heap.size W6 w') := check_calls (⟨3, ⟨#[]⟩, A, false, 0, 0, 0⟩ : T.Tok) [] (.slice none 0 0) W6 (OwnA.has HO6.out) HZ.out.1 HZ.out.2
            cases hck : checkB (⟨3, ⟨#[]⟩, A, false, 0, 0, 0⟩ : T.Tok) [] with
            | false =>
              have HN : Hid (readP s = none) := by show _ = _; rw [HRD.out, HB.out]; simp only; rw [if_neg (fun h => by rw [hck] at h; exact absurd h.2 (by decide))]
              rw [hck, show okZ false = 70 from rfl] at CK
              clear hck hr hRSd hRS hT6
              go_wp2_with fail
              refine CK.out.mono ?_
              rintro e w9 ⟨rfl, hb9⟩
              go_wp2_with (go_at_call 68; refine (giveUp_calls _).mono ?_; rintro e w10 ⟨rfl, h10⟩; obtain rfl := h10.symm)
              all_goals exact ⟨rfl, .inr ⟨HN.out, rfl, HF1.out.keep.trans (HF6.out.keep.then (hb9.mono sX))⟩⟩
            | true =>
              have HN : Hid (readP s = some ((⟨3, ⟨#[]⟩, A, false, 0, 0, 0⟩ : T.Tok), [])) := by show _ = _; rw [HRD.out, HB.out]; simp only; rw [if_pos ⟨hr, hck⟩]
              rw [hck, show okZ true = 0 from rfl] at CK
              have HT : Hid (W6.heap[W2.heap.size]? = some (.cells #[.int .i64 3, .string ⟨#[]⟩, .string A, .slice none 0 0, .bool false, .int .i64 0, .int .i64 0, .int .i64 0] 28 (0, 0))) := hT6
              have HRb : Hid (W6.heap[w.heap.size]? = some (.cells #[.int .i64 0, .string ⟨#[]⟩, .string ⟨#[]⟩, .slice none 0 0, .bool false, .int .i64 0, .int .i64 0, .int .i64 0] 28 (0, 0))) := (HF6.out.keep.block w.heap.size s1 (by show ¬ _ = _; omega)).trans HRES0.out
              clear hck hr hRSd hRS hT6
              go_wp2_with fail
              refine CK.out.mono ?_
              rintro e w9 ⟨rfl, hb9⟩
              have hT9 := (hb9.block W2.heap.size s2X).trans HT.out
              have hR9 := (hb9.block w.heap.size (by omega)).trans HRb.out
              have HF9 : Hid (KeepP (fun k => k = g) w w9) := HF1.out.keep.trans (HF6.out.keep.then (hb9.mono sX))
              have HO9 : Hid (OwnA w.heap.size w9 (.slice none 0 0) []) := C.owns_below HO6.out hb9
              clear y0 y1 y2 y3 y4 y5 y6 y7 hb9 hrc
              have y0 : w9.cell? ⟨W2.heap.size, 0, none⟩ = some (.int .i64 3) := cell_at hT9
              have y1 : w9.cell? ⟨W2.heap.size, 1, none⟩ = some (.string ⟨#[]⟩) := cell_at hT9
              have y2 : w9.cell? ⟨W2.heap.size, 2, none⟩ = some (.string A) := cell_at hT9
              have y3 : w9.cell? ⟨W2.heap.size, 3, none⟩ = some (.slice none 0 0) := cell_at hT9
              have y4 : w9.cell? ⟨W2.heap.size, 4, none⟩ = some (.bool false) := cell_at hT9
              have y5 : w9.cell? ⟨W2.heap.size, 5, none⟩ = some (.int .i64 0) := cell_at hT9
              have y6 : w9.cell? ⟨W2.heap.size, 6, none⟩ = some (.int .i64 0) := cell_at hT9
              have y7 : w9.cell? ⟨W2.heap.size, 7, none⟩ = some (.int .i64 0) := cell_at hT9
              have r0 : w9.cell? ⟨w.heap.size, 0, none⟩ = some (.int .i64 0) := cell_at hR9
              have r1 : w9.cell? ⟨w.heap.size, 1, none⟩ = some (.string ⟨#[]⟩) := cell_at hR9
              have r2 : w9.cell? ⟨w.heap.size, 2, none⟩ = some (.string ⟨#[]⟩) := cell_at hR9
              have r3 : w9.cell? ⟨w.heap.size, 3, none⟩ = some (.slice none 0 0) := cell_at hR9
              have r4 : w9.cell? ⟨w.heap.size, 4, none⟩ = some (.bool false) := cell_at hR9
              have r5 : w9.cell? ⟨w.heap.size, 5, none⟩ = some (.int .i64 0) := cell_at hR9
              have r6 : w9.cell? ⟨w.heap.size, 6, none⟩ = some (.int .i64 0) := cell_at hR9
              have r7 : w9.cell? ⟨w.heap.size, 7, none⟩ = some (.int .i64 0) := cell_at hR9
              have fz : ∀ i, w9.frozen? ⟨w.heap.size, i, none⟩ = false := fun i => frozen_at hR9
              have HR9 : Hid (w9.heap[w.heap.size]? = some (.cells #[.int .i64 0, .string ⟨#[]⟩, .string ⟨#[]⟩, .slice none 0 0, .bool false, .int .i64 0, .int .i64 0, .int .i64 0] 28 (0, 0))) := hR9
              clear hT9 hR9
              go_wp2
              all_goals exact bodyPost_ret (results_token rfl (put8_at HR9.out _ _ _ _ _ _ _ _)) rfl (.inl ⟨(⟨3, ⟨#[]⟩, A, false, 0, 0, 0⟩ : T.Tok), [], .slice none 0 0, HN.out, rfl, OwnA.put8 HO9.out (OwnA.apart HO9.out HR9.out (by decide)) _ _ _ _ _ _ _ _, keep_put8 HF9.out (Nat.le_refl _) _ _ _ _ _ _ _ _⟩)
          · have q0 : RS.toList.isEmpty = false := by rw [Lib.toList_data, hRSd]; simpa using hr
            have HN : Hid (readP s = none) := by show _ = _; rw [HRD.out, HB.out]; simp only; rw [if_neg (fun h => hr h.1)]
            clear hr hRSd hRS hT6
            go_wp2_with (go_at_call 68; refine (giveUp_calls _).mono ?_; rintro e w10 ⟨rfl, h10⟩; obtain rfl := h10.symm)
            all_goals exact ⟨rfl, .inr ⟨HN.out, rfl, by exact HF1.out.keep.trans HF6.out.keep⟩⟩
      · have T1 : Hid (Calls Tryd.prog 65 #[.pointer (some ⟨g, 0, none⟩), .string ⟨#[32]⟩] W3 fun e w' => e = Ending.panicked [{ v := Value.iface 29 (Value.int IntKind.i64 70), recovered := false }] ∧ W3.setCell ⟨g, 0, none⟩ (.string ⟨d.toArray⟩) = w') := (want_no g 32 d W3 (by omega) hd HF3.out.cell HF3.out.fz).mono fun e w' h => ⟨h.1, h.2.symm⟩
        have HF4 : Hid (Fr g W1 (W3.setCell ⟨g, 0, none⟩ (.string ⟨d.toArray⟩)) d) := HF3.out.set d
        have HN : Hid (readP s = none) := by show _ = _; rw [HRD.out]; simp [bodyP, HQD.out, hd]
        clear hd hT3
        refine T1.out.mono ?_
        rintro e w4 ⟨rfl, rfl⟩
        go_wp2
        all_goals exact ⟨rfl, .inr ⟨HN.out, rfl, HF1.out.keep.trans HF4.out.keep⟩⟩
    · have HKK : Hid (Calls Tryd.prog 64 #[.pointer (some ⟨g, 0, none⟩)] W1 fun e w' => e = .returned (.int .i64 4) ∧ Fr g W1 w' d) := HK
      clear HK hk5
      go_wp2_with fail
      refine HKK.out.mono ?_
      rintro e W2 ⟨rfl, hF2⟩
      have s2 := hF2.keep.size
      obtain ⟨W3, hW3⟩ : ∃ W3, W2.alloc (.cells #[.int .i64 4, .string ⟨#[]⟩, .string ⟨#[]⟩, .slice none 0 0, .bool false, .int .i64 0, .int .i64 0, .int .i64 0] 28) = W3 := ⟨_, rfl⟩
      have HW3 : Hid (W2.alloc (.cells #[.int .i64 4, .string ⟨#[]⟩, .string ⟨#[]⟩, .slice none 0 0, .bool false, .int .i64 0, .int .i64 0, .int .i64 0] 28) = W3) := hW3
      have hT3 : W3.heap[W2.heap.size]? = some (.cells #[.int .i64 4, .string ⟨#[]⟩, .string ⟨#[]⟩, .slice none 0 0, .bool false, .int .i64 0, .int .i64 0, .int .i64 0] 28 (0, 0)) := by rw [← hW3]; exact new_at _ _ _
      have HF3 : Hid (Fr g W1 W3 d) := by rw [← hW3]; exact hF2.gt hgW (row := none) (World.grownBy_alloc _ _ _) (fun _ e => by cases e)
      clear hW3
      have k0 : W3.cell? ⟨W2.heap.size, 0, none⟩ = some (.int .i64 4) := cell_at hT3
      have f3 : ∀ i, W3.frozen? ⟨W2.heap.size, i, none⟩ = false := fun i => frozen_at hT3
      clear hF2
      have HB : Hid (bodyP 4 d = some ((⟨4, ⟨#[]⟩, ⟨#[]⟩, false, 0, 0, 0⟩ : T.Tok), [], d)) := rfl
      have HO3 : Hid (OwnA w.heap.size W3 (.slice none 0 0) []) := World.ownsRow_nil _ _ _ _
      have HZ : Hid (SizesA [] ∧ T.Tok.Sizes ⟨4, ⟨#[]⟩, ⟨#[]⟩, false, 0, 0, 0⟩) := ⟨⟨by simp, fun x hx => by cases hx⟩, Nat.zero_le _, Nat.zero_le _⟩
      have y0 : W3.cell? ⟨W2.heap.size, 0, none⟩ = some (.int .i64 4) := cell_at hT3
      have y1 : W3.cell? ⟨W2.heap.size, 1, none⟩ = some (.string ⟨#[]⟩) := cell_at hT3
      have y2 : W3.cell? ⟨W2.heap.size, 2, none⟩ = some (.string ⟨#[]⟩) := cell_at hT3
      have y3 : W3.cell? ⟨W2.heap.size, 3, none⟩ = some (.slice none 0 0) := cell_at hT3
      have y4 : W3.cell? ⟨W2.heap.size, 4, none⟩ = some (.bool false) := cell_at hT3
      have y5 : W3.cell? ⟨W2.heap.size, 5, none⟩ = some (.int .i64 0) := cell_at hT3
      have y6 : W3.cell? ⟨W2.heap.size, 6, none⟩ = some (.int .i64 0) := cell_at hT3
      have y7 : W3.cell? ⟨W2.heap.size, 7, none⟩ = some (.int .i64 0) := cell_at hT3
      have hrc := HF3.out.cell
      have sX := HF3.out.keep.size
      have s2X : W2.heap.size < W3.heap.size := lt_of_at hT3
      obtain ⟨RS, hRS⟩ : ∃ RS : ByteArray, (⟨d.toArray⟩ : ByteArray) = RS := ⟨_, rfl⟩
      have hRSd : RS.data.toList = d := by rw [← hRS]
      rw [hRS] at hrc
      rw [← HW3.out] at hrc
      by_cases hr : d = []
      · have q0 : RS.toList.isEmpty = true := by rw [Lib.toList_data, hRSd, hr]; rfl
        have CK : Hid (Calls Tryd.prog 10 #[.agg #[.int .i64 4, .string ⟨#[]⟩, .string ⟨#[]⟩, .slice none 0 0, .bool false, .int .i64 0, .int .i64 0, .int .i64 0]] W3 fun e w' => e = .returned (.int .i64 (okZ (checkB (⟨4, ⟨#[]⟩, ⟨#[]⟩, false, 0, 0, 0⟩ : T.Tok) []))) ∧ Below W3.heap.size W3 w') := check_calls (⟨4, ⟨#[]⟩, ⟨#[]⟩, false, 0, 0, 0⟩ : T.Tok) [] (.slice none 0 0) W3 (OwnA.has HO3.out) HZ.out.1 HZ.out.2
        cases hck : checkB (⟨4, ⟨#[]⟩, ⟨#[]⟩, false, 0, 0, 0⟩ : T.Tok) [] with
        | false =>
          have HN : Hid (readP s = none) := by show _ = _; rw [HRD.out, HB.out]; simp only; rw [if_neg (fun h => by rw [hck] at h; exact absurd h.2 (by decide))]
          rw [hck, show okZ false = 70 from rfl] at CK
          clear hck hr hRSd hRS hT3
          go_wp2_with fail
          rw [HW3.out]; refine CK.out.mono ?_
          rintro e w9 ⟨rfl, hb9⟩
          go_wp2_with (go_at_call 68; refine (giveUp_calls _).mono ?_; rintro e w10 ⟨rfl, h10⟩; obtain rfl := h10.symm)
          all_goals exact ⟨rfl, .inr ⟨HN.out, rfl, HF1.out.keep.trans (HF3.out.keep.then (hb9.mono sX))⟩⟩
        | true =>
          have HN : Hid (readP s = some ((⟨4, ⟨#[]⟩, ⟨#[]⟩, false, 0, 0, 0⟩ : T.Tok), [])) := by show _ = _; rw [HRD.out, HB.out]; simp only; rw [if_pos ⟨hr, hck⟩]
          rw [hck, show okZ true = 0 from rfl] at CK
          have HT : Hid (W3.heap[W2.heap.size]? = some (.cells #[.int .i64 4, .string ⟨#[]⟩, .string ⟨#[]⟩, .slice none 0 0, .bool false, .int .i64 0, .int .i64 0, .int .i64 0] 28 (0, 0))) := hT3
          have HRb : Hid (W3.heap[w.heap.size]? = some (.cells #[.int .i64 0, .string ⟨#[]⟩, .string ⟨#[]⟩, .slice none 0 0, .bool false, .int .i64 0, .int .i64 0, .int .i64 0] 28 (0, 0))) := (HF3.out.keep.block w.heap.size s1 (by show ¬ _ = _; omega)).trans HRES0.out
          clear hck hr hRSd hRS hT3
          go_wp2_with fail
          rw [HW3.out]; refine CK.out.mono ?_
          rintro e w9 ⟨rfl, hb9⟩
          have hT9 := (hb9.block W2.heap.size s2X).trans HT.out
          have hR9 := (hb9.block w.heap.size (by omega)).trans HRb.out
          have HF9 : Hid (KeepP (fun k => k = g) w w9) := HF1.out.keep.trans (HF3.out.keep.then (hb9.mono sX))
          have HO9 : Hid (OwnA w.heap.size w9 (.slice none 0 0) []) := C.owns_below HO3.out hb9
          clear y0 y1 y2 y3 y4 y5 y6 y7 hb9 hrc
          have y0 : w9.cell? ⟨W2.heap.size, 0, none⟩ = some (.int .i64 4) := cell_at hT9
          have y1 : w9.cell? ⟨W2.heap.size, 1, none⟩ = some (.string ⟨#[]⟩) := cell_at hT9
          have y2 : w9.cell? ⟨W2.heap.size, 2, none⟩ = some (.string ⟨#[]⟩) := cell_at hT9
          have y3 : w9.cell? ⟨W2.heap.size, 3, none⟩ = some (.slice none 0 0) := cell_at hT9
          have y4 : w9.cell? ⟨W2.heap.size, 4, none⟩ = some (.bool false) := cell_at hT9
          have y5 : w9.cell? ⟨W2.heap.size, 5, none⟩ = some (.int .i64 0) := cell_at hT9
          have y6 : w9.cell? ⟨W2.heap.size, 6, none⟩ = some (.int .i64 0) := cell_at hT9
          have y7 : w9.cell? ⟨W2.heap.size, 7, none⟩ = some (.int .i64 0) := cell_at hT9
          have r0 : w9.cell? ⟨w.heap.size, 0, none⟩ = some (.int .i64 0) := cell_at hR9
          have r1 : w9.cell? ⟨w.heap.size, 1, none⟩ = some (.string ⟨#[]⟩) := cell_at hR9
          have r2 : w9.cell? ⟨w.heap.size, 2, none⟩ = some (.string ⟨#[]⟩) := cell_at hR9
          have r3 : w9.cell? ⟨w.heap.size, 3, none⟩ = some (.slice none 0 0) := cell_at hR9
          have r4 : w9.cell? ⟨w.heap.size, 4, none⟩ = some (.bool false) := cell_at hR9
          have r5 : w9.cell? ⟨w.heap.size, 5, none⟩ = some (.int .i64 0) := cell_at hR9
          have r6 : w9.cell? ⟨w.heap.size, 6, none⟩ = some (.int .i64 0) := cell_at hR9
          have r7 : w9.cell? ⟨w.heap.size, 7, none⟩ = some (.int .i64 0) := cell_at hR9
          have fz : ∀ i, w9.frozen? ⟨w.heap.size, i, none⟩ = false := fun i => frozen_at hR9
          have HR9 : Hid (w9.heap[w.heap.size]? = some (.cells #[.int .i64 0, .string ⟨#[]⟩, .string ⟨#[]⟩, .slice none 0 0, .bool false, .int .i64 0, .int .i64 0, .int .i64 0] 28 (0, 0))) := hR9
          clear hT9 hR9
          go_wp2
          all_goals exact bodyPost_ret (results_token rfl (put8_at HR9.out _ _ _ _ _ _ _ _)) rfl (.inl ⟨(⟨4, ⟨#[]⟩, ⟨#[]⟩, false, 0, 0, 0⟩ : T.Tok), [], .slice none 0 0, HN.out, rfl, OwnA.put8 HO9.out (OwnA.apart HO9.out HR9.out (by decide)) _ _ _ _ _ _ _ _, keep_put8 HF9.out (Nat.le_refl _) _ _ _ _ _ _ _ _⟩)
      · have q0 : RS.toList.isEmpty = false := by rw [Lib.toList_data, hRSd]; simpa using hr
        have HN : Hid (readP s = none) := by show _ = _; rw [HRD.out, HB.out]; simp only; rw [if_neg (fun h => hr h.1)]
        clear hr hRSd hRS hT3
        go_wp2_with (go_at_call 68; refine (giveUp_calls _).mono ?_; rintro e w10 ⟨rfl, h10⟩; obtain rfl := h10.symm)
        all_goals exact ⟨rfl, .inr ⟨HN.out, rfl, by rw [HW3.out]; exact HF1.out.keep.trans HF3.out.keep⟩⟩
end Go.Proofs.YtelfejbhlolppaaDoor.T
