/- What is proved here: the contracts of valid and Check of token: whether a token may be. -/
import Derived.Test.YtdkcibafbdmajabGreatDoorBun16
namespace Go.Proofs.YtdkcibafbdmajabGreatDoor.T
open Go.RowKit N

set_option maxRecDepth 100000 in
set_option maxHeartbeats 2000000 in
theorem valid_calls (t : Tok) (l : AL) (av : Value) (w : World) (hH : HasA w av l) (hl : SizesA l) (ht : t.Sizes) :
    Calls Tryz.prog 44 #[t.val av] w fun e w' => e = .returned (.bool (validB t l)) ∧ Below w.heap.size w w' := by
  obtain ⟨la, lc, rfl⟩ := hH.slice
  have HS : Hid (HasA w (.slice la l.length lc) l) := hH
  have HL : Hid (SizesA l) := hl
  have hnz := ht.1
  have hnt := ht.2
  have hll := hl.1
  clear hH hl ht
  obtain ⟨kind, name, text, self, p0, p1, p2⟩ := t
  unfold Tok.val
  simp only at hnz hnt ⊢
  have HV : Hid (validB ⟨kind, name, text, self, p0, p1, p2⟩ l = (validA l && utfB name.data.toList && utfB text.data.toList)) := rfl
  obtain ⟨W0, hW0⟩ : ∃ W0, w.alloc (.cells #[.int .i64 kind, .string name, .string text, .slice la l.length lc, .bool self, .int .i64 p0, .int .i64 p1, .int .i64 p2] 37) = W0 := ⟨_, rfl⟩
  have b0 : Below w.heap.size w W0 := by rw [← hW0]; exact (Below.refl _ w).alloc (Nat.le_refl _) _
  have hz0 : w.heap.size < W0.heap.size := by rw [← hW0]; simp
  have t1 : W0.cell? ⟨w.heap.size, 1, none⟩ = some (.string name) := by rw [← hW0, C.cell_new]; rfl
  have t2 : W0.cell? ⟨w.heap.size, 2, none⟩ = some (.string text) := by rw [← hW0, C.cell_new]; rfl
  have t3 : W0.cell? ⟨w.heap.size, 3, none⟩ = some (.slice la l.length lc) := by rw [← hW0, C.cell_new]; rfl
  have HB0 : Hid (Below w.heap.size w W0) := b0
  have HS0 : Hid (HasA W0 (.slice la l.length lc) l) := HS.out.below b0
  clear b0
  go_enter Tryz.func44, Tryz.ntmps44
  go_wp2
  go_loopw [4, 8] (fun _ i wr => ∃ k : Nat, k ≤ l.length ∧ i = .int .i64 k ∧ Hid (Below W0.heap.size W0 wr) ∧ Hid (validA (l.take k) = true)) (fun _ i _ => l.length - (intOf i).toNat)
  case atStart => exact ⟨0, by omega, rfl, Below.refl _ _, by simp [Hid, validA]⟩
  case round =>
    obtain ⟨k, hk, rfl, hB, hv⟩ := hrel
    have s1 := hB.out.size
    by_cases hlt : k < l.length
    · obtain ⟨b, off, rfl, d0, d1⟩ := (HS0.out.below hB.out).at k hlt
      have hz1 := HL.out.2 l[k] (List.getElem_mem _)
      rcases hx : l[k] with ⟨n, x⟩
      rw [hx] at d0 d1 hz1
      simp only at d0 d1 hz1
      have hzn := hz1.1
      have hzx := hz1.2
      have HN : Hid (validA (l.take (k + 1)) = (utfB n.data.toList && utfB x.data.toList)) := by
        have h := hv.out
        show _ = _
        unfold validA at h ⊢
        rw [List.take_succ_eq_append_getElem hlt, List.all_append, h]
        simp [hx]
      have HF : Hid ((utfB n.data.toList && utfB x.data.toList) = false → validB ⟨kind, name, text, self, p0, p1, p2⟩ l = false) := fun h => by
        rw [HV.out]
        rw [show validA l = false from List.all_eq_false.2 ⟨l[k], List.getElem_mem _, by rw [hx]; simp only [h]; simp⟩]
        rfl
      clear hx hv hz1
      obtain ⟨W1, hW1⟩ : ∃ W1, wr.alloc (.cells #[.string n, .string x] 53) = W1 := ⟨_, rfl⟩
      have b1 : Below wr.heap.size wr W1 := by rw [← hW1]; exact (Below.refl _ wr).alloc (Nat.le_refl _) _
      have u0 : W1.cell? ⟨wr.heap.size, 0, none⟩ = some (.string n) := by rw [← hW1, C.cell_new]; rfl
      have u1 : W1.cell? ⟨wr.heap.size, 1, none⟩ = some (.string x) := by rw [← hW1, C.cell_new]; rfl
      have hzw : wr.heap.size < W1.heap.size := by rw [← hW1]; simp
      have HB1 : Hid (Below W0.heap.size W0 W1) := hB.out.trans (b1.mono s1)
      clear b1
      obtain ⟨P, hP⟩ : ∃ P, utfB n.data.toList = P := ⟨_, rfl⟩
      obtain ⟨R, hR⟩ : ∃ R, utfB x.data.toList = R := ⟨_, rfl⟩
      have C1 : Hid (Calls Tryz.prog 68 #[.string n] W1 fun e w' => e = .returned (.bool P) ∧ Below W1.heap.size W1 w') := by rw [← hP]; exact isUtf_calls n W1 (by omega)
      have C2 : Hid (∀ W, Calls Tryz.prog 68 #[.string x] W fun e w' => e = .returned (.bool R) ∧ Below W.heap.size W w') := fun W => by rw [← hR]; exact isUtf_calls x W (by omega)
      rw [hP, hR] at HN HF
      clear hP hR
      cases P with
      | false =>
        go_wp2_with (go_at_call 68; refine C1.out.mono ?_; rintro e w2 ⟨rfl, hb2⟩)
        all_goals go_ret
        all_goals exact ⟨ret_bool (HF.out rfl).symm, HB0.out.trans ((HB1.out.trans (hb2.mono HB1.out.size)).mono HB0.out.size)⟩
      | true =>
        go_wp2_with fail
        refine C1.out.mono ?_
        rintro e w2 ⟨rfl, hb2⟩
        have u1' := (hb2.cell (p := ⟨wr.heap.size, 1, none⟩) hzw).trans u1
        have HB2 : Hid (Below W0.heap.size W0 w2) := HB1.out.trans (hb2.mono HB1.out.size)
        clear hb2
        cases R with
        | false =>
          go_wp2_with (go_at_call 68; refine (C2.out _).mono ?_; rintro e w3 ⟨rfl, hb3⟩)
          all_goals go_ret
          all_goals exact ⟨ret_bool (HF.out rfl).symm, HB0.out.trans ((HB2.out.trans (hb3.mono HB2.out.size)).mono HB0.out.size)⟩
        | true =>
          go_wp2_with (go_at_call 68; refine (C2.out _).mono ?_; rintro e w3 ⟨rfl, hb3⟩)
          have HB3 : Hid (Below W0.heap.size W0 w3) := HB2.out.trans (hb3.mono HB2.out.size)
          go_roundw
          case rel => exact ⟨k + 1, by omega, by go_num, HB3, HN⟩
          case measure => simp [intOf]; omega
    · obtain rfl : k = l.length := by omega
      have hva : validA l = true := by have := hv.out; rwa [List.take_length] at this
      have HV2 : Hid (validB ⟨kind, name, text, self, p0, p1, p2⟩ l = (utfB name.data.toList && utfB text.data.toList)) := by rw [HV.out, hva]; rfl
      obtain ⟨P, hP⟩ : ∃ P, utfB name.data.toList = P := ⟨_, rfl⟩
      obtain ⟨R, hR⟩ : ∃ R, utfB text.data.toList = R := ⟨_, rfl⟩
      have C1 : Hid (Calls Tryz.prog 68 #[.string name] wr fun e w' => e = .returned (.bool P) ∧ Below wr.heap.size wr w') := by rw [← hP]; exact isUtf_calls name wr (by omega)
      have C2 : Hid (∀ W, Calls Tryz.prog 68 #[.string text] W fun e w' => e = .returned (.bool R) ∧ Below W.heap.size W w') := fun W => by rw [← hR]; exact isUtf_calls text W (by omega)
      rw [hP, hR] at HV2
      clear hP hR hva hv
      have u1 := (hB.out.cell (p := ⟨w.heap.size, 1, none⟩) hz0).trans t1
      have u2 := (hB.out.cell (p := ⟨w.heap.size, 2, none⟩) hz0).trans t2
      cases P with
      | false =>
        go_wp2_with (go_at_call 68; refine C1.out.mono ?_; rintro e w2 ⟨rfl, hb2⟩)
        all_goals go_ret
        all_goals exact ⟨ret_bool (by rw [HV2.out]; rfl), HB0.out.trans ((hB.out.trans (hb2.mono hB.out.size)).mono HB0.out.size)⟩
      | true =>
        go_wp2_with fail
        refine C1.out.mono ?_
        rintro e w2 ⟨rfl, hb2⟩
        have u2' := (hb2.cell (p := ⟨w.heap.size, 2, none⟩) (by show w.heap.size < _; omega)).trans u2
        have HB2 : Hid (Below W0.heap.size W0 w2) := hB.out.trans (hb2.mono hB.out.size)
        clear hb2
        go_wp2_with (go_at_call 68; refine (C2.out _).mono ?_; rintro e w3 ⟨rfl, hb3⟩)
        all_goals go_ret
        all_goals exact ⟨ret_bool (by rw [HV2.out]; rfl), HB0.out.trans ((HB2.out.trans (hb3.mono HB2.out.size)).mono HB0.out.size)⟩

/-- The error's number. -/
def okZ (b : Bool) : Int := match b with | true => 0 | false => 70

set_option maxRecDepth 100000 in
set_option maxHeartbeats 2000000 in
/-- **Check of any token.** -/
theorem check_calls (t : Tok) (l : AL) (av : Value) (w : World) (hH : HasA w av l) (hl : SizesA l) (ht : t.Sizes) :
    Calls Tryz.prog 27 #[t.val av] w fun e w' => e = .returned (.int .i64 (okZ (checkB t l))) ∧ Below w.heap.size w w' := by
  have hfs : t.val av = .agg #[.int .i64 t.kind, .string t.name, .string t.text, av, .bool t.self, .int .i64 t.p0, .int .i64 t.p1, .int .i64 t.p2] := rfl
  obtain ⟨W0, hW0⟩ : ∃ W0, w.alloc (.cells #[.int .i64 t.kind, .string t.name, .string t.text, av, .bool t.self, .int .i64 t.p0, .int .i64 t.p1, .int .i64 t.p2] 37) = W0 := ⟨_, rfl⟩
  have b0 : Below w.heap.size w W0 := by rw [← hW0]; exact (Below.refl _ w).alloc (Nat.le_refl _) _
  have hz0 : w.heap.size < W0.heap.size := by rw [← hW0]; simp
  have t0 : W0.cell? ⟨w.heap.size, 0, none⟩ = some (.int .i64 t.kind) := by rw [← hW0, C.cell_new]; rfl
  have t1 : W0.cell? ⟨w.heap.size, 1, none⟩ = some (.string t.name) := by rw [← hW0, C.cell_new]; rfl
  have t2 : W0.cell? ⟨w.heap.size, 2, none⟩ = some (.string t.text) := by rw [← hW0, C.cell_new]; rfl
  have t3 : W0.cell? ⟨w.heap.size, 3, none⟩ = some av := by rw [← hW0, C.cell_new]; rfl
  have t4 : W0.cell? ⟨w.heap.size, 4, none⟩ = some (.bool t.self) := by rw [← hW0, C.cell_new]; rfl
  have t5 : W0.cell? ⟨w.heap.size, 5, none⟩ = some (.int .i64 t.p0) := by rw [← hW0, C.cell_new]; rfl
  have t6 : W0.cell? ⟨w.heap.size, 6, none⟩ = some (.int .i64 t.p1) := by rw [← hW0, C.cell_new]; rfl
  have t7 : W0.cell? ⟨w.heap.size, 7, none⟩ = some (.int .i64 t.p2) := by rw [← hW0, C.cell_new]; rfl
  have C1 : Hid (Calls Tryz.prog 43 #[.agg #[.int .i64 t.kind, .string t.name, .string t.text, av, .bool t.self, .int .i64 t.p0, .int .i64 t.p1, .int .i64 t.p2]] W0 fun e w' => e = .returned (.bool (fitsB t l)) ∧ Below W0.heap.size W0 w') := fits_calls t l av W0 (hH.below b0) hl ht
  have C2 : Hid (∀ W, Below W0.heap.size W0 W → Calls Tryz.prog 44 #[.agg #[.int .i64 t.kind, .string t.name, .string t.text, av, .bool t.self, .int .i64 t.p0, .int .i64 t.p1, .int .i64 t.p2]] W fun e w' => e = .returned (.bool (validB t l)) ∧ Below W.heap.size W w') := fun W hb => valid_calls t l av W ((hH.below b0).below hb) hl ht
  have HB0 : Hid (Below w.heap.size w W0) := b0
  have HC : Hid (checkB t l = (fitsB t l && validB t l)) := rfl
  rw [hfs]
  clear hfs hH b0 hl ht
  obtain ⟨P, hP⟩ : ∃ P, fitsB t l = P := ⟨_, rfl⟩
  obtain ⟨R, hR⟩ : ∃ R, validB t l = R := ⟨_, rfl⟩
  rw [hP] at C1 HC
  rw [hR] at C2 HC
  clear hP hR
  go_enter Tryz.func27, Tryz.ntmps27
  cases P with
  | false =>
    go_wp2_with (go_at_call 43; refine C1.out.mono ?_; rintro e w2 ⟨rfl, hb2⟩)
    all_goals go_ret
    all_goals exact ⟨by rw [HC.out]; rfl, HB0.out.trans (hb2.mono HB0.out.size)⟩
  | true =>
    go_wp2_with fail
    refine C1.out.mono ?_
    rintro e w2 ⟨rfl, hb2⟩
    have C3 := C2.out w2 hb2
    have C4 : Hid (Calls Tryz.prog 44 #[.agg #[.int .i64 t.kind, .string t.name, .string t.text, av, .bool t.self, .int .i64 t.p0, .int .i64 t.p1, .int .i64 t.p2]] w2 fun e w' => e = .returned (.bool R) ∧ Below w2.heap.size w2 w') := C3
    have u0 := (hb2.cell (p := ⟨w.heap.size, 0, none⟩) hz0).trans t0
    have u1 := (hb2.cell (p := ⟨w.heap.size, 1, none⟩) hz0).trans t1
    have u2 := (hb2.cell (p := ⟨w.heap.size, 2, none⟩) hz0).trans t2
    have u3 := (hb2.cell (p := ⟨w.heap.size, 3, none⟩) hz0).trans t3
    have u4 := (hb2.cell (p := ⟨w.heap.size, 4, none⟩) hz0).trans t4
    have u5 := (hb2.cell (p := ⟨w.heap.size, 5, none⟩) hz0).trans t5
    have u6 := (hb2.cell (p := ⟨w.heap.size, 6, none⟩) hz0).trans t6
    have u7 := (hb2.cell (p := ⟨w.heap.size, 7, none⟩) hz0).trans t7
    have HB2 : Hid (Below w.heap.size w w2) := HB0.out.trans (hb2.mono HB0.out.size)
    clear hb2 C2 C3 C1
    go_wp2_with (go_at_call 44; refine C4.out.mono ?_; rintro e w3 ⟨rfl, hb3⟩)
    all_goals go_ret
    all_goals exact ⟨by rw [HC.out]; simp_all [okZ], HB2.out.trans (hb3.mono HB2.out.size)⟩
end Go.Proofs.YtdkcibafbdmajabGreatDoor.T
