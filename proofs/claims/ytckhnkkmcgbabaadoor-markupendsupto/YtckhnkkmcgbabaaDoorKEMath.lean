/- What is proved here: plain facts on ends of comments: what a closed one says has none in it; what stands behind the end does not count; a text without the signs that matter is said. And the contract of the law's has. -/
import Derived.Test.YtckhnkkmcgbabaaDoorKLives
namespace Go.Proofs.YtckhnkkmcgbabaaDoor.K
open Go.RowKit Go.Shelf Go.Proofs.YtckhnkkmcgbabaaDoor.U

/-- Does a text have another one in it? -/
def hasB (p : List UInt8) : List UInt8 → Bool
  | [] => pfx p []
  | b :: t => pfx p (b :: t) || hasB p t
theorem hasB_short (p : List UInt8) : ∀ s : List UInt8, s.length < p.length → hasB p s = false
  | [], h => by
    unfold hasB pfx
    cases p with
    | nil => simp at h
    | cons x p => rfl
  | b :: t, h => by
    have h1 : pfx p (b :: t) = false := by
      unfold pfx
      rw [Bool.eq_false_iff]
      intro h'
      rw [List.isPrefixOf_iff_prefix] at h'
      have := h'.length_le
      omega
    rw [hasB, h1, hasB_short p t (by simp at h ⊢; omega)]; rfl
theorem hasB_drop (p s : List UInt8) (k : Nat) (hk : k < s.length) : hasB p (s.drop k) = (pfx p (s.drop k) || hasB p (s.drop (k + 1))) := by
  rw [drop_head s k hk]; rfl
set_option maxRecDepth 100000 in
set_option maxHeartbeats 2000000 in
/-- **has.** -/
theorem has_calls (bs p : List UInt8) (w : World) (hs : bs.length ≤ 1000000000) (hp : p.length ≤ 1000) (hp0 : 0 < p.length) :
    Calls Tryd.prog 18 #[.string ⟨bs.toArray⟩, .string ⟨p.toArray⟩] w fun e w' => e = .returned (.bool (hasB p bs)) ∧ Below w.heap.size w w' := by
  have hz1 := byteArr_size bs
  have hz2 := byteArr_size p
  go_enter Tryd.func18, Tryd.ntmps18
  go_wp2
  go_loopw [5] (fun i wr => ∃ k : Nat, k ≤ bs.length ∧ i = .int .i64 k ∧ Hid (hasB p bs = hasB p (bs.drop k)) ∧ Below w.heap.size w wr) (fun i _ => bs.length - (intOf i).toNat)
  case atStart => exact ⟨0, by omega, rfl, rfl, Below.refl _ _⟩
  case round =>
    obtain ⟨k, hk, rfl, hR, hB⟩ := hrel
    have hwr : IntKind.i64.wrap ((k : Int) + (p.length : Int)) = (k : Int) + (p.length : Int) := by rw [IntKind.wrap_i64]; omega
    by_cases hle : k + p.length ≤ bs.length
    · have hd : decide ((k : Int) + (p.length : Int) ≤ (bs.length : Int)) = true := by rw [decide_eq_true_eq]; omega
      obtain ⟨Y, hY⟩ : ∃ Y : ByteArray, (⟨bs.toArray⟩ : ByteArray).extract k (k + p.length) = Y := ⟨_, rfl⟩
      have hsl : ∀ w, (Instr.slice 9 (.string ⟨bs.toArray⟩) (some (.int .i64 k)) (some (.int .i64 ((k : Int) + (p.length : Int)))) none).run Tryd.prog w = .ok (.string Y) w := fun w => by
        rw [run_slice_string w 9 ⟨bs.toArray⟩ .i64 .i64 k ((k : Int) + (p.length : Int)) Tryd.underlying9 (by omega) (by omega) (by rw [hz1]; omega), ← hY]; rfl
      obtain ⟨b, hb⟩ : ∃ b, (Y.toList == p) = b := ⟨_, rfl⟩
      have hbv : Hid (pfx p (bs.drop k) = b) := by
        show pfx p (bs.drop k) = b
        rw [← hb, ← hY, Lib.toList_data, ByteArray.data_extract, Array.toList_extract, List.extract_eq_take_drop]
        rw [show k + p.length - k = p.length by omega]
        exact pre_take p (bs.drop k)
      have HR : Hid (hasB p bs = (b || hasB p (bs.drop (k + 1)))) := by
        show hasB p bs = _
        rw [hR.out, hasB_drop p bs k (by omega), hbv.out]
      clear hY hR hbv
      cases b with
      | true =>
        go_wp2
        go_ret
        exact ⟨ret_is (by rw [HR.out]; rfl), hB⟩
      | false =>
        go_wp2
        go_roundw
        case rel => exact ⟨k + 1, by omega, by go_num, by show hasB p bs = _; rw [HR.out]; rfl, hB⟩
        case measure => simp [intOf]; omega
    · have hd : decide ((k : Int) + (p.length : Int) ≤ (bs.length : Int)) = false := by rw [decide_eq_false_iff_not]; omega
      go_wp2
      go_ret
      exact ⟨ret_is (by rw [hR.out, hasB_short p _ (by simp; omega)]; rfl), hB⟩

theorem R_some : ∀ (l : List Int) (q i a n : Nat), q ≠ 9 → R q l i = some (a, n) → ∃ X z m, l = X ++ z :: m ∧ n = i + X.length + 1 ∧ run q X ≠ 9 ∧ dl (run q X) (cl z) = 9 ∧ a = i + X.length - pend (run q X)
  | [], _, _, _, _, _, h => by cases h
  | z :: l, q, i, a, n, h9, h => by
    rw [R_cons] at h
    split at h
    · rename_i hc
      simp only [Option.some.injEq, Prod.mk.injEq] at h
      exact ⟨[], z, l, rfl, by simp [h.2.symm], h9, hc, by simp [h.1.symm, run_nil]⟩
    · rename_i hc
      obtain ⟨X, y, m, e1, e2, e3, e4, e5⟩ := R_some l _ _ _ _ hc h
      exact ⟨z :: X, y, m, by rw [e1]; rfl, by rw [e2]; simp only [List.length_cons]; omega, by rw [run_cons]; exact e3, by rw [run_cons]; exact e4, by rw [run_cons, e5]; simp only [List.length_cons]; omega⟩
theorem run_pre {q : Nat} {l m : List Int} (h : run q (l ++ m) ≠ 9) : run q l ≠ 9 := fun e => h (by rw [run_append, e]; exact run_nine m)
/-- Where a comment is closed. -/
theorem closed_facts (s : List UInt8) (a n : Nat) (h : endK 0 s = some (a, n)) : ∃ Z m, s = Z ++ m ∧ n = Z.length + 1 ∧ n ≤ s.length ∧ a ≤ Z.length ∧ run 3 (zs Z) ≠ 9 ∧ (∀ t, endK 0 (s.take n ++ t) = some (a, n)) := by
  have hr := h
  rw [← endK_R] at hr
  obtain ⟨X, z, m, e1, e2, e3, e4, e5⟩ := R_some _ _ _ _ _ (start_ne 0) hr
  have hle := endK_le h
  have hX : X = zs (s.take X.length) := by
    have h1 := congrArg (List.take X.length) e1
    rw [List.take_left] at h1
    have h2 : zs (s.take X.length) = (zs s).take X.length := by unfold zs; rw [List.map_take]
    rw [h2]
    exact h1.symm
  have hn : n = X.length + 1 := by omega
  refine ⟨s.take X.length, s.drop X.length, (List.take_append_drop _ _).symm, ?_, hle.2.2, ?_, ?_, ?_⟩
  · rw [List.length_take]; omega
  · rw [List.length_take]; omega
  · rw [← hX]; exact e3
  · intro t
    rw [← endK_R, zs_append]
    have h1 : zs (s.take n) = X ++ [z] := by
      have h2 : zs (s.take n) = (zs s).take n := by unfold zs; rw [List.map_take]
      rw [h2, e1, hn, List.take_append, List.take_of_length_le (by omega)]
      simp
    rw [h1, List.append_assoc, List.singleton_append, R_close X (start 0) 0 z (zs t) e3 e4, e5, e2]
theorem scanC_none : ∀ (s : List UInt8) (i : Nat), scanC s i = none → hasB [45, 45, 62] s = false ∧ hasB [45, 45, 33, 62] s = false
  | [], _, _ => ⟨rfl, rfl⟩
  | b :: t, i, h => by
    unfold scanC at h
    split at h
    · cases h
    · split at h
      · cases h
      · rename_i h1 h2
        obtain ⟨i1, i2⟩ := scanC_none t _ h
        have h1' : pfx [45, 45, 62] (b :: t) = false := by simpa using h1
        have h2' : pfx [45, 45, 33, 62] (b :: t) = false := by simpa using h2
        exact ⟨by rw [hasB, i1, h1']; rfl, by rw [hasB, i2, h2']; rfl⟩
/-- **What a closed comment says has no end in it.** -/
theorem no_end (s : List UInt8) (a n : Nat) (h : endK 0 s = some (a, n)) (T : List UInt8) (hT : T = encs (runesI (s.take a))) :
    hasB [45, 45, 62] T = false ∧ hasB [45, 45, 33, 62] T = false ∧ pfx [62] T = false ∧ pfx [45, 62] T = false := by
  obtain ⟨Z, m, e1, e2, e3, e4, e5, _⟩ := closed_facts s a n h
  have h9 : run 3 (zs T) ≠ 9 := by
    rw [hT, run_encs _ _ ⟨by omega, by omega⟩, ← run_bytes ⟨by omega, by omega⟩]
    have : Z = s.take a ++ Z.drop a := by
      rw [e1, List.take_append_of_le_length e4, List.take_append_drop]
    rw [this, zs_append] at e5
    exact run_pre e5
  have he : endC T = none := by rw [← endC_R]; exact R_none _ _ _ h9
  unfold endC at he
  split at he
  · cases he
  · split at he
    · cases he
    · rename_i h1 h2
      obtain ⟨i1, i2⟩ := scanC_none T 0 he
      exact ⟨i1, i2, by simpa using h1, by simpa using h2⟩
theorem hasB_one (c : UInt8) : ∀ s : List UInt8, hasB [c] s = false → c ∉ s
  | [], _ => by simp
  | b :: t, h => by
    rw [hasB, Bool.or_eq_false_iff] at h
    have h1 : ¬ c = b := by
      have := h.1
      rw [pfx_one] at this
      simpa using this
    simp only [List.mem_cons, not_or]
    exact ⟨h1, hasB_one c t h.2⟩
theorem run_plain : ∀ (s : List UInt8) (q : Nat), q = 3 ∨ q = 5 → (45 : UInt8) ∉ s → (62 : UInt8) ∉ s → run q (zs s) = 3 ∨ run q (zs s) = 5
  | [], _, h, _, _ => h
  | b :: t, q, h, h1, h2 => by
    simp only [List.mem_cons, not_or] at h1 h2
    rw [zs_cons, run_cons]
    refine run_plain t _ ?_ h1.2 h2.2
    rcases byte_cases b with ⟨e, _⟩ | ⟨e, k⟩ | ⟨e, _⟩ | ⟨_, _, _, k⟩
    · exact absurd e.symm h1.1
    · rw [k]; rcases h with rfl | rfl <;> exact .inr rfl
    · exact absurd e.symm h2.1
    · rw [k]; rcases h with rfl | rfl <;> exact .inr rfl
/-- **A text without the signs that matter is said.** -/
theorem plain_end (s : List UInt8) (h1 : hasB [45] s = false) (h2 : hasB [62] s = false) : endK 0 (s ++ [45, 45, 62]) = some (s.length, s.length + 3) := by
  have hr := run_plain s 3 (.inl rfl) (hasB_one _ s h1) (hasB_one _ s h2)
  rw [← endK_R, show s ++ [45, 45, 62] = (s ++ [45, 45]) ++ [62] by simp, zs_append]
  have h7 : run 3 (zs (s ++ [45, 45])) = 7 := by
    rw [zs_append, run_append]
    rcases hr with e | e <;> rw [e] <;> rfl
  have hc := R_close (zs (s ++ [45, 45])) 3 0 62 [] (by rw [h7]; decide) (by rw [h7]; rfl)
  rw [h7, zs_length] at hc
  simp only [List.length_append, List.length_cons, List.length_nil] at hc
  rw [show pend 7 = 2 from rfl] at hc
  rw [show start 0 = 3 from rfl, show zs [62] = [62] from rfl, hc]
  congr 2 <;> omega
end Go.Proofs.YtckhnkkmcgbabaaDoor.K
