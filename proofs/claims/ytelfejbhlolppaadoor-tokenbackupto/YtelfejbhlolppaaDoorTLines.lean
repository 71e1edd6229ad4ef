/- What is proved here: the contract of Lines of sieveref07, and that token's Parse goes through the same lines. -/
import Derived.Test.YtelfejbhlolppaaDoorBun11
import Derived.Test.YtelfejbhlolppaaDoorTParse
namespace Go.Proofs.YtelfejbhlolppaaDoor.T
open Go.RowKit N

def linesF : Nat → List UInt8 → List (List UInt8)
  | 0, _ => []
  | f + 1, s => if s = [] then [] else lineP s :: linesF f (restP s)
theorem linesF_more : ∀ (n f g : Nat) (s : List UInt8), s.length ≤ n → s.length < f → s.length < g → linesF f s = linesF g s := by
  intro n
  induction n with
  | zero =>
    intro f g s hs hf hg
    obtain rfl : s = [] := List.length_eq_zero_iff.1 (by omega)
    obtain ⟨f, rfl⟩ : ∃ k, f = k + 1 := ⟨f - 1, by omega⟩
    obtain ⟨g, rfl⟩ : ∃ k, g = k + 1 := ⟨g - 1, by omega⟩
    simp [linesF]
  | succ n ih =>
    intro f g s hs hf hg
    obtain ⟨f, rfl⟩ : ∃ k, f = k + 1 := ⟨f - 1, by omega⟩
    obtain ⟨g, rfl⟩ : ∃ k, g = k + 1 := ⟨g - 1, by omega⟩
    by_cases h0 : s = []
    · simp [linesF, h0]
    · have hr := restP_len s h0
      simp only [linesF, h0, if_false]
      rw [ih f g (restP s) (by omega) (by omega) (by omega)]
/-- A text's lines. -/
def linesOf (s : List UInt8) : List (List UInt8) := linesF (s.length + 1) s
theorem linesOf_nil : linesOf [] = [] := by simp [linesOf, linesF]
theorem linesOf_cons (s : List UInt8) (h : s ≠ []) : linesOf s = lineP s :: linesOf (restP s) := by
  have hr := restP_len s h
  unfold linesOf
  rw [linesF, if_neg h, linesF_more s.length s.length ((restP s).length + 1) (restP s) (by omega) (by omega) (by omega)]
theorem lineP_at (u r : List UInt8) (h : (10 : UInt8) ∉ u) : lineP (u ++ 10 :: r) = u ∧ restP (u ++ 10 :: r) = r := by
  unfold lineP restP
  induction u with
  | nil => simp
  | cons c t ih =>
    simp only [List.mem_cons, not_or] at h
    have hc : (c != 10) = true := by simpa using fun e => h.1 e.symm
    obtain ⟨i1, i2⟩ := ih h.2
    rw [List.cons_append, List.takeWhile_cons, List.dropWhile_cons, hc]
    simp only [if_true]
    exact ⟨by rw [i1], i2⟩
theorem lineP_all (u : List UInt8) (h : (10 : UInt8) ∉ u) : lineP u = u ∧ restP u = [] := by
  unfold lineP restP
  induction u with
  | nil => simp
  | cons c t ih =>
    simp only [List.mem_cons, not_or] at h
    have hc : (c != 10) = true := by simpa using fun e => h.1 e.symm
    obtain ⟨i1, i2⟩ := ih h.2
    rw [List.takeWhile_cons, List.dropWhile_cons, hc]
    simp only [if_true]
    exact ⟨by rw [i1], i2⟩
theorem lines_at (l : List UInt8) (fr k : Nat) (hf : fr ≤ k) (hk : k < l.length) (hn : (10 : UInt8) ∉ N.part l fr k) (hc : l.getD k 0 = 10) : linesOf (l.drop fr) = N.part l fr k :: linesOf (l.drop (k + 1)) := by
  have e : l.drop fr = N.part l fr k ++ 10 :: l.drop (k + 1) := by
    have h1 := drop_step l k hk
    rw [hc] at h1
    rw [← h1]
    unfold N.part
    have h2 : l.drop k = (l.drop fr).drop (k - fr) := by rw [List.drop_drop]; congr 1; omega
    rw [h2, List.take_append_drop]
  have hne : l.drop fr ≠ [] := fun h => by rw [h] at e; simp at e
  rw [linesOf_cons _ hne, e, (lineP_at _ _ hn).1, (lineP_at _ _ hn).2]
theorem lines_end (u : List UInt8) (h0 : u ≠ []) (h : (10 : UInt8) ∉ u) : linesOf u = [u] := by
  rw [linesOf_cons _ h0, (lineP_all u h).1, (lineP_all u h).2, linesOf_nil]

set_option maxRecDepth 100000 in
set_option maxHeartbeats 2000000 in
/-- **Lines.** -/
theorem rlines_calls (s : ByteArray) (w : World) (hs : s.size ≤ 1048576) :
    Calls Tryd.prog 41 #[.string s] w fun e W' => ∃ v, e = .returned v ∧ N.OwnT w.heap.size W' v (linesOf s.data.toList) ∧ Below w.heap.size w W' := by
  obtain ⟨i0, hi, hz0, hz1, hz2⟩ := N.info_parts infoStr
  have HZ : Hid (s.data.toList.length = s.size) := size_data s
  obtain ⟨l, hl⟩ : ∃ l, s.data.toList = l := ⟨_, rfl⟩
  have HL : Hid (s.data.toList = l) := hl
  have HN : Hid (l.length = s.size) := by rw [← hl]; exact HZ.out
  rw [hl]
  clear hl
  go_enter Tryd.func41, Tryd.ntmps41
  go_wp2_with fail
  go_loopw [3, 4, 5] (fun v f i wr => ∃ (k fr : Nat) (L : List (List UInt8)), k ≤ s.size ∧ fr ≤ k ∧ L.length ≤ k ∧ i = .int .i64 k ∧ f = .int .i64 fr ∧ Hid (N.OwnT w.heap.size wr v L) ∧ Below w.heap.size w wr ∧ Hid (L ++ linesOf (l.drop fr) = linesOf l) ∧ Hid ((10 : UInt8) ∉ N.part l fr k)) (fun _ _ i _ => s.size - (intOf i).toNat)
  case atStart => exact ⟨0, 0, [], by omega, by omega, by simp, rfl, rfl, World.ownsRow_nil _ _ _ _, Below.refl _ _, by show _ = _; simp, by show _ ∉ _; simp [part_none]⟩
  case round =>
    obtain ⟨k, fr, L, hk, hf, hL, rfl, rfl, hO, hB, hE, hP⟩ := hrel
    have s1 := hB.size
    obtain ⟨va, vc, rfl⟩ := C.owns_slice hO.out
    by_cases hlt : k < s.size
    · obtain ⟨c, hcc⟩ : ∃ c, l.getD k 0 = c := ⟨_, rfl⟩
      have hix : ∀ w, (Instr.index 9 (.string s) (.int .i64 k)).run Tryd.prog w = .ok (.int .u8 c.toNat) w := fun w => run_byte w _ s _ k k c Tryd.underlying9 rfl hlt (by rw [HL.out]; exact hcc)
      have hkl : Hid (k < l.length) := by have := HN.out; show k < l.length; omega
      have e10 := u8_beq c 10 (by omega)
      by_cases c10 : c = 10
      · have q10 : ((c.toNat : Int) == 10) = true := by rw [show (10 : Int) = ((10 : Nat) : Int) from rfl, e10]; simpa using c10
        have HA := lines_at l fr k hf hkl.out hP.out (by rw [hcc]; exact c10)
        obtain ⟨X, hX⟩ : ∃ X, s.extract fr k = X := ⟨_, rfl⟩
        have hsl : ∀ w, (Instr.slice 9 (.string s) (some (.int .i64 fr)) (some (.int .i64 k)) none).run Tryd.prog w = .ok (.string X) w := fun w => by
          rw [run_slice_string w 9 s .i64 .i64 fr k Tryd.underlying9 (by omega) (by omega) (by omega), ← hX]; rfl
        have HXP : Hid (X = ⟨(N.part l fr k).toArray⟩) := by show _ = _; rw [← hX, part_extract, HL.out]
        have HE2 : Hid (L ++ [N.part l fr k] ++ linesOf (l.drop (k + 1)) = linesOf l) := by
          show _ = _
          rw [← hE.out, HA]; simp
        clear hX e10 c10 hcc HA
        go_wp2_with (at_builtin; refine wpList_append_own _ rfl _ _ 73 rfl w.heap.size 9 i0 (.string ⟨#[]⟩) 1 16 Tryd.underlying73 hi hz0 hz1 hz2 rfl (by decide) _ _ _ rfl (World.ownsRow.alloc hO.out _) ⟨wr.heap.size, 0, none⟩ 1 1 [_] rfl rfl (cell_one _ _ _ _ rfl) (by simp [Value.oneCell']) (by unfold maxLen; omega) (by omega) (by simp; omega) ?_; intro v' w4 hown' hgrow _; obtain ⟨a4, c4, rfl⟩ := C.owns_slice hown')
        all_goals (
          have HO4 : Hid (N.OwnT w.heap.size w4 (.slice a4 (L.length + 1) c4) (L ++ [N.part l fr k])) := by
            show w4.ownsRow _ _ _ _ _ _
            rw [svs_append, List.length_append]
            rw [HXP.out] at hown'
            exact hown'
          have HB4 : Below w.heap.size w w4 := (hB.alloc (by omega) _).grown hgrow (by simp; omega) (fun j hj => (World.ownsRow.lt hO.out j hj).1)
          first
          | exact ⟨⟨k + 1, k + 1, L ++ [N.part l fr k], by omega, by omega, by simp; omega, by go_num, by go_num, HO4, HB4, HE2, by show _ ∉ _; simp [part_none]⟩, by simp [intOf]; omega⟩
          | (go_roundw
             case rel => exact ⟨k + 1, k + 1, L ++ [N.part l fr k], by omega, by omega, by simp; omega, by go_num, by go_num, HO4, HB4, HE2, by show _ ∉ _; simp [part_none]⟩
             case measure => simp [intOf]; omega)
          | trace_state)
      · have q10 : ((c.toNat : Int) == 10) = false := by rw [show (10 : Int) = ((10 : Nat) : Int) from rfl, e10]; simpa using c10
        have HP2 : Hid ((10 : UInt8) ∉ N.part l fr (k + 1)) := by
          show _ ∉ _
          rw [part_succ l fr k hf hkl.out, hcc, List.mem_append]
          rintro (h | h)
          · exact hP.out h
          · simp at h; exact c10 h.symm
        clear e10 c10 hcc
        go_wp2
        all_goals first
          | exact ⟨⟨k + 1, fr, L, by omega, by omega, by omega, by go_num, rfl, hO, hB, hE, HP2⟩, by simp [intOf]; omega⟩
          | (go_roundw
             case rel => exact ⟨k + 1, fr, L, by omega, by omega, by omega, by go_num, rfl, hO, hB, hE, HP2⟩
             case measure => simp [intOf]; omega)
          | trace_state
    · obtain rfl : k = s.size := by omega
      have HPE : N.part l fr s.size = l.drop fr := by rw [← HN.out, part_end]
      by_cases hfk : fr < s.size
      · obtain ⟨X, hX⟩ : ∃ X, s.extract fr s.size = X := ⟨_, rfl⟩
        have hsl : ∀ w, (Instr.slice 9 (.string s) (some (.int .i64 fr)) none none).run Tryd.prog w = .ok (.string X) w := fun w => by
          rw [run_slice_string_l w 9 s Tryd.underlying9 .i64 fr (by omega) (by omega), ← hX]; rfl
        have HXP : Hid (X = ⟨(N.part l fr s.size).toArray⟩) := by show _ = _; rw [← hX, part_extract, HL.out]
        have HE2 : Hid (L ++ [N.part l fr s.size] = linesOf l) := by
          show _ = _
          rw [← hE.out, HPE, lines_end]
          · intro h; have := congrArg List.length h; rw [List.length_drop] at this; have := HN.out; simp at *; omega
          · rw [← HPE]; exact hP.out
        clear hX HPE
        go_wp2_with (at_builtin; refine wpList_append_own _ rfl _ _ 73 rfl w.heap.size 9 i0 (.string ⟨#[]⟩) 1 16 Tryd.underlying73 hi hz0 hz1 hz2 rfl (by decide) _ _ _ rfl (World.ownsRow.alloc hO.out _) ⟨wr.heap.size, 0, none⟩ 1 1 [_] rfl rfl (cell_one _ _ _ _ rfl) (by simp [Value.oneCell']) (by unfold maxLen; omega) (by omega) (by simp; omega) ?_; intro v' w4 hown' hgrow _; obtain ⟨a4, c4, rfl⟩ := C.owns_slice hown')
        have HO4 : Hid (N.OwnT w.heap.size w4 (.slice a4 (L.length + 1) c4) (linesOf l)) := by
          show w4.ownsRow _ _ _ _ _ _
          rw [← HE2.out, svs_append, List.length_append]
          rw [HXP.out] at hown'
          exact hown'
        have HB4 : Below w.heap.size w w4 := (hB.alloc (by omega) _).grown hgrow (by simp; omega) (fun j hj => (World.ownsRow.lt hO.out j hj).1)
        all_goals go_ret
        all_goals exact ⟨_, rfl, HO4.out, HB4⟩
      · have HE2 : Hid (N.OwnT w.heap.size wr (.slice va L.length vc) (linesOf l)) := by
          show N.OwnT _ _ _ _
          have h := hE.out
          rw [List.drop_eq_nil_of_le (by have := HN.out; omega), linesOf_nil, List.append_nil] at h
          rw [← h]; exact hO.out
        clear HPE
        go_wp2
        all_goals go_ret
        all_goals exact ⟨_, rfl, HE2.out, hB⟩

/-- The tokens of lines, or which line is none. -/
def parseL : Nat → TL → List (List UInt8) → Option TL × Nat
  | _, L, [] => (some L, 0)
  | n, L, x :: r => match readP x with
    | none => (none, n)
    | some t => parseL (n + 1) (L ++ [t]) r
theorem parseP_lines : ∀ (f n : Nat) (L : TL) (s : List UInt8), s.length < f → parseP f n L s = parseL n L (linesF f s) := by
  intro f
  induction f with
  | zero => intro n L s h; omega
  | succ f ih =>
    intro n L s h
    by_cases h0 : s = []
    · simp [parseP, linesF, h0, parseL]
    · have hr := restP_len s h0
      simp only [linesF, h0, if_false, parseL]
      cases hq : readP (lineP s) with
      | none => rw [parseP_none _ _ _ _ h0 hq]
      | some x => rw [parseP_some _ _ _ _ _ h0 hq, ih _ _ _ (by omega)]
theorem parseP_of (s : List UInt8) : parseP (s.length + 1) 1 [] s = parseL 1 [] (linesOf s) := parseP_lines _ _ _ _ (by omega)
/-- Lines are no more than the text. -/
theorem linesF_sum : ∀ (f : Nat) (s : List UInt8), ((linesF f s).map List.length).sum ≤ s.length ∧ (linesF f s).length ≤ s.length := by
  intro f
  induction f with
  | zero => intro s; simp [linesF]
  | succ f ih =>
    intro s
    by_cases h0 : s = []
    · simp [linesF, h0]
    · simp only [linesF, h0, if_false, List.map_cons, List.sum_cons, List.length_cons]
      obtain ⟨i1, i2⟩ := ih (restP s)
      have hr := restP_len s h0
      have hs : (lineP s).length + (restP s).length ≤ s.length := by
        unfold lineP restP
        have h1 := congrArg List.length (List.takeWhile_append_dropWhile (p := fun c : UInt8 => c != 10) (l := s))
        rw [List.length_append] at h1
        rw [List.length_tail]; omega
      exact ⟨by omega, by omega⟩
end Go.Proofs.YtelfejbhlolppaaDoor.T
