/- What is proved here: the statement NamesWithin (sets within others, and what no set may have; In, Sets, Count and Known agree) holds for any name, with no condition. -/
import Derived.Deep.Cut
import Derived.Deep.CutRange
import Derived.Deep.RegionWith
import Derived.Test.YtihehkgmlijfgaaNFrame
import Derived.Test.YtihehkgmlijfgaaNKnown
import Derived.Test.YtihehkgmlijfgaaNCount
namespace Go.Proofs.Ytihehkgmlijfgaa.NWithinL
open Go.ChangeShapes Go.WideShapes Go.ChangeAt Go.RowKit N C

theorem part_int (xs : Array Value) (j : Nat) (w : World) (h : j < xs.size) : (part 3 xs j).run Try.prog w = .ok xs[j] w := by
  simp [part, go_sem, h, Try.sizeOf3, Try.isAgg3]
theorem arr16_get (c : Nat → Int) (j : Nat) (h : j < 16) : (arr16 c)[j]'(by simpa [arr16] using h) = .int .i64 (c j) := by
  have : j = 0 ∨ j = 1 ∨ j = 2 ∨ j = 3 ∨ j = 4 ∨ j = 5 ∨ j = 6 ∨ j = 7 ∨ j = 8 ∨ j = 9 ∨ j = 10 ∨ j = 11 ∨ j = 12 ∨ j = 13 ∨ j = 14 ∨ j = 15 := by omega
  rcases this with rfl | rfl | rfl | rfl | rfl | rfl | rfl | rfl | rfl | rfl | rfl | rfl | rfl | rfl | rfl | rfl <;> rfl
theorem part_arr (c : Nat → Int) (j : Nat) (w : World) (h : j < 16) : (part 3 (arr16 c) j).run Try.prog w = .ok (.int .i64 (c j)) w := by
  rw [part_int _ j w (by simpa [arr16] using h), arr16_get c j h]
theorem arr_eqd (d d' : Nat) (hd : d = d' + 1) (c : Nat → Int) (w : World) : (Op.equalIn (d + 1) 39 (.agg (arr16 c)) (.agg (arr16 c))).run Try.prog w = .ok true w := by
  rw [Op.equalIn]
  simp only [Sem.run_bind, run_underlying Try.underlying39, Result.andThen_ok, Try.sizeOf3]
  have key : ∀ js : List Nat, (∀ j ∈ js, j < 16) → (forIn js ((none, ()) : Option Bool × Unit) fun i __s => do
      let a ← part 3 (arr16 c) (i * 1)
      let b ← part 3 (arr16 c) (i * 1)
      let r ← Op.equalIn d 3 a b
      if (!r) = true then pure (ForInStep.done (some false, ())) else pure (ForInStep.yield (none, ()))).run Try.prog w = .ok (none, ()) w := by
    intro js
    induction js with
    | nil => intro _; rfl
    | cons j r ih =>
      intro h
      have hj := h j (by simp)
      have h1 := part_arr c (j * 1) w (by omega)
      have h2 := run_equalIn_int (P := Try.prog) w d' 3 .i64 .i64 (c (j * 1)) (c (j * 1)) Try.underlying3
      rw [← hd] at h2
      rw [List.forIn_cons]
      simp only [Sem.run_bind, h1, Result.andThen_ok, h2, beq_self_eq_true, Bool.not_true, Bool.false_eq_true, if_false, Sem.run_pure]
      exact ih (fun i hi => h i (by simp [hi]))
  first
    | rw [Std.Legacy.Range.forIn_eq_forIn_range']
    | rw [Std.Range.forIn_eq_forIn_range']
  have hk := key (List.range' 0 16) (fun j hj => by simpa using List.mem_range'_1.1 hj)
  have e : (List.range' [:16].start [:16].size [:16].step) = List.range' 0 16 := rfl
  rw [e, hk]
  rfl
theorem arr_eq (c : Nat → Int) (w : World) : (Op.equalIn 10000 39 (.agg (arr16 c)) (.agg (arr16 c))).run Try.prog w = .ok true w := arr_eqd 9999 9998 rfl c w

/-- What the sets have to do with each other. -/
theorem within_checked : ((SW 0).all (fun x => (SW 1).contains x) && (SW 8).all (fun x => (SW 9).contains x && (SW 10).contains x) && (SW 5).all (fun x => (SW 6).contains x) && (SW 6).all (fun x => !(SW 4).contains x) && (SW 15).all (fun x => !(SW 3).contains x && (!(SW 2).contains x || x == [116, 101, 120, 116, 97, 114, 101, 97]) && x != [115, 99, 114, 105, 112, 116] && x != [112, 108, 97, 105, 110, 116, 101, 120, 116])) = true := by decide +kernel
theorem within (l : List UInt8) : (l ∈ SW 0 → l ∈ SW 1) ∧ (l ∈ SW 8 → l ∈ SW 9 ∧ l ∈ SW 10) ∧ (l ∈ SW 5 → l ∈ SW 6) ∧ (l ∈ SW 6 → l ∉ SW 4) ∧ (l ∈ SW 15 → l ∉ SW 3 ∧ (l ∈ SW 2 → l = [116, 101, 120, 116, 97, 114, 101, 97]) ∧ l ≠ [115, 99, 114, 105, 112, 116] ∧ l ≠ [112, 108, 97, 105, 110, 116, 101, 120, 116]) := by
  have h := within_checked
  simp only [Bool.and_eq_true, List.all_eq_true, List.contains_iff_mem, Bool.not_eq_true', Bool.or_eq_true, beq_iff_eq, bne_iff_ne] at h
  obtain ⟨⟨⟨⟨h1, h2⟩, h3⟩, h4⟩, h5⟩ := h
  refine ⟨h1 l, h2 l, h3 l, fun hl hm => ?_, fun hl => ?_⟩
  · have := h4 l hl
    rw [List.contains_eq_mem, decide_eq_false_iff_not] at this
    exact this hm
  · obtain ⟨⟨⟨a, b⟩, c⟩, d⟩ := h5 l hl
    refine ⟨fun hm => ?_, fun hm => ?_, c, d⟩
    · rw [List.contains_eq_mem, decide_eq_false_iff_not] at a
      exact a hm
    · rcases b with b | b
      · rw [List.contains_eq_mem, decide_eq_false_iff_not] at b
        exact absurd hm b
      · exact b
theorem inB (k : Nat) (hk : k < 16) (l : List UInt8) (b : Bool) (h : decide (l ∈ SW k) = b) : inZ (k : Int) l = b := (inZ_nat k hk l).trans h
set_option maxRecDepth 100000 in
theorem load_arr {W : World} {A : Nat} {c : Nat → Int} (h : ∀ j, j < 16 → W.cell? ⟨A, j, none⟩ = some (.int .i64 (c j))) : (Instr.loadAt 39 (.pointer (some ⟨A, 0, none⟩))).run Try.prog W = .ok (.agg (arr16 c)) W := by
  have c0 := h 0 (by omega)
  have c1 := h 1 (by omega)
  have c2 := h 2 (by omega)
  have c3 := h 3 (by omega)
  have c4 := h 4 (by omega)
  have c5 := h 5 (by omega)
  have c6 := h 6 (by omega)
  have c7 := h 7 (by omega)
  have c8 := h 8 (by omega)
  have c9 := h 9 (by omega)
  have c10 := h 10 (by omega)
  have c11 := h 11 (by omega)
  have c12 := h 12 (by omega)
  have c13 := h 13 (by omega)
  have c14 := h 14 (by omega)
  have c15 := h 15 (by omega)
  simp [go_sem, c0, c1, c2, c3, c4, c5, c6, c7, c8, c9, c10, c11, c12, c13, c14, c15, arr16]

/-- An array of sixteen in a block. -/
structure ArrAt (W : World) (A : Nat) (c : Nat → Int) : Prop where
  cell : ∀ j, j < 16 → W.cell? ⟨A, j, none⟩ = some (.int .i64 (c j))
  free : ∀ j, W.frozen? ⟨A, j, none⟩ = false
  lt : A < W.heap.size
theorem ArrAt.new (W : World) (t : TypeId) (c : Nat → Int) (hc : ∀ j, j < 16 → c j = 0) : ArrAt (W.alloc (.cells zeros t)) W.heap.size c := by
  refine ⟨fun j hj => ?_, fun j => ?_, by simp⟩
  · rw [cell_new, hc j hj]; exact zeros_get j hj
  · have h1 := World.alloc_heap_new W (.cells zeros t)
    unfold World.frozen?
    simp only [h1]
    simp
theorem ArrAt.set {W : World} {A : Nat} {c c' : Nat → Int} (h : ArrAt W A c) (k : Nat) (x : Int) (hx : c' k = x) (ho : ∀ j, j < 16 → j ≠ k → c' j = c j) : ArrAt (W.setCell ⟨A, k, none⟩ (.int .i64 x)) A c' := by
  refine ⟨fun j hj => ?_, fun j => by rw [World.frozen?_setCell]; exact h.free j, by rw [World.size_setCell]; exact h.lt⟩
  by_cases e : j = k
  · subst e; rw [hx]; exact cs_same (h.cell j hj)
  · rw [cs_other (fun e' => e (by injection e' with _ e'; exact e'.symm)), ho j hj e]; exact h.cell j hj
theorem ArrAt.later {W W' : World} {A : Nat} {c : Nat → Int} (h : ArrAt W A c) (hb : Below W.heap.size W W') : ∀ j, j < 16 → W'.cell? ⟨A, j, none⟩ = some (.int .i64 (c j)) := fun j hj => (hb.cell (p := ⟨A, j, none⟩) h.lt).trans (h.cell j hj)
theorem setsOf_nodup (l : List UInt8) : (setsOf l).Nodup := by
  unfold setsOf setsTo
  exact List.Pairwise.filter _ (List.nodup_range (n := 16))
theorem cnt_one (l : List UInt8) (j : Nat) (hj : j < 16) : ((cnt [l] j [l].length : Nat) : Int) = if j ∈ (setsOf l).take (setsOf l).length then 1 else 0 := by
  rw [List.take_length]
  unfold cnt
  by_cases h : l ∈ SW j
  · rw [if_pos ((mem_setsOf l j).2 ⟨hj, h⟩)]; simp [h]
  · rw [if_neg (fun h' => h ((mem_setsOf l j).1 h').2)]; simp [h]
theorem known_iff (l : List UInt8) : decide (l ∈ KN) = decide (0 < (setsOf l).length) := by
  rw [decide_eq_decide, mem_kn, List.length_pos_iff_exists_mem]
  constructor
  · rintro ⟨k, h1, h2⟩; exact ⟨k, (mem_setsOf l k).2 ⟨h1, h2⟩⟩
  · rintro ⟨k, h⟩; exact ⟨k, (mem_setsOf l k).1 h⟩
theorem tag_of (l : List UInt8) (h : 0 < (setsOf l).length) : tagN l = true := by
  obtain ⟨k, hk⟩ := List.length_pos_iff_exists_mem.1 h
  obtain ⟨h1, h2⟩ := (mem_setsOf l k).1 hk
  exact (set_right k h1).2.1 l h2

set_option maxRecDepth 100000 in
set_option maxHeartbeats 8000000 in
theorem walk (w : World) (hm : MaxOk w) (s : ByteArray) (hs : s.size ≤ 9223372036854775807) :
    Calls Try.prog 5 #[.string s] w fun e w' => e = .returned (.bool true) ∧ Below w.heap.size w w' := by
  have HM : Hid (MaxOk w) := hm
  clear hm
  obtain ⟨l, hl⟩ : ∃ l, s.data.toList = l := ⟨_, rfl⟩
  have HL : Hid (s.data.toList = l) := hl
  have HWI : Hid _ := within l
  clear hl
  go_enter Try.func5, Try.ntmps5
  go_upto_region 1 with fail
  go_cut [39] from 10 (fun c wx => c = .bool false ∧ wx = w)
  case first =>
    by_cases h0 : l ∈ SW 0
    · by_cases h8 : l ∈ SW 8
      · by_cases h5 : l ∈ SW 5
        · have b0 : inZ 0 s.data.toList = true := by rw [HL.out]; exact inB 0 (by omega) l _ (decide_eq_true h0)
          have b1 : inZ 1 s.data.toList = true := by rw [HL.out]; exact inB 1 (by omega) l _ (decide_eq_true (HWI.out.1 h0))
          have b8 : inZ 8 s.data.toList = true := by rw [HL.out]; exact inB 8 (by omega) l _ (decide_eq_true h8)
          have b9 : inZ 9 s.data.toList = true := by rw [HL.out]; exact inB 9 (by omega) l _ (decide_eq_true (HWI.out.2.1 h8).1)
          have b10 : inZ 10 s.data.toList = true := by rw [HL.out]; exact inB 10 (by omega) l _ (decide_eq_true (HWI.out.2.1 h8).2)
          have b5 : inZ 5 s.data.toList = true := by rw [HL.out]; exact inB 5 (by omega) l _ (decide_eq_true h5)
          have b6 : inZ 6 s.data.toList = true := by rw [HL.out]; exact inB 6 (by omega) l _ (decide_eq_true (HWI.out.2.2.1 h5))
          clear h0 h8 h5
          as_aux_lemma =>
            go_wp2_with (go_at_call 9; refine (in_calls _ _ _ hs HM.out).mono ?_; rintro e w' ⟨rfl, hw'⟩; have hx' := hw'.symm; subst hx')
            go_meet
            exact ⟨rfl, rfl⟩
        · have b0 : inZ 0 s.data.toList = true := by rw [HL.out]; exact inB 0 (by omega) l _ (decide_eq_true h0)
          have b1 : inZ 1 s.data.toList = true := by rw [HL.out]; exact inB 1 (by omega) l _ (decide_eq_true (HWI.out.1 h0))
          have b8 : inZ 8 s.data.toList = true := by rw [HL.out]; exact inB 8 (by omega) l _ (decide_eq_true h8)
          have b9 : inZ 9 s.data.toList = true := by rw [HL.out]; exact inB 9 (by omega) l _ (decide_eq_true (HWI.out.2.1 h8).1)
          have b10 : inZ 10 s.data.toList = true := by rw [HL.out]; exact inB 10 (by omega) l _ (decide_eq_true (HWI.out.2.1 h8).2)
          have b5 : inZ 5 s.data.toList = false := by rw [HL.out]; exact inB 5 (by omega) l _ (decide_eq_false h5)
          clear h0 h8 h5
          as_aux_lemma =>
            go_wp2_with (go_at_call 9; refine (in_calls _ _ _ hs HM.out).mono ?_; rintro e w' ⟨rfl, hw'⟩; have hx' := hw'.symm; subst hx')
            go_meet
            exact ⟨rfl, rfl⟩
      · by_cases h5 : l ∈ SW 5
        · have b0 : inZ 0 s.data.toList = true := by rw [HL.out]; exact inB 0 (by omega) l _ (decide_eq_true h0)
          have b1 : inZ 1 s.data.toList = true := by rw [HL.out]; exact inB 1 (by omega) l _ (decide_eq_true (HWI.out.1 h0))
          have b8 : inZ 8 s.data.toList = false := by rw [HL.out]; exact inB 8 (by omega) l _ (decide_eq_false h8)
          have b5 : inZ 5 s.data.toList = true := by rw [HL.out]; exact inB 5 (by omega) l _ (decide_eq_true h5)
          have b6 : inZ 6 s.data.toList = true := by rw [HL.out]; exact inB 6 (by omega) l _ (decide_eq_true (HWI.out.2.2.1 h5))
          clear h0 h8 h5
          as_aux_lemma =>
            go_wp2_with (go_at_call 9; refine (in_calls _ _ _ hs HM.out).mono ?_; rintro e w' ⟨rfl, hw'⟩; have hx' := hw'.symm; subst hx')
            go_meet
            exact ⟨rfl, rfl⟩
        · have b0 : inZ 0 s.data.toList = true := by rw [HL.out]; exact inB 0 (by omega) l _ (decide_eq_true h0)
          have b1 : inZ 1 s.data.toList = true := by rw [HL.out]; exact inB 1 (by omega) l _ (decide_eq_true (HWI.out.1 h0))
          have b8 : inZ 8 s.data.toList = false := by rw [HL.out]; exact inB 8 (by omega) l _ (decide_eq_false h8)
          have b5 : inZ 5 s.data.toList = false := by rw [HL.out]; exact inB 5 (by omega) l _ (decide_eq_false h5)
          clear h0 h8 h5
          as_aux_lemma =>
            go_wp2_with (go_at_call 9; refine (in_calls _ _ _ hs HM.out).mono ?_; rintro e w' ⟨rfl, hw'⟩; have hx' := hw'.symm; subst hx')
            go_meet
            exact ⟨rfl, rfl⟩
    · by_cases h8 : l ∈ SW 8
      · by_cases h5 : l ∈ SW 5
        · have b0 : inZ 0 s.data.toList = false := by rw [HL.out]; exact inB 0 (by omega) l _ (decide_eq_false h0)
          have b8 : inZ 8 s.data.toList = true := by rw [HL.out]; exact inB 8 (by omega) l _ (decide_eq_true h8)
          have b9 : inZ 9 s.data.toList = true := by rw [HL.out]; exact inB 9 (by omega) l _ (decide_eq_true (HWI.out.2.1 h8).1)
          have b10 : inZ 10 s.data.toList = true := by rw [HL.out]; exact inB 10 (by omega) l _ (decide_eq_true (HWI.out.2.1 h8).2)
          have b5 : inZ 5 s.data.toList = true := by rw [HL.out]; exact inB 5 (by omega) l _ (decide_eq_true h5)
          have b6 : inZ 6 s.data.toList = true := by rw [HL.out]; exact inB 6 (by omega) l _ (decide_eq_true (HWI.out.2.2.1 h5))
          clear h0 h8 h5
          as_aux_lemma =>
            go_wp2_with (go_at_call 9; refine (in_calls _ _ _ hs HM.out).mono ?_; rintro e w' ⟨rfl, hw'⟩; have hx' := hw'.symm; subst hx')
            go_meet
            exact ⟨rfl, rfl⟩
        · have b0 : inZ 0 s.data.toList = false := by rw [HL.out]; exact inB 0 (by omega) l _ (decide_eq_false h0)
          have b8 : inZ 8 s.data.toList = true := by rw [HL.out]; exact inB 8 (by omega) l _ (decide_eq_true h8)
          have b9 : inZ 9 s.data.toList = true := by rw [HL.out]; exact inB 9 (by omega) l _ (decide_eq_true (HWI.out.2.1 h8).1)
          have b10 : inZ 10 s.data.toList = true := by rw [HL.out]; exact inB 10 (by omega) l _ (decide_eq_true (HWI.out.2.1 h8).2)
          have b5 : inZ 5 s.data.toList = false := by rw [HL.out]; exact inB 5 (by omega) l _ (decide_eq_false h5)
          clear h0 h8 h5
          as_aux_lemma =>
            go_wp2_with (go_at_call 9; refine (in_calls _ _ _ hs HM.out).mono ?_; rintro e w' ⟨rfl, hw'⟩; have hx' := hw'.symm; subst hx')
            go_meet
            exact ⟨rfl, rfl⟩
      · by_cases h5 : l ∈ SW 5
        · have b0 : inZ 0 s.data.toList = false := by rw [HL.out]; exact inB 0 (by omega) l _ (decide_eq_false h0)
          have b8 : inZ 8 s.data.toList = false := by rw [HL.out]; exact inB 8 (by omega) l _ (decide_eq_false h8)
          have b5 : inZ 5 s.data.toList = true := by rw [HL.out]; exact inB 5 (by omega) l _ (decide_eq_true h5)
          have b6 : inZ 6 s.data.toList = true := by rw [HL.out]; exact inB 6 (by omega) l _ (decide_eq_true (HWI.out.2.2.1 h5))
          clear h0 h8 h5
          as_aux_lemma =>
            go_wp2_with (go_at_call 9; refine (in_calls _ _ _ hs HM.out).mono ?_; rintro e w' ⟨rfl, hw'⟩; have hx' := hw'.symm; subst hx')
            go_meet
            exact ⟨rfl, rfl⟩
        · have b0 : inZ 0 s.data.toList = false := by rw [HL.out]; exact inB 0 (by omega) l _ (decide_eq_false h0)
          have b8 : inZ 8 s.data.toList = false := by rw [HL.out]; exact inB 8 (by omega) l _ (decide_eq_false h8)
          have b5 : inZ 5 s.data.toList = false := by rw [HL.out]; exact inB 5 (by omega) l _ (decide_eq_false h5)
          clear h0 h8 h5
          as_aux_lemma =>
            go_wp2_with (go_at_call 9; refine (in_calls _ _ _ hs HM.out).mono ?_; rintro e w' ⟨rfl, hw'⟩; have hx' := hw'.symm; subst hx')
            go_meet
            exact ⟨rfl, rfl⟩
  case rest =>
    obtain ⟨rfl, hwc⟩ := hcut
    have hwc' := hwc.symm
    subst hwc'
    clear hwc
    go_upto_region 3 with fail
    go_cut [69] from 40 (fun c wx => c = .bool false ∧ wx = w)
    case first =>
      by_cases h6 : l ∈ SW 6
      · by_cases h15 : l ∈ SW 15
        · by_cases h2 : l ∈ SW 2
          · have b6 : inZ 6 s.data.toList = true := by rw [HL.out]; exact inB 6 (by omega) l _ (decide_eq_true h6)
            have b4 : inZ 4 s.data.toList = false := by rw [HL.out]; exact inB 4 (by omega) l _ (decide_eq_false (HWI.out.2.2.2.1 h6))
            have b15 : inZ 15 s.data.toList = true := by rw [HL.out]; exact inB 15 (by omega) l _ (decide_eq_true h15)
            have b3 : inZ 3 s.data.toList = false := by rw [HL.out]; exact inB 3 (by omega) l _ (decide_eq_false (HWI.out.2.2.2.2 h15).1)
            have b2 : inZ 2 s.data.toList = true := by rw [HL.out]; exact inB 2 (by omega) l _ (decide_eq_true h2)
            have t1 : (s.toList == [116, 101, 120, 116, 97, 114, 101, 97]) = true := by rw [Lib.toList_data, HL.out, (HWI.out.2.2.2.2 h15).2.1 h2]; rfl
            have t2 : (s.toList == [115, 99, 114, 105, 112, 116]) = false := by rw [Lib.toList_data, HL.out, beq_eq_false_iff_ne]; exact (HWI.out.2.2.2.2 h15).2.2.1
            have t3 : (s.toList == [112, 108, 97, 105, 110, 116, 101, 120, 116]) = false := by rw [Lib.toList_data, HL.out, beq_eq_false_iff_ne]; exact (HWI.out.2.2.2.2 h15).2.2.2
            clear h6 h15 h2
            as_aux_lemma =>
              go_wp2_with (go_at_call 9; refine (in_calls _ _ _ hs HM.out).mono ?_; rintro e w' ⟨rfl, hw'⟩; have hx' := hw'.symm; subst hx')
              go_meet
              exact ⟨rfl, rfl⟩
          · have b6 : inZ 6 s.data.toList = true := by rw [HL.out]; exact inB 6 (by omega) l _ (decide_eq_true h6)
            have b4 : inZ 4 s.data.toList = false := by rw [HL.out]; exact inB 4 (by omega) l _ (decide_eq_false (HWI.out.2.2.2.1 h6))
            have b15 : inZ 15 s.data.toList = true := by rw [HL.out]; exact inB 15 (by omega) l _ (decide_eq_true h15)
            have b3 : inZ 3 s.data.toList = false := by rw [HL.out]; exact inB 3 (by omega) l _ (decide_eq_false (HWI.out.2.2.2.2 h15).1)
            have b2 : inZ 2 s.data.toList = false := by rw [HL.out]; exact inB 2 (by omega) l _ (decide_eq_false h2)
            have t2 : (s.toList == [115, 99, 114, 105, 112, 116]) = false := by rw [Lib.toList_data, HL.out, beq_eq_false_iff_ne]; exact (HWI.out.2.2.2.2 h15).2.2.1
            have t3 : (s.toList == [112, 108, 97, 105, 110, 116, 101, 120, 116]) = false := by rw [Lib.toList_data, HL.out, beq_eq_false_iff_ne]; exact (HWI.out.2.2.2.2 h15).2.2.2
            clear h6 h15 h2
            as_aux_lemma =>
              go_wp2_with (go_at_call 9; refine (in_calls _ _ _ hs HM.out).mono ?_; rintro e w' ⟨rfl, hw'⟩; have hx' := hw'.symm; subst hx')
              go_meet
              exact ⟨rfl, rfl⟩
        · have b6 : inZ 6 s.data.toList = true := by rw [HL.out]; exact inB 6 (by omega) l _ (decide_eq_true h6)
          have b4 : inZ 4 s.data.toList = false := by rw [HL.out]; exact inB 4 (by omega) l _ (decide_eq_false (HWI.out.2.2.2.1 h6))
          have b15 : inZ 15 s.data.toList = false := by rw [HL.out]; exact inB 15 (by omega) l _ (decide_eq_false h15)
          clear h6 h15
          as_aux_lemma =>
            go_wp2_with (go_at_call 9; refine (in_calls _ _ _ hs HM.out).mono ?_; rintro e w' ⟨rfl, hw'⟩; have hx' := hw'.symm; subst hx')
            go_meet
            exact ⟨rfl, rfl⟩
      · by_cases h15 : l ∈ SW 15
        · by_cases h2 : l ∈ SW 2
          · have b6 : inZ 6 s.data.toList = false := by rw [HL.out]; exact inB 6 (by omega) l _ (decide_eq_false h6)
            have b15 : inZ 15 s.data.toList = true := by rw [HL.out]; exact inB 15 (by omega) l _ (decide_eq_true h15)
            have b3 : inZ 3 s.data.toList = false := by rw [HL.out]; exact inB 3 (by omega) l _ (decide_eq_false (HWI.out.2.2.2.2 h15).1)
            have b2 : inZ 2 s.data.toList = true := by rw [HL.out]; exact inB 2 (by omega) l _ (decide_eq_true h2)
            have t1 : (s.toList == [116, 101, 120, 116, 97, 114, 101, 97]) = true := by rw [Lib.toList_data, HL.out, (HWI.out.2.2.2.2 h15).2.1 h2]; rfl
            have t2 : (s.toList == [115, 99, 114, 105, 112, 116]) = false := by rw [Lib.toList_data, HL.out, beq_eq_false_iff_ne]; exact (HWI.out.2.2.2.2 h15).2.2.1
            have t3 : (s.toList == [112, 108, 97, 105, 110, 116, 101, 120, 116]) = false := by rw [Lib.toList_data, HL.out, beq_eq_false_iff_ne]; exact (HWI.out.2.2.2.2 h15).2.2.2
            clear h6 h15 h2
            as_aux_lemma =>
              go_wp2_with (go_at_call 9; refine (in_calls _ _ _ hs HM.out).mono ?_; rintro e w' ⟨rfl, hw'⟩; have hx' := hw'.symm; subst hx')
              go_meet
              exact ⟨rfl, rfl⟩
          · have b6 : inZ 6 s.data.toList = false := by rw [HL.out]; exact inB 6 (by omega) l _ (decide_eq_false h6)
            have b15 : inZ 15 s.data.toList = true := by rw [HL.out]; exact inB 15 (by omega) l _ (decide_eq_true h15)
            have b3 : inZ 3 s.data.toList = false := by rw [HL.out]; exact inB 3 (by omega) l _ (decide_eq_false (HWI.out.2.2.2.2 h15).1)
            have b2 : inZ 2 s.data.toList = false := by rw [HL.out]; exact inB 2 (by omega) l _ (decide_eq_false h2)
            have t2 : (s.toList == [115, 99, 114, 105, 112, 116]) = false := by rw [Lib.toList_data, HL.out, beq_eq_false_iff_ne]; exact (HWI.out.2.2.2.2 h15).2.2.1
            have t3 : (s.toList == [112, 108, 97, 105, 110, 116, 101, 120, 116]) = false := by rw [Lib.toList_data, HL.out, beq_eq_false_iff_ne]; exact (HWI.out.2.2.2.2 h15).2.2.2
            clear h6 h15 h2
            as_aux_lemma =>
              go_wp2_with (go_at_call 9; refine (in_calls _ _ _ hs HM.out).mono ?_; rintro e w' ⟨rfl, hw'⟩; have hx' := hw'.symm; subst hx')
              go_meet
              exact ⟨rfl, rfl⟩
        · have b6 : inZ 6 s.data.toList = false := by rw [HL.out]; exact inB 6 (by omega) l _ (decide_eq_false h6)
          have b15 : inZ 15 s.data.toList = false := by rw [HL.out]; exact inB 15 (by omega) l _ (decide_eq_false h15)
          clear h6 h15
          as_aux_lemma =>
            go_wp2_with (go_at_call 9; refine (in_calls _ _ _ hs HM.out).mono ?_; rintro e w' ⟨rfl, hw'⟩; have hx' := hw'.symm; subst hx')
            go_meet
            exact ⟨rfl, rfl⟩
    case rest =>
      obtain ⟨rfl, hwc⟩ := hcut
      have hwc' := hwc.symm
      subst hwc'
      clear hwc
      go_wp2_with fail
      refine (sets_calls s w hs HM.out).mono ?_
      rintro e W1 ⟨v, rfl, hO, hB⟩
      rw [HL.out] at hO
      obtain ⟨a, cap, rfl⟩ := owns_slice hO
      have HPM : Hid (∀ k, k ∈ setsOf l ↔ k < 16 ∧ l ∈ SW k) := mem_setsOf l
      have HPN : Hid (setsOf l).Nodup := setsOf_nodup l
      have hpl : (setsOf l).length ≤ 16 := setsTo_length l 16
      have HTG : Hid (0 < (setsOf l).length → tagN s.data.toList = true) := by rw [HL.out]; exact tag_of l
      have HC1 : Hid (∀ j, j < 16 → ((cnt [l] j [l].length : Nat) : Int) = if j ∈ (setsOf l).take (setsOf l).length then 1 else 0) := cnt_one l
      have HKI : Hid (decide (l ∈ KN) = decide (0 < (setsOf l).length)) := known_iff l
      have HO : Hid (W1.ownsRow w.heap.size 22 1 (.slice a (setsOf l).length cap) (setsOf l).length (nvs (setsOf l))) := hO
      have HB : Hid (Below w.heap.size w W1) := hB
      clear hO hB
      generalize setsOf l = P at *
      go_upto_region 6 with fail
      go_cut [79] from 72 (fun c wx => c = .bool false ∧ wx = W1)
      case first =>
        by_cases hp : P.length = 0
        · go_wp2
          go_meet
          exact ⟨rfl, rfl⟩
        · have htg := HTG.out (by omega)
          go_wp2_with (go_at_call 21; refine (tag_calls _ _ hs).mono ?_; rintro e w' ⟨rfl, hw'⟩; have hx' := hw'.symm; subst hx'; rw [htg])
          go_meet
          exact ⟨rfl, rfl⟩
      case rest =>
        obtain ⟨rfl, hwc⟩ := hcut
        have hwc' := hwc.symm
        subst hwc'
        clear hwc
        go_wp2
        go_loopw [6, 82] (fun _ i wr => ∃ k : Nat, k ≤ P.length ∧ i = .int .i64 k ∧ Hid (ArrAt wr W1.heap.size (fun j => if j ∈ P.take k then 1 else 0)) ∧ Hid (wr.ownsRow w.heap.size 22 1 (.slice a P.length cap) P.length (nvs P)) ∧ Hid (Below w.heap.size w wr)) (fun _ i _ => P.length - (intOf i).toNat)
        case atStart => exact ⟨0, by omega, rfl, ArrAt.new W1 _ _ (fun j _ => by simp), World.ownsRow.alloc HO.out _, HB.out.alloc HB.out.size _⟩
        case round =>
          obtain ⟨k, hk, rfl, hA, hR, hB⟩ := hrel
          by_cases hlt : k < P.length
          · obtain ⟨g, rfl, hgl⟩ : ∃ g, a = some ⟨g, 0, none⟩ ∧ g < W1.heap.size := by
              rcases HO.out.2 with ⟨e, _⟩ | ⟨g, cap', cur, e, _, hg, _⟩
              · simp only [Value.slice.injEq] at e; omega
              · simp only [Value.slice.injEq] at e; exact ⟨g, e.1, lt_of_block hg⟩
            obtain ⟨hx16, hxm⟩ := (HPM.out P[k]).1 (List.getElem_mem _)
            have hcr : wr.cell? ⟨g, k, none⟩ = some (.int .i64 (P[k] : Int)) := by rw [World.ownsRow.cellAt hR.out k (by omega)]; simp [nvs, hlt]
            have hin : inZ (P[k] : Int) s.data.toList = true := by rw [HL.out]; exact inB P[k] hx16 l _ (decide_eq_true hxm)
            have hnt : P[k] ∉ P.take k := fun hm => by
              obtain ⟨i, hi, e⟩ := List.mem_iff_getElem.1 hm
              rw [List.length_take] at hi
              rw [List.getElem_take] at e
              exact List.pairwise_iff_getElem.1 HPN.out i k (by omega) hlt (by omega) e
            have hcx := hA.out.cell P[k] hx16
            rw [if_neg hnt] at hcx
            have hfz := hA.out.free P[k]
            have HA2 : Hid (ArrAt (wr.setCell ⟨W1.heap.size, P[k], none⟩ (.int .i64 1)) W1.heap.size (fun j => if j ∈ P.take (k + 1) then 1 else 0)) := hA.out.set P[k] 1 (if_pos (by rw [List.take_succ_eq_append_getElem hlt]; exact List.mem_append.2 (.inr (List.mem_singleton.2 rfl)))) (fun j _ hj => by
              have : j ∈ P.take (k + 1) ↔ j ∈ P.take k := by rw [List.take_succ_eq_append_getElem hlt, List.mem_append, List.mem_singleton]; exact ⟨fun h => h.resolve_right hj, .inl⟩
              simp only [this])
            have HR2 : Hid ((wr.setCell ⟨W1.heap.size, P[k], none⟩ (.int .i64 1)).ownsRow w.heap.size 22 1 (.slice (some ⟨g, 0, none⟩) P.length cap) P.length (nvs P)) := World.ownsRow.kept (row := some W1.heap.size) hR.out ⟨rfl, rfl, rfl, by simp [World.setCell], fun j _ hj => Below.heap_setCell _ _ _ j (fun e => hj (by rw [e]))⟩ (.inr (by simp [Value.ownBlock]; omega))
            have HB2 : Hid (Below w.heap.size w (wr.setCell ⟨W1.heap.size, P[k], none⟩ (.int .i64 1))) := hB.out.setCell HB.out.size _
            have hxi : (P[k] : Int) ≤ 15 := by omega
            generalize P[k] = xk at *
            clear hnt hxm
            go_wp2_with (go_at_call 9; refine (in_calls _ _ _ hs (HM.out.below hB.out)).mono ?_; rintro e w' ⟨rfl, hw'⟩; have hx' := hw'.symm; subst hx'; rw [hin])
            first
              | exact ⟨⟨k + 1, by omega, by go_num, HA2, HR2, HB2⟩, by simp [intOf]; omega⟩
              | (go_roundw
                 case rel => exact ⟨k + 1, by omega, by go_num, HA2, HR2, HB2⟩
                 case measure => simp [intOf]; omega)
          · obtain rfl : k = P.length := by omega
            have HAC : Hid (arr16 (fun j => ((cnt [l] j [l].length : Nat) : Int)) = arr16 (fun j => if j ∈ P.take P.length then 1 else 0)) := arr16_congr HC1.out
            have hT0 : Hid (HasT (wr.alloc (.cells #[.string s] 9)) (.slice (some ⟨wr.heap.size, 0, none⟩) 1 1) [l]) := .inr ⟨wr.heap.size, 1, rfl, by simp, by simp, fun j hj => by
              obtain rfl : j = 0 := by simpa using hj
              rw [cell_new, str_of s l HL.out]
              rfl⟩
            have HLZ : Hid (∀ x ∈ [l], x.length ≤ 9223372036854775807) := fun x hx => by
              obtain rfl : x = l := by simpa using hx
              rw [← HL.out, size_data]
              exact hs
            have hae := arr_eq (fun j => if j ∈ P.take P.length then 1 else 0)
            have hgd : Try.prog.eqGuardType Try.prog.depth 39 = false := by kernel_rfl
            have hAA := hA.out
            obtain ⟨cf, hcf⟩ : ∃ cf : Nat → Int, (fun j => if j ∈ P.take P.length then 1 else 0) = cf := ⟨_, rfl⟩
            rw [hcf] at hae HAC hAA
            clear hcf
            have hCC : Hid (∀ X, Below wr.heap.size wr X → ∀ j, j < 16 → X.cell? ⟨W1.heap.size, j, none⟩ = some (.int .i64 (cf j))) := fun X hX j hj => hAA.later hX j hj
            have ka0 := hCC.out wr (Below.refl _ _) 0 (by omega)
            have kb0 : ∀ o, (wr.alloc o).cell? ⟨W1.heap.size, 0, none⟩ = some (.int .i64 (cf 0)) := fun o => hCC.out _ ((Below.refl _ wr).alloc (Nat.le_refl _) o) 0 (by omega)
            have ka1 := hCC.out wr (Below.refl _ _) 1 (by omega)
            have kb1 : ∀ o, (wr.alloc o).cell? ⟨W1.heap.size, 1, none⟩ = some (.int .i64 (cf 1)) := fun o => hCC.out _ ((Below.refl _ wr).alloc (Nat.le_refl _) o) 1 (by omega)
            have ka2 := hCC.out wr (Below.refl _ _) 2 (by omega)
            have kb2 : ∀ o, (wr.alloc o).cell? ⟨W1.heap.size, 2, none⟩ = some (.int .i64 (cf 2)) := fun o => hCC.out _ ((Below.refl _ wr).alloc (Nat.le_refl _) o) 2 (by omega)
            have ka3 := hCC.out wr (Below.refl _ _) 3 (by omega)
            have kb3 : ∀ o, (wr.alloc o).cell? ⟨W1.heap.size, 3, none⟩ = some (.int .i64 (cf 3)) := fun o => hCC.out _ ((Below.refl _ wr).alloc (Nat.le_refl _) o) 3 (by omega)
            have ka4 := hCC.out wr (Below.refl _ _) 4 (by omega)
            have kb4 : ∀ o, (wr.alloc o).cell? ⟨W1.heap.size, 4, none⟩ = some (.int .i64 (cf 4)) := fun o => hCC.out _ ((Below.refl _ wr).alloc (Nat.le_refl _) o) 4 (by omega)
            have ka5 := hCC.out wr (Below.refl _ _) 5 (by omega)
            have kb5 : ∀ o, (wr.alloc o).cell? ⟨W1.heap.size, 5, none⟩ = some (.int .i64 (cf 5)) := fun o => hCC.out _ ((Below.refl _ wr).alloc (Nat.le_refl _) o) 5 (by omega)
            have ka6 := hCC.out wr (Below.refl _ _) 6 (by omega)
            have kb6 : ∀ o, (wr.alloc o).cell? ⟨W1.heap.size, 6, none⟩ = some (.int .i64 (cf 6)) := fun o => hCC.out _ ((Below.refl _ wr).alloc (Nat.le_refl _) o) 6 (by omega)
            have ka7 := hCC.out wr (Below.refl _ _) 7 (by omega)
            have kb7 : ∀ o, (wr.alloc o).cell? ⟨W1.heap.size, 7, none⟩ = some (.int .i64 (cf 7)) := fun o => hCC.out _ ((Below.refl _ wr).alloc (Nat.le_refl _) o) 7 (by omega)
            have ka8 := hCC.out wr (Below.refl _ _) 8 (by omega)
            have kb8 : ∀ o, (wr.alloc o).cell? ⟨W1.heap.size, 8, none⟩ = some (.int .i64 (cf 8)) := fun o => hCC.out _ ((Below.refl _ wr).alloc (Nat.le_refl _) o) 8 (by omega)
            have ka9 := hCC.out wr (Below.refl _ _) 9 (by omega)
            have kb9 : ∀ o, (wr.alloc o).cell? ⟨W1.heap.size, 9, none⟩ = some (.int .i64 (cf 9)) := fun o => hCC.out _ ((Below.refl _ wr).alloc (Nat.le_refl _) o) 9 (by omega)
            have ka10 := hCC.out wr (Below.refl _ _) 10 (by omega)
            have kb10 : ∀ o, (wr.alloc o).cell? ⟨W1.heap.size, 10, none⟩ = some (.int .i64 (cf 10)) := fun o => hCC.out _ ((Below.refl _ wr).alloc (Nat.le_refl _) o) 10 (by omega)
            have ka11 := hCC.out wr (Below.refl _ _) 11 (by omega)
            have kb11 : ∀ o, (wr.alloc o).cell? ⟨W1.heap.size, 11, none⟩ = some (.int .i64 (cf 11)) := fun o => hCC.out _ ((Below.refl _ wr).alloc (Nat.le_refl _) o) 11 (by omega)
            have ka12 := hCC.out wr (Below.refl _ _) 12 (by omega)
            have kb12 : ∀ o, (wr.alloc o).cell? ⟨W1.heap.size, 12, none⟩ = some (.int .i64 (cf 12)) := fun o => hCC.out _ ((Below.refl _ wr).alloc (Nat.le_refl _) o) 12 (by omega)
            have ka13 := hCC.out wr (Below.refl _ _) 13 (by omega)
            have kb13 : ∀ o, (wr.alloc o).cell? ⟨W1.heap.size, 13, none⟩ = some (.int .i64 (cf 13)) := fun o => hCC.out _ ((Below.refl _ wr).alloc (Nat.le_refl _) o) 13 (by omega)
            have ka14 := hCC.out wr (Below.refl _ _) 14 (by omega)
            have kb14 : ∀ o, (wr.alloc o).cell? ⟨W1.heap.size, 14, none⟩ = some (.int .i64 (cf 14)) := fun o => hCC.out _ ((Below.refl _ wr).alloc (Nat.le_refl _) o) 14 (by omega)
            have ka15 := hCC.out wr (Below.refl _ _) 15 (by omega)
            have kb15 : ∀ o, (wr.alloc o).cell? ⟨W1.heap.size, 15, none⟩ = some (.int .i64 (cf 15)) := fun o => hCC.out _ ((Below.refl _ wr).alloc (Nat.le_refl _) o) 15 (by omega)
            clear hAA
            unfold arr16 at hae
            have hBr := hB.out.size
            go_upto_region 16 with fail
            go_cut [108] from 104 (fun c wx => c = .bool false ∧ Below w.heap.size w wx)
            case first =>
              as_aux_lemma =>
                go_region_with (go_at_call 17; (first
                  | (refine (count_calls [l] _ (wr.alloc (.cells #[.string s] 9)) (by simp) HLZ.out hT0.out).mono ?_; rintro e w2 ⟨rfl, hB2⟩; have HY : Below wr.heap.size wr w2 := ((Below.refl _ wr).alloc (Nat.le_refl _) _).trans (hB2.mono (by simp)))
                  | (refine (count_calls [l] _ (wr.alloc (.cells #[.string s] 9)).drew (by simp) HLZ.out (hT0.out.below (Below.refl _ _).drew)).mono ?_; rintro e w2 ⟨rfl, hB2⟩; have HY : Below wr.heap.size wr w2 := ((Below.refl _ wr).alloc (Nat.le_refl _) _).drew.trans (hB2.mono (by simp)))
                  | (refine (count_calls [l] _ (wr.alloc (.cells #[.string s] 9)).drew.drew (by simp) HLZ.out (hT0.out.below (Below.refl _ _).drew.drew)).mono ?_; rintro e w2 ⟨rfl, hB2⟩; have HY : Below wr.heap.size wr w2 := ((Below.refl _ wr).alloc (Nat.le_refl _) _).drew.drew.trans (hB2.mono (by simp)))
                  | (refine (count_calls [l] _ (wr.alloc (.cells #[.string s] 9)).drew.drew.drew (by simp) HLZ.out (hT0.out.below (Below.refl _ _).drew.drew.drew)).mono ?_; rintro e w2 ⟨rfl, hB2⟩; have HY : Below wr.heap.size wr w2 := ((Below.refl _ wr).alloc (Nat.le_refl _) _).drew.drew.drew.trans (hB2.mono (by simp)))); rw [HAC.out]; unfold arr16; have kc0 := hCC.out w2 HY 0 (by omega); have kc1 := hCC.out w2 HY 1 (by omega); have kc2 := hCC.out w2 HY 2 (by omega); have kc3 := hCC.out w2 HY 3 (by omega); have kc4 := hCC.out w2 HY 4 (by omega); have kc5 := hCC.out w2 HY 5 (by omega); have kc6 := hCC.out w2 HY 6 (by omega); have kc7 := hCC.out w2 HY 7 (by omega); have kc8 := hCC.out w2 HY 8 (by omega); have kc9 := hCC.out w2 HY 9 (by omega); have kc10 := hCC.out w2 HY 10 (by omega); have kc11 := hCC.out w2 HY 11 (by omega); have kc12 := hCC.out w2 HY 12 (by omega); have kc13 := hCC.out w2 HY 13 (by omega); have kc14 := hCC.out w2 HY 14 (by omega); have kc15 := hCC.out w2 HY 15 (by omega); have HX : Below w.heap.size w w2 := hB.out.trans (HY.mono hBr))
                all_goals go_wp2_with fail
                all_goals go_meet
                all_goals exact ⟨rfl, HX⟩
            case rest =>
              as_aux_lemma =>
                obtain ⟨rfl, hB3⟩ := hcut
                have HB3 : Hid (Below w.heap.size w wc) := hB3
                have s3 := hB3.size
                clear hB3 hae hgd ka0 ka1 ka2 ka3 ka4 ka5 ka6 ka7 ka8 ka9 ka10 ka11 ka12 ka13 ka14 ka15 kb0 kb1 kb2 kb3 kb4 kb5 kb6 kb7 kb8 kb9 kb10 kb11 kb12 kb13 kb14 kb15 hCC hT0 HAC
                go_wp2_with fail
                refine (known_calls wc).mono ?_
                rintro e W4 ⟨vk, rfl, hK, hB4⟩
                obtain ⟨a4, cap4, rfl⟩ := owns_slice hK
                have HK4 : Hid (HasT W4 (.slice a4 KN.length cap4) KN) := HasT.of hK
                have HB4 : Hid (Below w.heap.size w W4) := HB3.out.trans (hB4.mono s3)
                have hkl : (KN.length : Int) ≤ 1000 := by decide
                clear hK hB4
                generalize KN = K at *
                go_wp2
                go_loopw [7, 9, 111] (fun kn _ i wr => ∃ k : Nat, k ≤ K.length ∧ i = .int .i64 k ∧ kn = .bool (decide (l ∈ K.take k)) ∧ Hid (HasT wr (.slice a4 K.length cap4) K) ∧ Hid (Below w.heap.size w wr)) (fun _ _ i _ => K.length - (intOf i).toNat)
                case atStart => exact ⟨0, by omega, rfl, by simp, HK4, HB4⟩
                case round =>
                  clear HK4 HB4
                  obtain ⟨k, hk, rfl, rfl, HK4, HB4⟩ := hrel
                  by_cases hlt : k < K.length
                  · obtain ⟨b4, rfl, hb4, hcap4, hcell⟩ := HK4.out.at (by omega)
                    have hc := hcell k hlt
                    clear hcell
                    have HTK : Hid (l ∈ K.take (k + 1) ↔ l ∈ K.take k ∨ l = K[k]) := by
                      show l ∈ K.take (k + 1) ↔ l ∈ K.take k ∨ l = K[k]
                      rw [List.take_succ_eq_append_getElem hlt, List.mem_append, List.mem_singleton]
                    by_cases hin : l ∈ K.take k
                    · have h1 := decide_eq_true hin
                      rw [h1]
                      have HN : Hid (Value.bool true = .bool (decide (l ∈ K.take (k + 1)))) := by rw [decide_eq_true (HTK.out.2 (.inl hin))]; exact rfl
                      clear h1 hin
                      go_wp2
                      first
                        | exact ⟨⟨k + 1, by omega, by go_num, HN.out, HK4, HB4⟩, by simp [intOf]; omega⟩
                        | exact ⟨⟨k + 1, by omega, by go_num, HN.out, HK4.out.below (Below.refl _ _).drew, HB4.out.drew⟩, by simp [intOf]; omega⟩
                        | exact ⟨⟨k + 1, by omega, by go_num, HN.out, HK4.out.below (Below.refl _ _).drew.drew, HB4.out.drew.drew⟩, by simp [intOf]; omega⟩
                    · have h1 := decide_eq_false hin
                      rw [h1]
                      by_cases he : l = K[k]
                      · have hq : (K[k] == s.toList) = true := by rw [Lib.toList_data, HL.out, beq_iff_eq]; exact he.symm
                        have HN : Hid (Value.bool true = .bool (decide (l ∈ K.take (k + 1)))) := by rw [decide_eq_true (HTK.out.2 (.inr he))]; exact rfl
                        clear h1 hin he
                        go_wp2
                        first
                          | exact ⟨⟨k + 1, by omega, by go_num, HN.out, HK4, HB4⟩, by simp [intOf]; omega⟩
                          | exact ⟨⟨k + 1, by omega, by go_num, HN.out, HK4.out.below (Below.refl _ _).drew, HB4.out.drew⟩, by simp [intOf]; omega⟩
                          | exact ⟨⟨k + 1, by omega, by go_num, HN.out, HK4.out.below (Below.refl _ _).drew.drew, HB4.out.drew.drew⟩, by simp [intOf]; omega⟩
                      · have hq : (K[k] == s.toList) = false := by rw [Lib.toList_data, HL.out, beq_eq_false_iff_ne]; exact fun e => he e.symm
                        have HN : Hid (Value.bool false = .bool (decide (l ∈ K.take (k + 1)))) := by rw [decide_eq_false (fun h => (HTK.out.1 h).elim hin he)]; exact rfl
                        clear h1 hin he
                        go_wp2
                        first
                          | exact ⟨⟨k + 1, by omega, by go_num, HN.out, HK4, HB4⟩, by simp [intOf]; omega⟩
                          | exact ⟨⟨k + 1, by omega, by go_num, HN.out, HK4.out.below (Below.refl _ _).drew, HB4.out.drew⟩, by simp [intOf]; omega⟩
                          | exact ⟨⟨k + 1, by omega, by go_num, HN.out, HK4.out.below (Below.refl _ _).drew.drew, HB4.out.drew.drew⟩, by simp [intOf]; omega⟩
                  · obtain rfl : k = K.length := by omega
                    rw [List.take_length, HKI.out]
                    by_cases hp : P.length = 0
                    · have h1 : decide (0 < P.length) = false := decide_eq_false (by omega)
                      rw [h1]
                      go_wp2_with (go_at_call 14; refine (awake_calls _ (HM.out.below HB4.out)).mono ?_; rintro e w' ⟨rfl, hw'⟩)
                      go_ret
                      exact ⟨rfl, HB4.out.trans (hw'.mono HB4.out.size)⟩
                    · have h1 : decide (0 < P.length) = true := decide_eq_true (by omega)
                      rw [h1]
                      go_wp2_with (go_at_call 14; refine (awake_calls _ (HM.out.below HB4.out)).mono ?_; rintro e w' ⟨rfl, hw'⟩)
                      go_ret
                      exact ⟨rfl, HB4.out.trans (hw'.mono HB4.out.size)⟩

set_option maxRecDepth 100000 in
theorem contract (H : Type) (enc : TypeId × Value → H) (W : World) (base : Nat) (args : Array Value) (ds gs : List (DataW H)) (before : List MemPlace)
    (hval : ∀ (j : Nat) t v, Try.f5.params[j]? = some t → args[j]? = some v → Value.okWide Try.prog W .any base t v)
    (hW : DataW.Whole enc Try.prog Try.f5.params.toList Rows.namesWithinSpec.vars false W args.toList ds gs before) (hsh : W.ShapedOpen Try.prog) :
    Calls Try.prog 5 args W fun e W' => ∃ v, e = .returned v ∧ Rows.namesWithinSpec.post enc Try.prog Try.f5 false true false false W args v W' := by
  have hW' := hW
  have hlt := hW.lt
  obtain ⟨p, q, hA0, hV, rfl, hfz, hnd⟩ := hW
  have hA : DataW.TrodAll enc Try.prog W 0 (fun _ => true) true Try.f5.params.toList args.toList ds p := hA0
  rw [Try.params5] at hA hval
  obtain ⟨v0, vs0, d0, ds0, p0, q0, hargs, rfl, rfl, h0, r0⟩ := trodAll_cons hA
  obtain ⟨rfl, rfl, rfl⟩ := trodAll_nil r0
  obtain rfl : args = #[v0] := by cases args; simp_all
  obtain ⟨rfl, rfl⟩ := trodVars_none hV
  clear hA0
  simp only [List.append_nil] at hW' hlt
  have h0' := h0
  obtain ⟨s0, rfl, rfl, e0, ws0⟩ := Go.ChangeMaps.open_string Try.underlying9 (hval 0 9 v0 rfl rfl) h0
  refine (walk W (Try.laysM144.s1_3 W hsh) s0 ws0).mono fun e W' ⟨he, hb⟩ => ?_
  subst he
  exact ⟨_, rfl, post_below hW' (fun _ _ _ => trodAll_cons_mk (shut_bool Try.underlying4 _) trodAll_mk0) (trodAll_cons_mk (stays (by kernel_rfl) (of_decide_eq_true (by kernel_rfl)) h0' hb (fun x hx => hlt x (by simp [hx]))) trodAll_mk0) rfl hb⟩

set_option maxRecDepth 100000 in
theorem laid_met (os : Os) : laidMet Try.prog Rows.namesWithinRow.laid ((World.holding Try.prog os ⟨#[], #[], []⟩).forCall (fun _ _ => 0) ⟨#[], #[Value.string ⟨#[]⟩], []⟩).memory :=
  laidMet_of_run' 8 (by kernel_rfl) (by kernel_rfl)
set_option maxRecDepth 100000 in
theorem reads (os : Os) {H : Type} (enc : TypeId × Value → H) : ∃ places, DataW.whole enc Try.prog ((World.holding Try.prog os ⟨#[], #[], []⟩).forCall (fun _ _ => 0) ⟨#[], #[Value.string ⟨#[]⟩], []⟩).memory Try.f5.params.toList Rows.namesWithinSpec.vars false #[Value.string ⟨#[]⟩].toList 8 = some ([.lit (.string [])], [], places) :=
  ⟨[], by kernel_rfl⟩

set_option maxRecDepth 100000 in
theorem lifted (os : Os) (started : os.Started) (H : Type) (enc : TypeId × Value → H) (F : Stop.Interp) :
    ReturnsInHanded {} Try.checked os 5 .any ((OpenSpec.ofChange Rows.namesWithinSpec).preRow enc Try.prog Try.f5 Rows.namesWithinRow.domain false Rows.namesWithinRow.laid) (((OpenSpec.ofChange Rows.namesWithinSpec).at F).post enc Try.prog Try.f5 false true false false) := by
  obtain ⟨places, hx⟩ := reads os enc
  refine returnsInHanded_of_row (C := Try.checked) (s := OpenSpec.ofChange Rows.namesWithinSpec) own started (by kernel_rfl) Try.func5
    (witness_row_at (enc := enc) (C := Try.checked) false (World.holding Try.prog os ⟨#[], #[], []⟩) #[Value.string ⟨#[]⟩] rfl (by kernel_rfl) (by kernel_rfl) (by kernel_rfl)
      (OpenSpec.preRow_of_cond 8 hx (by kernel_rfl) (fun k hk => by cases hk) (by kernel_rfl) (laid_met os))) ?_
  intro W base args ds gs before hval hW _ _ _ hL hsh _
  exact contract H enc W base args ds gs before hval hW hsh

set_option maxRecDepth 100000 in
theorem said : Rows.NamesWithinSaid :=
  OpenClaim.holds_of_cond 5 Try.f5 rfl rfl rfl rfl rfl rfl rfl ⟨rfl, rfl, rfl, rfl, rfl⟩ rfl rfl rfl rfl rfl (by kernel_rfl) Try.func5 (by kernel_rfl)
    (of_decide_eq_true (by kernel_rfl)) (by unfold Func.isWrapper; first | (rw [if_pos (by decide +kernel)]; kernel_rfl) | (rw [if_neg (by decide +kernel)]; exact ⟨rfl, rfl⟩))
    (fun os started H enc _ F => by rw [OpenClaim.pre_eq_preRow]; exact lifted os started H enc F)


end Go.Proofs.Ytihehkgmlijfgaa.NWithinL
