/- What is proved here: the contract of input.Text: for any bytes, it returns the text of their cells and turns nothing that was there. -/
import Derived.Test.YtjhoaepokkaoeaaDoorICells
import Derived.Test.YtjhoaepokkaoeaaDoorBWrite
import Derived.Test.YtjhoaepokkaoeaaDoorMathJ
namespace Go.Proofs.YtjhoaepokkaoeaaDoor.U
open Go.RowKit Go.Shelf
attribute [local go_sem] Oper.semAt_some

def textOf (xs : List Cn) : List UInt8 := xs.flatMap fun x => Lib.encodeRune (x.r : Int)
theorem textOf_snoc (xs : List Cn) (x : Cn) : textOf (xs ++ [x]) = textOf xs ++ Lib.encodeRune (x.r : Int) := by simp [textOf]
theorem byteCells_append (xs ys : List UInt8) : Lib.byteCells (xs ++ ys) = Lib.byteCells xs ++ Lib.byteCells ys := by simp [Lib.byteCells]
theorem textOf_le (xs : List Cn) : (textOf xs).length ≤ 4 * xs.length := by
  induction xs with
  | nil => simp [textOf]
  | cons x xs ih =>
    have := (Lib.runeCells_le (x.r : Int)).2
    rw [Lib.runeCells_length] at this
    simp [textOf] at ih ⊢
    omega

/-- cells(b): the spot's address and the bytes are boxed; the function value captures both. -/
theorem cells_in (n : Nat) (p : Option Addr) (a : Option Addr) (len cap : Nat) (w : World) :
    CallsIn Fence.wide n Tryd.prog 56 #[.pointer p, .slice a len cap] w fun e w' => e = .returned (.func (.func 63) #[] #[.pointer (some ⟨w.heap.size, 0, none⟩), .pointer (some ⟨w.heap.size + 1, 0, none⟩)]) ∧ w' = (w.alloc (.cells #[.pointer p] 94)).alloc (.cells #[.slice a len cap] 22) := by
  refine callsIn_of_wp Tryd.func56 rfl trivial ?_ rfl
  simp only [Tryd.ntmps56, List.size_toArray, List.length_cons, List.length_nil, Nat.reduceAdd, Nat.reduceSub, Array.replicate_succ, Array.replicate_zero, List.push_toArray, List.append_toArray, List.nil_append, List.cons_append]
  gi_wp2
  go_ret
  exact ⟨rfl, rfl⟩

theorem HasB.mono0 {n₀ n₁ : Nat} {W : World} {v : Value} {bs : List UInt8} (h : HasB n₀ W v bs) (hn : n₀ ≤ n₁) : HasB n₁ W v bs := h.imp id (fun ⟨hp, b, off, cap, hv, hc, hb, hx⟩ => ⟨hp, b, off, cap, hv, hc, by omega, hx⟩)
theorem KprG.lower {n₀ n₁ : Nat} {bxs : List Nat} {A B : World} (h : KprG n₁ bxs A B) (hn : n₀ ≤ n₁) : KprG n₀ bxs A B := ⟨h.1.mono hn, h.2⟩

/-- What a builder that a loop fills holds is the loop's own to say, whatever the iterator turns of its own. -/
theorem builder_bears {β : Type} (sb b B : Nat) (f : β → List Value) (hs : sb < b) (hB : b < B) : Bears (ownS sb) fineC B (fun s W => Lib.IsBuilder 100 5 b b (f s) W) := fun s A A' hi ⟨row, hg, hr⟩ => by
  have one : ∀ p, Lib.BuilderAt 100 5 b b p (f s) A → Lib.BuilderAt 100 5 b b p (f s) A' := fun p ⟨h1, v, hb, hown, hne⟩ => by
    refine ⟨h1, v, ?_, ?_, hne⟩
    · have hnb : some b ≠ row := fun e => (hr b e.symm).elim (fun h => by have : b = sb := h; omega) (fun h => by omega)
      rw [hg.block b (lt_of_block hb) hnb]
      exact hb
    · refine hown.kept hg ?_
      cases hv : v.ownBlock with
      | none => exact .inl rfl
      | some g =>
        refine .inr (fun e => ?_)
        rcases hr g e.symm with h | ⟨_, o, ho, hf⟩
        · have e1 : g = sb := h
          have := (hown.lt g hv).1
          omega
        · obtain ⟨cs, fz, hc⟩ := row_cells hown hv
          rw [hc] at ho; cases ho
          rcases hf with hf | ⟨cs', fz', hf⟩
          · cases hf
          · cases hf
  exact hi.imp (one _) (one _)
theorem below_bears {β : Type} {own : Nat → Prop} {fine : Obj → Prop} {n₀ B : Nat} {w : World} (hn : n₀ ≤ w.heap.size) (ho : ∀ r, own r → n₀ ≤ r) (hB : n₀ ≤ B) : Bears own fine B (fun (_ : β) W => Below n₀ w W) := fun s A A' hs ⟨row, hg, hr⟩ =>
  hs.grown hg (Nat.le_trans hn hs.size) (fun k e => (hr k e).elim (ho k) (fun h => by omega))

theorem builderX : Builder.Extra Tryd.prog Tryd.lays169_ren := {
  sizeBuilder := by kernel_rfl
  liesBuilder := by kernel_rfl
  t5 := Tryd.underlying5
  a5 := Tryd.isAgg5
  z5 := Tryd.sizeOf5
  v5 := Tryd.zeroValue5
  infoByte := by kernel_rfl
  cellsByte := by kernel_rfl
  sizeByte := by kernel_rfl
  neB5 := by decide }
/-- **String of any builder.** -/
theorem bstring_calls (B b : Nat) (l : List UInt8) (w : World) (h : Lib.IsBuilder 100 5 B b (Lib.byteCells l) w) (hBw : B ≤ w.heap.size) :
    Calls Tryd.prog 58 #[.pointer (some ⟨b, 0, none⟩)] w fun e w' => e = .returned (.string ⟨l.toArray⟩) ∧ Below B w w' ∧ Lib.OthersKept 5 (some b) w w' :=
  (Any.Builder_String_any_k Tryd.lays169 builderX B b l w (Lib.IsBuilderF.of h) hBw).mono fun _ _ ⟨h1, _, h2, h3⟩ => ⟨h1, h2, h3⟩

set_option maxRecDepth 100000 in
set_option maxHeartbeats 4000000 in
/-- **input.Text of any bytes.** -/
theorem itext_calls (v : Value) (bs : List UInt8) (w : World) (hl : bs.length ≤ 17592186044416) (hH : HasB w.heap.size w v bs) (hT : Lib.Utf8Tabs (Tryd.lays32_ren.g 2) (Tryd.lays32_ren.g 3) w) :
    Calls Tryd.prog 46 #[v] w fun e W' => e = .returned (.string ⟨(textOf (cellsOf bs)).toArray⟩) ∧ Below w.heap.size w W' := by
  refine (callsIn_wide (n := 5)).1 ?_
  have HT : Hid (Lib.Utf8Tabs (Tryd.lays32_ren.g 2) (Tryd.lays32_ren.g 3) w) := hT
  have hslv : ∃ a cap, v = .slice a bs.length cap := by
    rcases hH with ⟨rfl, a, cap, rfl⟩ | ⟨_, b, off, cap, rfl, _⟩
    · exact ⟨a, cap, rfl⟩
    · exact ⟨_, cap, rfl⟩
  have HH : Hid (HasB w.heap.size w v bs) := hH
  obtain ⟨av, capv, rfl⟩ := hslv
  clear hH hT
  refine callsIn_of_wp_marks Tryd.func46 rfl trivial ?_ rfl
  simp only [Tryd.ntmps46, List.size_toArray, List.length_cons, List.length_nil, Nat.reduceAdd, Nat.reduceSub, Array.replicate_succ, Array.replicate_zero, List.push_toArray, List.append_toArray, List.nil_append, List.cons_append]
  gi_wp2_with (refine ⟨trivial, ?_⟩; gi_at_call 41; refine (callsIn_wide.2 (beginning_calls _)).mono ?_; rintro e w1 ⟨rfl, hb1⟩)
  refine ⟨trivial, (cells_in _ _ _ _ _ _).mono ?_⟩
  rintro e w3 ⟨rfl, hw3⟩
  have s1 := hb1.size
  have bS : w3.heap[w1.heap.size]? = some (.cells #[.int .i64 0, .int .i64 1, .int .i64 1] 79 (0, 0)) := by
    rw [hw3, Below.heap_alloc _ _ _ (by simp; omega), Below.heap_alloc _ _ _ (by simp; omega), Below.heap_alloc _ _ _ (by simp)]; exact World.alloc_heap_new _ _
  have bB : w3.heap[w1.heap.size + 1]? = some (.cells #[.pointer none, .slice none 0 0] 100 (0, 0)) := by
    rw [hw3, Below.heap_alloc _ _ _ (by simp), Below.heap_alloc _ _ _ (by simp)]; have := World.alloc_heap_new (w1.alloc (.cells #[.int .i64 0, .int .i64 1, .int .i64 1] 79)) (.cells #[.pointer none, .slice none 0 0] 100); rwa [World.size_alloc] at this
  have hz3 : w3.heap.size = w1.heap.size + 4 := by rw [hw3]; simp
  have cP : w3.cell? ⟨w1.heap.size + 1 + 1, 0, none⟩ = some (.pointer (some ⟨w1.heap.size, 0, none⟩)) := by
    have := World.alloc_heap_new ((w1.alloc (.cells #[.int .i64 0, .int .i64 1, .int .i64 1] 79)).alloc (.cells #[.pointer none, .slice none 0 0] 100)) (.cells #[.pointer (some ⟨w1.heap.size, 0, none⟩)] 94)
    rw [World.size_alloc, World.size_alloc] at this
    rw [hw3]
    simp only [World.cell?]
    rw [Below.heap_alloc _ _ _ (by simp), this]; rfl
  have cB : w3.cell? ⟨w1.heap.size + 1 + 1 + 1, 0, none⟩ = some (.slice av bs.length capv) := by
    have := World.alloc_heap_new (((w1.alloc (.cells #[.int .i64 0, .int .i64 1, .int .i64 1] 79)).alloc (.cells #[.pointer none, .slice none 0 0] 100)).alloc (.cells #[.pointer (some ⟨w1.heap.size, 0, none⟩)] 94)) (.cells #[.slice av bs.length capv] 22)
    rw [World.size_alloc, World.size_alloc, World.size_alloc] at this
    rw [hw3]
    simp only [World.cell?]
    rw [this]; rfl
  have hb3 : Below w1.heap.size w1 w3 := by rw [hw3]; exact ((((Below.refl _ w1).alloc (Nat.le_refl _) _).alloc (by simp) _).alloc (by simp; omega) _).alloc (by simp; omega) _
  have hB3 : Below w.heap.size w w3 := hb1.trans (hb3.mono s1)
  clear hw3
  gi_wp2_with fail
  have sS : SpotAt w3 w1.heap.size ((0 : Nat) : Int) ((1 : Nat) : Int) ((1 : Nat) : Int) := ⟨by simp [World.cell?, bS], by simp [World.cell?, bS], by simp [World.cell?, bS], fun k => by simp [World.frozen?, bS]⟩
  have nS : ∀ u v', w3.cell? ⟨w1.heap.size, u, none⟩ = some v' → v'.ownBlock = none := fun u v' hv' => by
    simp only [World.cell?, bS] at hv'
    match u, hv' with
    | 0, hv' => simp at hv'; rw [← hv']; rfl
    | 1, hv' => simp at hv'; rw [← hv']; rfl
    | 2, hv' => simp at hv'; rw [← hv']; rfl
    | u + 3, hv' => simp at hv'
  have noRow : ∀ k, ¬ rowG [w1.heap.size + 1] w3 k := by
    rintro k ⟨B, hBm, u, x, hx, e⟩
    obtain rfl : B = w1.heap.size + 1 := by simpa using hBm
    simp only [World.cell?, bB] at hx
    match u, hx with
    | 0, hx => simp at hx; rw [← hx] at e; cases e
    | 1, hx => simp at hx; rw [← hx] at e; cases e
    | u + 2, hx => simp at hx
  have free3 : ∀ k, k ≠ w1.heap.size + 1 → Free [w1.heap.size + 1] w3 k := fun k hk => ⟨by simpa using hk, noRow k⟩
  have hg2 : Tryd.lays32_ren.g 2 < w.heap.size ∧ Tryd.lays32_ren.g 3 < w.heap.size := ⟨cell_lt (HT.out.1 0 (by omega)), cell_lt (HT.out.2 0 (by omega)).1⟩
  have hBx3 : ∀ B ∈ [w1.heap.size + 1], w.heap.size ≤ B ∧ B < w3.heap.size := fun B hBm => by
    obtain rfl : B = w1.heap.size + 1 := by simpa using hBm
    omega
  have hseq := cells_stops 4 (by omega) (w1.heap.size + 1 + 1) (w1.heap.size + 1 + 1 + 1) w1.heap.size w.heap.size (.slice av bs.length capv) bs [w1.heap.size + 1] 0 1 1 w3 (by omega) (by omega) (by omega) (by omega)
    ((HH.out.below hB3).mono0 hB3.size) cP cB sS nS (free3 _ (by omega)) (free3 _ (by omega)) (free3 _ (by omega)) (by omega) (by omega) s1 hBx3 (fun k hk => absurd hk (noRow k)) (tabs_below HT.out hB3) hg2
  have hBB := builder_bears w1.heap.size (w1.heap.size + 1) w3.heap.size (fun pre : List Cl => Lib.byteCells (textOf (pre.map Cl.n))) (by omega) (by omega)
  refine wpIn_rangeFunc_turns rfl (by omega) (gf := 63) (lb := #[.pointer (some ⟨w1.heap.size + 1 + 1, 0, none⟩), .pointer (some ⟨w1.heap.size + 1 + 1 + 1, 0, none⟩)]) rfl trivial (enters_of Tryd.func63 (by kernel_rfl) rfl)
    hseq (fun o ho => .inl ho) (fun r hr => by have e : r = w1.heap.size := hr; omega) KprG.trans (KprG.book (by omega) (fun B hBm => (hBx3 B hBm).2))
    (fun xs W l o o' hlt hlk hoc ⟨ts, h1, h2, h3⟩ => ⟨ts, h1, h2, h3.same (World.putObj_heap_other (by omega))⟩)
    (Below.refl _ _) (fun _ => rfl)
    (fun (pre : List Cl) W => Lib.IsBuilder 100 5 (w1.heap.size + 1) (w1.heap.size + 1) (Lib.byteCells (textOf (pre.map Cl.n))) W ∧ Below w.heap.size w W ∧ w3.heap.size ≤ W.heap.size)
    (fun _ _ _ => False)
    (Bears.and hBB (Bears.and (below_bears (Nat.le_refl _) (fun r hr => by have e : r = w1.heap.size := hr; omega) (by omega)) (fun s A A' hs ⟨row, hg, _⟩ => Nat.le_trans hs hg.size)))
    (fun _ => Bears.pure _)
    ⟨.inl ⟨Nat.le_refl _, .slice none 0 0, bB, World.ownsRow_nil _ _ _ _, by simp [Value.ownBlock]⟩, hB3, Nat.le_refl _⟩
    (fun x a' W => ∃ Bx, w3.heap.size ≤ Bx ∧ W.heap[Bx]? = some (.cells #[.int .i32 (x.r : Int), .int .i64 (x.y : Int), .int .i64 (x.l : Int), .int .i64 (x.c : Int)] 62 (0, 0)) ∧ a' = { tmps := #[.slice av bs.length capv, undef, .string ⟨#[]⟩, .pointer (some ⟨w1.heap.size, 0, none⟩), .pointer (some ⟨w1.heap.size + 1, 0, none⟩), .pointer (some ⟨Bx, 0, none⟩), .agg #[.int .i64 0, .int .i64 1, .int .i64 1], .slice av bs.length capv, .func (.func 63) #[] #[.pointer (some ⟨w1.heap.size + 1 + 1, 0, none⟩), .pointer (some ⟨w1.heap.size + 1 + 1 + 1, 0, none⟩)], .agg #[.int .i32 (x.r : Int), .int .i64 (x.y : Int), .int .i64 (x.l : Int), .int .i64 (x.c : Int)], undef, undef, undef, undef], defers := [] })
    (fun x a' W l o o' hlt hlk hoc ⟨Bx, h1, h2, h3⟩ => ⟨Bx, h1, (World.putObj_heap_other (by rintro rfl; rw [h2] at hlk; cases hlk; cases hoc)).trans h2, h3⟩)
    ?assign ?body ?done ?stop
  case assign =>
    rintro l pre x W K ⟨hi, hB, hzW⟩ hK
    unfold encC
    gi_wp2
    have hBa := (Below.refl W.heap.size W).alloc (Nat.le_refl _) (.cells #[.int .i32 (x.r : Int), .int .i64 (x.y : Int), .int .i64 (x.l : Int), .int .i64 (x.c : Int)] 62)
    exact hK _ _ ((KeepsOthers.alloc _ _).from _) (KprG.below hBa (by omega) (fun B hBm => by have := (hBx3 B hBm).2; omega)) ⟨hBB _ _ _ hi (Step.alloc _ _), hB.trans (hBa.mono hB.size), by simp; omega⟩ ⟨W.heap.size, hzW, World.alloc_heap_new _ _, rfl⟩
  case body =>
    rintro l pre x a' W ⟨hi, hB, hzW⟩ ⟨Bx, hBx', hcx, rfl⟩ hlt
    have c0 : W.cell? ⟨Bx, 0, none⟩ = some (.int .i32 (x.r : Int)) := by simp [World.cell?, hcx]
    have hle := textOf_le (pre.map Cl.n)
    rw [List.length_map] at hle
    have hr1 := x.hr
    have HI : Hid (Lib.IsBuilder 100 5 (w1.heap.size + 1) (w1.heap.size + 1) (Lib.byteCells (textOf (pre.map Cl.n))) W) := hi
    clear hi hcx
    gi_wp2_with (refine ⟨trivial, ?_⟩; gi_at_call 57; refine (CallsIn.inRound l (callsIn_wide.2 (writeRune_calls (w1.heap.size + 1) (w1.heap.size + 1) _ x.r (by omega) _ HI.out (by rw [Lib.byteCells_length]; omega) (by omega)))).mono ?_; rintro e W' ⟨⟨vr, rfl⟩, hi', hk', ho'⟩)
    have hz' := hk'.1.size
    refine ⟨ho'.from _, hk'.lower (by omega), ?_, hB.trans (hk'.1.mono (by omega)), by omega⟩
    rw [List.map_append, List.map_cons, List.map_nil, textOf_snoc, byteCells_append, Lib.byteCells_encodeRune]
    exact hi'
  case done =>
    rintro D ys W hD ⟨ts, h1, h2, h3⟩ ⟨hi, hB, hzW⟩ hK
    have hres : textOf (ys.map Cl.n) = textOf (cellsOf bs) := by rw [h2, readT_cells h1]; rfl
    rw [hres] at hi
    have HI : Hid (Lib.IsBuilder 100 5 (w1.heap.size + 1) (w1.heap.size + 1) (Lib.byteCells (textOf (cellsOf bs))) W) := hi
    clear hi h1 h2 h3 hres
    gi_wp2_with (refine ⟨trivial, ?_⟩; gi_at_call 58; refine (callsIn_wide.2 (bstring_calls (w1.heap.size + 1) _ _ _ HI.out (by omega))).mono ?_; rintro e W' ⟨rfl, hb', ho'⟩)
    have hK' : W'.heap[D]? = some (.deferred (some [])) := ho' D _ hK (by simp; omega) (fun c fz e => by cases e)
    refine ⟨by simp, .inl ⟨_, _, rfl, run_takeDeferred hK', ?_⟩⟩
    exact ⟨_, results_tmp rfl _ _ _, rfl, (hB.trans (hb'.mono (by omega))).trans (belowK_b (w := w) (Nat.le_refl _) W' D _ _ (by omega) hK' rfl rfl)⟩
  case stop =>
    rintro D cd pre W _ _ h _
    exact h.elim
end Go.Proofs.YtjhoaepokkaoeaaDoor.U
