/- What is proved here: the contract of input.Where: for any bytes and any place inside, it returns the place of the cell that the byte belongs to. -/
import Derived.Test.YtpljklemkapnmaaDoorMathR
namespace Go.Proofs.YtpljklemkapnmaaDoor.U
open Go.RowKit Go.Shelf
attribute [local go_sem] Oper.semAt_some

/-- What lies in a block that is not the iterator's own stays. -/
theorem spot_bears {β : Type} (sb n B : Nat) (f : β → Nat × Nat × Nat) (hs : n ≠ sb) (hB : n < B) : Bears (ownS sb) fineC B (fun s W => SpotAt W n ((f s).1 : Int) ((f s).2.1 : Int) ((f s).2.2 : Int)) := fun s A A' h hst => by
  have hb := hst.block h.lt hB (fun ho => hs ho)
  exact ⟨(cell_of_block hb).trans h.c0, (cell_of_block hb).trans h.c1, (cell_of_block hb).trans h.c2, fun k => (by simp only [World.frozen?, hb] : A'.frozen? ⟨n, k, none⟩ = A.frozen? ⟨n, k, none⟩).trans (h.fz k)⟩
theorem cell_bears {β : Type} (sb n B : Nat) (v : Value) (hs : n ≠ sb) (hB : n < B) : Bears (ownS sb) fineC B (fun (_ : β) W => W.cell? ⟨n, 0, none⟩ = some v ∧ W.frozen? ⟨n, 0, none⟩ = false) := fun s A A' h hst => by
  have hb := hst.block (cell_lt h.1) hB (fun ho => hs ho)
  exact ⟨(cell_of_block hb).trans h.1, (by simp only [World.frozen?, hb] : A'.frozen? ⟨n, 0, none⟩ = A.frozen? ⟨n, 0, none⟩).trans h.2⟩

theorem results_iwhere {tmps : Array Value} {W : World} {A B : Nat} {y l c e : Int} (h4 : tmps[4]?.getD undef = .pointer (some ⟨A, 0, none⟩)) (h5 : tmps[5]?.getD undef = .pointer (some ⟨B, 0, none⟩)) (h : SpotAt W A y l c) (hE : W.cell? ⟨B, 0, none⟩ = some (.int .i64 e)) :
    (results Tryd.f31 tmps).run Tryd.prog W = .ok (.tuple #[.agg #[.int .i64 y, .int .i64 l, .int .i64 c], .int .i64 e]) W := by
  have c0 := h.c0
  have c1 := h.c1
  have c2 := h.c2
  simp [results, Tryd.results31, go_sem, h4, h5, c0, c1, c2, hE]
theorem SpotAt.same {A B : World} {n : Nat} {y l c : Int} (h : SpotAt A n y l c) (hb : B.heap[n]? = A.heap[n]?) : SpotAt B n y l c :=
  ⟨(cell_of_block hb).trans h.c0, (cell_of_block hb).trans h.c1, (cell_of_block hb).trans h.c2, fun k => (by simp only [World.frozen?, hb] : B.frozen? ⟨n, k, none⟩ = A.frozen? ⟨n, k, none⟩).trans (h.fz k)⟩
theorem put3_keeps (W : World) (n : Nat) (y l c : Int) : KeepsOthers W (put3 W n y l c) := ((KeepsOthers.setCell W _ _).trans (KeepsOthers.setCell _ _ _)).trans (KeepsOthers.setCell _ _ _)
theorem put3_kprG {n₀ : Nat} {bxs : List Nat} (W : World) (n : Nat) (y l c : Int) (hp : n ∈ bxs) (hn : n₀ ≤ n) : KprG n₀ bxs W (put3 W n y l c) :=
  ((KprG.store (p := ⟨n, 0, none⟩) hp hn rfl).trans (KprG.store (p := ⟨n, 1, none⟩) hp hn rfl)).trans (KprG.store (p := ⟨n, 2, none⟩) hp hn rfl)
/-- The answer stored. -/
def ans (W : World) (R E : Nat) (y l c : Nat) : World := (put3 W R y l c).setCell ⟨E, 0, none⟩ (.int .i64 0)
theorem put3_frozen (W : World) (n : Nat) (y l c : Int) (a : Addr) : (put3 W n y l c).frozen? a = W.frozen? a := by unfold put3; rw [World.frozen?_setCell, World.frozen?_setCell, World.frozen?_setCell]
theorem ans_ok {w W : World} {n₀ R E y0 l0 c0 : Nat} (hR : SpotAt W R y0 l0 c0) (hE : W.cell? ⟨E, 0, none⟩ = some (.int .i64 0) ∧ W.frozen? ⟨E, 0, none⟩ = false) (hne : R ≠ E) (hB : Below n₀ w W) (hn : n₀ ≤ R) (hn' : n₀ ≤ E) (y l c : Nat) :
    SpotAt (ans W R E y l c) R y l c ∧ ((ans W R E y l c).cell? ⟨E, 0, none⟩ = some (.int .i64 0) ∧ (ans W R E y l c).frozen? ⟨E, 0, none⟩ = false) ∧ Below n₀ w (ans W R E y l c) ∧ KeepsOthers W (ans W R E y l c) := by
  unfold ans
  refine ⟨(hR.store y l c).same (Below.heap_setCell _ _ _ _ (fun e => hne e)), ⟨cs_same (u := .int .i64 0) ((cell_of_block (put3_block _ _ _ _ _ _ (fun e => hne e.symm))).trans hE.1), by rw [World.frozen?_setCell, put3_frozen]; exact hE.2⟩, (put3_below hB hn _ _ _).setCell hn' _, (put3_keeps _ _ _ _ _).trans (KeepsOthers.setCell _ _ _)⟩

set_option maxRecDepth 100000 in
set_option maxHeartbeats 4000000 in
/-- **input.Where at a place inside.** -/
theorem iwhere_calls (v : Value) (bs : List UInt8) (at0 : Nat) (w : World) (hl : bs.length ≤ 17179869184) (hat : at0 ≤ bs.length) (hH : HasB w.heap.size w v bs) (hT : Lib.Utf8Tabs (Tryd.lays32_ren.g 2) (Tryd.lays32_ren.g 3) w) :
    Calls Tryd.prog 31 #[v, .int .i64 (at0 : Int)] w fun e W' => e = .returned (.tuple #[placeV (whereOf bs at0), .int .i64 0]) ∧ Below w.heap.size w W' := by
  refine (callsIn_wide (n := 5)).1 ?_
  have HT : Hid (Lib.Utf8Tabs (Tryd.lays32_ren.g 2) (Tryd.lays32_ren.g 3) w) := hT
  have hslv : ∃ a cap, v = .slice a bs.length cap := by
    rcases hH with ⟨rfl, a, cap, rfl⟩ | ⟨_, b, off, cap, rfl, _⟩
    · exact ⟨a, cap, rfl⟩
    · exact ⟨_, cap, rfl⟩
  have HH : Hid (HasB w.heap.size w v bs) := hH
  obtain ⟨av, capv, rfl⟩ := hslv
  have ta : decide ((at0 : Int) < 0) = false := by simp
  have tb : decide ((bs.length : Int) < (at0 : Int)) = false := by simp; omega
  have tc : decide (bs.length < at0) = false := by simp; omega
  clear hH hT
  refine callsIn_of_wp_marks Tryd.func31 rfl trivial ?_ rfl
  simp only [Tryd.ntmps31, List.size_toArray, List.length_cons, List.length_nil, Nat.reduceAdd, Nat.reduceSub, Array.replicate_succ, Array.replicate_zero, List.push_toArray, List.append_toArray, List.nil_append, List.cons_append]
  gi_wp2_with (refine ⟨trivial, ?_⟩; gi_at_call 36; refine (callsIn_wide.2 (beginning_calls _)).mono ?_; rintro e w1 ⟨rfl, hb1⟩)
  refine ⟨trivial, (cells_in _ _ _ _ _ _).mono ?_⟩
  rintro e w3 ⟨rfl, hw3⟩
  obtain ⟨w0, hw0⟩ : ∃ w0, ((w.alloc (.cells #[.int .i64 (at0 : Int)] 3)).alloc (.cells #[.int .i64 0, .int .i64 0, .int .i64 0] 34)).alloc (.cells #[.int .i64 0] 44) = w0 := ⟨_, rfl⟩
  rw [hw0] at hb1
  have a0 : w0.heap[w.heap.size]? = some (.cells #[.int .i64 (at0 : Int)] 3 (0, 0)) := by
    rw [← hw0, Below.heap_alloc _ _ _ (by simp; omega), Below.heap_alloc _ _ _ (by simp)]; exact World.alloc_heap_new _ _
  have aR : w0.heap[w.heap.size + 1]? = some (.cells #[.int .i64 0, .int .i64 0, .int .i64 0] 34 (0, 0)) := by
    rw [← hw0, Below.heap_alloc _ _ _ (by simp)]
    have := World.alloc_heap_new (w.alloc (.cells #[.int .i64 (at0 : Int)] 3)) (.cells #[.int .i64 0, .int .i64 0, .int .i64 0] 34); rwa [World.size_alloc] at this
  have aE : w0.heap[w.heap.size + 1 + 1]? = some (.cells #[.int .i64 0] 44 (0, 0)) := by
    rw [← hw0]
    have := World.alloc_heap_new ((w.alloc (.cells #[.int .i64 (at0 : Int)] 3)).alloc (.cells #[.int .i64 0, .int .i64 0, .int .i64 0] 34)) (.cells #[.int .i64 0] 44); rwa [World.size_alloc, World.size_alloc] at this
  have z0 : w0.heap.size = w.heap.size + 3 := by rw [← hw0]; simp
  have hb0 : Below w.heap.size w w0 := by rw [← hw0]; exact (((Below.refl _ w).alloc (Nat.le_refl _) _).alloc (by simp) _).alloc (by simp; omega) _
  have s1 := hb1.size
  have bS : w3.heap[w1.heap.size]? = some (.cells #[.int .i64 0, .int .i64 1, .int .i64 1] 59 (0, 0)) := by
    rw [hw3, Below.heap_alloc _ _ _ (by simp; omega), Below.heap_alloc _ _ _ (by simp; omega), Below.heap_alloc _ _ _ (by simp)]; exact World.alloc_heap_new _ _
  have bF : w3.heap[w1.heap.size + 1]? = some (.cells #[.int .i64 0, .int .i64 1, .int .i64 1] 34 (0, 0)) := by
    rw [hw3, Below.heap_alloc _ _ _ (by simp), Below.heap_alloc _ _ _ (by simp)]; have := World.alloc_heap_new (w1.alloc (.cells #[.int .i64 0, .int .i64 1, .int .i64 1] 59)) (.cells #[.int .i64 0, .int .i64 1, .int .i64 1] 34); rwa [World.size_alloc] at this
  have hz3 : w3.heap.size = w1.heap.size + 4 := by rw [hw3]; simp
  have cP : w3.cell? ⟨w1.heap.size + 1 + 1, 0, none⟩ = some (.pointer (some ⟨w1.heap.size, 0, none⟩)) := by
    have := World.alloc_heap_new ((w1.alloc (.cells #[.int .i64 0, .int .i64 1, .int .i64 1] 59)).alloc (.cells #[.int .i64 0, .int .i64 1, .int .i64 1] 34)) (.cells #[.pointer (some ⟨w1.heap.size, 0, none⟩)] 87)
    rw [World.size_alloc, World.size_alloc] at this
    rw [hw3]
    simp only [World.cell?]
    rw [Below.heap_alloc _ _ _ (by simp), this]; rfl
  have cB : w3.cell? ⟨w1.heap.size + 1 + 1 + 1, 0, none⟩ = some (.slice av bs.length capv) := by
    have := World.alloc_heap_new (((w1.alloc (.cells #[.int .i64 0, .int .i64 1, .int .i64 1] 59)).alloc (.cells #[.int .i64 0, .int .i64 1, .int .i64 1] 34)).alloc (.cells #[.pointer (some ⟨w1.heap.size, 0, none⟩)] 87)) (.cells #[.slice av bs.length capv] 25)
    rw [World.size_alloc, World.size_alloc, World.size_alloc] at this
    rw [hw3]
    simp only [World.cell?]
    rw [this]; rfl
  have hb3 : Below w1.heap.size w1 w3 := by rw [hw3]; exact ((((Below.refl _ w1).alloc (Nat.le_refl _) _).alloc (by simp) _).alloc (by simp; omega) _).alloc (by simp; omega) _
  have hb03 : Below w0.heap.size w0 w3 := hb1.trans (hb3.mono s1)
  have hB3 : Below w.heap.size w w3 := hb0.trans (hb03.mono (by omega))
  have bA := (hb03.block w.heap.size (by omega)).trans a0
  have bR := (hb03.block (w.heap.size + 1) (by omega)).trans aR
  have bE := (hb03.block (w.heap.size + 1 + 1) (by omega)).trans aE
  clear hw3 hw0 a0 aR aE
  gi_wp2_with fail
  have sS : SpotAt w3 w1.heap.size ((0 : Nat) : Int) ((1 : Nat) : Int) ((1 : Nat) : Int) ∧ ∀ u v, w3.cell? ⟨w1.heap.size, u, none⟩ = some v → v.ownBlock = none := spot_new bS
  have sp : ∀ (n : Nat) (x y z : Int), w3.heap[n]? = some (.cells #[.int .i64 x, .int .i64 y, .int .i64 z] 34 (0, 0)) → SpotAt w3 n x y z := fun n x y z h => ⟨by simp [World.cell?, h], by simp [World.cell?, h], by simp [World.cell?, h], fun k => by simp [World.frozen?, h]⟩
  have noRow : ∀ k, ¬ rowG [w.heap.size + 1, w.heap.size + 1 + 1, w1.heap.size + 1] w3 k := by
    rintro k ⟨B, hBm, u, x, hx, e⟩
    simp only [List.mem_cons, List.not_mem_nil, or_false] at hBm
    rcases hBm with rfl | rfl | rfl
    · simp only [World.cell?, bR] at hx
      match u, hx with
      | 0, hx => simp at hx; rw [← hx] at e; cases e
      | 1, hx => simp at hx; rw [← hx] at e; cases e
      | 2, hx => simp at hx; rw [← hx] at e; cases e
      | u + 3, hx => simp at hx
    · simp only [World.cell?, bE] at hx
      match u, hx with
      | 0, hx => simp at hx; rw [← hx] at e; cases e
      | u + 1, hx => simp at hx
    · simp only [World.cell?, bF] at hx
      match u, hx with
      | 0, hx => simp at hx; rw [← hx] at e; cases e
      | 1, hx => simp at hx; rw [← hx] at e; cases e
      | 2, hx => simp at hx; rw [← hx] at e; cases e
      | u + 3, hx => simp at hx
  have free3 : ∀ k, k ≠ w.heap.size + 1 → k ≠ w.heap.size + 1 + 1 → k ≠ w1.heap.size + 1 → Free [w.heap.size + 1, w.heap.size + 1 + 1, w1.heap.size + 1] w3 k := fun k h1 h2 h3 => ⟨by simp [h1, h2, h3], noRow k⟩
  have hg2 : Tryd.lays32_ren.g 2 < w.heap.size ∧ Tryd.lays32_ren.g 3 < w.heap.size := ⟨cell_lt (HT.out.1 0 (by omega)), cell_lt (HT.out.2 0 (by omega)).1⟩
  have hBx3 : ∀ B ∈ [w.heap.size + 1, w.heap.size + 1 + 1, w1.heap.size + 1], w.heap.size ≤ B ∧ B < w3.heap.size := fun B hBm => by
    simp only [List.mem_cons, List.not_mem_nil, or_false] at hBm
    rcases hBm with rfl | rfl | rfl <;> omega
  have hseq := cells_stops 4 (by omega) (w1.heap.size + 1 + 1) (w1.heap.size + 1 + 1 + 1) w1.heap.size w.heap.size (.slice av bs.length capv) bs [w.heap.size + 1, w.heap.size + 1 + 1, w1.heap.size + 1] 0 1 1 w3 (by omega) (by omega) (by omega) (by omega)
    ((HH.out.below hB3).mono0 hB3.size) cP cB sS.1 sS.2 (free3 _ (by omega) (by omega) (by omega)) (free3 _ (by omega) (by omega) (by omega)) (free3 _ (by omega) (by omega) (by omega)) (by omega) (by omega) (by omega) hBx3 (fun k hk => absurd hk (noRow k)) (tabs_below HT.out hB3) hg2
  refine wpIn_rangeFunc_turns rfl (by omega) (gf := 50) (lb := #[.pointer (some ⟨w1.heap.size + 1 + 1, 0, none⟩), .pointer (some ⟨w1.heap.size + 1 + 1 + 1, 0, none⟩)]) rfl trivial (enters_of Tryd.func50 (by kernel_rfl) rfl)
    hseq (fun o ho => .inl ho) (fun r hr => by have e : r = w1.heap.size := hr; omega) KprG.trans (KprG.book (by omega) (fun B hBm => (hBx3 B hBm).2))
    (fun xs W l o o' hlt hlk hoc ⟨ts, h1, h2, h3⟩ => ⟨ts, h1, h2, h3.same (World.putObj_heap_other (by omega))⟩)
    (Below.refl _ _) (fun _ => rfl)
    (fun (pre : List Cl) W => SpotAt W (w1.heap.size + 1) ((lastP (0, 1, 1) (pre.map Cl.n)).1 : Int) ((lastP (0, 1, 1) (pre.map Cl.n)).2.1 : Int) ((lastP (0, 1, 1) (pre.map Cl.n)).2.2 : Int) ∧ SpotAt W (w.heap.size + 1) ((0 : Nat) : Int) ((0 : Nat) : Int) ((0 : Nat) : Int) ∧ (W.cell? ⟨w.heap.size + 1 + 1, 0, none⟩ = some (.int .i64 0) ∧ W.frozen? ⟨w.heap.size + 1 + 1, 0, none⟩ = false) ∧ (W.cell? ⟨w.heap.size, 0, none⟩ = some (.int .i64 (at0 : Int)) ∧ W.frozen? ⟨w.heap.size, 0, none⟩ = false) ∧ (∀ x ∈ pre, x.y ≤ at0) ∧ Below w.heap.size w W ∧ w3.heap.size ≤ W.heap.size)
    (fun cd (pre : List Cl) W => SpotAt W (w.heap.size + 1) ((lastP (0, 1, 1) (pre.dropLast.map Cl.n)).1 : Int) ((lastP (0, 1, 1) (pre.dropLast.map Cl.n)).2.1 : Int) ((lastP (0, 1, 1) (pre.dropLast.map Cl.n)).2.2 : Int) ∧ (W.cell? ⟨w.heap.size + 1 + 1, 0, none⟩ = some (.int .i64 0) ∧ W.frozen? ⟨w.heap.size + 1 + 1, 0, none⟩ = false) ∧ (cd = .ret ∧ ∃ x : Cl, pre = pre.dropLast ++ [x] ∧ (∀ y ∈ pre.dropLast, y.y ≤ at0) ∧ at0 < x.y) ∧ Below w.heap.size w W ∧ w3.heap.size ≤ W.heap.size)
    (Bears.and (spot_bears w1.heap.size _ _ (fun pre : List Cl => lastP (0, 1, 1) (pre.map Cl.n)) (by omega) (by omega)) (Bears.and (spot_bears w1.heap.size _ _ (fun _ : List Cl => (0, 0, 0)) (by omega) (by omega)) (Bears.and (cell_bears w1.heap.size _ _ _ (by omega) (by omega)) (Bears.and (cell_bears w1.heap.size _ _ _ (by omega) (by omega)) (Bears.and (Bears.pure _) (Bears.and (below_bears (Nat.le_refl _) (fun r hr => by have e : r = w1.heap.size := hr; omega) (by omega)) (fun s A A' hs ⟨row, hg, _⟩ => Nat.le_trans hs hg.size)))))))
    (fun cd => Bears.and (spot_bears w1.heap.size _ _ (fun pre : List Cl => lastP (0, 1, 1) (pre.dropLast.map Cl.n)) (by omega) (by omega)) (Bears.and (cell_bears w1.heap.size _ _ _ (by omega) (by omega)) (Bears.and (Bears.pure _) (Bears.and (below_bears (Nat.le_refl _) (fun r hr => by have e : r = w1.heap.size := hr; omega) (by omega)) (fun s A A' hs ⟨row, hg, _⟩ => Nat.le_trans hs hg.size)))))
    ⟨sp _ _ _ _ bF, sp _ _ _ _ bR, ⟨by simp [World.cell?, bE], by simp [World.frozen?, bE]⟩, ⟨by simp [World.cell?, bA], by simp [World.frozen?, bA]⟩, by simp, hB3, Nat.le_refl _⟩
    (fun x a' W => ∃ Bx, w3.heap.size ≤ Bx ∧ W.heap[Bx]? = some (.cells #[.int .i32 (x.r : Int), .int .i64 (x.y : Int), .int .i64 (x.l : Int), .int .i64 (x.c : Int)] 36 (0, 0)) ∧ a' = { tmps := #[.slice av bs.length capv, .int .i64 (at0 : Int), undef, .pointer (some ⟨w.heap.size, 0, none⟩), .pointer (some ⟨w.heap.size + 1, 0, none⟩), .pointer (some ⟨w.heap.size + 1 + 1, 0, none⟩), .pointer (some ⟨w1.heap.size, 0, none⟩), .pointer (some ⟨w1.heap.size + 1, 0, none⟩), .pointer (some ⟨Bx, 0, none⟩), .int .i64 (at0 : Int), .bool false, .bool false, .int .i64 (at0 : Int), .slice av bs.length capv, .int .i64 (bs.length : Int), .bool false, .bool false, undef, .agg #[.int .i64 0, .int .i64 1, .int .i64 1], .pointer (some ⟨w1.heap.size, 0, none⟩), .agg #[.int .i64 0, .int .i64 1, .int .i64 1], .slice av bs.length capv, .func (.func 50) #[] #[.pointer (some ⟨w1.heap.size + 1 + 1, 0, none⟩), .pointer (some ⟨w1.heap.size + 1 + 1 + 1, 0, none⟩)], .agg #[.int .i32 (x.r : Int), .int .i64 (x.y : Int), .int .i64 (x.l : Int), .int .i64 (x.c : Int)], undef, undef, undef, undef, undef, undef, undef, undef, undef, undef, undef, undef, undef, undef, undef], defers := [] })
    (fun x a' W l o o' hlt hlk hoc ⟨Bx, h1, h2, h3⟩ => ⟨Bx, h1, (World.putObj_heap_other (by rintro rfl; rw [h2] at hlk; cases hlk; cases hoc)).trans h2, h3⟩)
    ?assign ?body ?done ?stop
  case assign =>
    rintro l pre x W K ⟨hF, hR, hE, hA, hp, hB, hzW⟩ hK
    unfold encC
    gi_wp2
    have hBa := (Below.refl W.heap.size W).alloc (Nat.le_refl _) (.cells #[.int .i32 (x.r : Int), .int .i64 (x.y : Int), .int .i64 (x.l : Int), .int .i64 (x.c : Int)] 36)
    exact hK _ _ ((KeepsOthers.alloc _ _).from _) (KprG.below hBa (by omega) (fun B hBm => by have := (hBx3 B hBm).2; omega)) ⟨hF.under hBa, hR.under hBa, ⟨(hBa.cell (p := ⟨w.heap.size + 1 + 1, 0, none⟩) (cell_lt hE.1)).trans hE.1, (hBa.frozen (p := ⟨w.heap.size + 1 + 1, 0, none⟩) (cell_lt hE.1)).trans hE.2⟩, ⟨(hBa.cell (p := ⟨w.heap.size, 0, none⟩) (cell_lt hA.1)).trans hA.1, (hBa.frozen (p := ⟨w.heap.size, 0, none⟩) (cell_lt hA.1)).trans hA.2⟩, hp, hB.trans (hBa.mono hB.size), by simp; omega⟩ ⟨W.heap.size, hzW, World.alloc_heap_new _ _, rfl⟩
  case body =>
    rintro l pre x a' W ⟨hF, hR, hE, hA, hp, hB, hzW⟩ ⟨Bx, hBx', hcx, rfl⟩ hlt
    have c0 : W.cell? ⟨Bx, 0, none⟩ = some (.int .i32 (x.r : Int)) := by simp [World.cell?, hcx]
    have c1 : W.cell? ⟨Bx, 1, none⟩ = some (.int .i64 (x.y : Int)) := by simp [World.cell?, hcx]
    have c2 : W.cell? ⟨Bx, 2, none⟩ = some (.int .i64 (x.l : Int)) := by simp [World.cell?, hcx]
    have c3 : W.cell? ⟨Bx, 3, none⟩ = some (.int .i64 (x.c : Int)) := by simp [World.cell?, hcx]
    obtain ⟨⟨ly, ll, lc⟩, hL⟩ : ∃ L, lastP (0, 1, 1) (pre.map Cl.n) = L := ⟨_, rfl⟩
    rw [hL] at hF
    have HL : Hid (lastP (0, 1, 1) (pre.map Cl.n) = (ly, ll, lc)) := hL
    have HF : Hid (SpotAt W (w1.heap.size + 1) (ly : Int) (ll : Int) (lc : Int)) := hF
    have HR : Hid (SpotAt W (w.heap.size + 1) ((0 : Nat) : Int) ((0 : Nat) : Int) ((0 : Nat) : Int)) := hR
    have f0 := hF.c0
    have f1 := hF.c1
    have f2 := hF.c2
    have f3 := hF.fz 0
    have f4 := hF.fz 1
    have f5 := hF.fz 2
    have r0 := hR.c0
    have r1 := hR.c1
    have r2 := hR.c2
    have r3 := hR.fz 0
    have r4 := hR.fz 1
    have r5 := hR.fz 2
    obtain ⟨e0, e1⟩ := hE
    obtain ⟨t0, t1⟩ := hA
    have d0 : ¬ w1.heap.size + 1 = Bx := by omega
    have d1 : ¬ w.heap.size + 1 = w1.heap.size + 1 := by omega
    have d2 : ¬ w.heap.size + 1 + 1 = w1.heap.size + 1 := by omega
    have d3 : ¬ w.heap.size = w1.heap.size + 1 := by omega
    clear hcx hL hF hR
    by_cases hgt : at0 < x.y
    · have tg : decide ((at0 : Int) < (x.y : Int)) = true := by simp; omega
      have tg' : decide (at0 < x.y) = true := by simp; omega
      gi_wp2
      obtain ⟨g1, g2, g3, g4⟩ := ans_ok HR.out ⟨e0, e1⟩ (by omega) hB (by omega) (by omega) ly ll lc
      have e : lastP (0, 1, 1) ((pre ++ [x]).map Cl.n).dropLast = (ly, ll, lc) := by
        rw [List.map_append, List.map_singleton, List.dropLast_concat]; exact HL.out
      refine ⟨g4.from _, ?_, g2, ⟨rfl, x, by simp, by simpa using hp, hgt⟩, g3, Nat.le_trans (show w1.heap.size + 4 ≤ W.heap.size by omega) g4.size⟩
      rw [e]
      exact g1
    · have tg : decide ((at0 : Int) < (x.y : Int)) = false := by simp; omega
      have tg' : decide (at0 < x.y) = false := by simp; omega
      gi_wp2
      have e : lastP (0, 1, 1) ((pre ++ [x]).map Cl.n) = (x.y, x.l, x.c) := by rw [List.map_append]; exact lastP_snoc x.n _ _
      have hk := put3_keeps W (w1.heap.size + 1) x.y x.l x.c
      refine ⟨hk.from _, put3_kprG W (w1.heap.size + 1) x.y x.l x.c (by simp) (by omega), ?_, HR.out.other (by omega) _ _ _, ⟨(cell_of_block (put3_block _ _ _ _ _ _ (by omega))).trans e0, (put3_frozen _ _ _ _ _ _).trans e1⟩, ⟨(cell_of_block (put3_block _ _ _ _ _ _ (by omega))).trans t0, (put3_frozen _ _ _ _ _ _).trans t1⟩, ?_, put3_below hB (by omega) _ _ _, Nat.le_trans (show w1.heap.size + 4 ≤ W.heap.size by omega) hk.size⟩
      · rw [e]
        exact HF.out.store x.y x.l x.c
      · intro y hy
        rcases List.mem_append.1 hy with hy | hy
        · exact hp y hy
        · obtain rfl : y = x := by simpa using hy
          omega
  case done =>
    rintro D ys W hD ⟨ts, h1, h2, h3⟩ ⟨hF, hR, hE, hA, hp, hB, hzW⟩ hK
    have hout : ys.map Cl.n = cellsOf bs := by rw [h2]; exact readT_cells h1
    have hwh := where_done bs at0 (fun y hy => by
      rw [← hout] at hy
      obtain ⟨x, hx, rfl⟩ := List.mem_map.1 hy
      exact hp x hx)
    obtain ⟨hl1, hc1⟩ := readT_l (y := 0) (l := 1) (c := 1) h1
    rw [hl1, hc1, Nat.zero_add] at h3
    rw [spot_next] at hwh
    rw [hout] at hF
    obtain ⟨⟨ly, ll, lc⟩, hL⟩ : ∃ L, lastP (0, 1, 1) (cellsOf bs) = L := ⟨_, rfl⟩
    rw [hL] at hF hwh
    obtain ⟨fl, hfl⟩ : ∃ fl, (readN 0 1 1 (toks bs)).l = fl := ⟨_, rfl⟩
    obtain ⟨fc, hfc⟩ : ∃ fc, (readN 0 1 1 (toks bs)).c = fc := ⟨_, rfl⟩
    rw [hfl, hfc] at h3 hwh
    have HR : Hid (SpotAt W (w.heap.size + 1) ((0 : Nat) : Int) ((0 : Nat) : Int) ((0 : Nat) : Int)) := hR
    have x0 := h3.at_.c0
    have x1 := h3.at_.c1
    have x2 := h3.at_.c2
    have f0 := hF.c0
    have f1 := hF.c1
    have f2 := hF.c2
    have r0 := hR.c0
    have r1 := hR.c1
    have r2 := hR.c2
    have r3 := hR.fz 0
    have r4 := hR.fz 1
    have r5 := hR.fz 2
    obtain ⟨e0, e1⟩ := hE
    obtain ⟨t0, t1⟩ := hA
    have hDl := lt_of_block hK
    have HK : Hid (W.heap[D]? = some (.deferred (some []))) := hK
    clear h1 h2 h3 hF hR hout hL hfl hfc hl1 hc1 hK
    have fin : ∀ (y l c : Nat), ∃ W', W' = ans W (w.heap.size + 1) (w.heap.size + 1 + 1) y l c ∧ W'.heap[D]? = some (.deferred (some [])) ∧ SpotAt (W'.putObj D (.deferred none)) (w.heap.size + 1) y l c ∧ (W'.putObj D (.deferred none)).cell? ⟨w.heap.size + 1 + 1, 0, none⟩ = some (.int .i64 0) ∧ Below w.heap.size w (W'.putObj D (.deferred none)) := fun y l c => by
      obtain ⟨g1, g2, g3, g4⟩ := ans_ok HR.out ⟨e0, e1⟩ (by omega) hB (by omega) (by omega) y l c
      have hK' := g4.same D _ HK.out rfl
      have hoE : ((ans W (w.heap.size + 1) (w.heap.size + 1 + 1) y l c).putObj D (.deferred none)).heap[w.heap.size + 1 + 1]? = (ans W (w.heap.size + 1) (w.heap.size + 1 + 1) y l c).heap[w.heap.size + 1 + 1]? := World.putObj_heap_other (by omega)
      exact ⟨_, rfl, hK', g1.same (World.putObj_heap_other (by omega)), (cell_of_block hoE).trans g2.1, g3.trans (belowK_b (w := w) (Nat.le_refl _) _ D _ _ (by omega) hK' rfl rfl)⟩
    have FIN : Hid (∀ (y l c : Nat), ∃ W', W' = ans W (w.heap.size + 1) (w.heap.size + 1 + 1) y l c ∧ W'.heap[D]? = some (.deferred (some [])) ∧ SpotAt (W'.putObj D (.deferred none)) (w.heap.size + 1) y l c ∧ (W'.putObj D (.deferred none)).cell? ⟨w.heap.size + 1 + 1, 0, none⟩ = some (.int .i64 0) ∧ Below w.heap.size w (W'.putObj D (.deferred none))) := fin
    clear fin
    by_cases he : at0 = bs.length
    · rw [if_pos he] at hwh
      have HW : Hid (whereOf bs at0 = (bs.length, fl, fc)) := hwh
      have te : ((at0 : Int) == (bs.length : Int)) = true := by simp; omega
      have te' : (at0 == bs.length) = true := by simp; omega
      clear hwh he
      gi_wp2
      obtain ⟨W', hW', k1, k2, k3, k4⟩ := FIN.out bs.length fl fc
      subst hW'
      refine ⟨by simp, .inl ⟨_, _, rfl, run_takeDeferred k1, ?_⟩⟩
      exact ⟨_, results_iwhere rfl rfl k2 k3, by rw [HW.out]; rfl, k4⟩
    · rw [if_neg he] at hwh
      have HW : Hid (whereOf bs at0 = (ly, ll, lc)) := hwh
      have te : ((at0 : Int) == (bs.length : Int)) = false := by simp; omega
      have te' : (at0 == bs.length) = false := by simp; omega
      clear hwh
      gi_wp2
      obtain ⟨W', hW', k1, k2, k3, k4⟩ := FIN.out ly ll lc
      subst hW'
      refine ⟨by simp, .inl ⟨_, _, rfl, run_takeDeferred k1, ?_⟩⟩
      exact ⟨_, results_iwhere rfl rfl k2 k3, by rw [HW.out]; rfl, k4⟩
  case stop =>
    rintro D cd pre W hD ⟨ts, h1, h2⟩ ⟨hR, hE, ⟨rfl, x, hx, hp, hgt⟩, hB, hzW⟩ hK
    have hpre := read_prefix h1
    rw [← h2, hx, List.map_append] at hpre
    have hwh := where_stop bs at0 (pre.dropLast.map Cl.n) x.n hpre (fun y hy => by
      obtain ⟨z, hz, rfl⟩ := List.mem_map.1 hy
      exact hp z hz) hgt
    have HW : Hid (whereOf bs at0 = lastP (0, 1, 1) (pre.dropLast.map Cl.n)) := hwh
    have hoE : (W.putObj D (.deferred none)).heap[w.heap.size + 1 + 1]? = W.heap[w.heap.size + 1 + 1]? := World.putObj_heap_other (by omega)
    have HOE : Hid ((W.putObj D (.deferred none)).heap[w.heap.size + 1 + 1]? = W.heap[w.heap.size + 1 + 1]?) := hoE
    clear hoE
    gi_wp2
    refine ⟨by simp, .inl ⟨_, _, rfl, run_takeDeferred hK, ?_⟩⟩
    exact ⟨_, results_iwhere rfl rfl (hR.same (World.putObj_heap_other (by omega))) ((cell_of_block HOE.out).trans hE.1), by rw [HW.out]; rfl, hB.trans (belowK_b (w := w) (Nat.le_refl _) _ D _ _ (by omega) hK rfl rfl)⟩

end Go.Proofs.YtpljklemkapnmaaDoor.U
