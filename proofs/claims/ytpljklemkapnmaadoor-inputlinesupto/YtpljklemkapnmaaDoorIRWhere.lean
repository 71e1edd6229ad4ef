/- What is proved here: the contract of the document's own Where (sieveref03): for any bytes and any place, it returns the place of the cell that the byte belongs to. -/
import Derived.Test.YtpljklemkapnmaaDoorMathP
namespace Go.Proofs.YtpljklemkapnmaaDoor.U
open Go.RowKit Go.Shelf

/-- The place of the cell that a byte belongs to, among cells; 'last' is the cell's ahead, p the place behind it. -/
def whereGo (N at0 : Nat) : List Cn → (Nat × Nat × Nat) → (Nat × Nat × Nat) → Nat × Nat × Nat
  | [], last, p => if at0 = N then p else last
  | x :: xs, last, _ => if at0 < x.y then last else whereGo N at0 xs (x.y, x.l, x.c) (if x.r = 10 then (N, x.l + 1, 1) else (N, x.l, x.c + 1))
def whereOf (bs : List UInt8) (at0 : Nat) : Nat × Nat × Nat := whereGo bs.length at0 (cellsOf bs) (0, 1, 1) (0, 1, 1)
def placeV (p : Nat × Nat × Nat) : Value := .agg #[.int .i64 (p.1 : Int), .int .i64 (p.2.1 : Int), .int .i64 (p.2.2 : Int)]

theorem SpotAt.under {A B : World} {n : Nat} {y l c : Int} (h : SpotAt A n y l c) (hB : Below A.heap.size A B) : SpotAt B n y l c :=
  have hn : n < A.heap.size := cell_lt h.c0
  ⟨(hB.cell (p := ⟨n, 0, none⟩) hn).trans h.c0, (hB.cell (p := ⟨n, 1, none⟩) hn).trans h.c1, (hB.cell (p := ⟨n, 2, none⟩) hn).trans h.c2, fun k => (hB.frozen (p := ⟨n, k, none⟩) hn).trans (h.fz k)⟩
/-- A place stored. -/
def put3 (W : World) (n : Nat) (y l c : Int) : World := ((W.setCell ⟨n, 0, none⟩ (.int .i64 y)).setCell ⟨n, 1, none⟩ (.int .i64 l)).setCell ⟨n, 2, none⟩ (.int .i64 c)
theorem SpotAt.store {W : World} {n : Nat} {y l c : Int} (h : SpotAt W n y l c) (y' l' c' : Int) : SpotAt (put3 W n y' l' c') n y' l' c' := by
  unfold put3
  refine ⟨?_, ?_, ?_, fun k => by rw [World.frozen?_setCell, World.frozen?_setCell, World.frozen?_setCell]; exact h.fz k⟩
  · rw [cs_other (by simp), cs_other (by simp)]; exact cs_same h.c0
  · rw [cs_other (by simp)]; exact cs_same (u := .int .i64 l) (by rw [cs_other (by simp)]; exact h.c1)
  · exact cs_same (u := .int .i64 c) (by rw [cs_other (by simp), cs_other (by simp)]; exact h.c2)
theorem put3_block (W : World) (n : Nat) (y l c : Int) (j : Nat) (h : j ≠ n) : (put3 W n y l c).heap[j]? = W.heap[j]? := by
  unfold put3
  rw [Below.heap_setCell _ _ _ _ (fun e => h e), Below.heap_setCell _ _ _ _ (fun e => h e), Below.heap_setCell _ _ _ _ (fun e => h e)]
theorem put3_size (W : World) (n : Nat) (y l c : Int) : (put3 W n y l c).heap.size = W.heap.size := by simp [put3, World.setCell]
theorem SpotAt.other {W : World} {n m : Nat} {y l c : Int} (h : SpotAt W n y l c) (hn : n ≠ m) (y' l' c' : Int) : SpotAt (put3 W m y' l' c') n y l c := by
  have hb := put3_block W m y' l' c' n hn
  exact ⟨(cell_of_block hb).trans h.c0, (cell_of_block hb).trans h.c1, (cell_of_block hb).trans h.c2, fun k => (by simp only [World.frozen?, hb] : (put3 W m y' l' c').frozen? ⟨n, k, none⟩ = W.frozen? ⟨n, k, none⟩).trans (h.fz k)⟩
theorem put3_below {w W : World} {n₀ n : Nat} (hB : Below n₀ w W) (hn : n₀ ≤ n) (y l c : Int) : Below n₀ w (put3 W n y l c) := by
  unfold put3
  exact ((hB.setCell hn _).setCell hn _).setCell hn _

/-- The memory of Where's loop: the answer's place, the place behind, the last place; and what Read made. -/
structure WM (w w2 wr : World) (A : Nat) (ly ll lc qy ql qc : Nat) : Prop where
  r : SpotAt wr A 0 0 0
  p : SpotAt wr (A + 1) qy ql qc
  l : SpotAt wr (A + 1 + 1) ly ll lc
  same : ∀ j, A + 3 ≤ j → j < w2.heap.size → wr.heap[j]? = w2.heap[j]?
  bel : Below A w wr
  sz : w2.heap.size ≤ wr.heap.size
theorem WM.under {w w2 wr W : World} {A ly ll lc qy ql qc : Nat} (h : WM w w2 wr A ly ll lc qy ql qc) (hA : A ≤ wr.heap.size) (hB : Below wr.heap.size wr W) : WM w w2 W A ly ll lc qy ql qc :=
  ⟨h.r.under hB, h.p.under hB, h.l.under hB, fun j h1 h2 => (hB.block j (by have := h.sz; omega)).trans (h.same j h1 h2), h.bel.trans (hB.mono hA), by have := hB.size; have := h.sz; omega⟩
theorem WM.putP {w w2 wr : World} {A ly ll lc qy ql qc : Nat} (h : WM w w2 wr A ly ll lc qy ql qc) (y l c : Nat) : WM w w2 (put3 wr (A + 1) y l c) A ly ll lc y l c :=
  ⟨h.r.other (by omega) _ _ _, h.p.store _ _ _, h.l.other (by omega) _ _ _, fun j h1 h2 => (put3_block _ _ _ _ _ _ (by omega)).trans (h.same j h1 h2), put3_below h.bel (by omega) _ _ _, by rw [put3_size]; exact h.sz⟩
theorem WM.putL {w w2 wr : World} {A ly ll lc qy ql qc : Nat} (h : WM w w2 wr A ly ll lc qy ql qc) (y l c : Nat) : WM w w2 (put3 wr (A + 1 + 1) y l c) A y l c qy ql qc :=
  ⟨h.r.other (by omega) _ _ _, h.p.other (by omega) _ _ _, h.l.store _ _ _, fun j h1 h2 => (put3_block _ _ _ _ _ _ (by omega)).trans (h.same j h1 h2), put3_below h.bel (by omega) _ _ _, by rw [put3_size]; exact h.sz⟩

theorem results_rwhere {tmps : Array Value} {W : World} {A : Nat} {y l c : Int} {b : Bool} (h4 : tmps[4]?.getD undef = .pointer (some ⟨A, 0, none⟩)) (h5 : tmps[5]?.getD undef = .bool b) (h : SpotAt W A y l c) :
    (results Tryd.f32 tmps).run Tryd.prog W = .ok (.tuple #[.agg #[.int .i64 y, .int .i64 l, .int .i64 c], .bool b]) W := by
  have c0 := h.c0
  have c1 := h.c1
  have c2 := h.c2
  simp [results, Tryd.results32, go_sem, h4, h5, c0, c1, c2]

set_option maxRecDepth 100000 in
set_option maxHeartbeats 4000000 in
/-- **sieveref03.Where at a place inside.** -/
theorem rwhere_calls (v : Value) (bs : List UInt8) (at0 : Nat) (n₀ : Nat) (w : World) (hl : bs.length ≤ 17179869184) (hat : at0 ≤ bs.length) (hH : HasB n₀ w v bs) (hn₀ : n₀ ≤ w.heap.size) :
    Calls Tryd.prog 32 #[v, .int .i64 (at0 : Int)] w fun e W' => e = .returned (.tuple #[placeV (whereOf bs at0), .bool true]) ∧ Below w.heap.size w W' := by
  have hcl := cellsOf_len bs
  have HH : Hid (HasB n₀ w v bs) := hH
  have hslv : ∃ a cap, v = .slice a bs.length cap := by
    rcases hH with ⟨rfl, a, cap, rfl⟩ | ⟨_, b, off, cap, rfl, _⟩
    · exact ⟨a, cap, rfl⟩
    · exact ⟨_, cap, rfl⟩
  obtain ⟨av, capv, rfl⟩ := hslv
  clear hH
  have ta : decide ((at0 : Int) < 0) = false := by simp
  have tb : decide ((bs.length : Int) < (at0 : Int)) = false := by simp; omega
  have tc : decide (bs.length < at0) = false := by simp; omega
  obtain ⟨R, hR⟩ : ∃ R, whereOf bs at0 = R := ⟨_, rfl⟩
  have hwo : Hid (R = whereGo bs.length at0 (cellsOf bs) (0, 1, 1) (0, 1, 1)) := hR.symm
  rw [hR]
  clear hR
  go_enter Tryd.func32, Tryd.ntmps32
  go_wp2_with fail
  obtain ⟨w1, hw1⟩ : ∃ w1, ((w.alloc (.cells #[.int .i64 0, .int .i64 0, .int .i64 0] 34)).alloc (.cells #[.int .i64 0, .int .i64 1, .int .i64 1] 34)).alloc (.cells #[.int .i64 0, .int .i64 1, .int .i64 1] 34) = w1 := ⟨_, rfl⟩
  have b0 : w1.heap[w.heap.size]? = some (.cells #[.int .i64 0, .int .i64 0, .int .i64 0] 34 (0, 0)) := by
    rw [← hw1, Below.heap_alloc _ _ _ (by simp; omega), Below.heap_alloc _ _ _ (by simp)]; exact World.alloc_heap_new _ _
  have b1 : w1.heap[w.heap.size + 1]? = some (.cells #[.int .i64 0, .int .i64 1, .int .i64 1] 34 (0, 0)) := by
    rw [← hw1, Below.heap_alloc _ _ _ (by simp)]
    have := World.alloc_heap_new (w.alloc (.cells #[.int .i64 0, .int .i64 0, .int .i64 0] 34)) (.cells #[.int .i64 0, .int .i64 1, .int .i64 1] 34); rwa [World.size_alloc] at this
  have b2 : w1.heap[w.heap.size + 1 + 1]? = some (.cells #[.int .i64 0, .int .i64 1, .int .i64 1] 34 (0, 0)) := by
    rw [← hw1]
    have := World.alloc_heap_new ((w.alloc (.cells #[.int .i64 0, .int .i64 0, .int .i64 0] 34)).alloc (.cells #[.int .i64 0, .int .i64 1, .int .i64 1] 34)) (.cells #[.int .i64 0, .int .i64 1, .int .i64 1] 34); rwa [World.size_alloc, World.size_alloc] at this
  have z1 : w1.heap.size = w.heap.size + 3 := by rw [← hw1]; simp
  have hb1 : Below w.heap.size w w1 := by rw [← hw1]; exact (((Below.refl _ w).alloc (Nat.le_refl _) _).alloc (by simp) _).alloc (by simp; omega) _
  rw [hw1]
  clear hw1
  refine (rread_calls _ bs n₀ w1 (by omega) (HH.out.below (hb1.mono hn₀))).mono ?_
  rintro e w2 ⟨u, rfl, hown, hb2⟩
  obtain ⟨a1, c1, rfl⟩ := owns_slice hown
  have s2 := hb2.size
  have wm0 : Hid (WM w w2 w2 w.heap.size 0 1 1 0 1 1) := by
    have sp : ∀ (n : Nat) (x y z : Int), w1.heap[n]? = some (.cells #[.int .i64 x, .int .i64 y, .int .i64 z] 34 (0, 0)) → SpotAt w1 n x y z := fun n x y z h => ⟨by simp [World.cell?, h], by simp [World.cell?, h], by simp [World.cell?, h], fun k => by simp [World.frozen?, h]⟩
    exact ⟨(sp _ _ _ _ b0).under hb2, (sp _ _ _ _ b1).under hb2, (sp _ _ _ _ b2).under hb2, fun _ _ _ => rfl, hb1.trans (hb2.mono (by omega)), Nat.le_refl _⟩
  have hris := cells_rise bs
  obtain ⟨xs, hxs⟩ : ∃ xs, cellsOf bs = xs := ⟨_, rfl⟩
  rw [hxs] at hown hris hcl hwo
  have HO : Hid (w2.ownsRow w1.heap.size 36 4 (.slice a1 xs.length c1) xs.length (xs.flatMap cvs)) := hown
  have HCO : Hid (∀ x ∈ xs, (x.r : Int) ≤ 1114111) := fun x hx => (cell_ok bs x (by rw [hxs]; exact hx)).2.1
  rw [hxs]
  clear hxs hown b0 b1 b2 hb1 hb2 ta tb tc
  go_wp2_with fail
  go_loopw [24] (fun i wr => ∃ (k L C : Nat) (py : Int) (ly ll lc qy ql qc : Nat), k ≤ xs.length ∧ i = .int .i64 k ∧ L ≤ k + 1 ∧ C ≤ k + 1 ∧ Hid (Rises bs.length py L C (xs.drop k)) ∧ Hid (R = whereGo bs.length at0 (xs.drop k) (ly, ll, lc) (qy, ql, qc)) ∧ Hid (WM w w2 wr w.heap.size ly ll lc qy ql qc)) (fun i _ => xs.length - (intOf i).toNat)
  case atStart => exact ⟨0, 1, 1, -1, 0, 1, 1, 0, 1, 1, by omega, rfl, by omega, by omega, hris, hwo.out, wm0⟩
  case round =>
    obtain ⟨k, L, C, py, ly, ll, lc, qy, ql, qc, hk, rfl, hL, hC, hri, hwg, hwm⟩ := hrel
    by_cases hlt : k < xs.length
    · obtain ⟨g, rfl, hgb, hgl, r0, r1, r2, r3⟩ := owns_cell HO.out k hlt
      have hri' := hri.out
      have hwg' := hwg.out
      rw [List.drop_eq_getElem_cons hlt] at hri' hwg'
      have hrx := HCO.out xs[k] (List.getElem_mem hlt)
      obtain ⟨x, hx⟩ : ∃ x, xs[k] = x := ⟨_, rfl⟩
      rw [hx] at r0 r1 r2 r3 hri' hwg' hrx
      clear hx
      obtain ⟨hp, hy0, hy1, hlx, hcx, hrest⟩ := hri'
      unfold whereGo at hwg'
      have hblk : wr.heap[g]? = w2.heap[g]? := hwm.out.same g (by omega) hgl
      have q0 : wr.cell? ⟨g, k * 4, none⟩ = some (.int .i32 (x.r : Int)) := (cell_of_block hblk).trans r0
      have q1 : wr.cell? ⟨g, k * 4 + 1, none⟩ = some (.int .i64 (x.y : Int)) := (cell_of_block hblk).trans r1
      have q2 : wr.cell? ⟨g, k * 4 + 2, none⟩ = some (.int .i64 (x.l : Int)) := (cell_of_block hblk).trans r2
      have q3 : wr.cell? ⟨g, k * 4 + 3, none⟩ = some (.int .i64 (x.c : Int)) := (cell_of_block hblk).trans r3
      have hzw := hwm.out.sz
      have hbX : Below wr.heap.size wr (wr.alloc (.cells #[.int .i32 (x.r : Int), .int .i64 (x.y : Int), .int .i64 (x.l : Int), .int .i64 (x.c : Int)] 36)) := (Below.refl _ wr).alloc (Nat.le_refl _) _
      have wmX := hwm.out.under (by omega) hbX
      have HWX : Hid (WM w w2 (wr.alloc (.cells #[.int .i32 (x.r : Int), .int .i64 (x.y : Int), .int .i64 (x.l : Int), .int .i64 (x.c : Int)] 36)) w.heap.size ly ll lc qy ql qc) := wmX
      have v0 := hwm.out.r.c0
      have v1 := hwm.out.r.c1
      have v2 := hwm.out.r.c2
      have v3 := hwm.out.r.fz 0
      have v4 := hwm.out.r.fz 1
      have v5 := hwm.out.r.fz 2
      have p0 := hwm.out.p.c0
      have p1 := hwm.out.p.c1
      have p2 := hwm.out.p.c2
      have p3 := hwm.out.p.fz 0
      have p4 := hwm.out.p.fz 1
      have p5 := hwm.out.p.fz 2
      have l0 := hwm.out.l.c0
      have l1 := hwm.out.l.c1
      have l2 := hwm.out.l.c2
      have l3 := hwm.out.l.fz 0
      have l4 := hwm.out.l.fz 1
      have l5 := hwm.out.l.fz 2
      have hn0 := hwm.out.r.lt
      have hn1 := hwm.out.p.lt
      have hn2 := hwm.out.l.lt
      have d0 : ¬ w.heap.size = wr.heap.size := by omega
      have d1 : ¬ w.heap.size + 1 = wr.heap.size := by omega
      have d2 : ¬ w.heap.size + 1 + 1 = wr.heap.size := by omega
      have d3 : ¬ wr.heap.size = w.heap.size := by omega
      have d4 : ¬ wr.heap.size = w.heap.size + 1 := by omega
      have d5 : ¬ wr.heap.size = w.heap.size + 1 + 1 := by omega
      have ka : ∀ (W : World) (o : Obj) (n u : Nat), n < wr.heap.size → W.heap.size = wr.heap.size → (W.alloc o).frozen? ⟨n, u, none⟩ = W.frozen? ⟨n, u, none⟩ := fun W o n u hn hW => ((Below.refl _ W).alloc (Nat.le_refl _) o).frozen (p := ⟨n, u, none⟩) (by rw [hW]; exact hn)
      have ka0 := fun W o u => ka W o _ u hn0
      have ka1 := fun W o u => ka W o _ u hn1
      have ka2 := fun W o u => ka W o _ u hn2
      clear ka
      have hxl : x.l ≤ k + 1 := by omega
      have hxc : x.c ≤ k + 1 := by omega
      have HREST : Hid (Rises bs.length x.y (if x.r = 10 then L + 1 else L) (if x.r = 10 then 1 else C + 1) (xs.drop (k + 1))) := hrest
      clear hlx hcx hp hrest hri r0 r1 r2 r3 hblk wmX hbX
      by_cases hgt : at0 < x.y
      · have HE : Hid (R = (ly, ll, lc)) := by rw [if_pos hgt] at hwg'; exact hwg'
        have tg : decide ((at0 : Int) < (x.y : Int)) = true := by simp; omega
        have tg' : decide (at0 < x.y) = true := by simp; omega
        clear hwg'
        go_wp2
        (try simp only [Exit.inBlock, Exit.then])
        exact bodyPost_ret (results_rwhere rfl rfl ((hwm.out.r.store ly ll lc).under ((Below.refl _ _).alloc (Nat.le_refl _) _))) rfl ⟨by rw [HE.out]; rfl, (put3_below hwm.out.bel (Nat.le_refl _) ly ll lc).alloc (by rw [put3_size]; omega) _⟩
      · rw [if_neg hgt] at hwg'
        have tg : decide ((at0 : Int) < (x.y : Int)) = false := by simp; omega
        have tg' : decide (at0 < x.y) = false := by simp; omega
        by_cases h10 : x.r = 10
        · have t10 : ((x.r : Int) == 10) = true := by simp [h10]
          rw [if_pos h10] at hwg'
          have HW : Hid (R = whereGo bs.length at0 (xs.drop (k + 1)) (x.y, x.l, x.c) (bs.length, x.l + 1, 1)) := hwg'
          have HR2 : Hid (Rises bs.length x.y (L + 1) 1 (xs.drop (k + 1))) := by have := HREST.out; rw [if_pos h10, if_pos h10] at this; exact this
          clear hwg' h10
          go_wp2_with fail
          go_roundw
          case rel =>
            refine ⟨k + 1, L + 1, 1, x.y, x.y, x.l, x.c, bs.length, x.l + 1, 1, by omega, by go_num, by omega, by omega, HR2.out, HW.out, ?_⟩
            have hf := ((hwm.out.putL x.y x.l x.c).putP bs.length x.l (x.c + 1)).putP bs.length (x.l + 1) 1
            exact hf.under (by simp only [put3_size]; omega) ((Below.refl _ _).alloc (Nat.le_refl _) _)
          case measure => simp [intOf]; omega
        · have t10 : ((x.r : Int) == 10) = false := by simp; omega
          rw [if_neg h10] at hwg'
          have HW : Hid (R = whereGo bs.length at0 (xs.drop (k + 1)) (x.y, x.l, x.c) (bs.length, x.l, x.c + 1)) := hwg'
          have HR2 : Hid (Rises bs.length x.y L (C + 1) (xs.drop (k + 1))) := by have := HREST.out; rw [if_neg h10, if_neg h10] at this; exact this
          clear hwg' h10
          go_wp2
          go_roundw
          case rel =>
            refine ⟨k + 1, L, C + 1, x.y, x.y, x.l, x.c, bs.length, x.l, x.c + 1, by omega, by go_num, by omega, by omega, HR2.out, HW.out, ?_⟩
            have hf := (hwm.out.putL x.y x.l x.c).putP bs.length x.l (x.c + 1)
            exact hf.under (by simp only [put3_size]; omega) ((Below.refl _ _).alloc (Nat.le_refl _) _)
          case measure => simp [intOf]; omega
    · obtain rfl : k = xs.length := by omega
      have hwg' := hwg.out
      rw [List.drop_length] at hwg'
      unfold whereGo at hwg'
      have v0 := hwm.out.r.c0
      have v1 := hwm.out.r.c1
      have v2 := hwm.out.r.c2
      have v3 := hwm.out.r.fz 0
      have v4 := hwm.out.r.fz 1
      have v5 := hwm.out.r.fz 2
      have p0 := hwm.out.p.c0
      have p1 := hwm.out.p.c1
      have p2 := hwm.out.p.c2
      have l0 := hwm.out.l.c0
      have l1 := hwm.out.l.c1
      have l2 := hwm.out.l.c2
      by_cases he : at0 = bs.length
      · have HE : Hid (R = (qy, ql, qc)) := by rw [if_pos he] at hwg'; exact hwg'
        have te : ((at0 : Int) == (bs.length : Int)) = true := by simp; omega
        have te' : (at0 == bs.length) = true := by simp; omega
        clear hwg' he
        go_wp2
        (try simp only [Exit.inBlock, Exit.then])
        exact bodyPost_ret (results_rwhere rfl rfl (hwm.out.r.store qy ql qc)) rfl ⟨by rw [HE.out]; rfl, put3_below hwm.out.bel (Nat.le_refl _) _ _ _⟩
      · have HE : Hid (R = (ly, ll, lc)) := by rw [if_neg he] at hwg'; exact hwg'
        have te : ((at0 : Int) == (bs.length : Int)) = false := by simp; omega
        have te' : (at0 == bs.length) = false := by simp; omega
        clear hwg'
        go_wp2
        (try simp only [Exit.inBlock, Exit.then])
        exact bodyPost_ret (results_rwhere rfl rfl (hwm.out.r.store ly ll lc)) rfl ⟨by rw [HE.out]; rfl, put3_below hwm.out.bel (Nat.le_refl _) _ _ _⟩

set_option maxRecDepth 100000 in
/-- **sieveref03.Where at a place outside.** -/
theorem rwhere_out (a : Option Addr) (n cap : Nat) (at0 : Int) (w : World) (hat : at0 < 0 ∨ (n : Int) < at0) :
    Calls Tryd.prog 32 #[.slice a n cap, .int .i64 at0] w fun e W' => e = .returned (.tuple #[.agg #[.int .i64 0, .int .i64 0, .int .i64 0], .bool false]) ∧ Below w.heap.size w W' := by
  have hb : Below w.heap.size w (w.alloc (.cells #[.int .i64 0, .int .i64 0, .int .i64 0] 34)) := (Below.refl _ w).alloc (Nat.le_refl _) _
  have HBl : Hid (Below w.heap.size w (w.alloc (.cells #[.int .i64 0, .int .i64 0, .int .i64 0] 34))) := hb
  have hn := World.alloc_heap_new w (.cells #[.int .i64 0, .int .i64 0, .int .i64 0] 34)
  have HSp : Hid (SpotAt (w.alloc (.cells #[.int .i64 0, .int .i64 0, .int .i64 0] 34)) w.heap.size 0 0 0) := ⟨by rw [World.cell?, hn]; rfl, by rw [World.cell?, hn]; rfl, by rw [World.cell?, hn]; rfl, fun k => by rw [World.frozen?, hn]; simp⟩
  clear hb hn
  by_cases h0 : at0 < 0
  · have ta : decide (at0 < 0) = true := by simp; omega
    go_enter Tryd.func32, Tryd.ntmps32
    go_wp2
    (try simp only [Exit.inBlock, Exit.then])
    exact bodyPost_ret (results_rwhere rfl rfl HSp.out) rfl ⟨rfl, HBl.out⟩
  · have ta : decide (at0 < 0) = false := by simp; omega
    have tb : decide ((n : Int) < at0) = true := by simp; omega
    go_enter Tryd.func32, Tryd.ntmps32
    go_wp2
    (try simp only [Exit.inBlock, Exit.then])
    exact bodyPost_ret (results_rwhere rfl rfl HSp.out) rfl ⟨rfl, HBl.out⟩

end Go.Proofs.YtpljklemkapnmaaDoor.U
