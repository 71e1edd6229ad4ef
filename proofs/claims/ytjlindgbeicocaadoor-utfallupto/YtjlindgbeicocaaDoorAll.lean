/- What is proved here: the statement UtfAll (the runes with their places, taken whole, left early, and taken again) holds for any bytes and any stop, where the arguments hold at most 1048576 values together, with no other condition but what the card says of the two tables of unicode/utf8. -/
import Derived.Test.YtjlindgbeicocaaDoorCards
import Derived.Test.YtjlindgbeicocaaDoorTie
import Derived.Test.YtjlindgbeicocaaDoorOpen
import Derived.Test.YtjlindgbeicocaaDoorClone
import Derived.Test.YtjlindgbeicocaaDoorPieces
namespace Go.Proofs.YtjlindgbeicocaaDoor.All
open Go.ChangeShapes Go.WideShapes Go.ChangeAt Go.RowKit Go.Shelf U
attribute [local go_sem] Oper.semAt_some

theorem equalIn_func (w : World) (d : Nat) (f : Fn) (x y : Array Value) : (Op.equalIn (d + 1) 44 (.func f x y) .nilFunc).run Tryd.prog w = .ok false w := by
  simp [Op.equalIn, run_underlying Tryd.underlying44]
/-- An iterator is not nil. -/
theorem eql_func (w : World) (f : Fn) (x y : Array Value) : (binOp .eql 44 (.func f x y) .nilFunc).run Tryd.prog w = .ok (.bool false) w := by
  simp only [binOp]
  simp [Op.equal, Op.maxDepth, equalIn_func w 9999]

/-- A number stored into the loop's one box. -/
theorem kpr_int {W : World} {n₀ B : Nat} {t : TypeId} {u : Value} (h : Boxed W B t u) (hB : n₀ ≤ B) (k : IntKind) (z : Int) : Kpr n₀ [B] W (W.setCell ⟨B, 0, none⟩ (.int k z)) := by
  refine ⟨(Below.refl _ _).setCell (p := ⟨B, 0, none⟩) hB _, fun j o hj _ hm _ => ?_, fun j hj => ?_⟩
  · rw [Below.heap_setCell _ _ _ _ (by simpa using hm)]; exact hj
  · obtain ⟨B', hB', v, hv, e⟩ := hj
    obtain rfl : B' = B := by simpa using hB'
    rw [(h.set (.int k z)).cell] at hv; cases hv; cases e
theorem prefix_on {α : Type} {pre T : List α} {x : α} (h : pre <+: T) (hx : T[pre.length]? = some x) : pre ++ [x] <+: T := by
  obtain ⟨r, rfl⟩ := h
  cases r with
  | nil => simp at hx
  | cons y r => simp at hx; subst hx; exact ⟨r, by simp⟩
theorem prefix_not {α : Type} {pre T : List α} {x : α} (hx : T[pre.length]? ≠ some x) : ¬ (pre ++ [x] <+: T) := by
  rintro ⟨r, rfl⟩
  exact hx (by simp)
theorem toks_get (bs : List UInt8) (n : Nat) (hn : n < (pcs bs).length) : (toks bs)[n]? = some ((pcs bs)[n].pos, (pcs bs)[n].r) := by
  rw [toks_pcs]; simp [hn]
theorem toks_none (bs : List UInt8) (n : Nat) (hn : (pcs bs).length ≤ n) (x : Nat × Nat) : (toks bs)[n]? ≠ some x := by
  rw [toks_pcs, List.getElem?_eq_none (by simpa using hn)]; simp

set_option maxRecDepth 100000 in
set_option maxHeartbeats 4000000 in
theorem walk (w : World) (hT : Lib.Utf8Tabs (Tryd.lays32_ren.g 2) (Tryd.lays32_ren.g 3) w) (v : Value) (bs : List UInt8) (hb : HasB w.heap.size w v bs) (hl : bs.length ≤ 1048576) (x : Int) (wx : (Lit.int .u64 x).wf = true) :
    Calls Tryd.prog 5 #[v, .int .u64 x] w fun e w' => e = .returned (.bool true) ∧ Below w.heap.size w w' := by
  have hx : 0 ≤ x ∧ x ≤ 18446744073709551615 := by have := wf_bounds wx; simpa [IntKind.min, IntKind.max, IntKind.signed, IntKind.bits] using this
  obtain ⟨hx0, hx1⟩ := hx
  have HT : Hid (Lib.Utf8Tabs (Tryd.lays32_ren.g 2) (Tryd.lays32_ren.g 3) w) := hT
  have HB : Hid (HasB w.heap.size w v bs) := hb
  clear hT hb wx
  refine (callsIn_wide (n := 5)).1 ?_
  refine callsIn_of_wp_marks Tryd.func5 rfl trivial ?_ rfl
  simp only [Tryd.ntmps5, List.size_toArray, List.length_cons, List.length_nil, Nat.reduceAdd, Nat.reduceSub, Array.replicate_succ, Array.replicate_zero, List.push_toArray, List.append_toArray, List.nil_append, List.cons_append]
  gi_wp2_with fail
  have hb0 := (Below.refl w.heap.size w).alloc (Nat.le_refl _) (.cells #[.bool false] 4)
  refine ⟨trivial, (callsIn_wide.2 (lend_calls v bs w.heap.size _ (by omega) (HB.out.below hb0))).mono ?_⟩
  rintro e w1 ⟨rfl, hrow1, hb1⟩
  rw [World.size_alloc] at hrow1 hb1
  have hw1 : Below w.heap.size w w1 := hb0.trans (hb1.mono (by omega))
  have hR1 : w1.cell? ⟨w.heap.size, 0, none⟩ = some (.bool false) := (hb1.cell (p := ⟨w.heap.size, 0, none⟩) (by simp)).trans (by simp)
  have hF1 : w1.frozen? ⟨w.heap.size, 0, none⟩ = false := (hb1.frozen (p := ⟨w.heap.size, 0, none⟩) (by simp)).trans (by simp)
  have hg1 : w.heap.size + 1 < w1.heap.size := cell_lt (hrow1.1 0 (by omega))
  clear hb0 hb1
  gi_wp2_with fail
  refine ⟨trivial, (callsIn_wide.2 (pieces_calls v bs w.heap.size _ (by omega) (HB.out.below hw1))).mono ?_⟩
  rintro e w2 ⟨vl, rfl, hown2, hb2⟩
  obtain ⟨al, cl, rfl⟩ := owns_slice hown2
  gi_wp2_with fail
  have hb2' := (Below.refl w2.heap.size w2).alloc (Nat.le_refl _) (.cells #[.slice al (pcs bs).length cl] 26)
  refine ⟨trivial, (callsIn_wide.2 (all_calls _ bs w1.heap.size _ (by omega) (((hrow1.hasB w1.heap.size hg1).below hb2).below (hb2'.mono hb2.size)))).mono ?_⟩
  rintro e w3 ⟨B, u, rfl, hcB, hB, hHB, hb3⟩
  have hq := fun w => eql_func w (.func 46) #[] #[.pointer (some ⟨B, 0, none⟩)]
  gi_wp2_with fail
  clear hq
  have s1 := hw1.size
  have s2 := hb2.size
  have s3 := hb3.size
  have hltB := cell_lt hcB
  simp only [World.size_alloc] at s3 hltB hB hb3
  obtain ⟨W0, hW0⟩ : ∃ W0, (w3.alloc (.cells #[.int .i64 (x % 50)] 3)).alloc (.cells #[.int .i64 0] 3) = W0 := ⟨_, rfl⟩
  have h3 : Below w3.heap.size w3 W0 := by rw [← hW0]; exact ((Below.refl _ w3).alloc (Nat.le_refl _) _).alloc (by simp) _
  have hz0' : W0.heap.size = w3.heap.size + 2 := by rw [← hW0]; simp
  have h2 : Below w2.heap.size w2 W0 := (hb2'.trans (hb3.mono (by omega))).trans (h3.mono (by omega))
  have h1 : Below w1.heap.size w1 W0 := hb2.trans (h2.mono s2)
  have h0 : Below w.heap.size w W0 := hw1.trans (h1.mono s1)
  have cR : W0.cell? ⟨w.heap.size, 0, none⟩ = some (.bool false) := (h1.cell (p := ⟨w.heap.size, 0, none⟩) (by simp; omega)).trans hR1
  have fR : W0.frozen? ⟨w.heap.size, 0, none⟩ = false := (h1.frozen (p := ⟨w.heap.size, 0, none⟩) (by simp; omega)).trans hF1
  have cL : W0.cell? ⟨w2.heap.size, 0, none⟩ = some (.slice al (pcs bs).length cl) := ((hb3.trans (h3.mono (by omega))).cell (p := ⟨w2.heap.size, 0, none⟩) (by simp)).trans (by simp)
  have cK : W0.cell? ⟨w3.heap.size, 0, none⟩ = some (.int .i64 (x % 50)) := by rw [← hW0]; simp
  have bN : Boxed W0 (w3.heap.size + 1) 3 (.int .i64 0) := by rw [← hW0]; have := Boxed.new (w3.alloc (.cells #[.int .i64 (x % 50)] 3)) 3 (.int .i64 0); rwa [World.size_alloc] at this
  have hown0 := owns_below hown2 h2
  have hrow0 := hrow1.below h1 hg1
  have cB := (h3.cell (p := ⟨B, 0, none⟩) (by simpa using hltB)).trans hcB
  have hHB0 : HasB B W0 u bs := hHB.below (h3.mono (by omega))
  have hT0 : Hid (Lib.Utf8Tabs (Tryd.lays32_ren.g 2) (Tryd.lays32_ren.g 3) W0) := tabs_below HT.out h0
  have hg2 : Tryd.lays32_ren.g 2 < w.heap.size ∧ Tryd.lays32_ren.g 3 < w.heap.size := ⟨cell_lt (HT.out.1 0 (by omega)), cell_lt (HT.out.2 0 (by omega)).1⟩
  rw [hW0]
  clear hW0 hcB hHB hb2' hb2 hb3 hw1 hR1 hF1 hrow1
  refine wpIn_rangeFunc_ownG rfl (by omega) (gf := 46) (lb := #[.pointer (some ⟨B, 0, none⟩)]) rfl trivial (enters_of Tryd.func46 (by kernel_rfl) rfl)
    (walk_stops _ (by omega) B B u bs [w3.heap.size + 1] _ (by omega) hHB0 (Nat.le_refl _) cB (fun b hb => by simp at hb; subst hb; exact ⟨by omega, by omega, by omega⟩) (fun k hk => by obtain ⟨b, hb, z, hz, e⟩ := hk; simp at hb; subst hb; rw [bN.cell] at hz; cases hz; cases e) hT0.out ⟨by omega, by omega⟩)
    Kpr.trans (Kpr.book (by omega) (fun b hb => by simp at hb; subst hb; omega)) (Below.refl _ _) (fun _ => rfl)
    (fun (pre : List (Nat × Nat)) W => (pre <+: toks bs) ∧ Boxed W (w3.heap.size + 1) 3 (.int .i64 (pre.length : Int)) ∧ Below (w3.heap.size + 1) W0 W)
    (fun c (pre : List (Nat × Nat)) W => ¬ (pre <+: toks bs) ∨ c = .exit 0 ∧ Below (w3.heap.size + 1) W0 W ∧ ∃ m : Int, Boxed W (w3.heap.size + 1) 3 (.int .i64 m))
    (OwnFrom.and (ownFrom_pure _ _) (OwnFrom.and (Own.from (boxed_own _ _ _) _) (ownFrom_below (by omega) (by omega))))
    (fun c s A A' row hs hg hr => hs.elim .inl (fun hs => .inr ⟨hs.1, ownFrom_below (β := Unit) (by omega) (by omega) () A A' row hs.2.1 hg hr, hs.2.2.elim fun m hm => ⟨m, Own.from (boxed_own (β := Unit) _ _ (fun _ => .int .i64 m)) W0.heap.size () A A' row hm hg hr⟩⟩))
    ⟨List.nil_prefix, bN, Below.refl _ _⟩
    (fun y => { tmps := #[v, .int .u64 x, undef, undef, .pointer (some ⟨w.heap.size, 0, none⟩), .slice (some ⟨w.heap.size + 1, 0, none⟩) (bs.length + 4) (bs.length + 4), .slice (some ⟨w.heap.size + 1, 2, none⟩) bs.length (bs.length + 2), .pointer (some ⟨w2.heap.size, 0, none⟩), .func (.func 46) #[] #[.pointer (some ⟨B, 0, none⟩)], .pointer (some ⟨w3.heap.size, 0, none⟩), .pointer (some ⟨w3.heap.size + 1, 0, none⟩), .int .i64 (y.1 : Int), .int .i32 (y.2 : Int), undef, undef, .tuple #[.slice (some ⟨w.heap.size + 1, 0, none⟩) (bs.length + 4) (bs.length + 4), .slice (some ⟨w.heap.size + 1, 2, none⟩) bs.length (bs.length + 2)], v, .tuple #[.slice (some ⟨w.heap.size + 1, 0, none⟩) (bs.length + 4) (bs.length + 4), .slice (some ⟨w.heap.size + 1, 2, none⟩) bs.length (bs.length + 2)], .slice (some ⟨w.heap.size + 1, 0, none⟩) (bs.length + 4) (bs.length + 4), .slice (some ⟨w.heap.size + 1, 2, none⟩) bs.length (bs.length + 2), v, .slice al (pcs bs).length cl, .slice (some ⟨w.heap.size + 1, 2, none⟩) bs.length (bs.length + 2), .func (.func 46) #[] #[.pointer (some ⟨B, 0, none⟩)], .func (.func 46) #[] #[.pointer (some ⟨B, 0, none⟩)], .bool false, .int .u64 x, .int .u64 (x % 50), .int .i64 (x % 50), .func (.func 46) #[] #[.pointer (some ⟨B, 0, none⟩)], .int .i64 (y.1 : Int), .int .i32 (y.2 : Int), undef, undef, undef, undef, undef, undef, undef, undef, undef, undef, undef, undef, undef, undef, undef, undef, undef, undef, undef, undef, undef, undef, undef, undef, undef, undef, undef, undef, undef, undef, undef, undef, undef, undef, undef, undef, undef, undef, undef, undef, undef, undef, undef, undef, undef, undef, undef, undef, undef, undef, undef, undef, undef, undef, undef, undef, undef, undef, undef, undef, undef, undef, undef, undef, undef, undef], defers := [] }) ?assign ?body ?done ?stop
  case assign =>
    intro l y W K hK
    gi_wp2
    exact hK
  case body =>
    rintro l pre y W ⟨hpre, hbx, hBW⟩ _
    have cN := hbx.cell
    have fN := hbx.frozen
    have cL' := (hBW.cell (p := ⟨w2.heap.size, 0, none⟩) (by simp; omega)).trans cL
    have cK' := (hBW.cell (p := ⟨w3.heap.size, 0, none⟩) (by simp)).trans cK
    have cR' := (hBW.cell (p := ⟨w.heap.size, 0, none⟩) (by simp; omega)).trans cR
    have fR' := (hBW.frozen (p := ⟨w.heap.size, 0, none⟩) (by simp; omega)).trans fR
    have hpl := pcs_length bs
    by_cases hn : pre.length < (pcs bs).length
    · obtain ⟨gl, rfl, hgb, hgl, r0, p0, _, _⟩ := owns_piece hown2 pre.length hn
      have r1 := (hBW.cell (p := ⟨gl, pre.length * 4, none⟩) (by simp; omega)).trans ((h2.cell (p := ⟨gl, pre.length * 4, none⟩) hgl).trans r0)
      have p1 := (hBW.cell (p := ⟨gl, pre.length * 4 + 1, none⟩) (by simp; omega)).trans ((h2.cell (p := ⟨gl, pre.length * 4 + 1, none⟩) hgl).trans p0)
      have hget := toks_get bs pre.length hn
      clear r0 p0
      by_cases e1 : y.1 = (pcs bs)[pre.length].pos
      · have t1 : ((y.1 : Int) != ((pcs bs)[pre.length].pos : Int)) = false := by simp [e1]
        by_cases e2 : y.2 = (pcs bs)[pre.length].r
        · have t2 : ((y.2 : Int) != ((pcs bs)[pre.length].r : Int)) = false := by simp [e2]
          have hon : Hid (pre ++ [y] <+: toks bs) := prefix_on hpre (by rw [hget, ← e1, ← e2])
          clear hget e1 e2
          have hset := hbx.set (.int .i64 ((pre.length : Int) + 1))
          have hbl : Below (w3.heap.size + 1) W0 (W.setCell ⟨w3.heap.size + 1, 0, none⟩ (.int .i64 ((pre.length : Int) + 1))) := hBW.setCell (p := ⟨w3.heap.size + 1, 0, none⟩) (Nat.le_refl _) _
          gi_wp2
          · exact ⟨(KeepsOthers.setCell _ _ _).from _, .inr ⟨rfl, hbl, _, hset⟩⟩
          · exact ⟨(KeepsOthers.setCell _ _ _).from _, kpr_int hbx (by omega) _ _, hon.out, by simpa using hset, hbl⟩
        · have t2 : ((y.2 : Int) != ((pcs bs)[pre.length].r : Int)) = true := by simp; omega
          have hno : Hid (¬ (pre ++ [y] <+: toks bs)) := prefix_not (by rw [hget]; intro h; cases h; exact e2 rfl)
          clear hget e1 e2
          gi_wp2
          exact ⟨(KeepsOthers.setCell _ _ _).from _, .inl hno.out⟩
      · have t1 : ((y.1 : Int) != ((pcs bs)[pre.length].pos : Int)) = true := by simp; omega
        have hno : Hid (¬ (pre ++ [y] <+: toks bs)) := prefix_not (by rw [hget]; intro h; cases h; exact e1 rfl)
        clear hget e1
        gi_wp2
        exact ⟨(KeepsOthers.setCell _ _ _).from _, .inl hno.out⟩
    · have hno : Hid (¬ (pre ++ [y] <+: toks bs)) := prefix_not (toks_none bs _ (by omega) _)
      gi_wp2
      exact ⟨(KeepsOthers.setCell _ _ _).from _, .inl hno.out⟩
  case done =>
    rintro D ys W hD rfl ⟨_, hbx, hBW⟩ hK
    have cN := hbx.cell
    have fN := hbx.frozen
    gi_wp2
    obtain ⟨W1, hW1⟩ : ∃ W1, W.setCell ⟨w3.heap.size + 1, 0, none⟩ (.int .i64 0) = W1 := ⟨_, rfl⟩
    have hz1 : W1.heap.size = W.heap.size := by rw [← hW1]; simp [World.setCell]
    have bN1 : Boxed W1 (w3.heap.size + 1) 3 (.int .i64 0) := by rw [← hW1]; exact hbx.set _
    have hB1 : Below (w3.heap.size + 1) W0 W1 := by rw [← hW1]; exact hBW.setCell (p := ⟨w3.heap.size + 1, 0, none⟩) (Nat.le_refl _) _
    have hK1 : W1.heap[D]? = some (.deferred (some [])) := by rw [← hW1, Below.heap_setCell _ _ _ D (by show D ≠ w3.heap.size + 1; omega)]; exact hK
    have hD1 := lt_of_block hK1
    have hs1 := hB1.size
    rw [hW1]
    clear hW1 hbx hBW cN fN hK hz1
    refine wpIn_rangeFunc_ownG rfl (by omega) (gf := 46) (lb := #[.pointer (some ⟨B, 0, none⟩)]) rfl trivial (enters_of Tryd.func46 (by kernel_rfl) rfl)
      (walk_stops _ (by omega) B B u bs [w3.heap.size + 1] W1 (by omega) (hHB0.below (hB1.mono (by omega))) (Nat.le_refl _) ((hB1.cell (p := ⟨B, 0, none⟩) (by simp; omega)).trans cB) (fun b hb => by simp at hb; subst hb; exact ⟨by omega, by omega, by omega⟩) (fun k hk => by obtain ⟨b, hb, z, hz, e⟩ := hk; simp at hb; subst hb; rw [bN1.cell] at hz; cases hz; cases e) (tabs_below HT.out (h0.trans (hB1.mono (by omega)))) ⟨by omega, by omega⟩)
      Kpr.trans (Kpr.book (by omega) (fun b hb => by simp at hb; subst hb; omega)) (Below.refl _ _) (fun _ => rfl)
      (fun (pre : List (Nat × Nat)) W => (pre <+: toks bs) ∧ Boxed W (w3.heap.size + 1) 3 (.int .i64 (pre.length : Int)) ∧ Below (w3.heap.size + 1) W0 W ∧ W.heap[D]? = some (.deferred (some [])))
      (fun _ (pre : List (Nat × Nat)) _ => ¬ (pre <+: toks bs))
      (OwnFrom.and (ownFrom_pure _ _) (OwnFrom.and (Own.from (boxed_own _ _ _) _) (OwnFrom.and (ownFrom_below (by omega) (by omega)) (fun _ A A' row hs hg hr => (hg.block D (lt_of_block hs) (fun e => by have := (hr D e.symm).1; omega)).trans hs))))
      (fun _ => ownFrom_pure _ _)
      ⟨List.nil_prefix, bN1, hB1, hK1⟩
      (fun y => { tmps := #[v, .int .u64 x, undef, undef, .pointer (some ⟨w.heap.size, 0, none⟩), .slice (some ⟨w.heap.size + 1, 0, none⟩) (bs.length + 4) (bs.length + 4), .slice (some ⟨w.heap.size + 1, 2, none⟩) bs.length (bs.length + 2), .pointer (some ⟨w2.heap.size, 0, none⟩), .func (.func 46) #[] #[.pointer (some ⟨B, 0, none⟩)], .pointer (some ⟨w3.heap.size, 0, none⟩), .pointer (some ⟨w3.heap.size + 1, 0, none⟩), undef, undef, .int .i64 (y.1 : Int), .int .i32 (y.2 : Int), .tuple #[.slice (some ⟨w.heap.size + 1, 0, none⟩) (bs.length + 4) (bs.length + 4), .slice (some ⟨w.heap.size + 1, 2, none⟩) bs.length (bs.length + 2)], v, .tuple #[.slice (some ⟨w.heap.size + 1, 0, none⟩) (bs.length + 4) (bs.length + 4), .slice (some ⟨w.heap.size + 1, 2, none⟩) bs.length (bs.length + 2)], .slice (some ⟨w.heap.size + 1, 0, none⟩) (bs.length + 4) (bs.length + 4), .slice (some ⟨w.heap.size + 1, 2, none⟩) bs.length (bs.length + 2), v, .slice al (pcs bs).length cl, .slice (some ⟨w.heap.size + 1, 2, none⟩) bs.length (bs.length + 2), .func (.func 46) #[] #[.pointer (some ⟨B, 0, none⟩)], .func (.func 46) #[] #[.pointer (some ⟨B, 0, none⟩)], .bool false, .int .u64 x, .int .u64 (x % 50), .int .i64 (x % 50), .func (.func 46) #[] #[.pointer (some ⟨B, 0, none⟩)], undef, undef, undef, undef, undef, undef, undef, undef, undef, undef, undef, undef, undef, undef, undef, undef, undef, undef, undef, undef, undef, undef, undef, undef, undef, undef, undef, undef, undef, .func (.func 46) #[] #[.pointer (some ⟨B, 0, none⟩)], .int .i64 (y.1 : Int), .int .i32 (y.2 : Int), undef, undef, undef, undef, undef, undef, undef, undef, undef, undef, undef, undef, undef, undef, undef, undef, undef, undef, undef, undef, undef, undef, undef, undef, undef, undef, undef, undef, undef, undef, undef, undef, undef, undef, undef, undef], defers := [] }) ?assign2 ?body2 ?done2 ?stop2
    case assign2 =>
      intro l y W K hK
      gi_wp2
      exact hK
    case body2 =>
      rintro l pre y W ⟨hpre, hbx, hBW, hKW⟩ _
      have cN := hbx.cell
      have fN := hbx.frozen
      have cL' := (hBW.cell (p := ⟨w2.heap.size, 0, none⟩) (by simp; omega)).trans cL
      have cR' := (hBW.cell (p := ⟨w.heap.size, 0, none⟩) (by simp; omega)).trans cR
      have fR' := (hBW.frozen (p := ⟨w.heap.size, 0, none⟩) (by simp; omega)).trans fR
      have hpl := pcs_length bs
      have HKW : Hid (W.heap[D]? = some (.deferred (some []))) := hKW
      clear hKW hK1
      by_cases hn : pre.length < (pcs bs).length
      · obtain ⟨gl, rfl, hgb, hgl, r0, p0, _, _⟩ := owns_piece hown2 pre.length hn
        have r1 := (hBW.cell (p := ⟨gl, pre.length * 4, none⟩) (by simp; omega)).trans ((h2.cell (p := ⟨gl, pre.length * 4, none⟩) hgl).trans r0)
        have p1 := (hBW.cell (p := ⟨gl, pre.length * 4 + 1, none⟩) (by simp; omega)).trans ((h2.cell (p := ⟨gl, pre.length * 4 + 1, none⟩) hgl).trans p0)
        have hget := toks_get bs pre.length hn
        clear r0 p0
        by_cases e1 : y.1 = (pcs bs)[pre.length].pos
        · have t1 : ((y.1 : Int) != ((pcs bs)[pre.length].pos : Int)) = false := by simp [e1]
          by_cases e2 : y.2 = (pcs bs)[pre.length].r
          · have t2 : ((y.2 : Int) != ((pcs bs)[pre.length].r : Int)) = false := by simp [e2]
            have hon : Hid (pre ++ [y] <+: toks bs) := prefix_on hpre (by rw [hget, ← e1, ← e2])
            clear hget e1 e2
            have hset := hbx.set (.int .i64 ((pre.length : Int) + 1))
            have hbl : Below (w3.heap.size + 1) W0 (W.setCell ⟨w3.heap.size + 1, 0, none⟩ (.int .i64 ((pre.length : Int) + 1))) := hBW.setCell (p := ⟨w3.heap.size + 1, 0, none⟩) (Nat.le_refl _) _
            gi_wp2
            exact ⟨(KeepsOthers.setCell _ _ _).from _, kpr_int hbx (by omega) _ _, hon.out, by simpa using hset, hbl, (Below.heap_setCell _ _ _ D (by show D ≠ w3.heap.size + 1; omega)).trans HKW.out⟩
          · have t2 : ((y.2 : Int) != ((pcs bs)[pre.length].r : Int)) = true := by simp; omega
            have hno : Hid (¬ (pre ++ [y] <+: toks bs)) := prefix_not (by rw [hget]; intro h; cases h; exact e2 rfl)
            clear hget e1 e2
            gi_wp2
            exact ⟨(KeepsOthers.setCell _ _ _).from _, hno.out⟩
        · have t1 : ((y.1 : Int) != ((pcs bs)[pre.length].pos : Int)) = true := by simp; omega
          have hno : Hid (¬ (pre ++ [y] <+: toks bs)) := prefix_not (by rw [hget]; intro h; cases h; exact e1 rfl)
          clear hget e1
          gi_wp2
          exact ⟨(KeepsOthers.setCell _ _ _).from _, hno.out⟩
      · have hno : Hid (¬ (pre ++ [y] <+: toks bs)) := prefix_not (toks_none bs _ (by omega) _)
        gi_wp2
        exact ⟨(KeepsOthers.setCell _ _ _).from _, hno.out⟩
    case stop2 =>
      rintro D2 c pre W hD2 hSp hIx hK2
      exact absurd hSp hIx
    case done2 =>
      rintro D2 ys W hD2 rfl ⟨_, hbx, hBW, hKW⟩ hK2
      have cN := hbx.cell
      have hlen : (toks bs).length = (pcs bs).length := by rw [toks_pcs]; simp
      rw [hlen] at cN
      have cL' := (hBW.cell (p := ⟨w2.heap.size, 0, none⟩) (by simp; omega)).trans cL
      have cR' := (hBW.cell (p := ⟨w.heap.size, 0, none⟩) (by simp; omega)).trans cR
      have fR' := (hBW.frozen (p := ⟨w.heap.size, 0, none⟩) (by simp; omega)).trans fR
      have hW' : Below w.heap.size w W := h0.trans (hBW.mono (by omega))
      have hrowW := hrow0.below hBW (by omega)
      gi_wp2_with fail
      refine ⟨trivial, (callsIn_wide.2 (kept_calls v bs w.heap.size (w.heap.size + 1) _ (by omega) (HB.out.below hW') hrowW)).mono ?_⟩
      rintro e w5 ⟨rfl, hb5⟩
      gi_wp2_with fail
      refine ⟨trivial, (callsIn_wide.2 (lives_calls _ (tabs_below HT.out (hW'.trans (hb5.mono hW'.size))))).mono ?_⟩
      rintro e w6 ⟨rfl, hb6⟩
      have hb7 : Below W.heap.size W w6 := hb5.trans (hb6.mono hb5.size)
      have hRW := cell_lt cR'
      simp only at hRW
      have cR6 := (hb7.cell (p := ⟨w.heap.size, 0, none⟩) hRW).trans cR'
      have fR6 := (hb7.frozen (p := ⟨w.heap.size, 0, none⟩) hRW).trans fR'
      have hKa := (hb7.block D (lt_of_block hKW)).trans hKW
      have hKb := (hb7.block D2 (lt_of_block hK2)).trans hK2
      have hW6 : Below w.heap.size w w6 := hW'.trans (hb7.mono hW'.size)
      clear hb5 hb6 hb7 hKW hK2
      have hDne : D ≠ D2 := by omega
      gi_wp2
      have hKb' : (w6.setCell ⟨w.heap.size, 0, none⟩ (.bool true)).heap[D2]? = some (.deferred (some [])) := (Below.heap_setCell _ _ _ D2 (by show D2 ≠ w.heap.size; omega)).trans hKb
      have hKa' : ((w6.setCell ⟨w.heap.size, 0, none⟩ (.bool true)).putObj D2 (.deferred none)).heap[D]? = some (.deferred (some [])) := (World.putObj_heap_other hDne).trans ((Below.heap_setCell _ _ _ D (by show D ≠ w.heap.size; omega)).trans hKa)
      refine ⟨by simp, .inl ⟨_, _, rfl, run_takeDeferred hKb', ?_⟩⟩
      refine ⟨by simp, .inl ⟨_, _, rfl, run_takeDeferred hKa', ?_⟩⟩
      have hc9 : (((w6.setCell ⟨w.heap.size, 0, none⟩ (.bool true)).putObj D2 (.deferred none)).putObj D (.deferred none)).cell? ⟨w.heap.size, 0, none⟩ = some (.bool true) := by
        rw [cell_of_block (p := ⟨w.heap.size, 0, none⟩) (World.putObj_heap_other (by show w.heap.size ≠ D; omega)), cell_of_block (p := ⟨w.heap.size, 0, none⟩) (World.putObj_heap_other (by show w.heap.size ≠ D2; omega))]
        exact cs_same cR6
      refine ⟨.bool true, by simp [results, Tryd.f5, go_sem, hc9], rfl, ?_⟩
      have z1 := lt_of_block hKb'
      have z2 := lt_of_block hKa'
      exact (((hW6.setCell (p := ⟨w.heap.size, 0, none⟩) (Nat.le_refl _) _).grown (grownBy_putObj' _ D2 _) (by omega) (fun k e => by cases e; omega)).grown (grownBy_putObj' _ D _) (by omega) (fun k e => by cases e; omega))
  case stop =>
    rintro D c pre W hD hSp hIx hK
    obtain ⟨rfl, hBW, m, hbx⟩ := hIx.resolve_left (fun h => h hSp)
    have cN := hbx.cell
    have fN := hbx.frozen
    gi_wp2
    obtain ⟨W1, hW1⟩ : ∃ W1, W.setCell ⟨w3.heap.size + 1, 0, none⟩ (.int .i64 0) = W1 := ⟨_, rfl⟩
    have hz1 : W1.heap.size = W.heap.size := by rw [← hW1]; simp [World.setCell]
    have bN1 : Boxed W1 (w3.heap.size + 1) 3 (.int .i64 0) := by rw [← hW1]; exact hbx.set _
    have hB1 : Below (w3.heap.size + 1) W0 W1 := by rw [← hW1]; exact hBW.setCell (p := ⟨w3.heap.size + 1, 0, none⟩) (Nat.le_refl _) _
    have hK1 : W1.heap[D]? = some (.deferred (some [])) := by rw [← hW1, Below.heap_setCell _ _ _ D (by show D ≠ w3.heap.size + 1; omega)]; exact hK
    have hD1 := lt_of_block hK1
    have hs1 := hB1.size
    rw [hW1]
    clear hW1 hbx hBW cN fN hK hz1
    refine wpIn_rangeFunc_ownG rfl (by omega) (gf := 46) (lb := #[.pointer (some ⟨B, 0, none⟩)]) rfl trivial (enters_of Tryd.func46 (by kernel_rfl) rfl)
      (walk_stops _ (by omega) B B u bs [w3.heap.size + 1] W1 (by omega) (hHB0.below (hB1.mono (by omega))) (Nat.le_refl _) ((hB1.cell (p := ⟨B, 0, none⟩) (by simp; omega)).trans cB) (fun b hb => by simp at hb; subst hb; exact ⟨by omega, by omega, by omega⟩) (fun k hk => by obtain ⟨b, hb, z, hz, e⟩ := hk; simp at hb; subst hb; rw [bN1.cell] at hz; cases hz; cases e) (tabs_below HT.out (h0.trans (hB1.mono (by omega)))) ⟨by omega, by omega⟩)
      Kpr.trans (Kpr.book (by omega) (fun b hb => by simp at hb; subst hb; omega)) (Below.refl _ _) (fun _ => rfl)
      (fun (pre : List (Nat × Nat)) W => (pre <+: toks bs) ∧ Boxed W (w3.heap.size + 1) 3 (.int .i64 (pre.length : Int)) ∧ Below (w3.heap.size + 1) W0 W ∧ W.heap[D]? = some (.deferred (some [])))
      (fun _ (pre : List (Nat × Nat)) _ => ¬ (pre <+: toks bs))
      (OwnFrom.and (ownFrom_pure _ _) (OwnFrom.and (Own.from (boxed_own _ _ _) _) (OwnFrom.and (ownFrom_below (by omega) (by omega)) (fun _ A A' row hs hg hr => (hg.block D (lt_of_block hs) (fun e => by have := (hr D e.symm).1; omega)).trans hs))))
      (fun _ => ownFrom_pure _ _)
      ⟨List.nil_prefix, bN1, hB1, hK1⟩
      (fun y => { tmps := #[v, .int .u64 x, undef, undef, .pointer (some ⟨w.heap.size, 0, none⟩), .slice (some ⟨w.heap.size + 1, 0, none⟩) (bs.length + 4) (bs.length + 4), .slice (some ⟨w.heap.size + 1, 2, none⟩) bs.length (bs.length + 2), .pointer (some ⟨w2.heap.size, 0, none⟩), .func (.func 46) #[] #[.pointer (some ⟨B, 0, none⟩)], .pointer (some ⟨w3.heap.size, 0, none⟩), .pointer (some ⟨w3.heap.size + 1, 0, none⟩), undef, undef, .int .i64 (y.1 : Int), .int .i32 (y.2 : Int), .tuple #[.slice (some ⟨w.heap.size + 1, 0, none⟩) (bs.length + 4) (bs.length + 4), .slice (some ⟨w.heap.size + 1, 2, none⟩) bs.length (bs.length + 2)], v, .tuple #[.slice (some ⟨w.heap.size + 1, 0, none⟩) (bs.length + 4) (bs.length + 4), .slice (some ⟨w.heap.size + 1, 2, none⟩) bs.length (bs.length + 2)], .slice (some ⟨w.heap.size + 1, 0, none⟩) (bs.length + 4) (bs.length + 4), .slice (some ⟨w.heap.size + 1, 2, none⟩) bs.length (bs.length + 2), v, .slice al (pcs bs).length cl, .slice (some ⟨w.heap.size + 1, 2, none⟩) bs.length (bs.length + 2), .func (.func 46) #[] #[.pointer (some ⟨B, 0, none⟩)], .func (.func 46) #[] #[.pointer (some ⟨B, 0, none⟩)], .bool false, .int .u64 x, .int .u64 (x % 50), .int .i64 (x % 50), .func (.func 46) #[] #[.pointer (some ⟨B, 0, none⟩)], undef, undef, undef, undef, undef, undef, undef, undef, undef, undef, undef, undef, undef, undef, undef, undef, undef, undef, undef, undef, undef, undef, undef, undef, undef, undef, undef, undef, undef, .func (.func 46) #[] #[.pointer (some ⟨B, 0, none⟩)], .int .i64 (y.1 : Int), .int .i32 (y.2 : Int), undef, undef, undef, undef, undef, undef, undef, undef, undef, undef, undef, undef, undef, undef, undef, undef, undef, undef, undef, undef, undef, undef, undef, undef, undef, undef, undef, undef, undef, undef, undef, undef, undef, undef, undef, undef], defers := [] }) ?assign2 ?body2 ?done2 ?stop2
    case assign2 =>
      intro l y W K hK
      gi_wp2
      exact hK
    case body2 =>
      rintro l pre y W ⟨hpre, hbx, hBW, hKW⟩ _
      have cN := hbx.cell
      have fN := hbx.frozen
      have cL' := (hBW.cell (p := ⟨w2.heap.size, 0, none⟩) (by simp; omega)).trans cL
      have cR' := (hBW.cell (p := ⟨w.heap.size, 0, none⟩) (by simp; omega)).trans cR
      have fR' := (hBW.frozen (p := ⟨w.heap.size, 0, none⟩) (by simp; omega)).trans fR
      have hpl := pcs_length bs
      have HKW : Hid (W.heap[D]? = some (.deferred (some []))) := hKW
      clear hKW hK1
      by_cases hn : pre.length < (pcs bs).length
      · obtain ⟨gl, rfl, hgb, hgl, r0, p0, _, _⟩ := owns_piece hown2 pre.length hn
        have r1 := (hBW.cell (p := ⟨gl, pre.length * 4, none⟩) (by simp; omega)).trans ((h2.cell (p := ⟨gl, pre.length * 4, none⟩) hgl).trans r0)
        have p1 := (hBW.cell (p := ⟨gl, pre.length * 4 + 1, none⟩) (by simp; omega)).trans ((h2.cell (p := ⟨gl, pre.length * 4 + 1, none⟩) hgl).trans p0)
        have hget := toks_get bs pre.length hn
        clear r0 p0
        by_cases e1 : y.1 = (pcs bs)[pre.length].pos
        · have t1 : ((y.1 : Int) != ((pcs bs)[pre.length].pos : Int)) = false := by simp [e1]
          by_cases e2 : y.2 = (pcs bs)[pre.length].r
          · have t2 : ((y.2 : Int) != ((pcs bs)[pre.length].r : Int)) = false := by simp [e2]
            have hon : Hid (pre ++ [y] <+: toks bs) := prefix_on hpre (by rw [hget, ← e1, ← e2])
            clear hget e1 e2
            have hset := hbx.set (.int .i64 ((pre.length : Int) + 1))
            have hbl : Below (w3.heap.size + 1) W0 (W.setCell ⟨w3.heap.size + 1, 0, none⟩ (.int .i64 ((pre.length : Int) + 1))) := hBW.setCell (p := ⟨w3.heap.size + 1, 0, none⟩) (Nat.le_refl _) _
            gi_wp2
            exact ⟨(KeepsOthers.setCell _ _ _).from _, kpr_int hbx (by omega) _ _, hon.out, by simpa using hset, hbl, (Below.heap_setCell _ _ _ D (by show D ≠ w3.heap.size + 1; omega)).trans HKW.out⟩
          · have t2 : ((y.2 : Int) != ((pcs bs)[pre.length].r : Int)) = true := by simp; omega
            have hno : Hid (¬ (pre ++ [y] <+: toks bs)) := prefix_not (by rw [hget]; intro h; cases h; exact e2 rfl)
            clear hget e1 e2
            gi_wp2
            exact ⟨(KeepsOthers.setCell _ _ _).from _, hno.out⟩
        · have t1 : ((y.1 : Int) != ((pcs bs)[pre.length].pos : Int)) = true := by simp; omega
          have hno : Hid (¬ (pre ++ [y] <+: toks bs)) := prefix_not (by rw [hget]; intro h; cases h; exact e1 rfl)
          clear hget e1
          gi_wp2
          exact ⟨(KeepsOthers.setCell _ _ _).from _, hno.out⟩
      · have hno : Hid (¬ (pre ++ [y] <+: toks bs)) := prefix_not (toks_none bs _ (by omega) _)
        gi_wp2
        exact ⟨(KeepsOthers.setCell _ _ _).from _, hno.out⟩
    case stop2 =>
      rintro D2 c pre W hD2 hSp hIx hK2
      exact absurd hSp hIx
    case done2 =>
      rintro D2 ys W hD2 rfl ⟨_, hbx, hBW, hKW⟩ hK2
      have cN := hbx.cell
      have hlen : (toks bs).length = (pcs bs).length := by rw [toks_pcs]; simp
      rw [hlen] at cN
      have cL' := (hBW.cell (p := ⟨w2.heap.size, 0, none⟩) (by simp; omega)).trans cL
      have cR' := (hBW.cell (p := ⟨w.heap.size, 0, none⟩) (by simp; omega)).trans cR
      have fR' := (hBW.frozen (p := ⟨w.heap.size, 0, none⟩) (by simp; omega)).trans fR
      have hW' : Below w.heap.size w W := h0.trans (hBW.mono (by omega))
      have hrowW := hrow0.below hBW (by omega)
      gi_wp2_with fail
      refine ⟨trivial, (callsIn_wide.2 (kept_calls v bs w.heap.size (w.heap.size + 1) _ (by omega) (HB.out.below hW') hrowW)).mono ?_⟩
      rintro e w5 ⟨rfl, hb5⟩
      gi_wp2_with fail
      refine ⟨trivial, (callsIn_wide.2 (lives_calls _ (tabs_below HT.out (hW'.trans (hb5.mono hW'.size))))).mono ?_⟩
      rintro e w6 ⟨rfl, hb6⟩
      have hb7 : Below W.heap.size W w6 := hb5.trans (hb6.mono hb5.size)
      have hRW := cell_lt cR'
      simp only at hRW
      have cR6 := (hb7.cell (p := ⟨w.heap.size, 0, none⟩) hRW).trans cR'
      have fR6 := (hb7.frozen (p := ⟨w.heap.size, 0, none⟩) hRW).trans fR'
      have hKa := (hb7.block D (lt_of_block hKW)).trans hKW
      have hKb := (hb7.block D2 (lt_of_block hK2)).trans hK2
      have hW6 : Below w.heap.size w w6 := hW'.trans (hb7.mono hW'.size)
      clear hb5 hb6 hb7 hKW hK2
      have hDne : D ≠ D2 := by omega
      gi_wp2
      have hKb' : (w6.setCell ⟨w.heap.size, 0, none⟩ (.bool true)).heap[D2]? = some (.deferred (some [])) := (Below.heap_setCell _ _ _ D2 (by show D2 ≠ w.heap.size; omega)).trans hKb
      have hKa' : ((w6.setCell ⟨w.heap.size, 0, none⟩ (.bool true)).putObj D2 (.deferred none)).heap[D]? = some (.deferred (some [])) := (World.putObj_heap_other hDne).trans ((Below.heap_setCell _ _ _ D (by show D ≠ w.heap.size; omega)).trans hKa)
      refine ⟨by simp, .inl ⟨_, _, rfl, run_takeDeferred hKb', ?_⟩⟩
      refine ⟨by simp, .inl ⟨_, _, rfl, run_takeDeferred hKa', ?_⟩⟩
      have hc9 : (((w6.setCell ⟨w.heap.size, 0, none⟩ (.bool true)).putObj D2 (.deferred none)).putObj D (.deferred none)).cell? ⟨w.heap.size, 0, none⟩ = some (.bool true) := by
        rw [cell_of_block (p := ⟨w.heap.size, 0, none⟩) (World.putObj_heap_other (by show w.heap.size ≠ D; omega)), cell_of_block (p := ⟨w.heap.size, 0, none⟩) (World.putObj_heap_other (by show w.heap.size ≠ D2; omega))]
        exact cs_same cR6
      refine ⟨.bool true, by simp [results, Tryd.f5, go_sem, hc9], rfl, ?_⟩
      have z1 := lt_of_block hKb'
      have z2 := lt_of_block hKa'
      exact (((hW6.setCell (p := ⟨w.heap.size, 0, none⟩) (Nat.le_refl _) _).grown (grownBy_putObj' _ D2 _) (by omega) (fun k e => by cases e; omega)).grown (grownBy_putObj' _ D _) (by omega) (fun k e => by cases e; omega))

theorem contract (H : Type) (enc : TypeId × Value → H) (W : World) (base : Nat) (args : Array Value) (ds gs : List (DataW H)) (before : List MemPlace)
    (hval : ∀ (j : Nat) t v, Tryd.f5.params[j]? = some t → args[j]? = some v → Value.okWide Tryd.prog W .any base t v)
    (hW : DataW.Whole enc Tryd.prog Tryd.f5.params.toList Rows.utfAllSpec.vars false W args.toList ds gs before) (hL : laidMetH Tryd.prog Rows.utfAllUptoRow.laid W) (hk : Rows.uptoSmall H (ds ++ gs) = true) :
    Calls Tryd.prog 5 args W fun e W' => ∃ v, e = .returned v ∧ Rows.utfAllSpec.post enc Tryd.prog Tryd.f5 false true false false W args v W' := by
  have hW' := hW
  have hlt := hW.lt
  obtain ⟨p, q, hA0, hV, rfl, hfz, hnd⟩ := hW
  have hA : DataW.TrodAll enc Tryd.prog W 0 (fun _ => true) true Tryd.f5.params.toList args.toList ds p := hA0
  rw [Tryd.params5] at hA hval
  obtain ⟨v0, vs0, d0, ds0, p0, q0, hargs, rfl, rfl, h0, r0⟩ := trodAll_cons hA
  obtain ⟨v1, vs1, d1, ds1, p1, q1, rfl, rfl, rfl, h1, r1⟩ := trodAll_cons r0
  obtain ⟨rfl, rfl, rfl⟩ := trodAll_nil r1
  obtain rfl : args = #[v0, v1] := by cases args; simp_all
  obtain ⟨rfl, rfl⟩ := trodVars_none hV
  clear hA0
  simp only [List.append_nil] at hW' hlt hk
  have hbulk := of_decide_eq_true hk
  simp only [Rows.uptoBulkAll] at hbulk
  have e0 := okWide_slice Tryd.underlying23 (hval 0 23 v0 rfl rfl)
  obtain ⟨b0, hb0, l0⟩ := bytes_of_read (by kernel_rfl) e0 h0
  have h1' := h1
  obtain ⟨x1, rfl, e1, -, w1⟩ := open_int Tryd.underlying42 (hval 1 42 v1 rfl rfl) h1
  refine (walk W (tabs_of_laid hL) v0 b0 hb0 (by omega) x1 w1).mono fun e W' ⟨he, hb⟩ => ?_
  subst he
  exact ⟨_, rfl, post_below hW' (fun _ _ _ => trodAll_cons_mk (shut_bool Tryd.underlying4 _) trodAll_mk0) (trodAll_cons_mk (stays (by kernel_rfl) (of_decide_eq_true (by kernel_rfl)) h0 hb (fun x hx => hlt x (by simp [hx]))) (trodAll_cons_mk (stays (by kernel_rfl) (of_decide_eq_true (by kernel_rfl)) h1' hb (fun x hx => hlt x (by simp [hx]))) trodAll_mk0)) rfl hb⟩

theorem laid_met (os : Os) : laidMet Tryd.prog Rows.utfAllUptoRow.laid ((withTabs (World.holding Tryd.prog os ⟨#[], #[], []⟩)).forCall (fun _ _ => 0) ⟨#[], #[Value.slice none 0 0, Value.int .u64 0], []⟩).memory :=
  laidMet_of_run' 8 (by kernel_rfl) (by kernel_rfl)
theorem reads (os : Os) {H : Type} (enc : TypeId × Value → H) : ∃ places, DataW.whole enc Tryd.prog ((withTabs (World.holding Tryd.prog os ⟨#[], #[], []⟩)).forCall (fun _ _ => 0) ⟨#[], #[Value.slice none 0 0, Value.int .u64 0], []⟩).memory Tryd.f5.params.toList Rows.utfAllSpec.vars false #[Value.slice none 0 0, Value.int .u64 0].toList 8 = some ([.nil, .lit (.int .u64 0)], [], places) :=
  ⟨[], by kernel_rfl⟩

set_option maxRecDepth 100000 in
theorem lifted (os : Os) (started : os.Started) (H : Type) (enc : TypeId × Value → H) (F : Stop.Interp) :
    ReturnsInHanded {} Tryd.checked os 5 .any ((Rows.OpenSpec.upto Rows.utfAllSpec).preRow enc Tryd.prog Tryd.f5 Rows.utfAllUptoRow.domain false Rows.utfAllUptoRow.laid) (((Rows.OpenSpec.upto Rows.utfAllSpec).at F).post enc Tryd.prog Tryd.f5 false true false false) := by
  obtain ⟨places, hx⟩ := reads os enc
  refine returnsInHanded_of_row (C := Tryd.checked) (s := Rows.OpenSpec.upto Rows.utfAllSpec) own started (by kernel_rfl) Tryd.func5
    (witness_row_at (enc := enc) (C := Tryd.checked) false (withTabs (World.holding Tryd.prog os ⟨#[], #[], []⟩)) #[Value.slice none 0 0, Value.int .u64 0] rfl (by kernel_rfl) (by kernel_rfl) (by kernel_rfl)
      (OpenSpec.preRow_of_cond 8 hx (by kernel_rfl) (fun k hk => by cases hk; kernel_rfl) (by kernel_rfl) (laid_met os))) ?_
  intro W base args ds gs before hval hW _ hcond _ hL _ _
  exact contract H enc W base args ds gs before hval hW hL (hcond _ rfl)

theorem said : Rows.UtfAllUptoSaid :=
  OpenClaim.holds_of_cond 5 Tryd.f5 rfl rfl rfl rfl rfl rfl rfl ⟨rfl, rfl, rfl, rfl, rfl⟩ rfl rfl rfl rfl rfl (by kernel_rfl) Tryd.func5 (by kernel_rfl)
    (of_decide_eq_true (by kernel_rfl)) (by unfold Func.isWrapper; first | (rw [if_pos (by decide +kernel)]; kernel_rfl) | (rw [if_neg (by decide +kernel)]; exact ⟨rfl, rfl⟩))
    (fun os started H enc _ F => by rw [OpenClaim.pre_eq_preRow]; exact lifted os started H enc F)

theorem plain (f : FuncId) (fn : Func) (hf : Tryd.pinned.checked.prog.funcNamed "sieve/sievelaw01.UtfAll" = some f) (hfn : Tryd.pinned.checked.prog.funcs[f]? = some fn) :
    false = Tryd.pinned.checked.prog.looks [] ∧ ∀ (j : Nat) t, fn.params[j]? = some t → Tryd.pinned.checked.prog.wantsStandIn t = false := by
  obtain rfl : f = 5 := Option.some.inj ((show Tryd.prog.funcNamed "sieve/sievelaw01.UtfAll" = some 5 by kernel_rfl).symm.trans hf) |>.symm
  obtain rfl : fn = Tryd.f5 := (Option.some.inj (Tryd.func5.symm.trans hfn)).symm
  refine ⟨by kernel_rfl, fun j t ht => ?_⟩
  rw [Tryd.params5] at ht
  have hm := Array.mem_of_getElem? ht
  simp only [List.mem_toArray, List.mem_cons, List.not_mem_nil, or_false] at hm
  rcases hm with rfl | rfl
  · exact (show Tryd.prog.wantsStandIn 23 = false by kernel_rfl)
  · exact (show Tryd.prog.wantsStandIn 42 = false by kernel_rfl)

theorem card : Rows.UtfAllUptoCardSaid :=
  Claim7.holds_tied_plain_at .later [] _ _ _ _ said (fun _ h => by cases h) (by kernel_rfl) (fun _ h => by cases h) utfAllUpto_row_tie rfl ⟨rfl, rfl⟩ (by kernel_rfl) rfl plain (by kernel_rfl)

end Go.Proofs.YtjlindgbeicocaaDoor.All
