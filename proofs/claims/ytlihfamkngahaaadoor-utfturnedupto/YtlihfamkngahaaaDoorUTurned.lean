/- What is proved here: the statement UtfTurned (Back and Cut of any bytes) holds for any bytes and any place, where the arguments hold at most 1048576 values together, with no other condition but what the card says of the two tables of unicode/utf8. -/
import Derived.Laws.AppendOwnNone
import Derived.Deep.RegionHeld3
import Derived.Deep.RegionLaw
import Derived.Test.YtlihfamkngahaaaDoorCards
import Derived.Test.YtlihfamkngahaaaDoorTie
import Derived.Test.YtlihfamkngahaaaDoorOpen
import Derived.Test.YtlihfamkngahaaaDoorUBack
import Derived.Test.YtlihfamkngahaaaDoorUCut
import Derived.Test.YtlihfamkngahaaaDoorLives
namespace Go.Proofs.YtlihfamkngahaaaDoor.Turned
open Go.ChangeShapes Go.WideShapes Go.ChangeAt Go.RowKit Go.Shelf U
attribute [local go_sem] Oper.semAt_some

theorem equalIn_func (w : World) (d : Nat) (f : Fn) (x y : Array Value) : (Op.equalIn (d + 1) 28 (.func f x y) .nilFunc).run Tryd.prog w = .ok false w := by
  simp [Op.equalIn, run_underlying Tryd.underlying28]
/-- An iterator is not nil. -/
theorem eql_func (w : World) (f : Fn) (x y : Array Value) : (binOp .eql 28 (.func f x y) .nilFunc).run Tryd.prog w = .ok (.bool false) w := by
  simp only [binOp]
  simp [Op.equal, Op.maxDepth, equalIn_func w 9999]

/-- A number stored into the loop's one box. -/
theorem kpr_int {W : World} {n₀ B : Nat} {t : TypeId} {u : Value} (h : Boxed W B t u) (hB : n₀ ≤ B) (k : IntKind) (z : Int) : Kpr n₀ [B] W (W.setCell ⟨B, 0, none⟩ (.int k z)) := by
  refine ⟨(Below.refl _ _).setCell (p := ⟨B, 0, none⟩) hB _, fun j o hj _ hm _ => ?_, fun j hj => ?_⟩
  · rw [Below.heap_setCell _ _ _ _ (by simpa using hm)]; exact hj
  · obtain ⟨B', hB', v, hv, e⟩ := hj
    obtain rfl : B' = B := by simpa using hB'
    rw [(h.set (.int k z)).cell] at hv; cases hv; cases e
theorem prefix_on {α : Type} {pre T : List α} {x : α} (h : pre <+: T) (hx : T[pre.length]? = some x) : pre ++ [x] <+: T := by
  obtain ⟨r, rfl⟩ := h
  cases r with
  | nil => simp at hx
  | cons y r => simp at hx; subst hx; exact ⟨r, by simp⟩
theorem prefix_not {α : Type} {pre T : List α} {x : α} (hx : T[pre.length]? ≠ some x) : ¬ (pre ++ [x] <+: T) := by
  rintro ⟨r, rfl⟩
  exact hx (by simp)
theorem toks_len (bs : List UInt8) : (toks bs).length = (pcs bs).length := by rw [toks_pcs]; simp
theorem rev_get (bs : List UInt8) (n m : Nat) (hn : n + m + 1 = (pcs bs).length) (hm : m < (pcs bs).length) : (toks bs).reverse[n]? = some ((pcs bs)[m].pos, (pcs bs)[m].r) := by
  have hl := toks_len bs
  rw [List.getElem?_reverse (by omega), show (toks bs).length - 1 - n = m by omega, toks_pcs]
  simp [hm]
theorem rev_none (bs : List UInt8) (n : Nat) (hn : (pcs bs).length ≤ n) (x : Nat × Nat) : (toks bs).reverse[n]? ≠ some x := by
  rw [List.getElem?_eq_none (by rw [List.length_reverse, toks_len]; exact hn)]; simp
theorem hasB_mono {n₀ n₁ : Nat} {w : World} {v : Value} {bs : List UInt8} (hl : HasB n₀ w v bs) (h : n₀ ≤ n₁) : HasB n₁ w v bs := by
  rcases hl with hl | ⟨hp, b, off, cap, hv, hc, hb, hx⟩
  · exact .inl hl
  · exact .inr ⟨hp, b, off, cap, hv, hc, by omega, hx⟩
theorem hasB_slice {n₀ : Nat} {w : World} {v : Value} {bs : List UInt8} (hl : HasB n₀ w v bs) : ∃ a cap, v = .slice a bs.length cap ∧ bs.length ≤ cap := by
  rcases hl with ⟨rfl, a, cap, rfl⟩ | ⟨hp, b, off, cap, rfl, h, _⟩
  · exact ⟨a, cap, rfl, by simp⟩
  · exact ⟨_, cap, rfl, h⟩
/-- Runes as numbers. -/
def RI (bs : List UInt8) : List Int := (runes bs).map fun r : Nat => (r : Int)
theorem RI_vals (bs : List UInt8) : ((runes bs).map fun r : Nat => Value.int .i32 (r : Int)) = (RI bs).map (Value.int .i32) := by simp [RI]
theorem RI_length (bs : List UInt8) : (RI bs).length = (runes bs).length := by simp [RI]
theorem RI_le (bs : List UInt8) : (RI bs).length ≤ bs.length := by rw [RI_length, runes_pcs, List.length_map]; exact pcs_length bs
theorem owns_nil_or {W : World} {base : Nat} {e : TypeId} {size : Nat} {v : Value} {n : Nat} {xs : List Value} (h : W.ownsRow base e size v n xs) : v = .slice none 0 0 ∨ ∃ ad len cap, v = .slice (some ad) len cap := by
  rcases h.2 with ⟨rfl, _⟩ | ⟨g, cap, cur, rfl, _⟩
  · exact .inl rfl
  · exact .inr ⟨_, _, _, rfl⟩
/-- Appending runes in memory to a row of one's own, as one step of a region that draws its order. -/
theorem step_ints {w : World} {ops : Array Oper} {o : Oper} {a : Act} {K : Act → World → Prop} {Q : Exit → Act → World → Prop} {E : Prop} (hg : o.guard = none) (s x : Operand)
    (ho : o.op = .call { callee := .builtin .append, args := #[s, x], argTypes := #[33, 33] }) (base : Nat)
    (v : Value) (n : Nat) (xs : List Value) (hs : a.eval s = v) (hown : w.ownsRow base 21 1 v n xs) (xv : Value) (zs : List Int) (hx : a.eval x = xv) (hH : HasI .i32 w xv zs) (hn : xv = .slice none 0 0 ∨ ∃ ad len cap, xv = .slice (some ad) len cap)
    (h63 : n + zs.length ≤ 100000000) (hbase : base ≤ w.heap.size)
    (h : ∀ v' w', w'.ownsRow base 21 1 v' (n + zs.length) (xs ++ zs.map (Value.int .i32)) → w.grownBy w' v.ownBlock → K (a.put o.dst v') w') :
    if Region.wanted o (yielded ops a.tmps) = true then Oper.wp Tryd.prog o a w K Q else E := by
  obtain ⟨i0, hi, hz0, hz1, hz2⟩ := info_parts info21
  rw [if_pos (by simp [Region.wanted, hg])]
  rcases hn with rfl | ⟨ad, len, cap, rfl⟩
  · have hb0 : zs = [] := by
      rcases hH with ⟨rfl, _⟩ | ⟨hp, b, off, c, e, _⟩
      · rfl
      · simp at e
    subst hb0
    have hrun := run_append_owned_none (P := Tryd.prog) (w := w) base 33 o.type 21 i0 1 Tryd.underlying33 hi v n xs hown
    unfold Oper.wp
    simp [execOp, ho, resolve, invoke, builtin, hs, hx, hrun, Result.andThen]
    exact h v w (by simpa using hown) (World.grownBy.refl _ _)
  · have hl : len = zs.length ∧ ∀ j u, (zs.map (Value.int .i32))[j]? = some u → w.cell? (ad.add j) = some u := by
      rcases hH with ⟨rfl, a', c', e⟩ | ⟨hp, b, off, c, e, _, hc⟩
      · simp at e; exact ⟨e.2.1, fun j u hj => by simp at hj⟩
      · obtain ⟨rfl, rfl, rfl⟩ : ad = ⟨b, off, none⟩ ∧ len = zs.length ∧ cap = c := by simpa using e
        refine ⟨rfl, fun j u hj => ?_⟩
        have hj' : j < zs.length := by have := (List.getElem?_eq_some_iff.1 hj).1; simpa using this
        rw [List.getElem?_map, List.getElem?_eq_getElem hj'] at hj
        cases hj
        rw [add_none, hc j hj']
        simp [zAt, hj']
    obtain ⟨rfl, hnews⟩ := hl
    exact wp_append_own w s x _ ho base _ i0 (.int .i32 0) 1 4 Tryd.underlying33 hi hz0 hz1 hz2 rfl (by decide) v n xs hs hown ad zs.length cap (zs.map (Value.int .i32)) hx (by simp) hnews (fun u hu => by obtain ⟨z, _, rfl⟩ := List.mem_map.1 hu; rfl) (by unfold maxLen; omega) (by omega) hbase (fun v' w' a b _ => h v' w' a b)

set_option maxRecDepth 100000 in
set_option maxHeartbeats 4000000 in
theorem walk (w : World) (hT : Lib.Utf8Tabs (Tryd.lays32_ren.g 2) (Tryd.lays32_ren.g 3) w) (v : Value) (bs : List UInt8) (hb : HasB w.heap.size w v bs) (hl : bs.length ≤ 1048576) (n : Int) (_wn : (Lit.int .i64 n).wf = true) :
    Calls Tryd.prog 3 #[v, .int .i64 n] w fun e w' => e = .returned (.bool true) ∧ Below w.heap.size w w' := by
  have HT : Hid (Lib.Utf8Tabs (Tryd.lays32_ren.g 2) (Tryd.lays32_ren.g 3) w) := hT
  obtain ⟨xa, xc, rfl, hxc⟩ := hasB_slice hb
  have HB : Hid (HasB w.heap.size w (.slice xa bs.length xc) bs) := hb
  clear hT hb
  refine (callsIn_wide (n := 5)).1 ?_
  refine callsIn_of_wp_marks Tryd.func3 rfl trivial ?_ rfl
  simp only [Tryd.ntmps3, List.size_toArray, List.length_cons, List.length_nil, Nat.reduceAdd, Nat.reduceSub, Array.replicate_succ, Array.replicate_zero, List.push_toArray, List.append_toArray, List.nil_append, List.cons_append]
  gi_wp2_with fail
  have hb0 := (Below.refl w.heap.size w).alloc (Nat.le_refl _) (.cells #[.bool false] 4)
  refine ⟨trivial, (callsIn_wide.2 (lend_calls _ bs w.heap.size _ (by omega) (HB.out.below hb0))).mono ?_⟩
  rintro e w1 ⟨rfl, hrow1, hb1⟩
  rw [World.size_alloc] at hrow1 hb1
  have hw1 : Below w.heap.size w w1 := hb0.trans (hb1.mono (by omega))
  have hR1 : w1.cell? ⟨w.heap.size, 0, none⟩ = some (.bool false) := (hb1.cell (p := ⟨w.heap.size, 0, none⟩) (by simp)).trans (by simp)
  have hF1 : w1.frozen? ⟨w.heap.size, 0, none⟩ = false := (hb1.frozen (p := ⟨w.heap.size, 0, none⟩) (by simp)).trans (by simp)
  have hg1 : w.heap.size + 1 < w1.heap.size := cell_lt (hrow1.1 0 (by omega))
  clear hb0 hb1
  gi_wp2_with fail
  refine ⟨trivial, (callsIn_wide.2 (pieces_calls _ bs w.heap.size _ (by omega) (HB.out.below hw1))).mono ?_⟩
  rintro e w2 ⟨vl, rfl, hown2, hb2⟩
  obtain ⟨al, cl, rfl⟩ := owns_slice hown2
  gi_wp2_with fail
  have hb2' := (Below.refl w2.heap.size w2).alloc (Nat.le_refl _) (.cells #[.slice al (pcs bs).length cl] 25)
  refine ⟨trivial, (callsIn_wide.2 (back_calls _ bs w1.heap.size _ (by omega) (((hrow1.hasB w1.heap.size hg1).below hb2).below (hb2'.mono hb2.size)))).mono ?_⟩
  rintro e w3 ⟨B, u, rfl, hcB, hB, hHB, hb3⟩
  have hq := fun w => eql_func w (.func 15) #[] #[.pointer (some ⟨B, 0, none⟩)]
  have cL3 : w3.cell? ⟨w2.heap.size, 0, none⟩ = some (.slice al (pcs bs).length cl) := (hb3.cell (p := ⟨w2.heap.size, 0, none⟩) (by simp)).trans (by simp)
  gi_wp2_with fail
  clear hq
  have s1 := hw1.size
  have s2 := hb2.size
  have s3 := hb3.size
  have hltB := cell_lt hcB
  simp only [World.size_alloc] at s3 hltB hB hb3
  obtain ⟨W0, hW0⟩ : ∃ W0, w3.alloc (.cells #[.int .i64 ((pcs bs).length : Int)] 3) = W0 := ⟨_, rfl⟩
  have h3 : Below w3.heap.size w3 W0 := by rw [← hW0]; exact (Below.refl _ w3).alloc (Nat.le_refl _) _
  have hz0' : W0.heap.size = w3.heap.size + 1 := by rw [← hW0]; simp
  have h2 : Below w2.heap.size w2 W0 := (hb2'.trans (hb3.mono (by omega))).trans (h3.mono (by omega))
  have h1 : Below w1.heap.size w1 W0 := hb2.trans (h2.mono s2)
  have h0 : Below w.heap.size w W0 := hw1.trans (h1.mono s1)
  have cR : W0.cell? ⟨w.heap.size, 0, none⟩ = some (.bool false) := (h1.cell (p := ⟨w.heap.size, 0, none⟩) (by simp; omega)).trans hR1
  have fR : W0.frozen? ⟨w.heap.size, 0, none⟩ = false := (h1.frozen (p := ⟨w.heap.size, 0, none⟩) (by simp; omega)).trans hF1
  have cL : W0.cell? ⟨w2.heap.size, 0, none⟩ = some (.slice al (pcs bs).length cl) := (h3.cell (p := ⟨w2.heap.size, 0, none⟩) (by simp; omega)).trans cL3
  have bN : Boxed W0 w3.heap.size 3 (.int .i64 ((pcs bs).length : Int)) := by rw [← hW0]; exact Boxed.new w3 3 _
  have hrow0 := hrow1.below h1 hg1
  have cB := (h3.cell (p := ⟨B, 0, none⟩) (by simpa using hltB)).trans hcB
  have hHB0 : HasB B W0 u bs := hHB.below (h3.mono (by omega))
  have hT0 : Hid (Lib.Utf8Tabs (Tryd.lays32_ren.g 2) (Tryd.lays32_ren.g 3) W0) := tabs_below HT.out h0
  have hg2 : Tryd.lays32_ren.g 2 < w.heap.size ∧ Tryd.lays32_ren.g 3 < w.heap.size := ⟨cell_lt (HT.out.1 0 (by omega)), cell_lt (HT.out.2 0 (by omega)).1⟩
  have hpl := pcs_length bs
  rw [hW0]
  clear hW0 hcB hHB hb2' hb2 hb3 hw1 hR1 hF1 hrow1 cL3
  refine wpIn_rangeFunc_ownG rfl (by omega) (gf := 15) (lb := #[.pointer (some ⟨B, 0, none⟩)]) rfl trivial (enters_of Tryd.func15 (by kernel_rfl) rfl)
    (back_stops _ (by omega) B B u bs [w3.heap.size] _ (by omega) hHB0 (Nat.le_refl _) cB (fun b hb => by simp at hb; subst hb; exact ⟨by omega, by omega, by omega⟩) (fun k hk => by obtain ⟨b, hb, z, hz, e⟩ := hk; simp at hb; subst hb; rw [bN.cell] at hz; cases hz; cases e) hT0.out ⟨by omega, by omega⟩)
    Kpr.trans (Kpr.book (by omega) (fun b hb => by simp at hb; subst hb; omega)) (Below.refl _ _) (fun _ => rfl)
    (fun (pre : List (Nat × Nat)) W => (pre <+: (toks bs).reverse) ∧ Boxed W w3.heap.size 3 (.int .i64 (((pcs bs).length : Int) - (pre.length : Int))) ∧ Below w3.heap.size W0 W)
    (fun c (pre : List (Nat × Nat)) W => ¬ (pre <+: (toks bs).reverse) ∨ c = .exit 0 ∧ Below w3.heap.size W0 W ∧ ∃ m : Int, Boxed W w3.heap.size 3 (.int .i64 m))
    (OwnFrom.and (ownFrom_pure _ _) (OwnFrom.and (Own.from (boxed_own _ _ _) _) (ownFrom_below (by omega) (by omega))))
    (fun c s A A' row hs hg hr => hs.elim .inl (fun hs => .inr ⟨hs.1, ownFrom_below (β := Unit) (by omega) (by omega) () A A' row hs.2.1 hg hr, hs.2.2.elim fun m hm => ⟨m, Own.from (boxed_own (β := Unit) _ _ (fun _ => .int .i64 m)) W0.heap.size () A A' row hm hg hr⟩⟩))
    ⟨List.nil_prefix, by simpa using bN, Below.refl _ _⟩ ?a1 ?assign ?body ?done ?stop
  case assign =>
    intro l y W K hK
    gi_wp2
    exact hK
  case body =>
    rintro l pre y W ⟨hpre, hbx, hBW⟩ _
    have cN := hbx.cell
    have fN := hbx.frozen
    have cL' := (hBW.cell (p := ⟨w2.heap.size, 0, none⟩) (by simp; omega)).trans cL
    have cR' := (hBW.cell (p := ⟨w.heap.size, 0, none⟩) (by simp; omega)).trans cR
    have fR' := (hBW.frozen (p := ⟨w.heap.size, 0, none⟩) (by simp; omega)).trans fR
    have hple : pre.length ≤ (pcs bs).length := by have := hpre.length_le; rw [List.length_reverse, toks_len] at this; exact this
    by_cases hn : pre.length < (pcs bs).length
    · obtain ⟨m, hm⟩ : ∃ m, pre.length + m + 1 = (pcs bs).length := ⟨(pcs bs).length - pre.length - 1, by omega⟩
      have hml : m < (pcs bs).length := by omega
      obtain ⟨gl, rfl, hgb, hgl, r0, p0, _, _⟩ := owns_piece hown2 m hml
      have r1 := (hBW.cell (p := ⟨gl, m * 4, none⟩) (by simp; omega)).trans ((h2.cell (p := ⟨gl, m * 4, none⟩) hgl).trans r0)
      have p1 := (hBW.cell (p := ⟨gl, m * 4 + 1, none⟩) (by simp; omega)).trans ((h2.cell (p := ⟨gl, m * 4 + 1, none⟩) hgl).trans p0)
      have hget := rev_get bs pre.length m hm hml
      rw [show ((pcs bs).length : Int) - (pre.length : Int) = (m : Int) + 1 by omega] at cN
      have hset := hbx.set (.int .i64 (m : Int))
      have hbl : Below w3.heap.size W0 (W.setCell ⟨w3.heap.size, 0, none⟩ (.int .i64 (m : Int))) := hBW.setCell (p := ⟨w3.heap.size, 0, none⟩) (Nat.le_refl _) _
      have r2 : (W.setCell ⟨w3.heap.size, 0, none⟩ (.int .i64 (m : Int))).cell? ⟨gl, m * 4, none⟩ = _ := (cs_other (a := ⟨w3.heap.size, 0, none⟩) (b := ⟨gl, m * 4, none⟩) (fun h => by have := congrArg Addr.block h; simp only at this; omega)).trans r1
      have p2 : (W.setCell ⟨w3.heap.size, 0, none⟩ (.int .i64 (m : Int))).cell? ⟨gl, m * 4 + 1, none⟩ = _ := (cs_other (a := ⟨w3.heap.size, 0, none⟩) (b := ⟨gl, m * 4 + 1, none⟩) (fun h => by have := congrArg Addr.block h; simp only at this; omega)).trans p1
      have cL2 : (W.setCell ⟨w3.heap.size, 0, none⟩ (.int .i64 (m : Int))).cell? ⟨w2.heap.size, 0, none⟩ = _ := (cs_other (a := ⟨w3.heap.size, 0, none⟩) (b := ⟨w2.heap.size, 0, none⟩) (fun h => by have := congrArg Addr.block h; simp only at this; omega)).trans cL'
      have cR2 : (W.setCell ⟨w3.heap.size, 0, none⟩ (.int .i64 (m : Int))).cell? ⟨w.heap.size, 0, none⟩ = _ := (cs_other (a := ⟨w3.heap.size, 0, none⟩) (b := ⟨w.heap.size, 0, none⟩) (fun h => by have := congrArg Addr.block h; simp only at this; omega)).trans cR'
      have cN2 := hset.cell
      clear r0 p0 r1 p1
      by_cases e1 : y.1 = (pcs bs)[m].pos
      · have t1 : ((y.1 : Int) != ((pcs bs)[m].pos : Int)) = false := by simp [e1]
        by_cases e2 : y.2 = (pcs bs)[m].r
        · have t2 : ((y.2 : Int) != ((pcs bs)[m].r : Int)) = false := by simp [e2]
          have hon : Hid (pre ++ [y] <+: (toks bs).reverse) := prefix_on hpre (by rw [hget, ← e1, ← e2])
          clear hget e1 e2
          gi_wp2
          · exact ⟨(KeepsOthers.setCell _ _ _).from _, .inr ⟨rfl, hbl, _, hset⟩⟩
          · refine ⟨(KeepsOthers.setCell _ _ _).from _, kpr_int hbx (by omega) _ _, hon.out, ?_, hbl⟩
            rw [show ((pcs bs).length : Int) - ((pre ++ [y]).length : Int) = (m : Int) by simp; omega]
            exact hset
        · have t2 : ((y.2 : Int) != ((pcs bs)[m].r : Int)) = true := by simp; omega
          have hno : Hid (¬ (pre ++ [y] <+: (toks bs).reverse)) := prefix_not (by rw [hget]; intro h; cases h; exact e2 rfl)
          clear hget e1 e2
          gi_wp2
          exact ⟨KeepsOthers.from ((KeepsOthers.setCell _ _ _).trans (KeepsOthers.setCell _ _ _)) _, .inl hno.out⟩
      · have t1 : ((y.1 : Int) != ((pcs bs)[m].pos : Int)) = true := by simp; omega
        have hno : Hid (¬ (pre ++ [y] <+: (toks bs).reverse)) := prefix_not (by rw [hget]; intro h; cases h; exact e1 rfl)
        clear hget e1
        gi_wp2
        exact ⟨KeepsOthers.from ((KeepsOthers.setCell _ _ _).trans (KeepsOthers.setCell _ _ _)) _, .inl hno.out⟩
    · have hno : Hid (¬ (pre ++ [y] <+: (toks bs).reverse)) := prefix_not (rev_none bs _ (by omega) _)
      rw [show ((pcs bs).length : Int) - (pre.length : Int) = 0 by omega] at cN
      gi_wp2
      exact ⟨KeepsOthers.from ((KeepsOthers.setCell _ _ _).trans (KeepsOthers.setCell _ _ _)) _, .inl hno.out⟩
  case' stop =>
    rintro D c pre W hD hSp hIx hK
    obtain ⟨rfl, hBW, m, hbx⟩ := hIx.resolve_left (fun h => h hSp)
    clear hIx hSp
  case' done =>
    rintro D ys W hD rfl ⟨_, hbx0, hBW⟩ hK
    obtain ⟨m, hbx⟩ : ∃ m : Int, Boxed W w3.heap.size 3 (.int .i64 m) := ⟨_, hbx0⟩
    clear hbx0
  all_goals
    have cN := hbx.cell
    have fN := hbx.frozen
    have cL' := (hBW.cell (p := ⟨w2.heap.size, 0, none⟩) (by simp; omega)).trans cL
    gi_wp2
    obtain ⟨W1, hW1⟩ : ∃ W1, W.setCell ⟨w3.heap.size, 0, none⟩ (.int .i64 ((pcs bs).length : Int)) = W1 := ⟨_, rfl⟩
    have hz1 : W1.heap.size = W.heap.size := by rw [← hW1]; simp [World.setCell]
    have bN1 : Boxed W1 w3.heap.size 3 (.int .i64 ((pcs bs).length : Int)) := by rw [← hW1]; exact hbx.set _
    have hB1 : Below w3.heap.size W0 W1 := by rw [← hW1]; exact hBW.setCell (p := ⟨w3.heap.size, 0, none⟩) (Nat.le_refl _) _
    have hK1 : W1.heap[D]? = some (.deferred (some [])) := by rw [← hW1, Below.heap_setCell _ _ _ D (by show D ≠ w3.heap.size; omega)]; exact hK
    have hD1 := lt_of_block hK1
    have hs1 := hB1.size
    rw [hW1]
    clear hW1 hbx hBW cN fN hK hz1 cL'
    refine wpIn_rangeFunc_ownG rfl (by omega) (gf := 15) (lb := #[.pointer (some ⟨B, 0, none⟩)]) rfl trivial (enters_of Tryd.func15 (by kernel_rfl) rfl)
      (back_stops _ (by omega) B B u bs [w3.heap.size] W1 (by omega) (hHB0.below (hB1.mono (by omega))) (Nat.le_refl _) ((hB1.cell (p := ⟨B, 0, none⟩) (by simp; omega)).trans cB) (fun b hb => by simp at hb; subst hb; exact ⟨by omega, by omega, by omega⟩) (fun k hk => by obtain ⟨b, hb, z, hz, e⟩ := hk; simp at hb; subst hb; rw [bN1.cell] at hz; cases hz; cases e) (tabs_below HT.out (h0.trans (hB1.mono (by omega)))) ⟨by omega, by omega⟩)
      Kpr.trans (Kpr.book (by omega) (fun b hb => by simp at hb; subst hb; omega)) (Below.refl _ _) (fun _ => rfl)
      (fun (pre : List (Nat × Nat)) W => (pre <+: (toks bs).reverse) ∧ Boxed W w3.heap.size 3 (.int .i64 (((pcs bs).length : Int) - (pre.length : Int))) ∧ Below w3.heap.size W0 W ∧ W.heap[D]? = some (.deferred (some [])))
      (fun _ (pre : List (Nat × Nat)) _ => ¬ (pre <+: (toks bs).reverse))
      (OwnFrom.and (ownFrom_pure _ _) (OwnFrom.and (Own.from (boxed_own _ _ _) _) (OwnFrom.and (ownFrom_below (by omega) (by omega)) (fun _ A A' row hs hg hr => (hg.block D (lt_of_block hs) (fun e => by have := (hr D e.symm).1; omega)).trans hs))))
      (fun _ => ownFrom_pure _ _)
      ⟨List.nil_prefix, by simpa using bN1, hB1, hK1⟩ ?_ ?_ ?_ ?_ ?_
    rotate_left
    · intro l y W K hK
      gi_wp2
      exact hK
    · rintro l pre y W ⟨hpre, hbx, hBW, hKW⟩ _
      have cN := hbx.cell
      have fN := hbx.frozen
      have cL' := (hBW.cell (p := ⟨w2.heap.size, 0, none⟩) (by simp; omega)).trans cL
      have cR' := (hBW.cell (p := ⟨w.heap.size, 0, none⟩) (by simp; omega)).trans cR
      have fR' := (hBW.frozen (p := ⟨w.heap.size, 0, none⟩) (by simp; omega)).trans fR
      have hple : pre.length ≤ (pcs bs).length := by have := hpre.length_le; rw [List.length_reverse, toks_len] at this; exact this
      have HKW : Hid (W.heap[D]? = some (.deferred (some []))) := hKW
      clear hKW hK1
      by_cases hn : pre.length < (pcs bs).length
      · obtain ⟨m, hm⟩ : ∃ m, pre.length + m + 1 = (pcs bs).length := ⟨(pcs bs).length - pre.length - 1, by omega⟩
        have hml : m < (pcs bs).length := by omega
        obtain ⟨gl, rfl, hgb, hgl, r0, p0, _, _⟩ := owns_piece hown2 m hml
        have r1 := (hBW.cell (p := ⟨gl, m * 4, none⟩) (by simp; omega)).trans ((h2.cell (p := ⟨gl, m * 4, none⟩) hgl).trans r0)
        have p1 := (hBW.cell (p := ⟨gl, m * 4 + 1, none⟩) (by simp; omega)).trans ((h2.cell (p := ⟨gl, m * 4 + 1, none⟩) hgl).trans p0)
        have hget := rev_get bs pre.length m hm hml
        rw [show ((pcs bs).length : Int) - (pre.length : Int) = (m : Int) + 1 by omega] at cN
        have hset := hbx.set (.int .i64 (m : Int))
        have hbl : Below w3.heap.size W0 (W.setCell ⟨w3.heap.size, 0, none⟩ (.int .i64 (m : Int))) := hBW.setCell (p := ⟨w3.heap.size, 0, none⟩) (Nat.le_refl _) _
        have r2 : (W.setCell ⟨w3.heap.size, 0, none⟩ (.int .i64 (m : Int))).cell? ⟨gl, m * 4, none⟩ = _ := (cs_other (a := ⟨w3.heap.size, 0, none⟩) (b := ⟨gl, m * 4, none⟩) (fun h => by have := congrArg Addr.block h; simp only at this; omega)).trans r1
        have p2 : (W.setCell ⟨w3.heap.size, 0, none⟩ (.int .i64 (m : Int))).cell? ⟨gl, m * 4 + 1, none⟩ = _ := (cs_other (a := ⟨w3.heap.size, 0, none⟩) (b := ⟨gl, m * 4 + 1, none⟩) (fun h => by have := congrArg Addr.block h; simp only at this; omega)).trans p1
        have cL2 : (W.setCell ⟨w3.heap.size, 0, none⟩ (.int .i64 (m : Int))).cell? ⟨w2.heap.size, 0, none⟩ = _ := (cs_other (a := ⟨w3.heap.size, 0, none⟩) (b := ⟨w2.heap.size, 0, none⟩) (fun h => by have := congrArg Addr.block h; simp only at this; omega)).trans cL'
        have cR2 : (W.setCell ⟨w3.heap.size, 0, none⟩ (.int .i64 (m : Int))).cell? ⟨w.heap.size, 0, none⟩ = _ := (cs_other (a := ⟨w3.heap.size, 0, none⟩) (b := ⟨w.heap.size, 0, none⟩) (fun h => by have := congrArg Addr.block h; simp only at this; omega)).trans cR'
        have cN2 := hset.cell
        clear r0 p0 r1 p1
        by_cases e1 : y.1 = (pcs bs)[m].pos
        · have t1 : ((y.1 : Int) != ((pcs bs)[m].pos : Int)) = false := by simp [e1]
          by_cases e2 : y.2 = (pcs bs)[m].r
          · have t2 : ((y.2 : Int) != ((pcs bs)[m].r : Int)) = false := by simp [e2]
            have hon : Hid (pre ++ [y] <+: (toks bs).reverse) := prefix_on hpre (by rw [hget, ← e1, ← e2])
            clear hget e1 e2
            gi_wp2
            refine ⟨(KeepsOthers.setCell _ _ _).from _, kpr_int hbx (by omega) _ _, hon.out, ?_, hbl, (Below.heap_setCell _ _ _ D (by show D ≠ w3.heap.size; omega)).trans HKW.out⟩
            rw [show ((pcs bs).length : Int) - ((pre ++ [y]).length : Int) = (m : Int) by simp; omega]
            exact hset
          · have t2 : ((y.2 : Int) != ((pcs bs)[m].r : Int)) = true := by simp; omega
            have hno : Hid (¬ (pre ++ [y] <+: (toks bs).reverse)) := prefix_not (by rw [hget]; intro h; cases h; exact e2 rfl)
            clear hget e1 e2
            gi_wp2
            exact ⟨KeepsOthers.from ((KeepsOthers.setCell _ _ _).trans (KeepsOthers.setCell _ _ _)) _, hno.out⟩
        · have t1 : ((y.1 : Int) != ((pcs bs)[m].pos : Int)) = true := by simp; omega
          have hno : Hid (¬ (pre ++ [y] <+: (toks bs).reverse)) := prefix_not (by rw [hget]; intro h; cases h; exact e1 rfl)
          clear hget e1
          gi_wp2
          exact ⟨KeepsOthers.from ((KeepsOthers.setCell _ _ _).trans (KeepsOthers.setCell _ _ _)) _, hno.out⟩
      · have hno : Hid (¬ (pre ++ [y] <+: (toks bs).reverse)) := prefix_not (rev_none bs _ (by omega) _)
        rw [show ((pcs bs).length : Int) - (pre.length : Int) = 0 by omega] at cN
        gi_wp2
        exact ⟨KeepsOthers.from ((KeepsOthers.setCell _ _ _).trans (KeepsOthers.setCell _ _ _)) _, hno.out⟩
    · rintro D2 ys W hD2 rfl ⟨_, hbx, hBW, hKW⟩ hK2
      have cN := hbx.cell
      rw [show ((pcs bs).length : Int) - (((toks bs).reverse).length : Int) = 0 by rw [List.length_reverse, toks_len]; omega] at cN
      have cR' := (hBW.cell (p := ⟨w.heap.size, 0, none⟩) (by simp; omega)).trans cR
      have fR' := (hBW.frozen (p := ⟨w.heap.size, 0, none⟩) (by simp; omega)).trans fR
      have hW' : Below w.heap.size w W := h0.trans (hBW.mono (by omega))
      have hrowW := hrow0.below hBW (by omega)
      gi_wp2_with fail
      refine ⟨trivial, (callsIn_wide.2 (cut_calls _ bs n w1.heap.size _ (by omega) (hrowW.hasB w1.heap.size hg1) (tabs_below HT.out hW'))).mono ?_⟩
      rintro e w4 ⟨rfl, hb4⟩
      have hw4 : Below w.heap.size w w4 := hW'.trans (hb4.mono hW'.size)
      obtain ⟨c, hcn⟩ : ∃ c, cutN bs n = c := ⟨_, rfl⟩
      have hc : c ≤ bs.length := by rw [← hcn]; exact (cutN_le bs n).1
      have HCC : Hid (cutN bs (c : Int) = c) := by show _ = _; rw [← hcn]; exact cutN_cut bs n
      have HRC : Hid (runes (bs.take c) ++ runes (bs.drop c) = runes bs) := by show _ = _; rw [← hcn]; exact runes_cut bs n
      have HCN : Hid (cutN bs n = c) := hcn
      rw [hcn]
      clear hcn
      have hlt4 := cell_lt cN
      simp only at hlt4
      have s4 := hb4.size
      have cN4 := (hb4.cell (p := ⟨w3.heap.size, 0, none⟩) hlt4).trans cN
      have cR4 := (hb4.cell (p := ⟨w.heap.size, 0, none⟩) (by simp; omega)).trans cR'
      have fR4 := (hb4.frozen (p := ⟨w.heap.size, 0, none⟩) (by simp; omega)).trans fR'
      have hrow4 := hrowW.below hb4 (by omega)
      have hKa := (hb4.block D (lt_of_block hKW)).trans hKW
      have hKb := (hb4.block D2 (lt_of_block hK2)).trans hK2
      clear hb4 hW' hrowW cN cR' fR' hKW hK2 hBW hbx
      gi_wp2_with fail
      refine ⟨trivial, (callsIn_wide.2 (rcut_calls _ bs n w.heap.size _ (by omega) (HB.out.below hw4))).mono ?_⟩
      rintro e w5 ⟨rfl, hb5⟩
      rw [HCN.out]
      have tc : ((c : Int) != (c : Int)) = false := by simp
      have hw5 : Below w.heap.size w w5 := hw4.trans (hb5.mono hw4.size)
      gi_wp2_with fail
      refine ⟨trivial, (callsIn_wide.2 (cut_calls _ bs c w1.heap.size _ (by omega) ((hrow4.hasB w1.heap.size hg1).below (hb5.mono (by omega))) (tabs_below HT.out hw5))).mono ?_⟩
      rintro e w6 ⟨rfl, hb6⟩
      rw [HCC.out]
      have hb46 : Below w4.heap.size w4 w6 := hb5.trans (hb6.mono hb5.size)
      have hw6 : Below w.heap.size w w6 := hw4.trans (hb46.mono hw4.size)
      have hlt6 := cell_lt cN4
      simp only at hlt6
      have s6 := hb46.size
      have cR6 := (hb46.cell (p := ⟨w.heap.size, 0, none⟩) (by simp; omega)).trans cR4
      have fR6 := (hb46.frozen (p := ⟨w.heap.size, 0, none⟩) (by simp; omega)).trans fR4
      have hrow6 := hrow4.below hb46 (by omega)
      have hKa6 := (hb46.block D (lt_of_block hKa)).trans hKa
      have hKb6 := (hb46.block D2 (lt_of_block hKb)).trans hKb
      clear hb46 hb5 hb6 hw5 hw4 hrow4 cR4 fR4 cN4 hKa hKb
      gi_wp2_with fail
      refine wpIn_wide.2 ?_
      have i0 : (0 : Int) ≤ (c : Int) := by omega
      have i1 : (c : Int) ≤ (bs.length : Int) := by omega
      have hs1 := slice_to xa bs.length xc c i1 (by omega)
      obtain ⟨a1, ha1, hs2⟩ := slice_from xa bs.length xc c i1
      have z6 := hw6.size
      have RC1 : Hid (∀ w', Below w6.heap.size w6 w' → Calls Tryd.prog 9 #[.slice xa c c] w' fun e W' => ∃ v, e = .returned v ∧ W'.ownsRow w'.heap.size 21 1 v (RI (bs.take c)).length ((RI (bs.take c)).map (Value.int .i32)) ∧ Below w'.heap.size w' W') := fun w' h => by
        have := runes_calls xa c c (bs.take c) w' (by simp; omega) (hasB_mono (hasB_to (HB.out.below (hw6.trans (h.mono z6))) c hc) (by have := h.size; omega)) (tabs_below HT.out (hw6.trans (h.mono z6)))
        rw [RI_vals, ← RI_length] at this
        exact this
      have RC2 : Hid (∀ w', Below w6.heap.size w6 w' → Calls Tryd.prog 9 #[.slice a1 (bs.length - c) (xc - c)] w' fun e W' => ∃ v, e = .returned v ∧ W'.ownsRow w'.heap.size 21 1 v (RI (bs.drop c)).length ((RI (bs.drop c)).map (Value.int .i32)) ∧ Below w'.heap.size w' W') := fun w' h => by
        have := runes_calls a1 (bs.length - c) (xc - c) (bs.drop c) w' (by simp; omega) (hasB_mono (hasB_from (HB.out.below (hw6.trans (h.mono z6))) c hc ha1) (by have := h.size; omega)) (tabs_below HT.out (hw6.trans (h.mono z6)))
        rw [RI_vals, ← RI_length] at this
        exact this
      have l1 := RI_le (bs.take c)
      have l2 := RI_le (bs.drop c)
      simp only [List.length_take, List.length_drop] at l1 l2
      clear ha1
      go_region_held3 (fun _ => True) (trivial) (first
        | (go_at_call 9; with_reducible refine (RC1.out _ (Below.refl _ _).drew).mono ?_; rintro e w7 ⟨v7, rfl, hown7, hb7⟩; obtain ⟨g7, q7, rfl⟩ := owns_slice hown7; have hb67 : Below w6.heap.size w6 w7 := (Below.refl _ _).drew.trans (hb7.mono (Nat.le_refl _)))
        | (go_at_call 9; with_reducible refine (RC2.out _ (by first | exact hb67 | exact hb67.drew)).mono ?_; rintro e w8 ⟨v8, rfl, hown8, hb8⟩; obtain ⟨g8, q8, rfl⟩ := owns_slice hown8)
        | (refine step_ints rfl _ _ rfl w6.heap.size (.slice g7 (RI (bs.take c)).length q7) (RI (bs.take c)).length ((RI (bs.take c)).map (Value.int .i32)) (by simp [Act.eval]) (owns_below hown7 hb8) (.slice g8 (RI (bs.drop c)).length q8) (RI (bs.drop c)) (by simp [Act.eval]) (hasI_owns hown8) (owns_nil_or hown8) (by omega) (by have := hb67.size; have := hb8.size; omega) ?_; intro v9 w9 hown9 hgrow9))
      have hb68 : Below w6.heap.size w6 w8 := hb67.trans (hb8.mono hb67.size)
      have hb69 : Below w6.heap.size w6 w9 := hb68.grown hgrow9 hb68.size (fun k hk => (hown7.lt k hk).1)
      have O9 : Hid (w9.ownsRow w6.heap.size 21 1 v9 (RI bs).length ((RI bs).map (Value.int .i32))) := by
        have e : RI (bs.take c) ++ RI (bs.drop c) = RI bs := by unfold RI; rw [← List.map_append, HRC.out]
        show w9.ownsRow _ _ _ _ _ _
        rw [← e, List.length_append, List.map_append]
        exact hown9
      have hw9 : Below w.heap.size w w9 := hw6.trans (hb69.mono z6)
      have z9 := hb69.size
      have cR9 := (hb69.cell (p := ⟨w.heap.size, 0, none⟩) (by simp; omega)).trans cR6
      have fR9 := (hb69.frozen (p := ⟨w.heap.size, 0, none⟩) (by simp; omega)).trans fR6
      have hrow9 := hrow6.below hb69 (by omega)
      have hKa9 := (hb69.block D (lt_of_block hKa6)).trans hKa6
      have hKb9 := (hb69.block D2 (lt_of_block hKb6)).trans hKb6
      obtain ⟨g9, q9, rfl⟩ := owns_slice O9.out
      clear hs1 hs2 hown7 hown8 hown9 hgrow9 hb7 hb8 hb67 hb68 hb69 hrow6 cR6 fR6 hKa6 hKb6 RC1 RC2 l1 l2
      gi_wp2_with fail
      refine ⟨trivial, (callsIn_wide.2 (runes_calls _ _ _ bs w9 (by omega) (hasB_mono (HB.out.below hw9) hw9.size) (tabs_below HT.out hw9))).mono ?_⟩
      rintro e w10 ⟨v10, rfl, hown10, hb10⟩
      rw [RI_vals, ← RI_length] at hown10
      obtain ⟨g10, q10, rfl⟩ := owns_slice hown10
      have lr := RI_le bs
      have O10 : Hid (w10.ownsRow w9.heap.size 21 1 (.slice g10 (RI bs).length q10) (RI bs).length ((RI bs).map (Value.int .i32))) := hown10
      clear hown10
      gi_wp2_with fail
      refine ⟨trivial, (callsIn_wide.2 (same_calls _ _ (RI bs) (RI bs) w10 (by omega) (hasI_owns (owns_below O9.out hb10)) (hasI_owns O10.out))).mono ?_⟩
      rintro e w11 ⟨rfl, hb11⟩
      rw [show decide (RI bs = RI bs) = true from decide_eq_true rfl]
      have hb911 : Below w9.heap.size w9 w11 := hb10.trans (hb11.mono hb10.size)
      have hw11 : Below w.heap.size w w11 := hw9.trans (hb911.mono hw9.size)
      gi_wp2_with fail
      refine ⟨trivial, (callsIn_wide.2 (kept_calls _ bs w.heap.size (w.heap.size + 1) _ (by omega) (HB.out.below hw11) (hrow9.below hb911 (by omega)))).mono ?_⟩
      rintro e w12 ⟨rfl, hb12⟩
      have hw12 : Below w.heap.size w w12 := hw11.trans (hb12.mono hw11.size)
      gi_wp2_with fail
      refine ⟨trivial, (callsIn_wide.2 (lives_calls _ (tabs_below HT.out hw12))).mono ?_⟩
      rintro e w13 ⟨rfl, hb13⟩
      have hb913 : Below w9.heap.size w9 w13 := hb911.trans ((hb12.trans (hb13.mono hb12.size)).mono hb911.size)
      have hw13 : Below w.heap.size w w13 := hw9.trans (hb913.mono hw9.size)
      have cR13 := (hb913.cell (p := ⟨w.heap.size, 0, none⟩) (by simp; omega)).trans cR9
      have fR13 := (hb913.frozen (p := ⟨w.heap.size, 0, none⟩) (by simp; omega)).trans fR9
      have hKa13 := (hb913.block D (lt_of_block hKa9)).trans hKa9
      have hKb13 := (hb913.block D2 (lt_of_block hKb9)).trans hKb9
      clear hb10 hb11 hb12 hb13 hb911 hb913 hKa9 hKb9 hw9 hw11 hw12
      have hDne : D ≠ D2 := by omega
      gi_wp2
      have hKb' : (w13.setCell ⟨w.heap.size, 0, none⟩ (.bool true)).heap[D2]? = some (.deferred (some [])) := (Below.heap_setCell _ _ _ D2 (by show D2 ≠ w.heap.size; omega)).trans hKb13
      have hKa' : ((w13.setCell ⟨w.heap.size, 0, none⟩ (.bool true)).putObj D2 (.deferred none)).heap[D]? = some (.deferred (some [])) := (World.putObj_heap_other hDne).trans ((Below.heap_setCell _ _ _ D (by show D ≠ w.heap.size; omega)).trans hKa13)
      refine ⟨by simp, .inl ⟨_, _, rfl, run_takeDeferred hKb', ?_⟩⟩
      refine ⟨by simp, .inl ⟨_, _, rfl, run_takeDeferred hKa', ?_⟩⟩
      have hc9 : (((w13.setCell ⟨w.heap.size, 0, none⟩ (.bool true)).putObj D2 (.deferred none)).putObj D (.deferred none)).cell? ⟨w.heap.size, 0, none⟩ = some (.bool true) := by
        rw [cell_of_block (p := ⟨w.heap.size, 0, none⟩) (World.putObj_heap_other (by show w.heap.size ≠ D; omega)), cell_of_block (p := ⟨w.heap.size, 0, none⟩) (World.putObj_heap_other (by show w.heap.size ≠ D2; omega))]
        exact cs_same cR13
      refine ⟨.bool true, by simp [results, Tryd.f3, go_sem, hc9], rfl, ?_⟩
      have z1 := lt_of_block hKb'
      have z2 := lt_of_block hKa'
      exact (((hw13.setCell (p := ⟨w.heap.size, 0, none⟩) (Nat.le_refl _) _).grown (grownBy_putObj' _ D2 _) (by omega) (fun k e => by cases e; omega)).grown (grownBy_putObj' _ D _) (by omega) (fun k e => by cases e; omega))
    · rintro D2 c pre W hD2 hSp hIx hK2
      exact absurd hSp hIx

set_option maxRecDepth 100000 in
theorem contract (H : Type) (enc : TypeId × Value → H) (W : World) (base : Nat) (args : Array Value) (ds gs : List (DataW H)) (before : List MemPlace)
    (hval : ∀ (j : Nat) t v, Tryd.f3.params[j]? = some t → args[j]? = some v → Value.okWide Tryd.prog W .any base t v)
    (hW : DataW.Whole enc Tryd.prog Tryd.f3.params.toList Rows.utfTurnedSpec.vars false W args.toList ds gs before) (hL : laidMetH Tryd.prog Rows.utfTurnedUptoRow.laid W) (hk : Rows.uptoSmall H (ds ++ gs) = true) :
    Calls Tryd.prog 3 args W fun e W' => ∃ v, e = .returned v ∧ Rows.utfTurnedSpec.post enc Tryd.prog Tryd.f3 false true false false W args v W' := by
  have hW' := hW
  have hlt := hW.lt
  obtain ⟨p, q, hA0, hV, rfl, hfz, hnd⟩ := hW
  have hA : DataW.TrodAll enc Tryd.prog W 0 (fun _ => true) true Tryd.f3.params.toList args.toList ds p := hA0
  rw [Tryd.params3] at hA hval
  obtain ⟨v0, vs0, d0, ds0, p0, q0, hargs, rfl, rfl, h0, r0⟩ := trodAll_cons hA
  obtain ⟨v1, vs1, d1, ds1, p1, q1, rfl, rfl, rfl, h1, r1⟩ := trodAll_cons r0
  obtain ⟨rfl, rfl, rfl⟩ := trodAll_nil r1
  obtain rfl : args = #[v0, v1] := by cases args; simp_all
  obtain ⟨rfl, rfl⟩ := trodVars_none hV
  clear hA0
  simp only [List.append_nil] at hW' hlt hk
  have hbulk := of_decide_eq_true hk
  simp only [Rows.uptoBulkAll] at hbulk
  have e0 := okWide_slice Tryd.underlying22 (hval 0 22 v0 rfl rfl)
  obtain ⟨b0, hb0, l0⟩ := bytes_of_read (by kernel_rfl) e0 h0
  have h1' := h1
  obtain ⟨x1, rfl, e1, -, w1⟩ := open_int Tryd.underlying3 (hval 1 3 v1 rfl rfl) h1
  refine (walk W (tabs_of_laid hL) v0 b0 hb0 (by omega) x1 w1).mono fun e W' ⟨he, hb⟩ => ?_
  subst he
  exact ⟨_, rfl, post_below hW' (fun _ _ _ => trodAll_cons_mk (shut_bool Tryd.underlying4 _) trodAll_mk0) (trodAll_cons_mk (stays (by kernel_rfl) (of_decide_eq_true (by kernel_rfl)) h0 hb (fun x hx => hlt x (by simp [hx]))) (trodAll_cons_mk (stays (by kernel_rfl) (of_decide_eq_true (by kernel_rfl)) h1' hb (fun x hx => hlt x (by simp [hx]))) trodAll_mk0)) rfl hb⟩

set_option maxRecDepth 100000 in
theorem laid_met (os : Os) : laidMet Tryd.prog Rows.utfTurnedUptoRow.laid ((withTabs (World.holding Tryd.prog os ⟨#[], #[], []⟩)).forCall (fun _ _ => 0) ⟨#[], #[Value.slice none 0 0, Value.int .i64 0], []⟩).memory :=
  laidMet_of_run' 8 (by kernel_rfl) (by kernel_rfl)
set_option maxRecDepth 100000 in
theorem reads (os : Os) {H : Type} (enc : TypeId × Value → H) : ∃ places, DataW.whole enc Tryd.prog ((withTabs (World.holding Tryd.prog os ⟨#[], #[], []⟩)).forCall (fun _ _ => 0) ⟨#[], #[Value.slice none 0 0, Value.int .i64 0], []⟩).memory Tryd.f3.params.toList Rows.utfTurnedSpec.vars false #[Value.slice none 0 0, Value.int .i64 0].toList 8 = some ([.nil, .lit (.int .i64 0)], [], places) :=
  ⟨[], by kernel_rfl⟩

set_option maxRecDepth 100000 in
theorem lifted (os : Os) (started : os.Started) (H : Type) (enc : TypeId × Value → H) (F : Stop.Interp) :
    ReturnsInHanded {} Tryd.checked os 3 .any ((Rows.OpenSpec.upto Rows.utfTurnedSpec).preRow enc Tryd.prog Tryd.f3 Rows.utfTurnedUptoRow.domain false Rows.utfTurnedUptoRow.laid) (((Rows.OpenSpec.upto Rows.utfTurnedSpec).at F).post enc Tryd.prog Tryd.f3 false true false false) := by
  obtain ⟨places, hx⟩ := reads os enc
  refine returnsInHanded_of_row (C := Tryd.checked) (s := Rows.OpenSpec.upto Rows.utfTurnedSpec) own started (by kernel_rfl) Tryd.func3
    (witness_row_at (enc := enc) (C := Tryd.checked) false (withTabs (World.holding Tryd.prog os ⟨#[], #[], []⟩)) #[Value.slice none 0 0, Value.int .i64 0] rfl (by kernel_rfl) (by kernel_rfl) (by kernel_rfl)
      (OpenSpec.preRow_of_cond 8 hx (by kernel_rfl) (fun k hk => by cases hk; kernel_rfl) (by kernel_rfl) (laid_met os))) ?_
  intro W base args ds gs before hval hW _ hcond _ hL _ _
  exact contract H enc W base args ds gs before hval hW hL (hcond _ rfl)

set_option maxRecDepth 100000 in
theorem said : Rows.UtfTurnedUptoSaid :=
  OpenClaim.holds_of_cond 3 Tryd.f3 rfl rfl rfl rfl rfl rfl rfl ⟨rfl, rfl, rfl, rfl, rfl⟩ rfl rfl rfl rfl rfl (by kernel_rfl) Tryd.func3 (by kernel_rfl)
    (of_decide_eq_true (by kernel_rfl)) (by unfold Func.isWrapper; first | (rw [if_pos (by decide +kernel)]; kernel_rfl) | (rw [if_neg (by decide +kernel)]; exact ⟨rfl, rfl⟩))
    (fun os started H enc _ F => by rw [OpenClaim.pre_eq_preRow]; exact lifted os started H enc F)

theorem plain (f : FuncId) (fn : Func) (hf : Tryd.pinned.checked.prog.funcNamed "sieve/sievelaw01.UtfTurned" = some f) (hfn : Tryd.pinned.checked.prog.funcs[f]? = some fn) :
    false = Tryd.pinned.checked.prog.looks [] ∧ ∀ (j : Nat) t, fn.params[j]? = some t → Tryd.pinned.checked.prog.wantsStandIn t = false := by
  obtain rfl : f = 3 := Option.some.inj ((show Tryd.prog.funcNamed "sieve/sievelaw01.UtfTurned" = some 3 by kernel_rfl).symm.trans hf) |>.symm
  obtain rfl : fn = Tryd.f3 := (Option.some.inj (Tryd.func3.symm.trans hfn)).symm
  refine ⟨by kernel_rfl, fun j t ht => ?_⟩
  rw [Tryd.params3] at ht
  have hm := Array.mem_of_getElem? ht
  simp only [List.mem_toArray, List.mem_cons, List.not_mem_nil, or_false] at hm
  rcases hm with rfl | rfl
  · exact (show Tryd.prog.wantsStandIn 22 = false by kernel_rfl)
  · exact (show Tryd.prog.wantsStandIn 3 = false by kernel_rfl)

theorem card : Rows.UtfTurnedUptoCardSaid :=
  Claim7.holds_tied_plain_at .later [] _ _ _ _ said (fun _ h => by cases h) (by kernel_rfl) (fun _ h => by cases h) utfTurnedUpto_row_tie rfl ⟨rfl, rfl⟩ (by kernel_rfl) rfl plain (by kernel_rfl)

end Go.Proofs.YtlihfamkngahaaaDoor.Turned
