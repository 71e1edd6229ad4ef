/- What is proved here: find, whatever the two questions are, so that each tells what it tells. -/
import Derived.RangeFuncCalls
import Derived.Maps.AppendAt
import Derived.Test.YtdkcibafbdmajabGreatDoorNeBack
namespace Go.Proofs.YtdkcibafbdmajabGreatDoor.E
open Go.RowKit Go.Shelf Go.WideMaps Go.Maps Go.Proofs.YtdkcibafbdmajabGreatDoor.N Go.Proofs.YtdkcibafbdmajabGreatDoor.C
attribute [local go_sem] Oper.semAt_some

/-- A question: a func value that tells p of a name; it may turn block lb, which is no cells, and make memory; what holds (I) goes on to hold. -/
structure Asks (lb f : Nat) (bs cs : Array Value) (p : Txt → Bool) (I : Nat → World → Prop) : Prop where
  enters : ∀ args W, (callFunc f args).run Tryz.prog W = .ok (.enter f args) W
  calls : ∀ (x : Txt) (m : Nat) (W : World), I m W → x.length ≤ 10000000000 → m ≤ 1000000000000 → Calls Tryz.prog f (bs.push (.string ⟨x.toArray⟩) ++ cs) W fun e W' => e = .returned (.bool (p x)) ∧ I (m + 1) W' ∧ W.grownBy W' (some lb)
/-- What holds minds no new memory, and no turn of what is no cells and was laid since B. -/
structure Minds (B lb : Nat) (I : Nat → World → Prop) : Prop where
  own : ∀ m W W' row, I m W → W.grownBy W' row → (∀ r, row = some r → B ≤ r ∧ ∃ o : Obj, W.heap[r]? = some o ∧ o.isCells = false) → I m W'
  kind : ∀ m W, I m W → ∃ o : Obj, W.heap[lb]? = some o ∧ o.isCells = false
  lt : lb < B
  set : ∀ m W k v, I m W → B ≤ k → I m (W.setCell ⟨k, 0, none⟩ v)
  mono : ∀ m m' W, I m W → m ≤ m' → I m' W
/-- None of these is sought, and none stops. -/
def noneOf (S : List Txt) (p q : Txt → Bool) (l : List Nat) : Prop := ∀ j ∈ l, p (S.getD j []) = false ∧ q (S.getD j []) = false
theorem noneOf.snoc {S : List Txt} {p q : Txt → Bool} {l : List Nat} {j : Nat} (h : noneOf S p q l) (hp : p (S.getD j []) = false) (hq : q (S.getD j []) = false) : noneOf S p q (l ++ [j]) := fun i hi => by
  rcases List.mem_append.1 hi with h1 | h1
  · exact h i h1
  · simp at h1; subst h1; exact ⟨hp, hq⟩
theorem find_none (S : List Txt) (p q : Txt → Bool) : ∀ k, noneOf S p q (downs k k) → findK S p q k = -1
  | 0, _ => rfl
  | k + 1, h => by
    have h1 := h k ((mem_downs _ _).2 (by omega))
    unfold findK
    rw [h1.1, h1.2]
    simp only [Bool.false_eq_true, if_false]
    exact find_none S p q k (fun j hj => h j ((mem_downs _ _).2 (by have := (mem_downs _ _).1 hj; omega)))
theorem downs_pre (k : Nat) (pre : List Nat) (j : Nat) (h : pre ++ [j] <+: downs k k) : j < k ∧ pre = downs k (k - 1 - j) := by
  obtain ⟨r, hr⟩ := h
  have hl : pre.length < k := by have := congrArg List.length hr; simp [downs_length] at this; omega
  have hg : (downs k k)[pre.length]? = some j := by rw [← hr]; simp
  have hj : j = k - 1 - pre.length := by simp [downs, hl] at hg; omega
  have e2 : pre = (downs k k).take pre.length := by rw [← hr]; simp
  refine ⟨by omega, ?_⟩
  have e3 : k - 1 - j = pre.length := by omega
  rw [e3]
  rw [e2]
  unfold downs
  rw [← List.map_take, List.take_range]
  simp
theorem find_skip (S : List Txt) (p q : Txt → Bool) (k : Nat) : ∀ t, t ≤ k → noneOf S p q (downs k t) → findK S p q k = findK S p q (k - t)
  | 0, _, _ => rfl
  | t + 1, h, hn => by
    rw [downs_succ] at hn
    have e := find_skip S p q k t (by omega) (fun j hj => hn j (List.mem_append_left _ hj))
    have h1 := hn (k - 1 - t) (by simp)
    rw [e]
    have e2 : k - t = (k - (t + 1)) + 1 := by omega
    rw [e2]
    have e3 : k - 1 - t = k - (t + 1) := by omega
    rw [e3] at h1
    show (if p (S.getD (k - (t + 1)) []) then _ else if q (S.getD (k - (t + 1)) []) then _ else _) = _
    rw [h1.1, h1.2]
    rfl
theorem find_hit (S : List Txt) (p q : Txt → Bool) (k : Nat) (pre : List Nat) (j : Nat) (h : pre ++ [j] <+: downs k k) (hn : noneOf S p q pre) : (p (S.getD j []) = true → findK S p q k = j) ∧ (p (S.getD j []) = false → q (S.getD j []) = true → findK S p q k = -1) := by
  obtain ⟨hj, e⟩ := downs_pre k pre j h
  rw [e] at hn
  have hs := find_skip S p q k (k - 1 - j) (by omega) hn
  have e2 : k - (k - 1 - j) = j + 1 := by omega
  rw [e2] at hs
  rw [hs]
  unfold findK
  constructor
  · intro hp; rw [if_pos hp]
  · intro hp hq
    rw [if_neg (by rw [hp]; simp), if_pos hq]
theorem keeps_of {B lb : Nat} {W W' : World} (h : W.grownBy W' (some lb)) (hlb : lb < B) : KeepsFrom B W W' := KeepsFrom.of_grownBy h (fun j e => by cases e; exact hlb)

theorem box_cell (W : World) (v : Value) (t : TypeId) : (W.alloc (.cells #[v] t)).cell? ⟨W.heap.size, 0, none⟩ = some v := by rw [cell_new]; rfl
theorem box_frozen (W : World) (v : Value) (t : TypeId) : (W.alloc (.cells #[v] t)).frozen? ⟨W.heap.size, 0, none⟩ = false := by
  unfold World.frozen?
  rw [show (W.alloc (.cells #[v] t)).heap[W.heap.size]? = some (.cells #[v] t) from World.alloc_heap_new W _]
  rfl
theorem old_cell {W : World} (o : Obj) {p : Addr} {v : Value} (h : W.cell? p = some v) : (W.alloc o).cell? p = some v := (((Below.refl _ W).alloc (Nat.le_refl _) o).cell (cell_lt h)).trans h
theorem old_frozen {W : World} (o : Obj) {p : Addr} {v : Value} (h : W.cell? p = some v) (hf : W.frozen? p = false) : (W.alloc o).frozen? p = false := (((Below.refl _ W).alloc (Nat.le_refl _) o).frozen (cell_lt h)).trans hf
theorem grown_above {a W : World} {row : Option Nat} (h : a.grownBy W row) {k i : Nat} (v : Value) (hk : a.heap.size ≤ k) : a.grownBy (W.setCell ⟨k, i, none⟩ v) row :=
  ⟨h.os, h.tape, h.output, by simpa [World.setCell] using h.size, fun j hj hne => (Below.heap_setCell _ _ _ j (fun e => by simp at e; omega)).trans (h.block j hj hne)⟩
theorem set_here {W : World} {p : Addr} {u v : Value} (h : W.cell? p = some u) : (W.setCell p v).cell? p = some v := World.cell?_setCell_same _ _ _ h
theorem results_find {tmps : Array Value} {W : World} {A : Nat} {z : Int} (h6 : tmps[6]?.getD undef = .pointer (some ⟨A, 0, none⟩)) (h : W.cell? ⟨A, 0, none⟩ = some (.int .i64 z)) :
    (results Tryz.f124 tmps).run Tryz.prog W = .ok (.int .i64 z) W := by
  simp [results, Tryz.results124, go_sem, h6, h]
set_option maxRecDepth 100000 in
set_option maxHeartbeats 4000000 in
/-- **find.** -/
theorem find_calls (S : List Txt) (hS : S.length ≤ 1000000000000) (hx : ∀ j, (S.getD j []).length ≤ 10000000000) (k : Nat) (hk : k ≤ S.length) (a : Option Addr) (cap : Nat) (lb f1 f2 : Nat) (b1 c1 b2 c2 : Array Value) (p q : Txt → Bool) (I : Nat → World → Prop)
    (m : Nat) (w : World) (hm : Minds w.heap.size lb I) (h1 : Asks lb f1 b1 c1 p I) (h2 : Asks lb f2 b2 c2 q I) (hi : I m w) (hT : TextsAt w a S) (hm9 : m + 2 * k ≤ 1000000000000) :
    Calls Tryz.prog 124 #[.slice a k cap, .func (.func f1) b1 c1, .func (.func f2) b2 c2] w fun e w' => e = .returned (.int .i64 (findK S p q k)) ∧ I (m + 2 * k) w' ∧ w.grownBy w' (some lb) := by
  refine (callsIn_wide (n := 4)).1 ?_
  refine callsIn_of_wp_marks Tryz.func124 rfl trivial ?_ rfl
  simp only [Tryz.ntmps124, List.size_toArray, List.length_cons, List.length_nil, Nat.reduceAdd, Nat.reduceSub, Array.replicate_succ, Array.replicate_zero, List.push_toArray, List.append_toArray, List.nil_append, List.cons_append]
  have hl0 := hm.kind m w hi
  obtain ⟨o0, hl0, hc0⟩ := hl0
  have HH : Hid (Minds w.heap.size lb I) := hm
  clear hm
  gi_wp2_with fail
  obtain ⟨w1, hw1⟩ : ∃ w1, w.alloc (.cells #[.func (.func f1) b1 c1] 79) = w1 := ⟨_, rfl⟩
  have e1 : w1.heap.size = w.heap.size + 1 := by rw [← hw1]; simp
  have x1 : w1.cell? ⟨w.heap.size, 0, none⟩ = some (.func (.func f1) b1 c1) := by rw [← hw1]; exact box_cell _ _ _
  have n1 : w.grownBy w1 (some lb) := by rw [← hw1]; exact World.grownBy_alloc _ _ _
  have q1 : Below w.heap.size w w1 := by rw [← hw1]; exact (Below.refl _ w).alloc (Nat.le_refl _) _
  rw [hw1]
  obtain ⟨w2, hw2⟩ : ∃ w2, w1.alloc (.cells #[.func (.func f2) b2 c2] 79) = w2 := ⟨_, rfl⟩
  have e2 : w2.heap.size = w.heap.size + 2 := by rw [← hw2]; simp; omega
  have x2 : w2.cell? ⟨w.heap.size, 0, none⟩ = some (.func (.func f1) b1 c1) := by rw [← hw2]; exact old_cell _ x1
  have y2 : w2.cell? ⟨w.heap.size + 1, 0, none⟩ = some (.func (.func f2) b2 c2) := by rw [← hw2, ← e1]; exact box_cell _ _ _
  have n2 : w.grownBy w2 (some lb) := by rw [← hw2]; exact n1.trans (World.grownBy_alloc _ _ _)
  have q2 : Below w.heap.size w w2 := by rw [← hw2]; exact q1.alloc (by omega) _
  rw [hw2]
  obtain ⟨W0, hW0⟩ : ∃ W0, w2.alloc (.cells #[.int .i64 0] 3) = W0 := ⟨_, rfl⟩
  have b0 : Below w.heap.size w W0 := by rw [← hW0]; exact q2.alloc (by omega) _
  have z0 : W0.heap.size = w.heap.size + 3 := by rw [← hW0]; simp; omega
  have cF : W0.cell? ⟨w.heap.size, 0, none⟩ = some (.func (.func f1) b1 c1) := by rw [← hW0]; exact old_cell _ x2
  have cG : W0.cell? ⟨w.heap.size + 1, 0, none⟩ = some (.func (.func f2) b2 c2) := by rw [← hW0]; exact old_cell _ y2
  have cR : W0.cell? ⟨w.heap.size + 1 + 1, 0, none⟩ = some (.int .i64 0) := by rw [← hW0, show w.heap.size + 1 + 1 = w2.heap.size from e2.symm]; exact box_cell _ _ _
  have fR : W0.frozen? ⟨w.heap.size + 1 + 1, 0, none⟩ = false := by rw [← hW0, show w.heap.size + 1 + 1 = w2.heap.size from e2.symm]; exact box_frozen _ _ _
  have g0 : w.grownBy W0 (some lb) := by rw [← hW0]; exact n2.trans (World.grownBy_alloc _ _ _)
  have i0 : I m W0 := HH.out.own m w W0 none hi ⟨b0.os, b0.tape, b0.output, b0.size, fun k hk _ => b0.block k hk⟩ (fun r e => by cases e)
  rw [hW0]
  clear hW0 hw1 hw2 x1 x2 y2 n1 n2 q1 q2 e1 e2 w1 w2
  refine ⟨trivial, (callsIn_wide.2 (back_calls a k cap W0)).mono ?_⟩
  rintro e W1 ⟨rfl, hW1⟩
  have bw1 : Below w.heap.size w W1 := by rw [hW1]; exact b0.alloc b0.size _
  have b01 : Below W0.heap.size W0 W1 := by rw [hW1]; exact (Below.refl _ W0).alloc (Nat.le_refl _) _
  have g1 : w.grownBy W1 (some lb) := by rw [hW1]; exact g0.trans (World.grownBy_alloc _ _ _)
  have z1 : W1.heap.size = w.heap.size + 4 := by rw [hW1]; simp; omega
  have cB : W1.cell? ⟨w.heap.size + 3, 0, none⟩ = some (.slice a k cap) := by rw [hW1, ← z0]; exact box_cell _ _ _
  have i1 : I m W1 := HH.out.own m W0 W1 none i0 ⟨b01.os, b01.tape, b01.output, b01.size, fun k hk _ => b01.block k hk⟩ (fun r e => by cases e)
  have cF1 := (b01.cell (p := ⟨w.heap.size, 0, none⟩) (by show w.heap.size < _; omega)).trans cF
  have cG1 := (b01.cell (p := ⟨w.heap.size + 1, 0, none⟩) (by show w.heap.size + 1 < _; omega)).trans cG
  have cR1 := (b01.cell (p := ⟨w.heap.size + 1 + 1, 0, none⟩) (by show w.heap.size + 1 + 1 < _; omega)).trans cR
  have fR1 := (b01.frozen (p := ⟨w.heap.size + 1 + 1, 0, none⟩) (by show w.heap.size + 1 + 1 < _; omega)).trans fR
  have T1 : TextsAt W1 a S := fun j hj => by
    obtain ⟨b, off, e, hc⟩ := hT j hj
    exact ⟨b, off, e, (bw1.cell (p := ⟨b, off + j, none⟩) (cell_lt hc)).trans hc⟩
  clear cF cG cR fR hT hi i0 hW1
  have HL : Hid (lb < w.heap.size) := HH.out.lt
  gi_wp2_with fail
  refine wpIn_rangeFunc_ownG rfl (by omega) (gf := 162) (lb := #[.pointer (some ⟨w.heap.size + 3, 0, none⟩)]) rfl trivial (enters_of Tryz.func162 (by kernel_rfl) rfl)
    (back_stops _ (by omega) (w.heap.size + 3) a cap k S hk hS W1 T1 cB)
    KpC.trans KpC.book (Below.refl _ _) (fun _ => rfl)
    (fun (pre : List Nat) W => noneOf S p q pre ∧ I (m + 2 * pre.length) W ∧ KpC W1 W ∧ w.grownBy W (some lb))
    (fun c pre W => c = .ret ∧ (∃ pre' j z, pre = pre' ++ [j] ∧ noneOf S p q pre' ∧ ((p (S.getD j []) = true ∧ z = (j : Int)) ∨ (p (S.getD j []) = false ∧ q (S.getD j []) = true ∧ z = -1)) ∧ W.cell? ⟨w.heap.size + 1 + 1, 0, none⟩ = some (.int .i64 z)) ∧ I (m + 2 * pre.length) W ∧ w.grownBy W (some lb))
    ?ownI ?ownX
    ⟨fun j hj => by simp at hj, by simpa using i1, KpC.refl _, g1⟩
    (fun j => { tmps := #[.slice a k cap, .func (.func f1) b1 c1, .func (.func f2) b2 c2, undef, .pointer (some ⟨w.heap.size, 0, none⟩), .pointer (some ⟨w.heap.size + 1, 0, none⟩), .pointer (some ⟨w.heap.size + 1 + 1, 0, none⟩), .int .i64 (j : Int), .string ⟨(S.getD j []).toArray⟩, .slice a k cap, .func (.func 162) #[] #[.pointer (some ⟨w.heap.size + 3, 0, none⟩)], .int .i64 (j : Int), .string ⟨(S.getD j []).toArray⟩, undef, undef, undef, undef, undef, undef, undef], defers := [] })
    ?assign ?body ?done ?stop
  case assign =>
    intro l x W K hK
    simp only [encB]
    gi_wp2
    exact hK
  case ownI =>
    rintro pre W W' row ⟨hno, hI, hkp, hg⟩ hgr hr
    refine ⟨hno, HH.out.own _ _ _ row hI hgr (fun r e => ⟨by have := (hr r e).1; omega, (hr r e).2⟩), KpC.own _ W1 pre W W' row hkp hgr hr, ?_⟩
    exact ⟨hgr.os.trans hg.os, hgr.tape.trans hg.tape, hgr.output.trans hg.output, Nat.le_trans hg.size hgr.size, fun i hi hne => (hgr.block i (Nat.lt_of_lt_of_le hi hg.size) (fun e => by have := (hr i e.symm).1; omega)).trans (hg.block i hi hne)⟩
  case ownX =>
    rintro c pre W W' row ⟨hc, ⟨pre', j, z, e1, e2, e3, e4⟩, hI, hg⟩ hgr hr
    refine ⟨hc, ⟨pre', j, z, e1, e2, e3, ?_⟩, HH.out.own _ _ _ row hI hgr (fun r e => ⟨by have := (hr r e).1; omega, (hr r e).2⟩), ?_⟩
    · refine hgr.cell e4 (fun e => ?_)
      have := (hr _ e.symm).1
      simp at this
      omega
    · exact ⟨hgr.os.trans hg.os, hgr.tape.trans hg.tape, hgr.output.trans hg.output, Nat.le_trans hg.size hgr.size, fun i hi hne => (hgr.block i (Nat.lt_of_lt_of_le hi hg.size) (fun e => by have := (hr i e.symm).1; omega)).trans (hg.block i hi hne)⟩
  case body =>
    rintro l pre j W ⟨hno, hI, hkp, hg⟩ hlt
    have hxj := hx j
    have H1 : Hid (∀ W m, I m W → m ≤ 1000000000000 → Calls Tryz.prog f1 (b1.push (.string ⟨(S.getD j []).toArray⟩) ++ c1) W fun e W' => e = .returned (.bool (p (S.getD j []))) ∧ I (m + 1) W' ∧ W.grownBy W' (some lb)) := fun W m hi hm => h1.calls _ m W hi hxj hm
    have H2 : Hid (∀ W m, I m W → m ≤ 1000000000000 → Calls Tryz.prog f2 (b2.push (.string ⟨(S.getD j []).toArray⟩) ++ c2) W fun e W' => e = .returned (.bool (q (S.getD j []))) ∧ I (m + 1) W' ∧ W.grownBy W' (some lb)) := fun W m hi hm => h2.calls _ m W hi hxj hm
    have E1 := h1.enters
    have E2 := h2.enters
    have HN : Hid (p (S.getD j []) = false → q (S.getD j []) = false → noneOf S p q (pre ++ [j])) := fun a b => hno.snoc a b
    generalize hxx : S.getD j [] = x at *
    have cF2 := hkp.cell cF1
    have cG2 := hkp.cell cG1
    have HNO : Hid (noneOf S p q pre) := hno
    clear h1 h2 hno hxj
    gi_wp2_with fail
    refine ⟨trivial, (CallsIn.inRound l (callsIn_wide.2 (H1.out W _ hI (by omega)))).mono ?_⟩
    rintro e W2 ⟨rfl, i2, gr2⟩
    obtain ⟨o2, hl2, hc2⟩ := HH.out.kind _ _ hI
    have k2 : KpC W W2 := KpC.grown gr2 hl2 hc2
    have kw2 : KeepsFrom W1.heap.size W W2 := keeps_of gr2 (by have := HL.out; omega)
    have g2 : w.grownBy W2 (some lb) := hg.trans gr2
    have cG3 := k2.cell cG2
    have cR3 := (hkp.trans k2).cell cR1
    have fR3 := (hkp.trans k2).frozen cR1 fR1
    clear hI cF2 cG2 hl2 hc2 gr2 H1
    have HP : Hid (p x = p x) := rfl
    generalize hp : p x = bp at *
    have HPe : Hid (p x = bp) := hp
    clear hp HP
    cases bp
    · gi_wp2_with fail
      refine ⟨trivial, (CallsIn.inRound l (callsIn_wide.2 (H2.out W2 _ i2 (by omega)))).mono ?_⟩
      rintro e W3 ⟨rfl, i3, gr3⟩
      obtain ⟨o3, hl3, hc3⟩ := HH.out.kind _ _ i2
      have k3 : KpC W2 W3 := KpC.grown gr3 hl3 hc3
      have kw3 : KeepsFrom W1.heap.size W W3 := kw2.trans (keeps_of gr3 (by have := HL.out; omega))
      have g3 : w.grownBy W3 (some lb) := g2.trans gr3
      have cR4 := k3.cell cR3
      have fR4 := k3.frozen cR3 fR3
      have kp3 : KpC W W3 := k2.trans k3
      clear i2 cG3 hl3 hc3 gr3 H2 cR3 fR3 kw2 g2 k2 k3
      have HQ : Hid (q x = q x) := rfl
      generalize hq : q x = bq at *
      have HQe : Hid (q x = bq) := hq
      clear hq HQ
      cases bq
      · gi_wp2
        exact ⟨kw3, kp3, HN.out trivial trivial, by rw [List.length_append]; exact i3, hkp.trans kp3, g3⟩
      · gi_wp2
        exact ⟨kw3.trans ((KeepsOthers.setCell W3 _ _).from _), rfl, ⟨pre, j, -1, rfl, HNO.out, .inr ⟨by rw [hxx]; exact HPe.out, by rw [hxx]; exact HQe.out, rfl⟩, set_here cR4⟩, by rw [List.length_append]; exact HH.out.set _ _ _ _ i3 (by omega), grown_above g3 _ (by omega)⟩
    · gi_wp2
      exact ⟨kw2.trans ((KeepsOthers.setCell W2 _ _).from _), rfl, ⟨pre, j, j, rfl, HNO.out, .inl ⟨by rw [hxx]; exact HPe.out, rfl⟩, set_here cR3⟩, by rw [List.length_append]; exact HH.out.mono _ _ _ (HH.out.set _ _ _ _ i2 (by omega)) (by simp; omega), grown_above g2 _ (by omega)⟩
  case done =>
    rintro D ys W hD rfl ⟨hno, hI, hkp, hg⟩ hK
    have cR2 := hkp.cell cR1
    have fR2 := hkp.frozen cR1 fR1
    have HF : Hid (findK S p q k = -1) := find_none S p q k hno
    rw [downs_length] at hI
    clear hno
    gi_wp2
    have hK' : (W.setCell ⟨w.heap.size + 1 + 1, 0, none⟩ (.int .i64 (-1))).heap[D]? = some (.deferred (some [])) := (Below.heap_setCell _ _ _ D (fun e => by simp at e; omega)).trans hK
    have cR3 : (W.setCell ⟨w.heap.size + 1 + 1, 0, none⟩ (.int .i64 (-1))).cell? ⟨w.heap.size + 1 + 1, 0, none⟩ = some (.int .i64 (-1)) := set_here cR2
    refine ⟨by simp, .inl ⟨_, _, rfl, run_takeDeferred hK', ?_⟩⟩
    have i3 := HH.out.set _ _ (w.heap.size + 1 + 1) (.int .i64 (-1)) hI (by omega)
    have g3 := grown_above (i := 0) hg (.int .i64 (-1)) (show w.heap.size ≤ w.heap.size + 1 + 1 by omega)
    refine ⟨_, results_find rfl ((World.cell?_of_block (World.putObj_heap_other (by show w.heap.size + 1 + 1 ≠ D; omega))).trans cR3), by rw [HF.out], ?_, ?_⟩
    · exact HH.out.own _ _ _ (some D) i3 (grownBy_putObj' _ D _) (fun r e => by cases e; exact ⟨by omega, _, hK', rfl⟩)
    · exact ⟨g3.os, g3.tape, g3.output, by simpa [World.putObj] using g3.size, fun j hj hne => (World.putObj_heap_other (by omega)).trans (g3.block j hj hne)⟩
  case stop =>
    rintro D c pre W hD hpre ⟨rfl, ⟨pre', j, z, rfl, hno, hz, cR2⟩, hI, hg⟩ hK
    have HF : Hid (findK S p q k = z) := by
      have h := find_hit S p q k pre' j hpre hno
      rcases hz with ⟨hp, rfl⟩ | ⟨hp, hq, rfl⟩
      · exact h.1 hp
      · exact h.2 hp hq
    have hle : pre'.length + 1 ≤ k := by have := hpre.length_le; simpa [downs_length] using this
    gi_wp2
    refine ⟨by simp, .inl ⟨_, _, rfl, run_takeDeferred hK, ?_⟩⟩
    refine ⟨_, results_find rfl ((World.cell?_of_block (World.putObj_heap_other (by show w.heap.size + 1 + 1 ≠ D; omega))).trans cR2), by rw [HF.out], ?_, ?_⟩
    · exact HH.out.mono _ _ _ (HH.out.own _ _ _ (some D) hI (grownBy_putObj' _ D _) (fun r e => by cases e; exact ⟨by omega, _, hK, rfl⟩)) (by rw [List.length_append]; simp; omega)
    · exact ⟨hg.os, hg.tape, hg.output, by simpa [World.putObj] using hg.size, fun j hj hne => (World.putObj_heap_other (by omega)).trans (hg.block j hj hne)⟩
end Go.Proofs.YtdkcibafbdmajabGreatDoor.E
