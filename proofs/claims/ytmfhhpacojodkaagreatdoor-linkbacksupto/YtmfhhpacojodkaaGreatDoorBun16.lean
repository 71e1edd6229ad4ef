/- What is proved here: laws and contracts of LkBkS, LkTwo, Tabs, one behind the other (each says its own). -/
import Derived.Test.YtmfhhpacojodkaaGreatDoorBun15
import Derived.Laws.AppendOwnNone
import Derived.BigQuiet
import Derived.Test.YtmfhhpacojodkaaGreatDoorLkPairM
import Derived.Test.YtmfhhpacojodkaaGreatDoorRows
import Derived.Test.YtmfhhpacojodkaaGreatDoorIter
import Derived.Test.YtmfhhpacojodkaaGreatDoorBun1
import Derived.PinnedBridge
import Derived.Lib.LaidU8T
import Derived.Lib.LaidTab
import Derived.Deep.DeepHandedRow
/- What is proved here: a srcset of good candidates says them again, and a link told by a base is itself again, as lists. No program in it. -/
namespace Go.Proofs.YtmfhhpacojodkaaGreatDoor.L
open Go.RowKit Go.Shelf Go.Proofs.YtmfhhpacojodkaaGreatDoor.N Go.Proofs.YtmfhhpacojodkaaGreatDoor.U

theorem srcK_same {a b : List UInt8} (h : trimK a = trimK b) : srcK a = srcK b := by
  by_cases h0 : trimK a = []
  · rw [srcK_nil a h0, srcK_nil b (h ▸ h0)]
  · rw [(srcK_step a h0).1, (srcK_step b (h ▸ h0)).1, h]
theorem trimK_skip (c : UInt8) (t : List UInt8) (h : betS c = true) : trimK (c :: t) = trimK t := by
  unfold trimK noN
  rw [List.takeWhile_cons, if_pos h, List.length_cons, List.drop_succ_cons]
theorem trimK_stays (c : UInt8) (t : List UInt8) (h : betS c = false) : trimK (c :: t) = c :: t := by
  unfold trimK noN
  rw [List.takeWhile_cons, if_neg (by rw [h]; decide)]
  rfl
theorem commas_off (k : List UInt8) (d : UInt8) (h : (d == 44) = false) : Lib.trimRightB (k ++ [d]) 44 = k ++ [d] := by
  unfold Lib.trimRightB
  rw [List.reverse_append, List.reverse_singleton, List.singleton_append, List.dropWhile_cons, if_neg (by rw [h]; decide)]
  simp
theorem comma_off (k : List UInt8) : Lib.trimRightB (k ++ [44]) 44 = Lib.trimRightB k 44 := by
  unfold Lib.trimRightB
  rw [List.reverse_append, List.reverse_singleton, List.singleton_append, List.dropWhile_cons, if_pos (by decide)]
theorem yes_run (X Y : List UInt8) (h : ∀ c ∈ X, gapS c = false) : yesN gapS (X ++ Y) = X.length + yesN gapS Y := by
  unfold yesN
  rw [List.takeWhile_append_of_pos (fun c hc => by rw [h c hc]; rfl), List.length_append]
theorem desc_run : ∀ (X T : List UInt8), (∀ c ∈ X, (c == 44) = false ∧ (c == 40) = false ∧ (c == 41) = false) → (T = [] ∨ ∃ r, T = 44 :: r) → descN (X ++ T) false = X.length
  | [], T, _, h => by
    rcases h with rfl | ⟨r, rfl⟩
    · rfl
    · rfl
  | c :: t, T, h, hT => by
    obtain ⟨h1, h2, h3⟩ := h c (by simp)
    rw [List.cons_append]
    unfold descN
    rw [if_neg (by rw [h1]; decide)]
    have : inS false c = false := by unfold inS; rw [h2, h3]; rfl
    rw [this, desc_run t T (fun d hd => h d (by simp [hd])) hT]
    rfl
theorem sq_one (d : List UInt8) (h0 : d ≠ []) (h : ∀ c ∈ d, gapS c = false) : (sqF gapS (32 :: d)).1 = d := by
  unfold sqF
  rw [List.foldl_cons]
  have e : sqStep gapS ([], false) 32 = ([], false) := by decide +kernel
  rw [e, sq_run gapS d _ h0 h]
  rfl
/-- A candidate, as it stands in a srcset. -/
def segS (x : Two) : List UInt8 := x.1 ++ (if x.2 == [] then [] else 32 :: x.2)
/-- What may be written so. -/
structure Fine (x : Two) : Prop where
  gap : ∀ c ∈ x.1, gapS c = false
  first : ∃ c t, x.1 = c :: t ∧ (c == 44) = false
  last : ∃ p d, x.1 = p ++ [d] ∧ (d == 44) = false
  desc : ∀ c ∈ x.2, gapS c = false ∧ (c == 44) = false ∧ (c == 40) = false ∧ (c == 41) = false
theorem goodP_nil : goodP [] = true := rfl
theorem Fine.trim {x : Two} (h : Fine x) (T : List UInt8) : trimK (segS x ++ T) = segS x ++ T ∧ segS x ++ T ≠ [] := by
  obtain ⟨c, t, e, hc⟩ := h.first
  have hg : gapS c = false := h.gap c (by rw [e]; simp)
  have hs : ∃ r, segS x ++ T = c :: r := ⟨t ++ (if x.2 == [] then [] else 32 :: x.2) ++ T, by unfold segS; rw [e]; simp⟩
  obtain ⟨r, hr⟩ := hs
  rw [hr]
  exact ⟨trimK_stays c r (by unfold betS; rw [hg, hc]; rfl), by simp⟩
theorem Fine.bare {x : Two} (h : Fine x) : Lib.trimRightB x.1 44 = x.1 := by
  obtain ⟨p, d, e, hd⟩ := h.last
  rw [e]
  exact commas_off p d hd
theorem src_seg {x : Two} (h : Fine x) (T : List UInt8) (hT : T = [] ∨ ∃ r, T = 44 :: 32 :: r) : srcK (segS x ++ T) = (x :: (srcK T).1, goodP x.2 && (srcK T).2) := by
  obtain ⟨ht, hne⟩ := h.trim T
  obtain ⟨hk, _⟩ := srcK_step (segS x ++ T) (by rw [ht]; exact hne)
  rw [ht] at hk
  rw [hk]
  obtain ⟨l, d⟩ := x
  have hb : Lib.trimRightB l 44 = l := h.bare
  have hg : ∀ c ∈ l, gapS c = false := h.gap
  by_cases hd : d = []
  · subst hd
    have e0 : segS (l, []) = l := by unfold segS; simp
    rw [e0]
    rcases hT with rfl | ⟨r, rfl⟩
    · have hy : yesN gapS (l ++ []) = l.length := by rw [yes_run l [] hg]; rfl
      have hc : candK (l ++ []) = ((l, []), []) := by
        unfold candK
        rw [hy]
        simp only [List.append_nil, List.take_length, List.drop_length, hb]
        rw [if_neg (by simp)]
        rfl
      rw [hc]
    · have hy : yesN gapS (l ++ 44 :: 32 :: r) = l.length + 1 := by
        rw [yes_run l _ hg]
        have : yesN gapS (44 :: 32 :: r) = 1 := by
          unfold yesN
          rw [List.takeWhile_cons, if_pos (by decide +kernel), List.takeWhile_cons, if_neg (by decide +kernel)]
          rfl
        rw [this]
      have h1 : (l ++ 44 :: 32 :: r).take (l.length + 1) = l ++ [44] := by
        rw [show l ++ 44 :: 32 :: r = (l ++ [44]) ++ 32 :: r by simp, List.take_left' (by simp)]
      have h2 : (l ++ 44 :: 32 :: r).drop (l.length + 1) = 32 :: r := by
        rw [← List.drop_drop, List.drop_left]; rfl
      have hc : candK (l ++ 44 :: 32 :: r) = ((l, []), 32 :: r) := by
        unfold candK
        rw [hy, h1, h2, comma_off, hb, if_pos (by simp)]
      have hs : srcK (32 :: r) = srcK (44 :: 32 :: r) := srcK_same (trimK_skip 44 (32 :: r) (by decide +kernel)).symm
      rw [hc]
      show ((l, []) :: (srcK (32 :: r)).1, goodP [] && (srcK (32 :: r)).2) = _
      rw [hs]
  · have e0 : segS (l, d) = l ++ 32 :: d := by
      unfold segS
      have : (d == []) = false := by simpa using hd
      simp only [this]
      rfl
    rw [e0, List.append_assoc, List.cons_append]
    have hy : yesN gapS (l ++ 32 :: (d ++ T)) = l.length := by
      rw [yes_run l _ hg]
      have : yesN gapS (32 :: (d ++ T)) = 0 := by
        unfold yesN
        rw [List.takeWhile_cons, if_neg (by decide +kernel)]
        rfl
      rw [this]
      rfl
    have hdn : descN (32 :: (d ++ T)) false = d.length + 1 := by
      have := desc_run (32 :: d) T (fun c hc => by
        rcases List.mem_cons.1 hc with rfl | hc
        · decide
        · exact ⟨(h.desc c hc).2.1, (h.desc c hc).2.2.1, (h.desc c hc).2.2.2⟩) (by
        rcases hT with e | ⟨r, e⟩
        · exact .inl e
        · exact .inr ⟨_, e⟩)
      rw [List.cons_append, List.length_cons] at this
      exact this
    have hc : candK (l ++ 32 :: (d ++ T)) = ((l, d), T) := by
      unfold candK
      rw [hy, List.take_left, List.drop_left, hb, if_neg (by simp), hdn]
      have h1 : (32 :: (d ++ T)).take (d.length + 1) = 32 :: d := by rw [List.take_succ_cons, List.take_left]
      have h2 : (32 :: (d ++ T)).drop (d.length + 1) = T := by rw [List.drop_succ_cons, List.drop_left]
      rw [h1, h2, sq_one d hd (fun c hc => (h.desc c hc).1)]
    rw [hc]
theorem src_segs : ∀ (t : List Two) (x : Two), (∀ y ∈ x :: t, Fine y ∧ goodP y.2 = true) → srcK (segS x ++ t.flatMap fun y => 44 :: 32 :: segS y) = (x :: t, true)
  | [], x, h => by
    obtain ⟨h1, h2⟩ := h x (by simp)
    rw [List.flatMap_nil, src_seg h1 [] (.inl rfl), srcK_nil [] rfl, h2]
    rfl
  | y :: t, x, h => by
    obtain ⟨h1, h2⟩ := h x (by simp)
    rw [List.flatMap_cons, List.cons_append, List.cons_append, src_seg h1 _ (.inr ⟨_, rfl⟩), h2]
    have hs : srcK (44 :: 32 :: (segS y ++ t.flatMap fun y => 44 :: 32 :: segS y)) = srcK (segS y ++ t.flatMap fun y => 44 :: 32 :: segS y) :=
      srcK_same ((trimK_skip 44 _ (by decide +kernel)).trans (trimK_skip 32 _ (by decide +kernel)))
    rw [hs, src_segs t y (fun z hz => h z (by simp only [List.mem_cons] at hz ⊢; right; exact hz))]
    rfl
theorem set_segs (x : Two) (t : List Two) (h : ∀ y ∈ x :: t, mendL y.1 = y.1 ∧ mendL y.2 = y.2) : setK (x :: t) = segS x ++ t.flatMap fun y => 44 :: 32 :: segS y := by
  have hc : ∀ (y : Two), mendL y.1 = y.1 ∧ mendL y.2 = y.2 → mendL y.1 ++ (if y.2 == [] then [] else [32] ++ mendL y.2) = segS y := fun y ⟨h1, h2⟩ => by
    unfold segS; rw [h1, h2]; rfl
  unfold setK cPre
  rw [List.length_cons, List.range_succ_eq_map, List.flatMap_cons, List.flatMap_map]
  congr 1
  · show ([] : List UInt8) ++ mendL x.1 ++ (if x.2 == [] then [] else [32] ++ mendL x.2) = _
    rw [List.nil_append, hc x (h x (by simp))]
  · have hm : t.flatMap (fun y => 44 :: 32 :: segS y) = t.flatMap (fun y => [44, 32] ++ mendL y.1 ++ (if y.2 == [] then [] else [32] ++ mendL y.2)) := by
      rw [List.flatMap_def, List.flatMap_def]
      congr 1
      refine List.map_congr_left fun y hy => ?_
      rw [List.append_assoc, hc y (h y (by simp [hy]))]
      rfl
    rw [hm, ← range_get _ t]
    congr 1
theorem seg_val {x : Two} (h1 : Val x.1) (h2 : Val x.2) : Val (segS x) := by
  unfold segS
  split
  · exact h1.app val_nil
  · exact h1.app (h2.cons (by decide))
/-- **A srcset says its candidates.** -/
theorem src_back (l : List Two) (h : ∀ y ∈ l, Fine y ∧ goodP y.2 = true ∧ Val y.1 ∧ Val y.2) : srcK (mendL (setK l)) = (l, true) := by
  cases l with
  | nil => exact srcK_nil _ rfl
  | cons x t =>
    have hs := set_segs x t fun y hy => ⟨(h y hy).2.2.1.mend, (h y hy).2.2.2.mend⟩
    have hv : ∀ t : List Two, (∀ y ∈ t, Val y.1 ∧ Val y.2) → Val (t.flatMap fun y => 44 :: 32 :: segS y) := fun t => by
      induction t with
      | nil => intro _; exact val_nil
      | cons y t ih =>
        intro h
        rw [List.flatMap_cons]
        exact (Val.cons (by decide) (Val.cons (by decide) (seg_val (h y (by simp)).1 (h y (by simp)).2))).app (ih fun z hz => h z (by simp [hz]))
    have hall : Val (setK (x :: t)) := by
      rw [hs]
      exact (seg_val (h x (by simp)).2.2.1 (h x (by simp)).2.2.2).app (hv t fun y hy => (h y (by simp [hy])).2.2)
    rw [hall.mend, hs, src_segs t x fun y hy => ⟨(h y hy).1, (h y hy).2.1⟩]
/-- A descriptor alone, behind a link of one letter. -/
theorem desc_alone (d : List UInt8) (h0 : d ≠ []) (h : ∀ c ∈ d, gapS c = false ∧ (c == 44) = false ∧ (c == 40) = false ∧ (c == 41) = false) (hv : Val d) : (srcK (mendL (97 :: 32 :: d))).2 = goodP d := by
  have hf : Fine ([97], d) := ⟨fun c hc => by simp at hc; subst hc; decide +kernel, ⟨97, [], rfl, by decide⟩, ⟨[], 97, rfl, by decide⟩, h⟩
  have e : (97 : UInt8) :: 32 :: d = segS ([97], d) ++ [] := by
    unfold segS
    have : (d == []) = false := by simpa using h0
    simp only [this, List.append_nil]
    rfl
  have hv2 : Val (97 :: 32 :: d) := Val.cons (by decide) (Val.cons (by decide) hv)
  rw [hv2.mend, e, src_seg hf [] (.inl rfl), srcK_nil [] rfl, Bool.and_true]
end Go.Proofs.YtmfhhpacojodkaaGreatDoor.L

/- What is proved here: rows of structs of two texts in memory: read, appended to, and told apart. -/
namespace Go.Proofs.YtmfhhpacojodkaaGreatDoor.L
open Go.RowKit Go.Shelf Go.Proofs.YtmfhhpacojodkaaGreatDoor.N Go.Proofs.YtmfhhpacojodkaaGreatDoor.U

/-- Structs of two texts, one behind the other. -/
def TwosAt (w : World) (a : Option Addr) (l : List Two) : Prop := ∀ j, j < l.length → ∃ b off, a = some ⟨b, off, none⟩ ∧ w.cell? ⟨b, off + j * 2, none⟩ = some (.string ⟨(l.getD j ([], [])).1.toArray⟩) ∧ w.cell? ⟨b, off + j * 2 + 1, none⟩ = some (.string ⟨(l.getD j ([], [])).2.toArray⟩)
theorem TwosAt.below {w w' : World} {a : Option Addr} {l : List Two} (h : TwosAt w a l) (hb : Below w.heap.size w w') : TwosAt w' a l := fun j hj => by
  obtain ⟨b, off, e, h1, h2⟩ := h j hj
  exact ⟨b, off, e, (hb.cell (p := ⟨b, off + j * 2, none⟩) (cell_lt h1)).trans h1, (hb.cell (p := ⟨b, off + j * 2 + 1, none⟩) (cell_lt h2)).trans h2⟩
def twv (l : List Two) : List Value := l.flatMap fun a => [.string ⟨a.1.toArray⟩, .string ⟨a.2.toArray⟩]
theorem twv_length (l : List Two) : (twv l).length = l.length * 2 := by
  unfold twv
  induction l with
  | nil => rfl
  | cons a r ih => simp only [List.flatMap_cons, List.length_append, List.length_cons, List.length_nil, ih]; omega
theorem twv_get (l : List Two) (n i : Nat) (hn : n < l.length) (hi : i < 2) : (twv l)[n * 2 + i]? = [Value.string ⟨(l.getD n ([], [])).1.toArray⟩, .string ⟨(l.getD n ([], [])).2.toArray⟩][i]? := by
  unfold twv
  induction l generalizing n with
  | nil => simp at hn
  | cons a r ih =>
    cases n with
    | zero =>
      simp only [List.flatMap_cons, Nat.zero_mul, Nat.zero_add, List.getD_cons_zero]
      rw [List.getElem?_append_left (by simpa using hi)]
    | succ n =>
      simp only [List.flatMap_cons, List.getD_cons_succ]
      rw [List.getElem?_append_right (by simp; omega), ← ih n (by simpa using hn)]
      congr 1
      simp; omega
theorem twv_snoc (l : List Two) (a : Two) : twv (l ++ [a]) = twv l ++ [.string ⟨a.1.toArray⟩, .string ⟨a.2.toArray⟩] := by simp [twv]
/-- Structs of two texts of one's own. -/
abbrev OwnW (e : TypeId) (base : Nat) (w : World) (v : Value) (l : List Two) : Prop := w.ownsRow base e 2 v l.length (twv l)
theorem OwnW.at {e : TypeId} {base : Nat} {w : World} {v : Value} {l : List Two} (h : OwnW e base w v l) : ∃ a cap, v = .slice a l.length cap ∧ l.length ≤ cap ∧ TwosAt w a l ∧ ∀ b off, a = some ⟨b, off, none⟩ → 0 < l.length → base ≤ b ∧ b < w.heap.size := by
  have h' : w.ownsRow base e 2 v l.length (twv l) := h
  rcases h.2 with ⟨rfl, e0⟩ | ⟨g, cap, cur, rfl, hg1, hg, hc, _⟩
  · exact ⟨none, 0, by rw [e0], by omega, fun j hj => by omega, fun b off h => by cases h⟩
  · refine ⟨_, cap, rfl, hc, fun i hi => ⟨g, 0, rfl, ?_⟩, fun b off h9 h0 => ?_⟩
    · have c0 := World.ownsRow.cellAt h' (i * 2) (by omega)
      have c1 := World.ownsRow.cellAt h' (i * 2 + 1) (by omega)
      have g0 := twv_get l i 0 hi (by omega)
      have g1 := twv_get l i 1 hi (by omega)
      rw [Nat.add_zero] at g0
      rw [g0] at c0
      rw [g1] at c1
      rw [Nat.zero_add]
      exact ⟨c0, c1⟩
    · obtain rfl : g = b := by simpa using congrArg (fun x : Option Addr => x.map (·.block)) h9
      have := h'.lt g rfl
      exact ⟨this.1, by
        have c0 := World.ownsRow.cellAt h' 0 (by omega)
        have g0 := twv_get l 0 0 h0 (by omega)
        simp only [Nat.zero_mul, Nat.add_zero] at g0
        rw [g0] at c0
        exact cell_lt c0⟩
/-- One struct more, behind structs of one's own. -/
theorem append_two {w : World} {ops : Array Oper} {rest : List Oper} {o : Oper} {a : Act} {Q : Exit → Act → World → Prop} (hgd : o.guard = none) (s x : Operand) (st e : TypeId)
    (hst : Tryz.prog.underlying st = some (.slice e)) (hinf : (Tryz.prog.info? e).map (fun i => (i.zero, i.size, i.bytes)) = some (some (.agg #[.string ⟨#[]⟩, .string ⟨#[]⟩]), 2, 32))
    (ho : o.op = .call { callee := .builtin .append, args := #[s, x], argTypes := #[st, st] }) (base : Nat) (v : Value) (l : List Two) (hs : a.eval s = v) (hown : OwnW e base w v l)
    (B : Nat) (t : Two) (hx : a.eval x = .slice (some ⟨B, 0, none⟩) 1 1) (h0 : w.cell? ⟨B, 0, none⟩ = some (.string ⟨t.1.toArray⟩)) (h1 : w.cell? ⟨B, 1, none⟩ = some (.string ⟨t.2.toArray⟩)) (hl : l.length ≤ 100000000000) (hbase : base ≤ w.heap.size)
    (h : ∀ v' w', OwnW e base w' v' (l ++ [t]) → w.grownBy w' v.ownBlock → wpList Tryz.prog ops Q rest (a.put o.dst v') w') : wpList Tryz.prog ops Q (o :: rest) a w := by
  obtain ⟨i0, hi, hz0, hz1, hz2⟩ := info_parts hinf
  refine wpList_append_own w hgd s x _ ho base _ i0 _ 2 32 hst hi hz0 hz1 hz2 rfl (by decide) v _ _ hs hown ⟨B, 0, none⟩ 1 1 [.string ⟨t.1.toArray⟩, .string ⟨t.2.toArray⟩] hx rfl ?_ (by simp [Value.oneCell']) (by unfold maxLen; omega) (by omega) hbase ?_
  · intro j u hj
    match j, hj with
    | 0, hj => simp at hj; subst hj; simpa [Addr.add] using h0
    | 1, hj => simp at hj; subst hj; simpa [Addr.add] using h1
    | (j + 2), hj => simp at hj
  · intro v' w' r1 r2 _
    rw [← twv_snoc] at r1
    exact h v' w' (by simpa [OwnW] using r1) r2
end Go.Proofs.YtmfhhpacojodkaaGreatDoor.L

/- What is proved here: where the row's list of package-level variables is met, the two tables of unicode/utf8 lie in memory as the contracts ask; and a world in which they lie so. -/
namespace Go.Proofs.YtmfhhpacojodkaaGreatDoor.U
open Go.RowKit Go.Shelf

theorem own : ownKnob Tryz.prog.godebug = none := by kernel_rfl
def u8ren : Ren := ⟨fun x => x, fun n => if n = 5 then 5 else if n = 119 then 139 else if n = 138 then 141 else 142, fun n => if n = 3 then Tryz.lays32_ren.g 2 else Tryz.lays32_ren.g 3⟩
theorem u8types : U8Types Tryz.prog u8ren := ⟨by kernel_rfl, by kernel_rfl, by kernel_rfl, by kernel_rfl⟩
theorem u8extra : U8Extra Tryz.prog u8ren := ⟨by kernel_rfl, by kernel_rfl, by kernel_rfl, by kernel_rfl, by kernel_rfl, by kernel_rfl, by kernel_rfl⟩
/-- What every row of this seat lists. -/
def laidL : List (String × DataW Unit) := [("unicode/utf8.acceptRanges", Rows.laid_unicode_utf8_acceptRanges), ("unicode/utf8.first", Rows.laid_unicode_utf8_first)]
theorem accept_eq : (Rows.laid_unicode_utf8_acceptRanges : DataW Unit) = Lib.acceptData := by kernel_rfl
theorem tabs_of_laid {W : World} (h : laidMet Tryz.prog laidL W) : Lib.Utf8Tabs (Tryz.lays32_ren.g 2) (Tryz.lays32_ren.g 3) W := by
  have h3 : Lib.VarReads Tryz.prog W "unicode/utf8.first" Lib.firstData := by
    have := Lib.laidMet.reads h (n := "unicode/utf8.first") (d := Rows.laid_unicode_utf8_first) (by simp [laidL])
    rw [show Rows.laid_unicode_utf8_first = Lib.firstData from Pinned.utf8First_eq] at this
    exact this
  have h4 : Lib.VarReads Tryz.prog W "unicode/utf8.acceptRanges" Lib.acceptData := by
    have := Lib.laidMet.reads h (n := "unicode/utf8.acceptRanges") (d := Rows.laid_unicode_utf8_acceptRanges) (by simp [laidL])
    rw [accept_eq] at this
    exact this
  exact utf8Tabs_of_readsT (ρ := u8ren) u8types u8extra h3 h4

/-- A world for the witness: the settled one, the two tables holding what their texts lay. -/
def firstCells : Array Value := (Pinned.utf8FirstZ.map fun n : Nat => Value.int .u8 (n : Int)).toArray
def acceptCells : Array Value := ([128, 191, 160, 191, 128, 159, 144, 191, 128, 143, 0, 0, 0, 0, 0, 0, 0, 0, 0, 0, 0, 0, 0, 0, 0, 0, 0, 0, 0, 0, 0, 0].map fun n : Nat => Value.int .u8 (n : Int)).toArray
def withTabs (w : World) : World :=
  { w with heap := (w.heap.modify (Tryz.lays32_ren.g 2) fun
      | .cells _ t frozen => .cells firstCells t frozen
      | o => o).modify (Tryz.lays32_ren.g 3) fun
      | .cells _ t frozen => .cells acceptCells t frozen
      | o => o }

/-- A call that turns nothing that was there, gives back what the specification says and leaves its arguments: what the row asks behind it. -/
theorem post_below {H : Type} {enc : TypeId × Value → H} {P : Program} {f : Func} {s : ChangeSpec} {apart fresh handsOn : Bool} {W W' : World} {args : Array Value} {v : Value} {ds gs : List (DataW H)} {before pa pv : List MemPlace}
    (hW : DataW.Whole enc P f.params.toList s.vars apart W args.toList ds gs before)
    (hres : ∀ (b : Nat) (sp : Nat → Bool) (hd : Bool), DataW.TrodAll enc P W' b sp hd f.resultTypes.toList (v.resultList f.resultTypes.size) (s.fn H (ds ++ gs)).results [])
    (hargs : DataW.TrodAll enc P W' 0 (fun b => decide (b < W.heap.size)) true f.params.toList args.toList (s.fn H (ds ++ gs)).args pa)
    (hvars : DataW.TrodVars enc P W' (fun b => decide (b < W.heap.size)) s.vars (s.fn H (ds ++ gs)).vars pv)
    (hb : Below W.heap.size W W') : s.post enc P f apart fresh handsOn false W args v W' :=
  ⟨ds, gs, before, [], pa, pv, hW, hres _ _ _, hargs, hvars, hb.frame _, fun h => by cases h⟩

end Go.Proofs.YtmfhhpacojodkaaGreatDoor.U
