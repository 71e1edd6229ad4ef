/- What is proved here: contracts of utf.Count and utf.Place. -/
import Derived.Test.YtjleehhgcpdapaaDoorRunes
namespace Go.Proofs.YtjleehhgcpdapaaDoor.U
open Go.RowKit Go.Shelf
attribute [local go_sem] Oper.semAt_some

/-- A number stored into the loop's one box. -/
theorem kpr_num {W : World} {n₀ B : Nat} {t : TypeId} {u : Value} (h : Boxed W B t u) (hB : n₀ ≤ B) (k : IntKind) (z : Int) : Kpr n₀ [B] W (W.setCell ⟨B, 0, none⟩ (.int k z)) := by
  refine ⟨(Below.refl _ _).setCell (p := ⟨B, 0, none⟩) hB _, fun j o hj _ hm _ => ?_, fun j hj => ?_⟩
  · rw [Below.heap_setCell _ _ _ _ (by simpa using hm)]; exact hj
  · obtain ⟨B', hB', v, hv, e⟩ := hj
    obtain rfl : B' = B := by simpa using hB'
    rw [(h.set (.int k z)).cell] at hv; cases hv; cases e

set_option maxRecDepth 100000 in
set_option maxHeartbeats 2000000 in
/-- **utf.Count of any bytes.** -/
theorem count_calls (a : Option Addr) (len cap : Nat) (bs : List UInt8) (w : World) (hl : bs.length ≤ 35184372088832) (hH : HasB w.heap.size w (.slice a len cap) bs) (hT : Lib.Utf8Tabs (Tryd.lays32_ren.g 2) (Tryd.lays32_ren.g 3) w) :
    Calls Tryd.prog 13 #[.slice a len cap] w fun e W' => e = .returned (.int .i64 (toks bs).length) ∧ Below w.heap.size w W' := by
  refine (callsIn_wide (n := 3)).1 ?_
  refine callsIn_of_wp_marks Tryd.func13 rfl trivial ?_ rfl
  simp only [Tryd.ntmps13, List.size_toArray, List.length_cons, List.length_nil, Nat.reduceAdd, Nat.reduceSub, Array.replicate_succ, Array.replicate_zero, List.push_toArray, List.append_toArray, List.nil_append, List.cons_append]
  gi_wp2_with (refine ⟨trivial, ?_⟩; gi_at_call 40; refine (walk_in _ _ _ _ _).mono ?_; rintro e w' ⟨rfl, rfl⟩)
  have bO := Boxed.new w 3 (.int .i64 0)
  have bN := Boxed.new (w.alloc (.cells #[.int .i64 0] 3)) 22 (.slice a len cap)
  rw [World.size_alloc] at bN
  have hB0 : Below w.heap.size w ((w.alloc (.cells #[.int .i64 0] 3)).alloc (.cells #[.slice a len cap] 22)) := ((Below.refl _ w).alloc (Nat.le_refl _) _).alloc (by simp) _
  have hbo := (bO.alloc (.cells #[.slice a len cap] 22)).cell
  refine wpIn_rangeFunc_ownG rfl (by omega) (gf := 54) (lb := #[.pointer (some ⟨w.heap.size + 1, 0, none⟩)]) rfl trivial (enters_of Tryd.func54 (by kernel_rfl) rfl)
    (walk_stops _ (by omega) (w.heap.size + 1) w.heap.size _ bs [w.heap.size] _ (by omega) (hH.below hB0) (by omega) bN.cell (fun B hB => by simp at hB; subst hB; exact ⟨Nat.le_refl _, by omega, by simp; omega⟩) (fun k hk => by obtain ⟨B, hB, v, hv, e⟩ := hk; simp at hB; subst hB; rw [hbo] at hv; cases hv; cases e) (tabs_below hT hB0) ⟨cell_lt (hT.1 0 (by omega)), cell_lt (hT.2 0 (by omega)).1⟩)
    Kpr.trans (Kpr.book (by simp; omega) (fun B hB => by simp at hB; subst hB; simp; omega)) (Below.refl _ _) (fun _ => rfl)
    (fun (pre : List (Nat × Nat)) W => Boxed W w.heap.size 3 (.int .i64 (pre.length : Int)) ∧ Below w.heap.size w W)
    (fun _ _ _ => False)
    (OwnFrom.and (Own.from (boxed_own _ _ _) _) (ownFrom_below (Nat.le_refl _) (by simp; omega)))
    (fun _ _ _ _ _ hs _ _ => hs)
    ⟨bO.alloc _, hB0⟩
    (fun x => { tmps := #[.slice a len cap, undef, .int .i64 0, .pointer (some ⟨w.heap.size, 0, none⟩), .slice a len cap, .func (.func 54) #[] #[.pointer (some ⟨w.heap.size + 1, 0, none⟩)], .int .i64 (x.1 : Int), .int .i32 (x.2 : Int), undef, undef, undef], defers := [] }) ?assign ?body ?done ?stop
  case assign =>
    intro l x W K hK
    gi_wp2
    simpa using hK
  case body =>
    rintro l pre x W ⟨hv, hB⟩ hlt
    have hc := hv.cell
    have hf := hv.frozen
    have hset := hv.set (.int .i64 ((pre.length : Int) + 1))
    gi_wp2
    exact ⟨(KeepsOthers.setCell _ _ _).from _, kpr_num hv (Nat.le_refl _) _ _, by simpa using hset, hB.setCell (p := ⟨w.heap.size, 0, none⟩) (Nat.le_refl _) _⟩
  case done =>
    rintro D ys W hD rfl ⟨hv, hB⟩ hK
    have hc := hv.cell
    gi_wp2
    refine ⟨by simp, .inl ⟨_, _, rfl, run_takeDeferred hK, ?_⟩⟩
    exact ⟨_, results_tmp rfl _ _ _, rfl, hB.trans (belowK_b (w := w) (Nat.le_refl _) W D _ _ (by simp at hD; omega) hK rfl rfl)⟩
  case stop =>
    rintro D c pre W _ _ h _
    exact h.elim

/-- Where the n-th rune begins, and what is wrong with n. -/
def plc (bs : List UInt8) (n : Int) : Int × Int :=
  if 0 ≤ n ∧ n < (toks bs).length then (((toks bs)[n.toNat]?.getD (0, 0)).1, 0) else if n = (toks bs).length then (bs.length, 0) else (0, 10)
theorem plc_at {bs : List UInt8} {n : Int} {ini : List (Nat × Nat)} {y : Nat × Nat} (hp : ini ++ [y] <+: toks bs) (hn : n = (ini.length : Int)) : plc bs n = ((y.1 : Int), 0) := by
  obtain ⟨r, hr⟩ := hp
  have hl : ini.length < (toks bs).length := by rw [← hr]; simp
  have hg : (toks bs)[ini.length]? = some y := by rw [← hr]; simp
  unfold plc
  rw [if_pos (by omega), hn]
  simp [hg]
theorem plc_end {bs : List UInt8} {n : Int} (hn : n = ((toks bs).length : Int)) : plc bs n = ((bs.length : Int), 0) := by
  unfold plc; rw [if_neg (by omega), if_pos hn]
theorem plc_no {bs : List UInt8} {n : Int} (h : ¬ (0 ≤ n ∧ n < (toks bs).length)) (hn : n ≠ ((toks bs).length : Int)) : plc bs n = (0, 10) := by
  unfold plc; rw [if_neg h, if_neg hn]

set_option maxRecDepth 100000 in
set_option maxHeartbeats 4000000 in
/-- **utf.Place of any bytes and any n.** -/
theorem place_calls (a : Option Addr) (cap : Nat) (bs : List UInt8) (n : Int) (w : World) (hl : bs.length ≤ 35184372088832) (hH : HasB w.heap.size w (.slice a bs.length cap) bs) (hT : Lib.Utf8Tabs (Tryd.lays32_ren.g 2) (Tryd.lays32_ren.g 3) w) :
    Calls Tryd.prog 20 #[.slice a bs.length cap, .int .i64 n] w fun e W' => e = .returned (.tuple #[.int .i64 (plc bs n).1, .int .i64 (plc bs n).2]) ∧ Below w.heap.size w W' := by
  refine (callsIn_wide (n := 3)).1 ?_
  refine callsIn_of_wp_marks Tryd.func20 rfl trivial ?_ rfl
  simp only [Tryd.ntmps20, List.size_toArray, List.length_cons, List.length_nil, Nat.reduceAdd, Nat.reduceSub, Array.replicate_succ, Array.replicate_zero, List.push_toArray, List.append_toArray, List.nil_append, List.cons_append]
  gi_wp2_with (refine ⟨trivial, ?_⟩; gi_at_call 40; refine (walk_in _ _ _ _ _).mono ?_; rintro e w' ⟨rfl, rfl⟩)
  obtain ⟨W0, hW0⟩ : ∃ W0, ((((w.alloc (.cells #[.int .i64 n] 3)).alloc (.cells #[.int .i64 0] 3)).alloc (.cells #[.int .i64 0] 34)).alloc (.cells #[.int .i64 0] 3)).alloc (.cells #[.slice a bs.length cap] 22) = W0 := ⟨_, rfl⟩
  have hz : W0.heap.size = w.heap.size + 5 := by rw [← hW0]; simp
  have h0 : Below w.heap.size w W0 := by rw [← hW0]; exact (((((Below.refl _ w).alloc (Nat.le_refl _) _).alloc (by simp) _).alloc (by simp; omega) _).alloc (by simp; omega) _).alloc (by simp; omega) _
  have cN : W0.cell? ⟨w.heap.size, 0, none⟩ = some (.int .i64 n) := by rw [← hW0]; simp [go_sem]
  have cA : W0.cell? ⟨w.heap.size + 1, 0, none⟩ = some (.int .i64 0) := by rw [← hW0]; simp [go_sem]
  have cE : W0.cell? ⟨w.heap.size + 1 + 1, 0, none⟩ = some (.int .i64 0) := by rw [← hW0]; simp [go_sem]
  have fA : W0.frozen? ⟨w.heap.size + 1, 0, none⟩ = false := by rw [← hW0]; simp [go_sem]
  have fE : W0.frozen? ⟨w.heap.size + 1 + 1, 0, none⟩ = false := by rw [← hW0]; simp [go_sem]
  have bK : Boxed W0 (w.heap.size + 1 + 1 + 1) 3 (.int .i64 0) := by
    rw [← hW0]
    have := (Boxed.new (((w.alloc (.cells #[.int .i64 n] 3)).alloc (.cells #[.int .i64 0] 3)).alloc (.cells #[.int .i64 0] 34)) 3 (.int .i64 0)).alloc (.cells #[.slice a bs.length cap] 22)
    simpa using this
  have cB : W0.cell? ⟨w.heap.size + 1 + 1 + 1 + 1, 0, none⟩ = some (.slice a bs.length cap) := by rw [← hW0]; simp [go_sem]
  have hg := (⟨cell_lt (hT.1 0 (by omega)), cell_lt (hT.2 0 (by omega)).1⟩ : Tryd.lays32_ren.g 2 < w.heap.size ∧ Tryd.lays32_ren.g 3 < w.heap.size)
  rw [hW0]
  clear hW0
  refine wpIn_rangeFunc_ownG rfl (by omega) (gf := 54) (lb := #[.pointer (some ⟨w.heap.size + 1 + 1 + 1 + 1, 0, none⟩)]) rfl trivial (enters_of Tryd.func54 (by kernel_rfl) rfl)
    (walk_stops _ (by omega) (w.heap.size + 1 + 1 + 1 + 1) w.heap.size _ bs [w.heap.size + 1 + 1 + 1] _ (by omega) (hH.below h0) (by omega) cB (fun B hB => by simp at hB; subst hB; exact ⟨by omega, by omega, by omega⟩) (fun k hk => by obtain ⟨B, hB, v, hv, e⟩ := hk; simp at hB; subst hB; rw [bK.cell] at hv; cases hv; cases e) (tabs_below hT h0) hg)
    Kpr.trans (Kpr.book (by omega) (fun B hB => by simp at hB; subst hB; omega)) (Below.refl _ _) (fun _ => rfl)
    (fun (pre : List (Nat × Nat)) W => (¬ (0 ≤ n ∧ n < pre.length)) ∧ Boxed W (w.heap.size + 1 + 1 + 1) 3 (.int .i64 (pre.length : Int)) ∧ Below (w.heap.size + 1 + 1 + 1) W0 W)
    (fun c (pre : List (Nat × Nat)) W => (c = .ret ∧ ∃ ini y, pre = ini ++ [y] ∧ n = (ini.length : Int) ∧ W.cell? ⟨w.heap.size + 1, 0, none⟩ = some (.int .i64 (y.1 : Int)) ∧ W.cell? ⟨w.heap.size + 1 + 1, 0, none⟩ = some (.int .i64 0)) ∧ Below w.heap.size w W)
    (OwnFrom.and (ownFrom_pure _ _) (OwnFrom.and (Own.from (boxed_own _ _ _) _) (ownFrom_below (by omega) (by omega))))
    (fun c => OwnFrom.and (Own.from (fun s A B row hs hg hr => by obtain ⟨hc, ini, y, e1, e2, e3, e4⟩ := hs; exact ⟨hc, ini, y, e1, e2, cell_kept e3 hg hr, cell_kept e4 hg hr⟩) _) (ownFrom_below (Nat.le_refl _) (by omega)))
    ⟨by simp, bK, Below.refl _ _⟩
    (fun y => { tmps := #[.slice a bs.length cap, .int .i64 n, undef, .pointer (some ⟨w.heap.size, 0, none⟩), .pointer (some ⟨w.heap.size + 1, 0, none⟩), .pointer (some ⟨w.heap.size + 1 + 1, 0, none⟩), .pointer (some ⟨w.heap.size + 1 + 1 + 1, 0, none⟩), .int .i64 (y.1 : Int), .slice a bs.length cap, .func (.func 54) #[] #[.pointer (some ⟨w.heap.size + 1 + 1 + 1 + 1, 0, none⟩)], .int .i64 (y.1 : Int), .int .i32 (y.2 : Int), undef, undef, undef, undef, undef, undef, undef, undef, undef, undef, undef], defers := [] }) ?assign ?body ?done ?stop
  case assign =>
    intro l x W K hK
    gi_wp2
    exact hK
  case body =>
    rintro l pre y W ⟨hno, hv, hB⟩ hlt
    have hc := hv.cell
    have hf := hv.frozen
    have cN' := (hB.cell (p := ⟨w.heap.size, 0, none⟩) (by simp; omega)).trans cN
    have cA' := (hB.cell (p := ⟨w.heap.size + 1, 0, none⟩) (by simp)).trans cA
    have cE' := (hB.cell (p := ⟨w.heap.size + 1 + 1, 0, none⟩) (by simp)).trans cE
    have fA' := (hB.frozen (p := ⟨w.heap.size + 1, 0, none⟩) (by simp)).trans fA
    have fE' := (hB.frozen (p := ⟨w.heap.size + 1 + 1, 0, none⟩) (by simp)).trans fE
    have hset := hv.set (.int .i64 ((pre.length : Int) + 1))
    by_cases he : (pre.length : Int) = n
    · have t1 : ((pre.length : Int) == n) = true := by simp [he]
      have HE : Hid ((pre.length : Int) = n) := he
      clear he
      gi_wp2
      refine ⟨((KeepsOthers.setCell _ _ _).trans (KeepsOthers.setCell _ _ _)).from _, ⟨rfl, pre, y, rfl, HE.out.symm, ?_, ?_⟩, ((h0.trans (hB.mono (by omega))).setCell (p := ⟨w.heap.size + 1, 0, none⟩) (by simp) _).setCell (p := ⟨w.heap.size + 1 + 1, 0, none⟩) (by simp; omega) _⟩
      · rw [cs_other (a := ⟨w.heap.size + 1 + 1, 0, none⟩) (b := ⟨w.heap.size + 1, 0, none⟩) (fun e => by have := congrArg Addr.block e; simp at this)]; exact cs_same cA'
      · exact cs_same (u := .int .i64 0) (by rw [cs_other (a := ⟨w.heap.size + 1, 0, none⟩) (b := ⟨w.heap.size + 1 + 1, 0, none⟩) (fun e => by have := congrArg Addr.block e; simp at this)]; exact cE')
    · have t1 : ((pre.length : Int) == n) = false := by simp [he]
      have hno2 : Hid (¬ (0 ≤ n ∧ n < ((pre ++ [y]).length : Int))) := by show ¬ _; simp; omega
      clear he
      gi_wp2
      exact ⟨(KeepsOthers.setCell _ _ _).from _, kpr_num hv (by omega) _ _, hno2.out, by simpa using hset, hB.setCell (p := ⟨w.heap.size + 1 + 1 + 1, 0, none⟩) (Nat.le_refl _) _⟩
  case stop =>
    rintro D c pre W hD hSp ⟨⟨rfl, ini, y, rfl, hn, c1, c2⟩, hB⟩ hK
    have hpl := plc_at hSp hn
    have HP : Hid (plc bs n = ((y.1 : Int), 0)) := hpl
    clear hpl
    gi_wp2
    refine ⟨by simp, .inl ⟨_, _, rfl, run_takeDeferred hK, ?_⟩⟩
    have d1 := cell_kept c1 (grownBy_putObj' _ D (.deferred none)) (fun r e => by cases e; exact ⟨_, hK, rfl⟩)
    have d2 := cell_kept c2 (grownBy_putObj' _ D (.deferred none)) (fun r e => by cases e; exact ⟨_, hK, rfl⟩)
    refine ⟨.tuple #[.int .i64 (y.1 : Int), .int .i64 0], ?_, by rw [HP.out], hB.trans (belowK_b (w := w) (Nat.le_refl _) W D _ _ (by omega) hK rfl rfl)⟩
    simp [results, Tryd.f20, go_sem, d1, d2]
  case done =>
    rintro D ys W hD rfl ⟨hno, hv, hB⟩ hK
    have hc := hv.cell
    have cN' := (hB.cell (p := ⟨w.heap.size, 0, none⟩) (by simp; omega)).trans cN
    have cA' := (hB.cell (p := ⟨w.heap.size + 1, 0, none⟩) (by simp)).trans cA
    have cE' := (hB.cell (p := ⟨w.heap.size + 1 + 1, 0, none⟩) (by simp)).trans cE
    have fA' := (hB.frozen (p := ⟨w.heap.size + 1, 0, none⟩) (by simp)).trans fA
    have fE' := (hB.frozen (p := ⟨w.heap.size + 1 + 1, 0, none⟩) (by simp)).trans fE
    have hbw : Below w.heap.size w W := h0.trans (hB.mono (by omega))
    by_cases he : ((toks bs).length : Int) = n
    · have t1 : (((toks bs).length : Int) == n) = true := by simp [he]
      have HP : Hid (plc bs n = ((bs.length : Int), 0)) := plc_end he.symm
      clear he
      gi_wp2
      have hK' : ((W.setCell ⟨w.heap.size + 1, 0, none⟩ (.int .i64 (bs.length : Int))).setCell ⟨w.heap.size + 1 + 1, 0, none⟩ (.int .i64 0)).heap[D]? = some (.deferred (some [])) := (Below.heap_setCell _ _ _ D (by show D ≠ w.heap.size + 1 + 1; omega)).trans ((Below.heap_setCell _ _ _ D (by show D ≠ w.heap.size + 1; omega)).trans hK)
      refine ⟨by simp, .inl ⟨_, _, rfl, run_takeDeferred hK', ?_⟩⟩
      have c1 : ((W.setCell ⟨w.heap.size + 1, 0, none⟩ (.int .i64 (bs.length : Int))).setCell ⟨w.heap.size + 1 + 1, 0, none⟩ (.int .i64 0)).cell? ⟨w.heap.size + 1, 0, none⟩ = some (.int .i64 (bs.length : Int)) := by rw [cs_other (a := ⟨w.heap.size + 1 + 1, 0, none⟩) (b := ⟨w.heap.size + 1, 0, none⟩) (fun e => by have := congrArg Addr.block e; simp at this)]; exact cs_same cA'
      have c2 : ((W.setCell ⟨w.heap.size + 1, 0, none⟩ (.int .i64 (bs.length : Int))).setCell ⟨w.heap.size + 1 + 1, 0, none⟩ (.int .i64 0)).cell? ⟨w.heap.size + 1 + 1, 0, none⟩ = some (.int .i64 0) := cs_same (u := .int .i64 0) (by rw [cs_other (a := ⟨w.heap.size + 1, 0, none⟩) (b := ⟨w.heap.size + 1 + 1, 0, none⟩) (fun e => by have := congrArg Addr.block e; simp at this)]; exact cE')
      have d1 := cell_kept c1 (grownBy_putObj' _ D (.deferred none)) (fun r e => by cases e; exact ⟨_, hK', rfl⟩)
      have d2 := cell_kept c2 (grownBy_putObj' _ D (.deferred none)) (fun r e => by cases e; exact ⟨_, hK', rfl⟩)
      refine ⟨.tuple #[.int .i64 (bs.length : Int), .int .i64 0], ?_, by rw [HP.out], ((hbw.setCell (p := ⟨w.heap.size + 1, 0, none⟩) (by simp) _).setCell (p := ⟨w.heap.size + 1 + 1, 0, none⟩) (by simp; omega) _).trans (belowK_b (w := w) (Nat.le_refl _) _ D _ _ (by omega) hK' rfl rfl)⟩
      simp [results, Tryd.f20, go_sem, d1, d2]
    · have t1 : (((toks bs).length : Int) == n) = false := by simp [he]
      have HP : Hid (plc bs n = (0, 10)) := plc_no hno (fun e => he e.symm)
      clear he
      gi_wp2
      have hK' : ((W.setCell ⟨w.heap.size + 1, 0, none⟩ (.int .i64 0)).setCell ⟨w.heap.size + 1 + 1, 0, none⟩ (.int .i64 10)).heap[D]? = some (.deferred (some [])) := (Below.heap_setCell _ _ _ D (by show D ≠ w.heap.size + 1 + 1; omega)).trans ((Below.heap_setCell _ _ _ D (by show D ≠ w.heap.size + 1; omega)).trans hK)
      refine ⟨by simp, .inl ⟨_, _, rfl, run_takeDeferred hK', ?_⟩⟩
      have c1 : ((W.setCell ⟨w.heap.size + 1, 0, none⟩ (.int .i64 0)).setCell ⟨w.heap.size + 1 + 1, 0, none⟩ (.int .i64 10)).cell? ⟨w.heap.size + 1, 0, none⟩ = some (.int .i64 0) := by rw [cs_other (a := ⟨w.heap.size + 1 + 1, 0, none⟩) (b := ⟨w.heap.size + 1, 0, none⟩) (fun e => by have := congrArg Addr.block e; simp at this)]; exact cs_same cA'
      have c2 : ((W.setCell ⟨w.heap.size + 1, 0, none⟩ (.int .i64 0)).setCell ⟨w.heap.size + 1 + 1, 0, none⟩ (.int .i64 10)).cell? ⟨w.heap.size + 1 + 1, 0, none⟩ = some (.int .i64 10) := cs_same (u := .int .i64 0) (by rw [cs_other (a := ⟨w.heap.size + 1, 0, none⟩) (b := ⟨w.heap.size + 1 + 1, 0, none⟩) (fun e => by have := congrArg Addr.block e; simp at this)]; exact cE')
      have d1 := cell_kept c1 (grownBy_putObj' _ D (.deferred none)) (fun r e => by cases e; exact ⟨_, hK', rfl⟩)
      have d2 := cell_kept c2 (grownBy_putObj' _ D (.deferred none)) (fun r e => by cases e; exact ⟨_, hK', rfl⟩)
      refine ⟨.tuple #[.int .i64 0, .int .i64 10], ?_, by rw [HP.out], ((hbw.setCell (p := ⟨w.heap.size + 1, 0, none⟩) (by simp) _).setCell (p := ⟨w.heap.size + 1 + 1, 0, none⟩) (by simp; omega) _).trans (belowK_b (w := w) (Nat.le_refl _) _ D _ _ (by omega) hK' rfl rfl)⟩
      simp [results, Tryd.f20, go_sem, d1, d2]

end Go.Proofs.YtjleehhgcpdapaaDoor.U
