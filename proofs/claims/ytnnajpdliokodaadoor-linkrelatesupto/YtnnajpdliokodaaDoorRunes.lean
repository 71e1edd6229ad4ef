/- What is proved here: the contract of utf.Runes: for any bytes, it returns their runes in new memory and turns nothing that was there. -/
import Derived.Maps.AppendAt
import Derived.Maps.OwnIn
import Derived.Test.YtnnajpdliokodaaDoorIter
namespace Go.Proofs.YtnnajpdliokodaaDoor.U
open Go.RowKit Go.Shelf
attribute [local go_sem] Oper.semAt_some

theorem info21 : (Tryd.prog.info? 21).map (fun i => (i.zero, i.size, i.bytes)) = some (some (.int .i32 0), 1, 4) := by kernel_rfl

/-- 'out = append(out, ..)' keeps to the box and its row. -/
theorem kpr_appended {W w1 : World} {n₀ B : Nat} {t e : TypeId} {size : Nat} {v v' : Value} {k m : Nat} {xs ys : List Value} {tmp : Obj}
    (hv : Boxed W B t v) (hte : t ≠ e) (hrow : W.ownsRow n₀ e size v k xs) (hn₀ : n₀ ≤ W.heap.size) (hB : n₀ ≤ B)
    (hown' : w1.ownsRow n₀ e size v' m ys) (hgrow : (W.alloc tmp).grownBy w1 v.ownBlock) (hob : v'.ownBlock = v.ownBlock ∨ v'.ownBlock = some (W.alloc tmp).heap.size) :
    Kpr n₀ [B] W (w1.setCell ⟨B, 0, none⟩ v') := by
  obtain ⟨_, hv2, _, _, hb2⟩ := hv.appended hte hrow hn₀ hB hown' hgrow
  refine ⟨hb2, fun j o hj hc hm hr => ?_, fun j hj => ?_⟩
  · have hlt := lt_of_block hj
    rw [Below.heap_setCell _ _ _ _ (by simpa using hm), hgrow.block j (by simp; omega) (fun ej => hr ⟨B, by simp, v, hv.cell, ej.symm⟩), Below.heap_alloc _ _ _ hlt]
    exact hj
  · obtain ⟨B', hB', u, hu, eu⟩ := hj
    obtain rfl : B' = B := by simpa using hB'
    rw [hv2.cell] at hu; cases hu
    rcases hob with e1 | e1
    · exact .inl ⟨B', by simp, v, hv.cell, e1 ▸ eu⟩
    · refine .inr ⟨?_, ?_⟩
      · rw [e1] at eu; simp at eu; omega
      · have := (hown'.lt j eu).2; simpa [World.setCell] using this

set_option maxRecDepth 100000 in
set_option maxHeartbeats 2000000 in
/-- **utf.Runes of any bytes.** -/
theorem runes_calls (a : Option Addr) (len cap : Nat) (bs : List UInt8) (w : World) (hl : bs.length ≤ 35184372088832) (hH : HasB w.heap.size w (.slice a len cap) bs) (hT : Lib.Utf8Tabs (Tryd.lays32_ren.g 2) (Tryd.lays32_ren.g 3) w) :
    Calls Tryd.prog 50 #[.slice a len cap] w fun e W' => ∃ v, e = .returned v ∧ W'.ownsRow w.heap.size 21 1 v (runes bs).length ((runes bs).map fun r : Nat => Value.int .i32 (r : Int)) ∧ Below w.heap.size w W' := by
  refine (callsIn_wide (n := 3)).1 ?_
  obtain ⟨i0, hi, hz0, hz1, hz2⟩ := info_parts info21
  refine callsIn_of_wp_marks Tryd.func50 rfl trivial ?_ rfl
  simp only [Tryd.ntmps50, List.size_toArray, List.length_cons, List.length_nil, Nat.reduceAdd, Nat.reduceSub, Array.replicate_succ, Array.replicate_zero, List.push_toArray, List.append_toArray, List.nil_append, List.cons_append]
  gi_wp2_with (refine ⟨trivial, ?_⟩; gi_at_call 64; refine (walk_in _ _ _ _ _).mono ?_; rintro e w' ⟨rfl, rfl⟩)
  have bO := Boxed.new w 49 (.slice none 0 0)
  have bN := Boxed.new (w.alloc (.cells #[.slice none 0 0] 49)) 42 (.slice a len cap)
  rw [World.size_alloc] at bN
  have hB0 : Below w.heap.size w ((w.alloc (.cells #[.slice none 0 0] 49)).alloc (.cells #[.slice a len cap] 42)) := ((Below.refl _ w).alloc (Nat.le_refl _) _).alloc (by simp) _
  have hbo := (bO.alloc (.cells #[.slice a len cap] 42)).cell
  refine wpIn_rangeFunc_ownG rfl (by omega) (gf := 78) (lb := #[.pointer (some ⟨w.heap.size + 1, 0, none⟩)]) rfl trivial (enters_of Tryd.func78 (by kernel_rfl) rfl)
    (walk_stops _ (by omega) (w.heap.size + 1) w.heap.size _ bs [w.heap.size] _ (by omega) (hH.below hB0) (by omega) bN.cell (fun B hB => by simp at hB; subst hB; exact ⟨Nat.le_refl _, by omega, by simp; omega⟩) (fun k hk => by obtain ⟨B, hB, v, hv, e⟩ := hk; simp at hB; subst hB; rw [hbo] at hv; cases hv; cases e) (tabs_below hT hB0) ⟨cell_lt (hT.1 0 (by omega)), cell_lt (hT.2 0 (by omega)).1⟩)
    Kpr.trans (Kpr.book (by simp; omega) (fun B hB => by simp at hB; subst hB; simp; omega)) (Below.refl _ _) (fun _ => rfl)
    (fun (pre : List (Nat × Nat)) W => (∃ v, Boxed W w.heap.size 49 v ∧ W.ownsRow w.heap.size 21 1 v pre.length (pre.map fun x => Value.int .i32 (x.2 : Int)) ∧ True) ∧ Below w.heap.size w W)
    (fun _ _ _ => False)
    (OwnFrom.and (Own.from (holdsRow_own w.heap.size w.heap.size 49 21 1 (fun pre : List (Nat × Nat) => pre.length) (fun pre : List (Nat × Nat) => pre.map fun x => Value.int .i32 (x.2 : Int)) (fun _ _ => True)) _) (ownFrom_below (Nat.le_refl _) (by simp; omega)))
    (fun _ _ _ _ _ hs _ _ => hs)
    ⟨⟨_, bO.alloc _, World.ownsRow_nil _ _ _ _, trivial⟩, hB0⟩
    (fun x => { tmps := #[.slice a len cap, undef, .slice none 0 0, .pointer (some ⟨w.heap.size, 0, none⟩), undef, .int .i32 (x.2 : Int), .slice a len cap, .func (.func 78) #[] #[.pointer (some ⟨w.heap.size + 1, 0, none⟩)], .int .i64 (x.1 : Int), .int .i32 (x.2 : Int), undef, undef, undef, undef, undef], defers := [] }) ?assign ?body ?done ?stop
  case assign =>
    intro l x W K hK
    gi_wp2
    exact hK
  case body =>
    rintro l pre x W ⟨⟨v, hv, hrow, _⟩, hB⟩ hlt
    have hc := hv.cell
    gi_wp2_with (gi_at_builtin; refine wpListIn_append_own_at _ rfl _ _ 49 rfl w.heap.size 21 i0 (.int .i32 0) 1 4 Tryd.underlying49 hi hz0 hz1 hz2 rfl (by decide) _ _ _ rfl (hrow.alloc _) ⟨W.heap.size, 0, none⟩ 1 1 [.int .i32 (x.2 : Int)] rfl rfl (cell_one_new _ _ _) (by simp [Value.oneCell']) (by unfold maxLen; omega) (by omega) (by have := hB.size; simp; omega) ?_; intro v' w1 hown' hgrow _ hob; obtain ⟨g', cap', rfl⟩ := ownsRow_succ hown'; have hkp := kpr_appended hv (by decide) hrow hB.size (Nat.le_refl _) hown' hgrow hob; obtain ⟨hv1, hv2, hr2, hk2, hb2⟩ := hv.appended (by decide) hrow hB.size (Nat.le_refl _) hown' hgrow; have hc1 := hv1.cell; have hf1 := hv1.frozen)
    exact ⟨hk2.from _, hkp, ⟨_, hv2, by simpa using hr2, trivial⟩, hB.trans hb2⟩
  case done =>
    rintro D ys W hD rfl ⟨⟨v, hv, hrow, _⟩, hB⟩ hK
    have hc := hv.cell
    gi_wp2
    refine ⟨by simp, .inl ⟨_, _, rfl, run_takeDeferred hK, ?_⟩⟩
    refine ⟨_, results_tmp rfl _ _ _, v, rfl, ?_, hB.trans (belowK_b (w := w) (Nat.le_refl _) W D _ _ (by simp at hD; omega) hK rfl rfl)⟩
    have := ownsRow_putObj hrow (.deferred none) hK rfl
    rw [show (runes bs).length = (toks bs).length by simp [runes], show ((runes bs).map fun r : Nat => Value.int .i32 (r : Int)) = (toks bs).map (fun x => Value.int .i32 (x.2 : Int)) by simp [runes]]
    exact this
  case stop =>
    rintro D c pre W _ _ h _
    exact h.elim

end Go.Proofs.YtnnajpdliokodaaDoor.U
