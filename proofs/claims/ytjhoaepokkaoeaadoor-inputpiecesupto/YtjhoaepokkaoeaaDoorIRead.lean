/- What is proved here: the contracts of package input's spot.read and of Read: for any bytes, they return their cells in new memory; read leaves the spot behind them. -/
import Derived.Maps.AppendAt
import Derived.Maps.OwnIn
import Derived.Test.YtjhoaepokkaoeaaDoorRunes
import Derived.Test.YtjhoaepokkaoeaaDoorIText
namespace Go.Proofs.YtjhoaepokkaoeaaDoor.U
open Go.RowKit Go.Shelf
attribute [local go_sem] Oper.semAt_some

theorem infoCell : (Tryd.prog.info? 62).map (fun i => (i.zero, i.size, i.bytes)) = some (some (.agg #[.int .i32 0, .int .i64 0, .int .i64 0, .int .i64 0]), 4, 32) := by kernel_rfl
/-- A cell's values. -/
def cvs (x : Cn) : List Value := [.int .i32 (x.r : Int), .int .i64 (x.y : Int), .int .i64 (x.l : Int), .int .i64 (x.c : Int)]
theorem cvs_length (xs : List Cn) : (xs.flatMap cvs).length = xs.length * 4 := by
  induction xs with
  | nil => rfl
  | cons x xs ih => simp [cvs] at ih ⊢; omega
theorem cell_four (w : World) (a b c d : Value) (t : TypeId) : ∀ j u, [a, b, c, d][j]? = some u → (w.alloc (.cells #[a, b, c, d] t)).cell? ((⟨w.heap.size, 0, none⟩ : Addr).add j) = some u := by
  intro j u hj
  match j, hj with
  | 0, hj => simp at hj; subst hj; simp [Addr.add]
  | 1, hj => simp at hj; subst hj; simp [Addr.add]
  | 2, hj => simp at hj; subst hj; simp [Addr.add]
  | 3, hj => simp at hj; subst hj; simp [Addr.add]
  | (j + 4), hj => simp at hj

theorem boxed_at {W : World} {B : Nat} {t : TypeId} {x : Value} (h : Boxed W B t x) {u : Nat} {v : Value} (hv : W.cell? ⟨B, u, none⟩ = some v) : u = 0 ∧ v = x := by
  rw [Boxed] at h
  simp only [World.cell?, h] at hv
  match u, hv with
  | 0, hv => exact ⟨rfl, by simpa using hv.symm⟩
  | u + 1, hv => simp at hv
theorem rowG_boxed {W : World} {B : Nat} {t : TypeId} {x : Value} (h : Boxed W B t x) {k : Nat} : rowG [B] W k ↔ rowIn [B] W k := by
  constructor
  · rintro ⟨B', hB', u, v, hv, e⟩
    obtain rfl : B' = B := by simpa using hB'
    obtain ⟨rfl, rfl⟩ := boxed_at h hv
    exact ⟨B', by simp, _, hv, e⟩
  · rintro ⟨B', hB', v, hv, e⟩
    exact ⟨B', hB', 0, v, hv, e⟩
/-- 'out = append(out, ..)' keeps to the box and its row. -/
theorem kprG_appended {W w1 : World} {n₀ B : Nat} {t e : TypeId} {size : Nat} {v v' : Value} {k m : Nat} {xs ys : List Value} {tmp : Obj}
    (hv : Boxed W B t v) (hte : t ≠ e) (hrow : W.ownsRow n₀ e size v k xs) (hn₀ : n₀ ≤ W.heap.size) (hB : n₀ ≤ B)
    (hown' : w1.ownsRow n₀ e size v' m ys) (hgrow : (W.alloc tmp).grownBy w1 v.ownBlock) (hob : v'.ownBlock = v.ownBlock ∨ v'.ownBlock = some (W.alloc tmp).heap.size) :
    KprG n₀ [B] W (w1.setCell ⟨B, 0, none⟩ v') := by
  have h := kpr_appended hv hte hrow hn₀ hB hown' hgrow hob
  have h2 := (hv.appended hte hrow hn₀ hB hown' hgrow).2.1
  exact ⟨h.1, fun k o hk hc hm hr => h.2.1 k o hk hc hm (fun hh => hr ((rowG_boxed hv).2 hh)), fun k hk => (h.2.2 k ((rowG_boxed h2).1 hk)).imp (rowG_boxed hv).2 id⟩
/-- A box that a loop fills is the loop's own to say, whatever the iterator turns of its own. -/
theorem holds_bears {β : Type} (sb Bo B n₀ : Nat) (e : TypeId) (t : TypeId) (size : Nat) (k : β → Nat) (f : β → List Value) (h1 : sb < Bo) (hB : Bo < B) (hn : sb < n₀) (he : e ≠ 21) : Bears (ownS sb) fineC B (fun s W => ∃ v, Boxed W Bo t v ∧ W.ownsRow n₀ e size v (k s) (f s)) := fun s A A' ⟨v, hb, hown⟩ ⟨row, hg, hr⟩ => by
  have hnb : some Bo ≠ row := fun e => (hr Bo e.symm).elim (fun h => by have : Bo = sb := h; omega) (fun h => by omega)
  refine ⟨v, (hg.block Bo (lt_of_block hb) hnb).trans hb, hown.kept hg ?_⟩
  cases hv : v.ownBlock with
  | none => exact .inl rfl
  | some g =>
    refine .inr (fun e' => ?_)
    rcases hr g e'.symm with h | ⟨_, o, ho, hf⟩
    · have e1 : g = sb := h
      have := (hown.lt g hv).1
      omega
    · rcases hown.2 with ⟨rfl, _⟩ | ⟨g', cap, cur, rfl, _, hg', _⟩
      · cases hv
      · cases hv
        rw [hg'] at ho; cases ho
        rcases hf with hf | ⟨cs', fz', hf⟩
        · cases hf
        · cases hf; exact he rfl
theorem grown_bears {β : Type} (sb B : Nat) (w : World) (hB : w.heap.size ≤ B) : Bears (ownS sb) fineC B (fun (_ : β) W => w.grownBy W (some sb)) := fun s A A' hs ⟨row, hg, hr⟩ =>
  ⟨hg.os.trans hs.os, hg.tape.trans hs.tape, hg.output.trans hs.output, Nat.le_trans hs.size hg.size, fun k hk hne => by
    have hz := hs.size
    rw [hg.block k (by omega) (fun e => (hr k e.symm).elim (fun h => by have e1 : k = sb := h; exact hne (by rw [e1])) (fun h => by omega))]
    exact hs.block k hk hne⟩

set_option maxRecDepth 100000 in
set_option maxHeartbeats 4000000 in
/-- **spot.read of any bytes.** -/
theorem read_calls (sb n₀ y l c : Nat) (v : Value) (bs : List UInt8) (w : World) (hl : bs.length ≤ 2199023255552) (hy : y ≤ 1152921504606846976) (hll : l ≤ 1152921504606846976) (hcl : 1 ≤ c ∧ c ≤ 1152921504606846976) (hH : HasB w.heap.size w v bs) (hS : SpotAt w sb y l c) (hNo : ∀ u v, w.cell? ⟨sb, u, none⟩ = some v → v.ownBlock = none)
    (hn₀ : n₀ ≤ sb) (hT : Lib.Utf8Tabs (Tryd.lays32_ren.g 2) (Tryd.lays32_ren.g 3) w) (hg : Tryd.lays32_ren.g 2 < n₀ ∧ Tryd.lays32_ren.g 3 < n₀) :
    Calls Tryd.prog 45 #[.pointer (some ⟨sb, 0, none⟩), v] w fun e W' => ∃ u, e = .returned u ∧ W'.ownsRow w.heap.size 62 4 u (readN y l c (toks bs)).out.length ((readN y l c (toks bs)).out.flatMap cvs) ∧
      SpotK w W' sb ((y + bs.length : Nat) : Int) ((readN y l c (toks bs)).l : Int) ((readN y l c (toks bs)).c : Int) ∧ w.grownBy W' (some sb) := by
  refine (callsIn_wide (n := 5)).1 ?_
  obtain ⟨i0, hi, hz0, hz1, hz2⟩ := info_parts infoCell
  have HT : Hid (Lib.Utf8Tabs (Tryd.lays32_ren.g 2) (Tryd.lays32_ren.g 3) w) := hT
  have hsl := hS.lt
  have hslv : ∃ a cap, v = .slice a bs.length cap := by
    rcases hH with ⟨rfl, a, cap, rfl⟩ | ⟨_, b, off, cap, rfl, _⟩
    · exact ⟨a, cap, rfl⟩
    · exact ⟨_, cap, rfl⟩
  have HH : Hid (HasB w.heap.size w v bs) := hH
  have HS : Hid (SpotAt w sb y l c) := hS
  obtain ⟨av, capv, rfl⟩ := hslv
  clear hH hT hS
  refine callsIn_of_wp_marks Tryd.func45 rfl trivial ?_ rfl
  simp only [Tryd.ntmps45, List.size_toArray, List.length_cons, List.length_nil, Nat.reduceAdd, Nat.reduceSub, Array.replicate_succ, Array.replicate_zero, List.push_toArray, List.append_toArray, List.nil_append, List.cons_append]
  gi_wp2_with fail
  refine ⟨trivial, (cells_in _ _ _ _ _ _).mono ?_⟩
  rintro e w3 ⟨rfl, hw3⟩
  have bO : Boxed w3 w.heap.size 53 (.slice none 0 0) := by rw [hw3]; exact ((Boxed.new w _ _).alloc _).alloc _
  have cP : w3.cell? ⟨w.heap.size + 1, 0, none⟩ = some (.pointer (some ⟨sb, 0, none⟩)) := by
    have := (Boxed.new (w.alloc (.cells #[.slice none 0 0] 53)) 94 (.pointer (some ⟨sb, 0, none⟩))).alloc (.cells #[.slice av bs.length capv] 22)
    rw [World.size_alloc] at this
    rw [hw3]; exact this.cell
  have cB : w3.cell? ⟨w.heap.size + 1 + 1, 0, none⟩ = some (.slice av bs.length capv) := by
    have := Boxed.new ((w.alloc (.cells #[.slice none 0 0] 53)).alloc (.cells #[.pointer (some ⟨sb, 0, none⟩)] 94)) 22 (.slice av bs.length capv)
    rw [World.size_alloc, World.size_alloc] at this
    rw [hw3]; exact this.cell
  have hz3 : w3.heap.size = w.heap.size + 3 := by rw [hw3]; simp
  have hB3 : Below w.heap.size w w3 := by rw [hw3]; exact (((Below.refl _ w).alloc (Nat.le_refl _) _).alloc (by simp) _).alloc (by simp; omega) _
  clear hw3
  gi_wp2_with fail
  have sK : SpotK w w3 sb y l c := SpotK.same ⟨HS.out, fun _ _ => rfl, fun cs _ h => ⟨cs, h, rfl⟩⟩ (hB3.block sb hsl)
  have noRow : ∀ k, ¬ rowG [w.heap.size] w3 k := by
    rintro k hk
    obtain ⟨B, hBm, x, hx, e⟩ := (rowG_boxed bO).1 hk
    obtain rfl : B = w.heap.size := by simpa using hBm
    rw [bO.cell] at hx; cases hx; cases e
  have free3 : ∀ k, k ≠ w.heap.size → Free [w.heap.size] w3 k := fun k hk => ⟨by simpa using hk, noRow k⟩
  have hBx3 : ∀ B ∈ [w.heap.size], n₀ ≤ B ∧ B < w3.heap.size := fun B hBm => by
    obtain rfl : B = w.heap.size := by simpa using hBm
    omega
  have hseq := cells_stops 4 (by omega) (w.heap.size + 1) (w.heap.size + 1 + 1) sb n₀ (.slice av bs.length capv) bs [w.heap.size] y l c w3 (by omega) hy hll hcl
    ((HH.out.below hB3).mono0 (by omega)) cP cB sK.at_ (sK.noslice hNo) (free3 _ (by omega)) (free3 _ (by omega)) (free3 _ (by omega)) (by omega) (by omega) hn₀ hBx3 (fun k hk => absurd hk (noRow k)) (tabs_below HT.out hB3) hg
  have hBB := holds_bears (β := List Cl) sb w.heap.size w3.heap.size w.heap.size 62 53 4 (fun pre => pre.length) (fun pre => (pre.map Cl.n).flatMap cvs) hsl (by omega) hsl (by decide)
  refine wpIn_rangeFunc_turns rfl (by omega) (gf := 63) (lb := #[.pointer (some ⟨w.heap.size + 1, 0, none⟩), .pointer (some ⟨w.heap.size + 1 + 1, 0, none⟩)]) rfl trivial (enters_of Tryd.func63 (by kernel_rfl) rfl)
    hseq (fun o ho => .inl ho) (fun r hr => by have e : r = sb := hr; omega) KprG.trans (KprG.book (by omega) (fun B hBm => (hBx3 B hBm).2))
    (fun xs W l o o' hlt hlk hoc ⟨ts, h1, h2, h3⟩ => ⟨ts, h1, h2, h3.same (World.putObj_heap_other (by omega))⟩)
    (Below.refl _ _) (fun _ => rfl)
    (fun (pre : List Cl) W => (∃ v, Boxed W w.heap.size 53 v ∧ W.ownsRow w.heap.size 62 4 v pre.length ((pre.map Cl.n).flatMap cvs)) ∧ w.grownBy W (some sb) ∧ w3.heap.size ≤ W.heap.size)
    (fun _ _ _ => False)
    (Bears.and hBB (Bears.and (grown_bears sb _ w (by omega)) (fun s A A' hs ⟨row, hg, _⟩ => Nat.le_trans hs hg.size)))
    (fun _ => Bears.pure _)
    ⟨⟨_, bO, World.ownsRow_nil _ _ _ _⟩, ⟨hB3.os, hB3.tape, hB3.output, hB3.size, fun k hk _ => hB3.block k hk⟩, Nat.le_refl _⟩
    (fun x a' W => ∃ Bx, w3.heap.size ≤ Bx ∧ W.heap[Bx]? = some (.cells #[.int .i32 (x.r : Int), .int .i64 (x.y : Int), .int .i64 (x.l : Int), .int .i64 (x.c : Int)] 62 (0, 0)) ∧ a' = { tmps := #[.pointer (some ⟨sb, 0, none⟩), .slice av bs.length capv, undef, undef, .slice none 0 0, .pointer (some ⟨w.heap.size, 0, none⟩), .pointer (some ⟨Bx, 0, none⟩), .pointer (some ⟨sb, 0, none⟩), .slice av bs.length capv, .func (.func 63) #[] #[.pointer (some ⟨w.heap.size + 1, 0, none⟩), .pointer (some ⟨w.heap.size + 1 + 1, 0, none⟩)], .agg #[.int .i32 (x.r : Int), .int .i64 (x.y : Int), .int .i64 (x.l : Int), .int .i64 (x.c : Int)], undef, undef, undef, undef, undef], defers := [] })
    (fun x a' W l o o' hlt hlk hoc ⟨Bx, h1, h2, h3⟩ => ⟨Bx, h1, (World.putObj_heap_other (by rintro rfl; rw [h2] at hlk; cases hlk; cases hoc)).trans h2, h3⟩)
    ?assign ?body ?done ?stop
  case assign =>
    rintro l pre x W K ⟨hi, hB, hzW⟩ hK
    unfold encC
    gi_wp2
    have hBa := (Below.refl W.heap.size W).alloc (Nat.le_refl _) (.cells #[.int .i32 (x.r : Int), .int .i64 (x.y : Int), .int .i64 (x.l : Int), .int .i64 (x.c : Int)] 62)
    exact hK _ _ ((KeepsOthers.alloc _ _).from _) (KprG.below hBa (by omega) (fun B hBm => by have := (hBx3 B hBm).2; omega)) ⟨hBB _ _ _ hi (Step.alloc _ _), grown_bears (β := Unit) sb w3.heap.size w (by omega) () _ _ hB (Step.alloc _ _), by simp; omega⟩ ⟨W.heap.size, hzW, World.alloc_heap_new _ _, rfl⟩
  case body =>
    rintro l pre x a' W ⟨⟨v, hv, hrow⟩, hB, hzW⟩ ⟨Bx, hBx', hcx, rfl⟩ hlt
    have c0 : W.cell? ⟨Bx, 0, none⟩ = some (.int .i32 (x.r : Int)) := by simp [World.cell?, hcx]
    have c1 : W.cell? ⟨Bx, 1, none⟩ = some (.int .i64 (x.y : Int)) := by simp [World.cell?, hcx]
    have c2 : W.cell? ⟨Bx, 2, none⟩ = some (.int .i64 (x.l : Int)) := by simp [World.cell?, hcx]
    have c3 : W.cell? ⟨Bx, 3, none⟩ = some (.int .i64 (x.c : Int)) := by simp [World.cell?, hcx]
    have hc := hv.cell
    clear hcx
    gi_wp2_with (gi_at_builtin; refine wpListIn_append_own_at _ rfl _ _ 53 rfl w.heap.size 62 i0 (.agg #[.int .i32 0, .int .i64 0, .int .i64 0, .int .i64 0]) 4 32 Tryd.underlying53 hi hz0 hz1 hz2 rfl (by decide) _ _ _ rfl (hrow.alloc _) ⟨W.heap.size, 0, none⟩ 1 1 [.int .i32 (x.r : Int), .int .i64 (x.y : Int), .int .i64 (x.l : Int), .int .i64 (x.c : Int)] rfl rfl (cell_four _ _ _ _ _ _) (fun u hu => by simp at hu; rcases hu with rfl | rfl | rfl | rfl <;> rfl) (by unfold maxLen; omega) (by omega) (by simp; omega) ?_; intro v' w1 hown' hgrow _ hob; obtain ⟨g', cap', rfl⟩ := ownsRow_succ hown'; have hkp := kprG_appended hv (by decide) hrow (by omega) (Nat.le_refl _) hown' hgrow hob; obtain ⟨hv1, hv2, hr2, hk2, hb2⟩ := hv.appended (by decide) hrow (by omega) (Nat.le_refl _) hown' hgrow; have hc1 := hv1.cell; have hf1 := hv1.frozen)
    have hz' := hb2.size
    refine ⟨hk2.from _, hkp.lower (by omega), ⟨_, hv2, ?_⟩, ⟨hb2.os.trans hB.os, hb2.tape.trans hB.tape, hb2.output.trans hB.output, by have := hB.size; omega, fun k hk hne => (hb2.block k hk).trans (hB.block k hk hne)⟩, by omega⟩
    rw [List.length_append, List.map_append, List.flatMap_append]
    exact hr2
  case done =>
    rintro D ys W hD ⟨ts, h1, h2, h3⟩ ⟨⟨v, hv, hrow⟩, hB, hzW⟩ hK
    have hout : ys.map Cl.n = (readN y l c (toks bs)).out := by rw [h2]; exact readT_cells h1
    have hlen : ys.length = (readN y l c (toks bs)).out.length := by rw [← hout]; simp
    obtain ⟨hl1, hc1⟩ := readT_l (y := y) (l := l) (c := c) h1
    rw [hl1, hc1] at h3
    rw [hout, hlen] at hrow
    have H3 : Hid (SpotK w3 W sb ((y + bs.length : Nat) : Int) ((readN y l c (toks bs)).l : Int) ((readN y l c (toks bs)).c : Int)) := h3
    have hc := hv.cell
    clear h1 h2 h3 hl1 hc1 hout hlen
    gi_wp2
    refine ⟨by simp, .inl ⟨_, _, rfl, run_takeDeferred hK, ?_⟩⟩
    refine ⟨_, results_tmp rfl _ _ _, v, rfl, ownsRow_putObj hrow (.deferred none) hK rfl, ?_, ⟨hB.os, hB.tape, hB.output, by have := hB.size; simp [World.putObj]; omega, fun k hk hne => (World.putObj_heap_other (by omega)).trans (hB.block k hk hne)⟩⟩
    refine SpotK.same (W := W) ⟨H3.out.at_, fun u hu => (H3.out.rest u hu).trans (cell_of_block (hB3.block sb hsl)), fun cs t h => H3.out.blk cs t ((hB3.block sb hsl).trans h)⟩ (World.putObj_heap_other (by omega))
  case stop =>
    rintro D cd pre W _ _ h _
    exact h.elim

theorem spot_new {w : World} {sb : Nat} (h : w.heap[sb]? = some (.cells #[.int .i64 0, .int .i64 1, .int .i64 1] 79 (0, 0))) : SpotAt w sb ((0 : Nat) : Int) ((1 : Nat) : Int) ((1 : Nat) : Int) ∧ ∀ u v, w.cell? ⟨sb, u, none⟩ = some v → v.ownBlock = none := by
  refine ⟨⟨by simp [World.cell?, h], by simp [World.cell?, h], by simp [World.cell?, h], fun k => by simp [World.frozen?, h]⟩, fun u v' hv' => ?_⟩
  simp only [World.cell?, h] at hv'
  match u, hv' with
  | 0, hv' => simp at hv'; rw [← hv']; rfl
  | 1, hv' => simp at hv'; rw [← hv']; rfl
  | 2, hv' => simp at hv'; rw [← hv']; rfl
  | u + 3, hv' => simp at hv'

set_option maxRecDepth 100000 in
set_option maxHeartbeats 1000000 in
/-- **input.Read of any bytes.** -/
theorem Read_calls (v : Value) (bs : List UInt8) (w : World) (hl : bs.length ≤ 2199023255552) (hH : HasB w.heap.size w v bs) (hT : Lib.Utf8Tabs (Tryd.lays32_ren.g 2) (Tryd.lays32_ren.g 3) w) :
    Calls Tryd.prog 48 #[v] w fun e W' => ∃ u, e = .returned u ∧ W'.ownsRow w.heap.size 62 4 u (cellsOf bs).length ((cellsOf bs).flatMap cvs) ∧ Below w.heap.size w W' := by
  have HT : Hid (Lib.Utf8Tabs (Tryd.lays32_ren.g 2) (Tryd.lays32_ren.g 3) w) := hT
  have HH : Hid (HasB w.heap.size w v bs) := hH
  have hg2 : Hid (Tryd.lays32_ren.g 2 < w.heap.size ∧ Tryd.lays32_ren.g 3 < w.heap.size) := ⟨cell_lt (hT.1 0 (by omega)), cell_lt (hT.2 0 (by omega)).1⟩
  clear hH hT
  go_enter Tryd.func48, Tryd.ntmps48
  go_wp2_with (go_at_call 41; refine (beginning_calls _).mono ?_; rintro e w1 ⟨rfl, hb1⟩)
  have s1 := hb1.size
  have hba := (Below.refl w1.heap.size w1).alloc (Nat.le_refl _) (.cells #[.int .i64 0, .int .i64 1, .int .i64 1] 79)
  obtain ⟨hsp, hno⟩ := spot_new (World.alloc_heap_new w1 (.cells #[.int .i64 0, .int .i64 1, .int .i64 1] 79))
  have hw2 : Below w.heap.size w (w1.alloc (.cells #[.int .i64 0, .int .i64 1, .int .i64 1] 79)) := hb1.trans (hba.mono s1)
  refine (read_calls w1.heap.size w.heap.size 0 1 1 v bs _ hl (by omega) (by omega) (by omega) ((HH.out.below hw2).mono0 hw2.size) hsp hno s1 (tabs_below HT.out hw2) hg2.out).mono ?_
  rintro e w3 ⟨u, rfl, hown, _, hgr⟩
  have hown' : w3.ownsRow w.heap.size 62 4 u (cellsOf bs).length ((cellsOf bs).flatMap cvs) := ⟨hown.1, hown.2.imp id (fun ⟨g, cap, cur, e1, e2, e3⟩ => ⟨g, cap, cur, e1, by simp at e2; omega, e3⟩)⟩
  have HO : Hid (w3.ownsRow w.heap.size 62 4 u (cellsOf bs).length ((cellsOf bs).flatMap cvs)) := hown'
  clear hown hown'
  go_wp2
  go_ret
  exact ⟨_, rfl, HO.out, hw2.grown hgr hw2.size (fun k hk => by cases hk; exact s1)⟩

end Go.Proofs.YtjhoaepokkaoeaaDoor.U
