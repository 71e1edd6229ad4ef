/- What is proved here: what a loop over the cells of bytes (package input's spot.cells) is told, for any bytes, and where it leaves the spot. -/
import Derived.Test.YtjhoaepokkaoeaaDoorIterG
import Derived.Test.YtjhoaepokkaoeaaDoorISpot
import Derived.Test.YtjhoaepokkaoeaaDoorCloneOwn
import Derived.Test.YtjhoaepokkaoeaaDoorIMade
namespace Go.Proofs.YtjhoaepokkaoeaaDoor.U
open Go.RowKit Go.Shelf
attribute [local go_sem] Oper.semAt_some

/-- Where no depth is asked the figures are all one; and a round is a round in any fence's round. -/
theorem YieldAt.deep {m : Nat} (m' : Nat) {P : Program} {l : Nat} {args : Array Value} {W : World} {R : Ending → World → Prop} (h : YieldAt Fence.wide m P l args W R) (l' : Nat) : YieldAt (Fence.wide.inRound l') m' P l args W R := by
  obtain ⟨fn, tmps, assign, body, hy, hR⟩ := h
  exact ⟨fn, tmps, assign, body, hy, hR.1, fun c cs _ => hR.2 c cs (fun d h => by cases h)⟩

def encC (c : Cl) : Array Value := #[.agg #[.int .i32 (c.r : Int), .int .i64 (c.y : Int), .int .i64 (c.l : Int), .int .i64 (c.c : Int)]]
def ownS (sb : Nat) (r : Nat) : Prop := r = sb
def fineC (o : Obj) : Prop := o.isCells = false ∨ ∃ cs fz, o = .cells cs 21 fz

/-- The spot as it is, and what else its block holds as it was. -/
structure SpotK (w0 W : World) (sb : Nat) (y l c : Int) : Prop where
  at_ : SpotAt W sb y l c
  rest : ∀ u, 3 ≤ u → W.cell? ⟨sb, u, none⟩ = w0.cell? ⟨sb, u, none⟩
  blk : ∀ (cs : Array Value) (t : TypeId), w0.heap[sb]? = some (.cells cs t (0, 0)) → ∃ cs' : Array Value, W.heap[sb]? = some (.cells cs' t (0, 0)) ∧ cs'.size = cs.size
theorem blk_set {W : World} {sb j : Nat} {v : Value} {t : TypeId} {n : Nat} (h : ∃ cs' : Array Value, W.heap[sb]? = some (.cells cs' t (0, 0)) ∧ cs'.size = n) : ∃ cs' : Array Value, (W.setCell ⟨sb, j, none⟩ v).heap[sb]? = some (.cells cs' t (0, 0)) ∧ cs'.size = n := by
  obtain ⟨cs, h, hz⟩ := h
  refine ⟨cs.setIfInBounds j v, ?_, by simpa using hz⟩
  simp only [World.setCell, Array.getElem?_modify, h]; simp
theorem SpotK.noslice {w0 W : World} {sb : Nat} {y l c : Int} (h : SpotK w0 W sb y l c) (h0 : ∀ u v, w0.cell? ⟨sb, u, none⟩ = some v → v.ownBlock = none) : ∀ u v, W.cell? ⟨sb, u, none⟩ = some v → v.ownBlock = none := fun u v hv => by
  match u with
  | 0 => rw [h.at_.c0] at hv; cases hv; rfl
  | 1 => rw [h.at_.c1] at hv; cases hv; rfl
  | 2 => rw [h.at_.c2] at hv; cases hv; rfl
  | u + 3 => rw [h.rest (u + 3) (by omega)] at hv; exact h0 _ v hv
theorem SpotK.same {w0 W W' : World} {sb : Nat} {y l c : Int} (h : SpotK w0 W sb y l c) (hb : W'.heap[sb]? = W.heap[sb]?) : SpotK w0 W' sb y l c := by
  have hc : ∀ u, W'.cell? ⟨sb, u, none⟩ = W.cell? ⟨sb, u, none⟩ := fun u => cell_of_block hb
  refine ⟨⟨(hc 0).trans h.at_.c0, (hc 1).trans h.at_.c1, (hc 2).trans h.at_.c2, fun k => ?_⟩, fun u hu => (hc u).trans (h.rest u hu), fun cs t h0 => by rw [hb]; exact h.blk cs t h0⟩
  rw [← h.at_.fz k]; unfold World.frozen?; simp only [hb]
theorem SpotAt.lt {W : World} {sb : Nat} {y l c : Int} (h : SpotAt W sb y l c) : sb < W.heap.size := cell_lt h.c0
/-- Its three cells stored. -/
theorem SpotK.store {w0 W : World} {sb : Nat} {y l c : Int} (h : SpotK w0 W sb y l c) (y' : Int) : SpotK w0 (W.setCell ⟨sb, 0, none⟩ (.int .i64 y')) sb y' l c :=
  ⟨⟨cs_same h.at_.c0, (cs_other (by simp)).trans h.at_.c1, (cs_other (by simp)).trans h.at_.c2, fun k => by rw [World.frozen?_setCell]; exact h.at_.fz k⟩, fun u hu => (cs_other (by intro e; cases e; omega)).trans (h.rest u hu), fun cs t h0 => blk_set (h.blk cs t h0)⟩
theorem SpotK.pass {w0 W : World} {sb : Nat} {y l c : Int} (h : SpotK w0 W sb y l c) (r : Int) : SpotK w0 (passW W sb l c r) sb y (if r = 10 then l + 1 else l) (if r = 10 then 1 else c + 1) := by
  unfold passW
  split
  · refine ⟨⟨?_, ?_, ?_, fun k => by rw [World.frozen?_setCell, World.frozen?_setCell, World.frozen?_setCell]; exact h.at_.fz k⟩, fun u hu => ?_, fun cs t h0 => blk_set (blk_set (blk_set (h.blk cs t h0)))⟩
    · rw [cs_other (by simp), cs_other (by simp), cs_other (by simp)]; exact h.at_.c0
    · rw [cs_other (by simp)]; exact cs_same (u := .int .i64 l) (by rw [cs_other (by simp)]; exact h.at_.c1)
    · exact cs_same (u := .int .i64 (c + 1)) (by rw [cs_other (by simp)]; exact cs_same h.at_.c2)
    · rw [cs_other (by intro e; cases e; omega), cs_other (by intro e; cases e; omega), cs_other (by intro e; cases e; omega)]; exact h.rest u hu
  · refine ⟨⟨?_, ?_, ?_, fun k => by rw [World.frozen?_setCell]; exact h.at_.fz k⟩, fun u hu => ?_, fun cs t h0 => blk_set (h.blk cs t h0)⟩
    · rw [cs_other (by simp)]; exact h.at_.c0
    · rw [cs_other (by simp)]; exact h.at_.c1
    · exact cs_same h.at_.c2
    · rw [cs_other (by intro e; cases e; omega)]; exact h.rest u hu

/-- What a round keeps since the loop began is the loop's own to say. -/
theorem KprG.ownFrom {β : Type} {n₀ B : Nat} {bxs : List Nat} {W0 : World} (hn : n₀ ≤ W0.heap.size) (hB : W0.heap.size ≤ B) (hb : ∀ b ∈ bxs, b < W0.heap.size) : OwnFrom B (fun (_ : β) W => KprG n₀ bxs W0 W) := fun s A A' row hs hg hr => by
  have hne : ∀ k, k < B → some k ≠ row := fun k hk e => by have := (hr k e.symm).1; omega
  have hz := hs.1.size
  have hzz := hg.size
  refine ⟨ownFrom_below (β := Unit) hn (by omega) () A A' row hs.1 hg hr, fun k o hk hc h1 h2 => ?_, fun k hk => ?_⟩
  · have := hs.2.1 k o hk hc h1 h2
    have hlt := lt_of_block hk
    rw [hg.block k (lt_of_block this) (hne k (by omega))]; exact this
  · obtain ⟨b, hB', u, v, hv, e⟩ := hk
    have hlt := hb b hB'
    have : A'.cell? ⟨b, u, none⟩ = A.cell? ⟨b, u, none⟩ := cell_of_block (hg.block b (by omega) (hne b (by omega)))
    rcases hs.2.2 k ⟨b, hB', u, v, this ▸ hv, e⟩ with h | ⟨h, h'⟩
    · exact .inl h
    · exact .inr ⟨h, by omega⟩

theorem passW_block (W : World) (sb : Nat) (l c r : Int) (k : Nat) (h : k ≠ sb) : (passW W sb l c r).heap[k]? = W.heap[k]? := by
  unfold passW
  split
  · rw [Below.heap_setCell _ _ _ _ h, Below.heap_setCell _ _ _ _ h, Below.heap_setCell _ _ _ _ h]
  · rw [Below.heap_setCell _ _ _ _ h]
theorem passW_keeps (W : World) (sb : Nat) (l c r : Int) : KeepsOthers W (passW W sb l c r) := by
  unfold passW
  split
  · exact ((KeepsOthers.setCell _ _ _).trans (KeepsOthers.setCell _ _ _)).trans (KeepsOthers.setCell _ _ _)
  · exact KeepsOthers.setCell _ _ _
theorem passW_kpr {n₀ : Nat} {bxs : List Nat} (W : World) (sb : Nat) (l c r : Int) (hs : sb ∈ bxs) (hn : n₀ ≤ sb) : KprG n₀ bxs W (passW W sb l c r) := by
  unfold passW
  split
  · exact ((KprG.store hs hn rfl).trans (KprG.store hs hn rfl)).trans (KprG.store hs hn rfl)
  · exact KprG.store hs hn rfl
theorem passW_bears {β : Type} {fine : Obj → Prop} {B : Nat} {J : β → World → Prop} (sb : Nat) (hJ : Bears (ownS sb) fine B J) {s : β} {W : World} (l c r : Int) (h : J s W) : J s (passW W sb l c r) := by
  have o : ownS sb sb := rfl
  unfold passW
  split
  · exact hJ _ _ _ (hJ _ _ _ (hJ _ _ _ h (Step.own o _)) (Step.own o _)) (Step.own o _)
  · exact hJ _ _ _ h (Step.own o _)
theorem boxed_noslice {W : World} {B : Nat} {t : TypeId} {x : Value} (h : Boxed W B t x) (hx : x.ownBlock = none) : ∀ u v, W.cell? ⟨B, u, none⟩ = some v → v.ownBlock = none := fun u v hv => by
  rw [Boxed] at h
  simp only [World.cell?, h] at hv
  match u, hv with
  | 0, hv => simp at hv; rw [← hv]; exact hx
  | u + 1, hv => simp at hv

set_option maxRecDepth 100000 in
set_option maxHeartbeats 4000000 in
theorem cells_stops (n : Nat) (hn : 3 ≤ n) (Bp Bb sb n₀ : Nat) (v : Value) (bs : List UInt8) (obxs : List Nat) (y l c : Nat) (w : World) (hl : bs.length ≤ 140737488355328) (hy : y ≤ 1152921504606846976) (hll : l ≤ 1152921504606846976) (hcl : 1 ≤ c ∧ c ≤ 1152921504606846976)
    (hB : HasB w.heap.size w v bs) (cP : w.cell? ⟨Bp, 0, none⟩ = some (.pointer (some ⟨sb, 0, none⟩))) (cB : w.cell? ⟨Bb, 0, none⟩ = some v) (hS : SpotAt w sb y l c) (hNo : ∀ u v, w.cell? ⟨sb, u, none⟩ = some v → v.ownBlock = none)
    (fP : Free obxs w Bp) (fB : Free obxs w Bb) (fS : Free obxs w sb) (nP : Bp ≠ sb) (nB : Bb ≠ sb) (hn₀ : n₀ ≤ sb) (hBx : ∀ B ∈ obxs, n₀ ≤ B ∧ B < w.heap.size) (hrow : ∀ k, rowG obxs w k → k < w.heap.size)
    (hT : Lib.Utf8Tabs (Tryd.lays32_ren.g 2) (Tryd.lays32_ren.g 3) w) (hg : Tryd.lays32_ren.g 2 < n₀ ∧ Tryd.lays32_ren.g 3 < n₀) :
    SeqTurns Fence.wide n Tryd.prog 63 #[.pointer (some ⟨Bp, 0, none⟩), .pointer (some ⟨Bb, 0, none⟩)] encC (ownS sb) fineC (KprG n₀ obxs)
      (fun xs W' => ∃ ts : List Tok, ts.map Subtype.val = toks bs ∧ xs = (readT y l c ts).out ∧ SpotK w W' sb ((y + bs.length : Nat) : Int) ((readT y l c ts).l : Int) ((readT y l c ts).c : Int))
      (fun xs => ∃ ts : List Tok, ts.map Subtype.val <+: toks bs ∧ xs = (readT y l c ts).out) bs.length w := fun lo J Jx W hW hJ hJx hY h0 => by
  have HS : Hid (SpotAt w sb y l c) := hS
  have hsl := hS.lt
  have c0 := (hW.cell (p := ⟨sb, 0, none⟩) hsl).trans hS.c0
  have cP' := (hW.cell (p := ⟨Bp, 0, none⟩) (cell_lt cP)).trans cP
  have cB' := (hW.cell (p := ⟨Bb, 0, none⟩) (cell_lt cB)).trans cB
  have HH : Hid (HasB w.heap.size W v bs) := hB.below hW
  refine callsIn_of_wp_marks Tryd.func63 rfl trivial ?_ rfl
  simp only [Tryd.ntmps63, List.size_toArray, List.length_cons, List.length_nil, Nat.reduceAdd, Nat.reduceSub, Array.replicate_succ, Array.replicate_zero, List.push_toArray, List.append_toArray, List.nil_append, List.cons_append]
  have hlW := hW.size
  have al1 : ∀ b o1, b < w.heap.size → (W.alloc o1).cell? ⟨b, 0, none⟩ = W.cell? ⟨b, 0, none⟩ := fun b o1 hb => ((Below.refl _ W).alloc (Nat.le_refl _) o1).cell (p := ⟨b, 0, none⟩) (by simp; omega)
  have al3 : ∀ b o1 o2 o3, b < w.heap.size → (((W.alloc o1).alloc o2).alloc o3).cell? ⟨b, 0, none⟩ = W.cell? ⟨b, 0, none⟩ := fun b o1 o2 o3 hb => ((((Below.refl _ W).alloc (Nat.le_refl _) o1).alloc (by simp) o2).alloc (by simp; omega) o3).cell (p := ⟨b, 0, none⟩) (by simp; omega)
  have k1 := fun o1 => (al1 Bp o1 (cell_lt cP)).trans cP'
  have k2 := fun o1 => (al1 sb o1 hsl).trans c0
  have k3 := fun o1 o2 o3 => (al3 Bb o1 o2 o3 (cell_lt cB)).trans cB'
  gi_wp2_with fail
  obtain ⟨W1, hW1⟩ : ∃ W1, (((W.alloc (.cells #[.func (.yield lo) #[] #[]] 106)).alloc (.cells #[.int .i64 (y : Int)] 3)).alloc (.cells #[.int .i32 0] 21)) = W1 := ⟨_, rfl⟩
  have hB1 : Below W.heap.size W W1 := by rw [← hW1]; exact (((Below.refl _ W).alloc (Nat.le_refl _) _).alloc (by simp) _).alloc (by simp; omega) _
  have hz1 : W1.heap.size = W.heap.size + 3 := by rw [← hW1]; simp
  have x0 : Boxed W1 W.heap.size 106 (.func (.yield lo) #[] #[]) := by rw [← hW1]; exact ((Boxed.new W _ _).alloc _).alloc _
  have x1 : Boxed W1 (W.heap.size + 1) 3 (.int .i64 (y : Int)) := by rw [← hW1]; have := Boxed.new (W.alloc (.cells #[.func (.yield lo) #[] #[]] 106)) 3 (.int .i64 (y : Int)); rw [World.size_alloc] at this; exact this.alloc _
  have x2 : Boxed W1 (W.heap.size + 1 + 1) 21 (.int .i32 0) := by rw [← hW1]; have := Boxed.new ((W.alloc (.cells #[.func (.yield lo) #[] #[]] 106)).alloc (.cells #[.int .i64 (y : Int)] 3)) 21 (.int .i32 0); rw [World.size_alloc, World.size_alloc] at this; exact this
  rw [hW1]
  refine ⟨trivial, fun _ => by omega, (callsIn_wide.2 (allO_calls v bs w.heap.size _ hl (HH.out.below (hB1.mono hlW)))).mono ?_⟩
  rintro e W2 ⟨Bs, u, rfl, cBs, hBs, hown, hb2⟩
  gi_wp2_with fail
  have hz2 := hb2.size
  have hB2 : Below W.heap.size W W2 := hB1.trans (hb2.mono (by omega))
  have hw2 : Below w.heap.size w W2 := hW.trans (hB2.mono hlW)
  have y0 : Boxed W2 W.heap.size 106 (.func (.yield lo) #[] #[]) := (hb2.block _ (by omega)).trans x0
  have y1 : Boxed W2 (W.heap.size + 1) 3 (.int .i64 (y : Int)) := (hb2.block _ (by omega)).trans x1
  have y2 : Boxed W2 (W.heap.size + 1 + 1) 21 (.int .i32 0) := (hb2.block _ (by omega)).trans x2
  have sK : SpotK w W2 sb y l c := SpotK.same ⟨HS.out, fun _ _ => rfl, fun cs _ h => ⟨cs, h, rfl⟩⟩ (hw2.block sb hsl)
  have p2 := (hw2.cell (p := ⟨Bp, 0, none⟩) (cell_lt cP)).trans cP
  have q2 := (hw2.cell (p := ⟨Bb, 0, none⟩) (cell_lt cB)).trans cB
  have hrow2 : ∀ k, rowG ([W.heap.size + 1 + 1, sb] ++ obxs) W2 k → rowG obxs w k := by
    rintro k ⟨B, hBm, o, v', hv', e⟩
    simp only [List.cons_append, List.nil_append, List.mem_cons] at hBm
    rcases hBm with rfl | rfl | hBm
    · have : v' = .int .i32 0 := by
        rw [Boxed] at y2
        simp only [World.cell?, y2] at hv'
        match o, hv' with
        | 0, hv' => simpa using hv'.symm
        | o + 1, hv' => simp at hv'
      rw [this] at e; cases e
    · rw [sK.noslice hNo o v' hv'] at e; cases e
    · exact ⟨B, hBm, o, v', by rw [← hv']; exact (hw2.cell (p := ⟨B, o, none⟩) (hBx B hBm).2).symm, e⟩
  have hBx2 : ∀ B ∈ [W.heap.size + 1 + 1, sb] ++ obxs, n₀ ≤ B ∧ B < W2.heap.size := by
    intro B hBm
    simp only [List.cons_append, List.nil_append, List.mem_cons] at hBm
    rcases hBm with rfl | rfl | hBm
    · omega
    · omega
    · have := hBx B hBm; omega
  have free2 : ∀ k, k ≠ W.heap.size + 1 + 1 → k ≠ sb → Free obxs w k → Free ([W.heap.size + 1 + 1, sb] ++ obxs) W2 k := fun k h1 h2 hf => ⟨by simp only [List.cons_append, List.nil_append, List.mem_cons]; rintro (h | h | h); exact h1 h; exact h2 h; exact hf.1 h, fun hr => hf.2 (hrow2 k hr)⟩
  have freeN : ∀ k, w.heap.size ≤ k → Free obxs w k := fun k hk => ⟨fun hm => by have := hBx k hm; omega, fun hr => by have := hrow k hr; omega⟩
  have fP2 := free2 Bp (by have := cell_lt cP; simp only at this; omega) nP fP
  have fB2 := free2 Bb (by have := cell_lt cB; simp only at this; omega) nB fB
  have fZ0 := free2 W.heap.size (by omega) (by omega) (freeN _ (by omega))
  have fZ1 := free2 (W.heap.size + 1) (by omega) (by omega) (freeN _ (by omega))
  have hwalk : WalkAny Bs bs ([W.heap.size + 1 + 1, sb] ++ obxs) W2 := by
    rcases hown.2 with ⟨rfl, hz⟩ | ⟨g, cap, cur, rfl, hgb, hgk, hcap, _, _, _⟩
    · exact .inl ⟨List.length_eq_zero_iff.1 hz, none, 0, cBs⟩
    · by_cases h00 : bs.length = 0
      · have e0 := List.length_eq_zero_iff.1 h00
        subst e0
        exact .inl ⟨rfl, _, _, cBs⟩
      · exact .inr ⟨by omega, g, 0, cap, hcap, cBs, fun j hj => by rw [Nat.zero_add, hown.cellAt j (by omega), bvs_get bs j hj], free2 Bs (by omega) (by omega) (freeN _ (by omega)), free2 g (by omega) (by omega) (freeN _ (by omega)), fun B hBm => (hBx2 B hBm).2, fun k hk => by have := hrow k (hrow2 k hk); omega⟩
  have hT2 := tabs_below hT hw2
  have hzW : W.heap.size + 3 ≤ W2.heap.size := by omega
  clear hW1 x0 x1 x2 k1 k2 k3 al1 al3 hb2 hB1 hz1 hown
  refine wpIn_rangeFunc_ownG rfl (by omega) (gf := 53) (lb := #[.pointer (some ⟨Bs, 0, none⟩)]) rfl trivial (enters_of Tryd.func53 (by kernel_rfl) rfl)
    (walkG_stops _ (by omega) Bs n₀ bs ([W.heap.size + 1 + 1, sb] ++ obxs) W2 hl hwalk (by omega) hT2 hg)
    KprG.trans (KprG.book (by omega) (fun B hBm => (hBx2 B hBm).2)) (Below.refl _ _) (fun _ => rfl)
    (fun (pre : List Tok) W' => J (readT y l c pre).out W' ∧ Boxed W' (W.heap.size + 1 + 1) 21 (.int .i32 ((readT y l c pre).last : Int)) ∧ SpotK w W' sb ((readT y l c pre).y : Int) ((readT y l c pre).l : Int) ((readT y l c pre).c : Int) ∧ KprG n₀ ([W.heap.size + 1 + 1, sb] ++ obxs) W2 W')
    (fun cd (pre : List Tok) W' => cd = .ret ∧ Jx (readT y l c pre).out W')
    (OwnFrom.and (fun s A A' row hs hgr hr => hJ _ A A' hs ⟨row, hgr, fun r e => .inr ⟨by have := (hr r e).1; omega, (hr r e).2.imp fun o ho => ⟨ho.1, .inl ho.2⟩⟩⟩) (OwnFrom.and (Own.from (boxed_own _ _ _) _) (OwnFrom.and (fun s A A' row hs hgr hr => hs.same (hgr.block sb hs.at_.lt (fun e => by have := (hr sb e.symm).1; omega))) (KprG.ownFrom (by omega) (Nat.le_refl _) (fun B hBm => (hBx2 B hBm).2)))))
    (fun cd s A A' row hs hgr hr => ⟨hs.1, hJx _ A A' hs.2 ⟨row, hgr, fun r e => .inr ⟨by have := (hr r e).1; omega, (hr r e).2.imp fun o ho => ⟨ho.1, .inl ho.2⟩⟩⟩⟩)
    ⟨hJ _ _ _ h0 (Step.grown hB2), y2, sK, KprG.refl _ _ _⟩
    ?a1 ?assign ?body ?done ?stop
  case assign =>
    intro l x W K hK
    gi_wp2
    exact hK
  case body =>
    rintro lr pre x Wr ⟨hj, hbl, hsp, hkp⟩ hlt
    obtain ⟨st, hst⟩ : ∃ st, readT y l c pre = st := ⟨_, rfl⟩
    have hsn : Hid (readT y l c (pre ++ [x]) = stepT y st x) := by show _ = _; rw [readT_snoc, hst]
    obtain ⟨bl, bc, bo⟩ := readT_bounds y l c pre hcl.1
    rw [hst] at hj hbl hsp bl bc bo
    have cl := hbl.cell
    have fl := hbl.frozen
    have cPr := hkp.cell p2 fP2
    have cZ0 := hkp.cell y0.cell fZ0
    have cZ1 := hkp.cell y1.cell fZ1
    obtain ⟨⟨s0, s1, s2, sf⟩, sr, sk⟩ := hsp
    have HK : Hid (∀ (cs : Array Value) (t : TypeId), w.heap[sb]? = some (.cells cs t (0, 0)) → ∃ cs' : Array Value, Wr.heap[sb]? = some (.cells cs' t (0, 0)) ∧ cs'.size = cs.size) := sk
    clear sk
    have sf0 := sf 0
    obtain ⟨⟨x1, x2⟩, hx1, hx2⟩ := x
    simp only at hx1 hx2
    by_cases hjn : st.last = 13 ∧ x2 = 10
    · obtain ⟨e1, e2⟩ := hjn
      subst e2
      rw [e1] at cl
      have hst2 : stepT y st ⟨(x1, 10), hx1, hx2⟩ = { st with last := 10 } := by unfold stepT; rw [if_pos (by unfold joined; simp [e1])]
      have hb3 := hbl.set (.int .i32 10)
      gi_wp2
      refine ⟨(KeepsOthers.setCell _ _ _).from _, KprG.store (by simp) (by simp; omega) rfl, ?_⟩
      dsimp only
      rw [hsn.out, hst2]
      exact ⟨hJ _ _ _ hj (Step.fine (by omega) hbl (.inr ⟨_, _, rfl⟩) _), hb3, SpotK.same ⟨⟨s0, s1, s2, sf⟩, sr, HK.out⟩ (Below.heap_setCell _ _ _ _ (by show sb ≠ W.heap.size + 1 + 1; omega)), hkp.trans (KprG.store (by simp) (by simp; omega) rfl)⟩
    · have nPZ : Bp ≠ W.heap.size + 1 + 1 := by have := cell_lt cP; simp only at this; omega
      have a1 : ∀ u, (Wr.setCell ⟨W.heap.size + 1 + 1, 0, none⟩ u).cell? ⟨Bp, 0, none⟩ = some (.pointer (some ⟨sb, 0, none⟩)) := fun u => (cs_other (by intro e; cases e; omega)).trans cPr
      have a2 : ∀ u, (Wr.setCell ⟨W.heap.size + 1 + 1, 0, none⟩ u).cell? ⟨W.heap.size + 1, 0, none⟩ = some (.int .i64 (y : Int)) := fun u => (cs_other (by simp)).trans cZ1
      have spl : SpotK w (Wr.setCell ⟨W.heap.size + 1 + 1, 0, none⟩ (.int .i32 (x2 : Int))) sb st.y st.l st.c := SpotK.same ⟨⟨s0, s1, s2, sf⟩, sr, HK.out⟩ (Below.heap_setCell _ _ _ _ (by show sb ≠ W.heap.size + 1 + 1; omega))
      have a3 := spl.at_.c0
      have a4 := spl.at_.fz 0
      obtain ⟨Wa, hWa⟩ : ∃ Wa, (Wr.setCell ⟨W.heap.size + 1 + 1, 0, none⟩ (.int .i32 (x2 : Int))).setCell ⟨sb, 0, none⟩ (.int .i64 ((y : Int) + (x1 : Int))) = Wa := ⟨_, rfl⟩
      have spa : SpotK w Wa sb ((y : Int) + (x1 : Int)) st.l st.c := by rw [← hWa]; exact spl.store _
      have ja : J st.out Wa := by rw [← hWa]; exact hJ _ _ _ (hJ _ _ _ hj (Step.fine (by omega) hbl (.inr ⟨_, _, rfl⟩) _)) (Step.own (show ownS sb sb from rfl) _)
      have bla : Boxed Wa (W.heap.size + 1 + 1) 21 (.int .i32 (x2 : Int)) := by rw [← hWa]; exact (hbl.set _).other (by omega) _
      have kpa : KprG n₀ ([W.heap.size + 1 + 1, sb] ++ obxs) Wr Wa := by rw [← hWa]; exact (KprG.store (by simp) (by simp; omega) rfl).trans (KprG.store (by simp) (by simp; omega) rfl)
      have koa : KeepsOthers Wr Wa := by rw [← hWa]; exact (KeepsOthers.setCell _ _ _).trans (KeepsOthers.setCell _ _ _)
      have cPa := (hkp.trans kpa).cell p2 fP2
      have cZa := (hkp.trans kpa).cell y0.cell fZ0
      obtain ⟨Wc, hWc⟩ : ∃ Wc, Wa.drew.alloc (.cells #[.int .i32 (plainZ x2), .int .i64 ((y : Int) + (x1 : Int)), .int .i64 (st.l : Int), .int .i64 (st.c : Int)] 62) = Wc := ⟨_, rfl⟩
      have hbc : Below Wa.heap.size Wa Wc := by rw [← hWc]; exact (Below.refl Wa.heap.size Wa).drew.alloc (Nat.le_refl _) _
      have SPC : Hid (SpotK w Wc sb ((y : Int) + (x1 : Int)) st.l st.c) := spa.same (hbc.block sb spa.at_.lt)
      have cPc := (hbc.cell (p := ⟨Bp, 0, none⟩) (cell_lt cPa)).trans cPa
      have cZc := (hbc.cell (p := ⟨W.heap.size, 0, none⟩) (cell_lt cZa)).trans cZa
      have hcc : Wc.heap[Wa.heap.size]? = some (.cells #[.int .i32 (plainZ x2), .int .i64 ((y : Int) + (x1 : Int)), .int .i64 (st.l : Int), .int .i64 (st.c : Int)] 62 (0, 0)) := by rw [← hWc]; exact World.alloc_heap_new Wa.drew _
      have e0 : Wc.cell? ⟨Wa.heap.size, 0, none⟩ = some (.int .i32 (plainZ x2)) := by simp [World.cell?, hcc]
      have e1 : Wc.cell? ⟨Wa.heap.size, 1, none⟩ = some (.int .i64 ((y : Int) + (x1 : Int))) := by simp [World.cell?, hcc]
      have e2 : Wc.cell? ⟨Wa.heap.size, 2, none⟩ = some (.int .i64 (st.l : Int)) := by simp [World.cell?, hcc]
      have e3 : Wc.cell? ⟨Wa.heap.size, 3, none⟩ = some (.int .i64 (st.c : Int)) := by simp [World.cell?, hcc]
      have d0 := spa.at_.c0
      have d1 := spa.at_.c1
      have d2 := spa.at_.c2
      have sla := spa.at_.lt
      have g1 : ∀ b k o, b < Wa.heap.size → (Wa.alloc o).cell? ⟨b, k, none⟩ = Wa.cell? ⟨b, k, none⟩ := fun b k o hb => ((Below.refl Wa.heap.size Wa).alloc (Nat.le_refl _) o).cell (p := ⟨b, k, none⟩) hb
      have i0 := fun o => (g1 sb 0 o sla).trans d0
      have i1 := fun o => (g1 sb 1 o sla).trans d1
      have i2 := fun o => (g1 sb 2 o sla).trans d2
      have i3 := fun o => (g1 Bp 0 o (cell_lt cPa)).trans cPa
      have mixed : Tryd.prog.follows .mixedOrders = true := by kernel_rfl
      obtain ⟨Wp, hWp⟩ : ∃ Wp, passW Wc sb st.l st.c (plainZ x2) = Wp := ⟨_, rfl⟩
      have SPP : Hid (SpotK w Wp sb ((y : Int) + (x1 : Int)) (if plainZ x2 = 10 then (st.l : Int) + 1 else st.l) (if plainZ x2 = 10 then 1 else (st.c : Int) + 1)) := by rw [← hWp]; exact SPC.out.pass _
      have jp : J st.out Wp := by rw [← hWp]; exact passW_bears sb hJ _ _ _ (hJ _ _ _ ja (Step.grown hbc))
      have kwp : KprG n₀ ([W.heap.size + 1 + 1, sb] ++ obxs) Wr Wp := by
        rw [← hWp]
        exact (kpa.trans (KprG.below hbc (by have := spa.at_.lt; omega) (fun B hBm => by have := (hBx2 B hBm).2; have := (hkp.trans kpa).1.size; omega))).trans (passW_kpr _ _ _ _ _ (by simp) hn₀)
      have kop : KeepsOthers Wr Wp := by rw [← hWp, ← hWc]; exact ((koa.trans (KeepsOthers.drew _)).trans (KeepsOthers.alloc _ _)).trans (passW_keeps _ _ _ _ _)
      have hk2p := hkp.trans kwp
      have blp : Boxed Wp (W.heap.size + 1 + 1) 21 (.int .i32 (x2 : Int)) := by
        rw [← hWp, Boxed, passW_block _ _ _ _ _ _ (by omega)]
        exact (hbc.block _ (lt_of_block bla)).trans bla
      have cZp : Wp.cell? ⟨W.heap.size, 0, none⟩ = some (.func (.yield lo) #[] #[]) := hk2p.cell y0.cell fZ0
      have nca : Wa.heap.size ≠ sb := by have := spa.at_.lt; omega
      have f0 : Wp.cell? ⟨Wa.heap.size, 0, none⟩ = some (.int .i32 (plainZ x2)) := by rw [← hWp, cell_of_block (passW_block _ _ _ _ _ _ nca)]; exact e0
      have f1 : Wp.cell? ⟨Wa.heap.size, 1, none⟩ = some (.int .i64 ((y : Int) + (x1 : Int))) := by rw [← hWp, cell_of_block (passW_block _ _ _ _ _ _ nca)]; exact e1
      have f2 : Wp.cell? ⟨Wa.heap.size, 2, none⟩ = some (.int .i64 (st.l : Int)) := by rw [← hWp, cell_of_block (passW_block _ _ _ _ _ _ nca)]; exact e2
      have f3 : Wp.cell? ⟨Wa.heap.size, 3, none⟩ = some (.int .i64 (st.c : Int)) := by rw [← hWp, cell_of_block (passW_block _ _ _ _ _ _ nca)]; exact e3
      have freeP : ∀ k, k < W2.heap.size → Free obxs w k → Free obxs Wp k := fun k hk hf => ⟨hf.1, fun hr => by
        obtain ⟨B, hBm, rest⟩ := hr
        rcases hk2p.2.2 k ⟨B, by simp [hBm], rest⟩ with h | h
        · exact hf.2 (hrow2 k h)
        · omega⟩
      have hst2 : Hid (stepT y st ⟨(x1, x2), hx1, hx2⟩ = { last := x2, y := y + x1, l := if plainN x2 = 10 then st.l + 1 else st.l, c := if plainN x2 = 10 then 1 else st.c + 1, out := st.out ++ [⟨plainN x2, y + x1, st.l, st.c, plainN_lt _ hx2⟩] }) := by
        show _ = _
        unfold stepT; rw [if_neg (by unfold joined; simp; omega)]
      obtain ⟨fn, tmps, assign, body, hyy, hR⟩ := YieldAt.deep (n - 1 - 1 - 1) (hY st.out ⟨plainN x2, y + x1, st.l, st.c, plainN_lt _ hx2⟩ Wp jp (by omega)) lr
      simp only [encC, plainN_eq, Int.natCast_add] at hyy
      have keepR : Hid (∀ W3, KeepsFrom W.heap.size Wp W3 → KeepsFrom W2.heap.size Wr W3) := fun W3 hf3 => (kop.from _).trans ⟨hf3.size, fun k o hk hA ho => hf3.same k o (by omega) hA ho⟩
      have fin : Hid (∀ W3, J (st.out ++ [⟨plainN x2, y + x1, st.l, st.c, plainN_lt _ hx2⟩]) W3 → KprG n₀ obxs Wp W3 → KeepsFrom W.heap.size Wp W3 → KeepsFrom W2.heap.size Wr W3 ∧ KprG n₀ ([W.heap.size + 1 + 1, sb] ++ obxs) Wr W3 ∧ (J (readT y l c (pre ++ [⟨(x1, x2), hx1, hx2⟩])).out W3 ∧ Boxed W3 (W.heap.size + 1 + 1) 21 (.int .i32 ((readT y l c (pre ++ [⟨(x1, x2), hx1, hx2⟩])).last : Int)) ∧ SpotK w W3 sb ((readT y l c (pre ++ [⟨(x1, x2), hx1, hx2⟩])).y : Int) ((readT y l c (pre ++ [⟨(x1, x2), hx1, hx2⟩])).l : Int) ((readT y l c (pre ++ [⟨(x1, x2), hx1, hx2⟩])).c : Int) ∧ KprG n₀ ([W.heap.size + 1 + 1, sb] ++ obxs) W2 W3)) := fun W3 hJ3 hk3 hf3 => by
        have bl3 : Boxed W3 (W.heap.size + 1 + 1) 21 (.int .i32 (x2 : Int)) := hk3.block blp rfl (freeP _ (by omega) (freeN _ (by omega)))
        have sp3 : SpotK w W3 sb ((y : Int) + (x1 : Int)) (if plainZ x2 = 10 then (st.l : Int) + 1 else st.l) (if plainZ x2 = 10 then 1 else (st.c : Int) + 1) := by
          obtain ⟨ob, hob, hcb⟩ := block_of_cell SPP.out.at_.c0
          exact SPP.out.same ((hk3.block hob hcb (freeP sb (by omega) fS)).trans hob.symm)
        have km : KprG n₀ ([W.heap.size + 1 + 1, sb] ++ obxs) Wp W3 := hk3.more (fun b hb u v' hv' => by
          simp only [List.mem_cons, List.not_mem_nil, or_false] at hb
          rcases hb with rfl | rfl
          · exact boxed_noslice bl3 rfl u v' hv'
          · exact sp3.noslice hNo u v' hv')
        refine ⟨keepR.out W3 hf3, kwp.trans km, ?_⟩
        rw [hsn.out, hst2.out]
        refine ⟨hJ3, bl3, ?_, hk2p.trans km⟩
        have hpl := plainN_eq x2
        by_cases h10 : plainN x2 = 10
        · have hz10 : plainZ x2 = 10 := by omega
          rw [if_pos hz10, if_pos hz10] at sp3
          simp only [h10, if_true]
          exact_mod_cast sp3
        · have hz10 : ¬ plainZ x2 = 10 := by omega
          rw [if_neg hz10, if_neg hz10] at sp3
          simp only [h10, if_false]
          exact_mod_cast sp3
      have hq : ∀ b : Bool, ((st.last : Int) == 13) = b → b = true → ((x2 : Int) == 10) = false := fun b hb1 hb2 => by subst hb2; simp at hb1 ⊢; omega
      cases h13 : ((st.last : Int) == 13)
      all_goals have h10 := hq _ h13
      all_goals simp only [Bool.false_eq_true, false_implies, forall_const] at h10
      all_goals gi_wp2_with fail
      all_goals clear hWa a1 a2 a3 a4 spl cPr cZ1 cZ0 s0 s1 s2 sf0 cl fl
      all_goals refine wpIn_mono (cell_made lr _ Bp sb x2 ((y : Int) + (x1 : Int)) st.l st.c Wa _ _ _ _ _ _ _ _ _ _ _ _ _ _ _ _ _ _ _ _ _ _ _ _ _ _ _ _ _ _ _ _ _ _ _ _ _ _ _ _ _ _ _ _ _ _ _ _ _ _ _ _ _ _ _ (by omega) (by omega) cPa d0 d1 d2 i3 i0 i1 i2 mixed) ?_
      all_goals clear d0 d1 d2 i0 i1 i2 i3 g1 mixed cPa
      all_goals rintro e a' w' ⟨rfl, rfl, rfl⟩
      all_goals gi_wp2_with (refine ⟨trivial, fun _ => by omega, ?_⟩; gi_at_call 65; refine (CallsIn.inRound lr (callsIn_wide.2 (pass_calls sb _ _ _ _ _ SPC.out.at_ (by omega) (by omega)))).mono ?_; rintro e w' ⟨rfl, rfl⟩)
      all_goals refine ⟨fun _ => by omega, hR.mono ?_⟩
      all_goals rintro e W3 (⟨rfl, hJ3, hk3, hf3⟩ | ⟨rfl, hJx3, hf3⟩)
      all_goals gi_wp2
      all_goals first | exact fin.out W3 hJ3 hk3 hf3 | exact ⟨keepR.out W3 hf3, rfl, by rw [hsn.out, hst2.out]; exact hJx3⟩
  case done =>
    rintro D ys W3 hD hS3 ⟨hj, hbl, hsp, hkp⟩ hK
    have cP3 := hkp.cell p2 fP2
    have cB3 := hkp.cell q2 fB2
    have cZ3 := hkp.cell y1.cell fZ1
    have s0 := hsp.at_.c0
    have sf0 := hsp.at_.fz 0
    have hslv : ∃ a cap, v = .slice a bs.length cap := by
      rcases HH.out with ⟨rfl, a, cap, rfl⟩ | ⟨_, b, off, cap, rfl, _⟩
      · exact ⟨a, cap, rfl⟩
      · exact ⟨_, cap, rfl⟩
    obtain ⟨av, capv, rfl⟩ := hslv
    gi_wp2
    have hK' : (W3.setCell ⟨sb, 0, none⟩ (.int .i64 ((y : Int) + (bs.length : Int)))).heap[D]? = some (.deferred (some [])) := (Below.heap_setCell _ _ _ D (by show D ≠ sb; omega)).trans hK
    have sp4 := hsp.store ((y : Int) + (bs.length : Int))
    have j4 := hJ _ _ _ hj (Step.own (show ownS sb sb from rfl) (k := 0) (.int .i64 ((y : Int) + (bs.length : Int))))
    refine ⟨by simp, .inl ⟨_, _, rfl, run_takeDeferred hK', ?_⟩⟩
    refine ⟨_, results_none rfl _ _ _, ⟨_, rfl⟩, .inl ⟨_, ⟨ys, hS3, rfl, ?_⟩, hJ _ _ _ j4 (Step.put _ (by omega) hK' (.inl rfl))⟩⟩
    exact (by exact_mod_cast sp4 : SpotK w (W3.setCell ⟨sb, 0, none⟩ (.int .i64 ((y : Int) + (bs.length : Int)))) sb ((y + bs.length : Nat) : Int) ((readT y l c ys).l : Int) ((readT y l c ys).c : Int)).same (World.putObj_heap_other (by omega))
  case stop =>
    rintro D cd pre W3 hD hS3 ⟨rfl, hj⟩ hK
    gi_wp2
    refine ⟨by simp, .inl ⟨_, _, rfl, run_takeDeferred hK, ?_⟩⟩
    exact ⟨_, results_none rfl _ _ _, ⟨_, rfl⟩, .inr ⟨_, ⟨pre, hS3, rfl⟩, hJx _ _ _ hj (Step.put _ (by omega) hK (.inl rfl))⟩⟩
end Go.Proofs.YtjhoaepokkaoeaaDoor.U
