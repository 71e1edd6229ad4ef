/- What is proved here: the two questions that look at the table: heading, edge. -/
import Derived.Test.YtdkcibafbdmajabGreatDoorNeLook
namespace Go.Proofs.YtdkcibafbdmajabGreatDoor.E
open Go.RowKit Go.Shelf Go.WideMaps Go.Maps Go.Proofs.YtdkcibafbdmajabGreatDoor.N Go.Proofs.YtdkcibafbdmajabGreatDoor.C

theorem field_look (x : ByteArray) (b1 b2 b3 b4 : Bool) (f : Value) (W : World) : (Instr.field 133 (.agg #[.string x, .bool b1, .bool b2, .bool b3, .bool b4, f]) 3).run Tryz.prog W = .ok (.bool b3) W ∧ (Instr.field 133 (.agg #[.string x, .bool b1, .bool b2, .bool b3, .bool b4, f]) 4).run Tryz.prog W = .ok (.bool b4) W ∧ (Instr.field 133 (.agg #[.string x, .bool b1, .bool b2, .bool b3, .bool b4, f]) 1).run Tryz.prog W = .ok (.bool b1) W ∧ (Instr.field 133 (.agg #[.string x, .bool b1, .bool b2, .bool b3, .bool b4, f]) 2).run Tryz.prog W = .ok (.bool b2) W := ⟨by kernel_rfl, by kernel_rfl, by kernel_rfl, by kernel_rfl⟩
set_option maxRecDepth 100000 in
set_option maxHeartbeats 1000000 in
theorem heading_calls {n B pb lb : Nat} {a : Option Addr} {S : List Txt} {k : Nat} {ins : List Txt} {m : Nat} (x : Txt) (hx : x.length ≤ 10000000000) (hm : m ≤ 1000000000000) (w : World) (h : Tb n B pb lb a S k ins m w) :
    Calls Tryz.prog 123 #[.pointer (some ⟨B, 0, none⟩), .string ⟨x.toArray⟩] w fun e w' => e = .returned (.bool (headB x)) ∧ Tb n B pb lb a S k ins (m + 1) w' ∧ w.grownBy w' (some lb) := by
  have HC := hid_of (look_calls x hx hm w h)
  clear hx h
  have HV : Hid (lookV x = .agg #[.string ⟨x.toArray⟩, .bool (allowB x), .bool (voidB x), .bool (headB x), .bool (blockB x), .func (.func (ownFn (ownOf x))) #[] #[]]) := rfl
  have hfd := fun W => (field_look ⟨x.toArray⟩ (allowB x) (voidB x) (headB x) (blockB x) (.func (.func (ownFn (ownOf x))) #[] #[]) W).1
  generalize headB x = hb at *
  generalize blockB x = bb at *
  generalize allowB x = ab at *
  generalize voidB x = vb at *
  generalize ownFn (ownOf x) = fo at *
  go_enter Tryz.func123, Tryz.ntmps123
  go_wp2_with (go_at_call 95; refine HC.out.mono ?_; rintro e w' ⟨rfl, hT, hG⟩; rw [HV.out])
  go_ret
  exact ⟨rfl, hT, hG⟩
set_option maxRecDepth 100000 in
set_option maxHeartbeats 1000000 in
theorem edge_calls {n B pb lb : Nat} {a : Option Addr} {S : List Txt} {k : Nat} {ins : List Txt} {m : Nat} (x : Txt) (hx : x.length ≤ 10000000000) (hm : m ≤ 1000000000000) (w : World) (h : Tb n B pb lb a S k ins m w) :
    Calls Tryz.prog 160 #[.pointer (some ⟨B, 0, none⟩), .string ⟨x.toArray⟩] w fun e w' => e = .returned (.bool (edgeB x)) ∧ Tb n B pb lb a S k ins (m + 1) w' ∧ w.grownBy w' (some lb) := by
  have HC := hid_of (look_calls x hx hm w h)
  have HM := hid_of (h.mono (Nat.le_succ m))
  clear hx h
  have HV : Hid (lookV x = .agg #[.string ⟨x.toArray⟩, .bool (allowB x), .bool (voidB x), .bool (headB x), .bool (blockB x), .func (.func (ownFn (ownOf x))) #[] #[]]) := rfl
  have HE : Hid (edgeB x = (wallB x || blockB x)) := rfl
  have HW : Hid (∀ W, Calls Tryz.prog 125 #[.string ⟨x.toArray⟩] W fun e w' => e = .returned (.bool (wallB x)) ∧ w' = W) := wall_calls x
  have hfd := fun W => (field_look ⟨x.toArray⟩ (allowB x) (voidB x) (headB x) (blockB x) (.func (.func (ownFn (ownOf x))) #[] #[]) W).2.1
  generalize headB x = hb at *
  generalize blockB x = bb at *
  generalize allowB x = ab at *
  generalize voidB x = vb at *
  generalize ownFn (ownOf x) = fo at *
  generalize wallB x = wb at *
  generalize edgeB x = eb at *
  go_enter Tryz.func160, Tryz.ntmps160
  cases wb
  · go_wp2_with (first | (go_at_call 95; refine HC.out.mono ?_; rintro e w' ⟨rfl, hT, hG⟩; rw [HV.out]) | (go_at_call 125; refine (HW.out _).mono ?_; rintro e w' ⟨rfl, rfl⟩))
    go_ret
    exact ⟨by rw [HE.out]; rfl, hT, hG⟩
  · go_wp2_with (go_at_call 125; refine (HW.out _).mono ?_; rintro e w' ⟨rfl, rfl⟩)
    go_ret
    exact ⟨by rw [HE.out]; rfl, HM.out, World.grownBy.refl _ _⟩
/-- The table, with what is put in laid ahead of C. -/
structure TbI (C n B pb lb : Nat) (a : Option Addr) (S : List Txt) (k : Nat) (ins : List Txt) (m : Nat) (W : World) : Prop where
  tb : Tb n B pb lb a S k ins m W
  low : ∃ c vin, W.heap[B]? = some (.cells #[.map (some pb), .map (some lb), .slice a k c, vin] 155) ∧ ∀ g, vin.ownBlock = some g → g < C
theorem Tb.toI {n B pb lb : Nat} {a : Option Addr} {S : List Txt} {k : Nat} {ins : List Txt} {m : Nat} {W : World} (h : Tb n B pb lb a S k ins m W) : TbI W.heap.size n B pb lb a S k ins m W := by
  obtain ⟨c, vin, _, hb, hv⟩ := h.tab.blk
  exact ⟨h, c, vin, hb, fun g hg => (hv.lt g hg).2⟩
theorem TbI.grown {C n B pb lb : Nat} {a : Option Addr} {S : List Txt} {k : Nat} {ins : List Txt} {m m' : Nat} {W W' : World} (h : TbI C n B pb lb a S k ins m W) (ht : Tb n B pb lb a S k ins m' W') (hg : W.grownBy W' (some lb)) : TbI C n B pb lb a S k ins m' W' := by
  obtain ⟨c, vin, hb, hv⟩ := h.low
  exact ⟨ht, c, vin, (hg.block B (by have := h.tb.tab.hB; have := h.tb.tab.hn; omega) (fun e => h.tb.tab.neB.1 (by injection e))).trans hb, hv⟩
theorem Tb.setAbove {C n B pb lb : Nat} {a : Option Addr} {S : List Txt} {k : Nat} {ins : List Txt} {m : Nat} {W : World} (h : TbI C n B pb lb a S k ins m W) (hn : n ≤ C) {g j : Nat} (v : Value) (hg : C ≤ g) : Tb n B pb lb a S k ins m (W.setCell ⟨g, j, none⟩ v) := by
  obtain ⟨ht, c0, vin0, hb0, hlow⟩ := h
  obtain ⟨z, hz⟩ := ht.mx
  obtain ⟨c, vin, hc, hb, hv⟩ := ht.tab.blk
  rw [hb0] at hb
  simp at hb
  obtain ⟨rfl, rfl⟩ := hb
  have lo : ∀ {i : Nat}, i < C → (W.setCell ⟨g, j, none⟩ v).heap[i]? = W.heap[i]? := fun {i} hi => Below.heap_setCell _ _ _ _ (fun e => by rw [show i = g from e] at hi; omega)
  have kp : ∀ {p : Addr} {u : Value}, p.block < C → W.cell? p = some u → (W.setCell ⟨g, j, none⟩ v).cell? p = some u := fun {p u} hp h => (World.cell?_of_block (lo hp)).trans h
  have t := ht.tab
  refine ⟨⟨⟨c0, vin0, hc, (lo (by have := t.hB; omega)).trans hb0, ⟨hv.1, ?_⟩⟩, t.pm.same (lo (by have := t.hp; omega)), t.lm.same (lo (by have := t.hl; omega)), fun i hi => ?_, t.hk, t.hB, t.hp, t.hl, t.hne, by simpa [World.setCell] using t.hn, t.low⟩, ⟨z, kp (by have := ht.mlow; show Tryz.laysM144_ren.g 1 < _; omega) hz⟩, ht.mlow⟩
  · rcases hv.2 with h0 | ⟨b, cap, cur, e, hb, hr, r⟩
    · exact .inl h0
    · exact .inr ⟨b, cap, cur, e, hb, (lo (hlow b (by rw [e]; rfl))).trans hr, r⟩
  · obtain ⟨b, off, e, hcell⟩ := t.txt i hi
    exact ⟨b, off, e, kp (by have := t.low b off e (by omega); show b < _; omega) hcell⟩
theorem minds_tb {C n B pb lb : Nat} {a : Option Addr} {S : List Txt} {k : Nat} {ins : List Txt} (hn : n ≤ C) (hl : lb < n) : Minds C lb (TbI C n B pb lb a S k ins) where
  own := fun m W W' row h hg hr => by
    have ht := h.tb.own hg (fun r e => ⟨by have := (hr r e).1; omega, (hr r e).2⟩)
    obtain ⟨c, vin, hb, hv⟩ := h.low
    exact ⟨ht, c, vin, (hg.block B (by have := h.tb.tab.hB; have := h.tb.tab.hn; omega) (fun e => by have := (hr _ e.symm).1; have := h.tb.tab.hB; omega)).trans hb, hv⟩
  kind := fun m W h => h.tb.tab.lm.kind lb rfl
  lt := by omega
  set := fun m W g v h hg => by
    obtain ⟨c, vin, hb, hv⟩ := h.low
    exact ⟨Tb.setAbove h hn v hg, c, vin, (Below.heap_setCell _ _ _ _ (fun e => by have := h.tb.tab.hB; rw [show B = g from e] at this; omega)).trans hb, hv⟩
  mono := fun m m' W h hm => ⟨h.tb.mono hm, h.low⟩
theorem asks_heading {C n B pb lb : Nat} {a : Option Addr} {S : List Txt} {k : Nat} {ins : List Txt} : Asks lb 123 #[.pointer (some ⟨B, 0, none⟩)] #[] headB (TbI C n B pb lb a S k ins) :=
  ⟨enters_of Tryz.func123 (by kernel_rfl) rfl, fun x m W hi hx hm => (heading_calls x hx hm W hi.tb).mono fun _ _ ⟨e1, e2, e3⟩ => ⟨e1, hi.grown e2 e3, e3⟩⟩
theorem asks_edge {C n B pb lb : Nat} {a : Option Addr} {S : List Txt} {k : Nat} {ins : List Txt} : Asks lb 160 #[.pointer (some ⟨B, 0, none⟩)] #[] edgeB (TbI C n B pb lb a S k ins) :=
  ⟨enters_of Tryz.func160 (by kernel_rfl) rfl, fun x m W hi hx hm => (edge_calls x hx hm W hi.tb).mono fun _ _ ⟨e1, e2, e3⟩ => ⟨e1, hi.grown e2 e3, e3⟩⟩
theorem TbI.next {C n B pb lb : Nat} {a : Option Addr} {S : List Txt} {k : Nat} {ins : List Txt} {m : Nat} {W : World} (h : TbI C n B pb lb a S k ins m W) : TbI C n B pb lb a S k ins (m + 1) W := ⟨h.tb.mono (Nat.le_succ m), h.low⟩
end Go.Proofs.YtdkcibafbdmajabGreatDoor.E
