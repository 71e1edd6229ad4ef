/- What is proved here: top, closeWith, closeTo, put, plan, nothing. -/
import Derived.Test.YtdkcibafbdmajabGreatDoorNeHead
namespace Go.Proofs.YtdkcibafbdmajabGreatDoor.E
open Go.RowKit Go.Shelf Go.WideMaps Go.Maps Go.Proofs.YtdkcibafbdmajabGreatDoor.N Go.Proofs.YtdkcibafbdmajabGreatDoor.C

/-- What a closing does: the table alone turns, and what is known of names. -/
structure CL (n B pb lb : Nat) (a : Option Addr) (S : List Txt) (k : Nat) (ins : List Txt) (m : Nat) (w w' : World) : Prop where
  tb : Tb n B pb lb a S k ins m w'
  keep : Keep w.heap.size B lb w w'
theorem CL.trans {n B pb lb : Nat} {a : Option Addr} {S : List Txt} {k k' : Nat} {ins ins' : List Txt} {m m' : Nat} {w w1 w2 : World} (h : CL n B pb lb a S k ins m w w1) (h' : CL n B pb lb a S k' ins' m' w1 w2) : CL n B pb lb a S k' ins' m' w w2 := ⟨h'.tb, h.keep.trans (h'.keep.mono h.keep.size)⟩
theorem CL.refl {n B pb lb : Nat} {a : Option Addr} {S : List Txt} {k : Nat} {ins : List Txt} {m : Nat} {w : World} (h : Tb n B pb lb a S k ins m w) : CL n B pb lb a S k ins m w w := ⟨h, Keep.refl _ _ _ _⟩
theorem CL.below {n B pb lb : Nat} {a : Option Addr} {S : List Txt} {k : Nat} {ins : List Txt} {m : Nat} {w w1 w2 : World} (h : CL n B pb lb a S k ins m w w1) (hb : Below w1.heap.size w1 w2) : CL n B pb lb a S k ins m w w2 := ⟨h.tb.below hb, h.keep.trans (Keep.below (hb.mono h.keep.size))⟩
theorem CL.grown {n B pb lb : Nat} {a : Option Addr} {S : List Txt} {k : Nat} {ins : List Txt} {m m' : Nat} {w w1 w2 : World} (h : CL n B pb lb a S k ins m w w1) (ht : Tb n B pb lb a S k ins m' w2) (hg : w1.grownBy w2 (some lb)) : CL n B pb lb a S k ins m' w w2 := ⟨ht, h.keep.trans (Keep.grown hg h.keep.size)⟩
theorem CL.mono {n B pb lb : Nat} {a : Option Addr} {S : List Txt} {k : Nat} {ins : List Txt} {m m' : Nat} {w w1 : World} (h : CL n B pb lb a S k ins m w w1) (hm : m ≤ m') : CL n B pb lb a S k ins m' w w1 := ⟨h.tb.mono hm, h.keep⟩
set_option maxRecDepth 100000 in
set_option maxHeartbeats 1000000 in
theorem top_calls {n B pb lb : Nat} {a : Option Addr} {S : List Txt} {k : Nat} {ins : List Txt} {m : Nat} (hS : S.length ≤ 100000) (w : World) (h : Tb n B pb lb a S k ins m w) :
    Calls Tryz.prog 116 #[.pointer (some ⟨B, 0, none⟩)] w fun e w' => e = .returned (.string ⟨(topK S k).toArray⟩) ∧ Below w.heap.size w w' := by
  obtain ⟨c, vin, hc, hb, _⟩ := h.tab.blk
  have hB : Blk w B #[.map (some pb), .map (some lb), .slice a k c, vin] 155 := hb
  have k2 : w.cell? ⟨B, 2, none⟩ = some (.slice a k c) := hB.cell 2
  have hk := h.tab.hk
  cases k with
  | zero =>
    go_enter Tryz.func116, Tryz.ntmps116
    go_wp2
    go_ret
    exact ⟨rfl, Below.refl _ _⟩
  | succ j =>
    obtain ⟨b, off, rfl, ht⟩ := h.tab.txt j (by omega)
    have HV : Hid (topK S (j + 1) = S.getD j []) := rfl
    obtain ⟨x, hx⟩ : ∃ x, S.getD j [] = x := ⟨_, rfl⟩
    rw [hx] at ht HV
    clear hx hB hb h
    have hkc : j < c := by omega
    have w1 : IntKind.i64.wrap ((j : Int) + 1 - 1) = (j : Int) := by rw [IntKind.wrap_i64]; omega
    have w2 : IntKind.i64.wrap (j : Int) = (j : Int) := by rw [IntKind.wrap_i64]; omega
    have w3 : (0 : Int) ≤ (j : Int) := by omega
    have w4 : (j : Int) < (j : Int) + 1 := by omega
    clear hc
    go_enter Tryz.func116, Tryz.ntmps116
    go_wp2_with fail
    go_region_held3 (fun w' => w'.cell? ⟨B, 2, none⟩ = some (.slice (some ⟨b, off, none⟩) (j + 1) c) ∧ w'.cell? ⟨b, off + j, none⟩ = some (.string ⟨x.toArray⟩)) (first | exact ⟨k2, ht⟩ | go_keep) (fail)
    go_wp2
    go_ret
    exact ⟨by rw [HV.out]; rfl, (Below.refl _ _).drew⟩
theorem CL.blk {n B pb lb : Nat} {a : Option Addr} {S : List Txt} {k : Nat} {ins : List Txt} {m : Nat} {w w' : World} (h : CL n B pb lb a S k ins m w w') {g : Nat} {cs : Array Value} {t : TypeId} (hq : Blk w g cs t) (hB : g ≠ B) (hl : g ≠ lb) : Blk w' g cs t := (h.keep.block g hq.lt hB hl).trans hq
/-- No text and no number lies in the table. -/
theorem Tb.neCell {n B pb lb : Nat} {a : Option Addr} {S : List Txt} {k : Nat} {ins : List Txt} {m : Nat} {W : World} (h : Tb n B pb lb a S k ins m W) {b j : Nat} {u : Value} (hc : W.cell? ⟨b, j, none⟩ = some u) (h1 : ∀ x, u ≠ .map x) (h2 : ∀ x y z, u ≠ .slice x y z) : b ≠ B := by
  rintro rfl
  obtain ⟨c, vin, _, hb0, hv⟩ := h.tab.blk
  obtain ⟨va, vc, rfl⟩ := owns_slice hv
  have hB : Blk W b _ _ := hb0
  rw [hB.cell j] at hc
  match j, hc with
  | 0, hc => simp at hc; exact h1 _ hc.symm
  | 1, hc => simp at hc; exact h1 _ hc.symm
  | 2, hc => simp at hc; exact h2 _ _ _ hc.symm
  | 3, hc => simp at hc; exact h2 _ _ _ hc.symm
  | (j + 4), hc => simp at hc
/-- What lies ahead of n stays, but for the table, which is written anew. -/
theorem Tb.rebuild {n B pb lb : Nat} {a : Option Addr} {S : List Txt} {k k' : Nat} {ins ins' : List Txt} {m : Nat} {W W' : World} (h : Tb n B pb lb a S k ins m W) {c' : Nat} {vin' : Value} (hc : k' ≤ c') (hk : k' ≤ S.length) (hv : OwnT n W' vin' ins')
    (hb : W'.heap[B]? = some (.cells #[.map (some pb), .map (some lb), .slice a k' c', vin'] 155)) (ho : ∀ j, j < n → j ≠ B → W'.heap[j]? = W.heap[j]?) (hz : W.heap.size ≤ W'.heap.size) : Tb n B pb lb a S k' ins' m W' := by
  obtain ⟨z, hz'⟩ := h.mx
  have t := h.tab
  have kp : ∀ {p : Addr} {u : Value}, p.block < n → p.block ≠ B → W.cell? p = some u → W'.cell? p = some u := fun {p u} h0 hp hc => (World.cell?_of_block (ho _ h0 hp)).trans hc
  refine ⟨⟨⟨c', vin', hc, hb, hv⟩, t.pm.same (ho _ t.hp (Ne.symm t.neB.2)), t.lm.same (ho _ t.hl (Ne.symm t.neB.1)), fun i hi => ?_, hk, t.hB, t.hp, t.hl, t.hne, Nat.le_trans t.hn hz, t.low⟩, ⟨z, ?_⟩, h.mlow⟩
  · obtain ⟨b, off, e, hcell⟩ := t.txt i hi
    exact ⟨b, off, e, kp (t.low b off e (by omega)) (h.neCell hcell (fun _ => by simp) (fun _ _ _ => by simp)) hcell⟩
  · exact kp h.mlow (h.neCell hz' (fun _ => by simp) (fun _ _ _ => by simp)) hz'
set_option maxRecDepth 100000 in
set_option maxHeartbeats 1000000 in
theorem closeWith_calls {n B pb lb : Nat} {a : Option Addr} {S : List Txt} {k : Nat} {ins : List Txt} {m : Nat} (hS : S.length ≤ 100000) (z : Int) (hz : 0 ≤ z → z ≤ k ∧ 0 < k) (w : World) (h : Tb n B pb lb a S k ins m w) :
    Calls Tryz.prog 117 #[.pointer (some ⟨B, 0, none⟩), .int .i64 z] w fun e w' => e = .returned (.bool (decide (0 ≤ z))) ∧ CL n B pb lb a S (closeK k z) ins m w w' := by
  obtain ⟨c, vin, hc, hb, hv⟩ := h.tab.blk
  have hB : Blk w B #[.map (some pb), .map (some lb), .slice a k c, vin] 155 := hb
  have k2 : w.cell? ⟨B, 2, none⟩ = some (.slice a k c) := hB.cell 2
  have f2 := hB.frozen 2
  have hk := h.tab.hk
  by_cases h0 : 0 ≤ z
  · obtain ⟨hz1, hz2⟩ := hz h0
    obtain ⟨q, rfl⟩ : ∃ q : Nat, z = (q : Int) := ⟨z.toNat, by omega⟩
    obtain ⟨b, off, rfl, _⟩ := h.tab.txt 0 (by omega)
    have HP : Hid (CL n B pb lb (some ⟨b, off, none⟩) S (closeK k q) ins m w (w.setCell ⟨B, 2, none⟩ (.slice (some ⟨b, off, none⟩) q c))) := by
      have e : closeK k (q : Int) = q := by unfold closeK; rw [if_pos (by omega)]; simp
      rw [e]
      exact ⟨h.rebuild (by omega) (by omega) (own_set hv h.tab.hB 2 _) (hB.set 2 _) (fun j _ hj => Below.heap_setCell _ _ _ _ hj) (by simp [World.setCell]), Keep.set 2 _⟩
    have hqc : q ≤ c := by omega
    have hqk : (q : Int) ≤ (k : Int) := by omega
    have g0 : (0 : Int) ≤ (q : Int) := by omega
    clear hz hz1 hz2 hB hb hv h
    go_enter Tryz.func117, Tryz.ntmps117
    go_wp2
    go_ret
    exact ⟨by simp, HP.out⟩
  · have HP : Hid (CL n B pb lb a S (closeK k z) ins m w w) := by
      have e : closeK k z = k := by unfold closeK; rw [if_neg h0]
      rw [e]
      exact CL.refl h
    have hd : decide (0 ≤ z) = false := decide_eq_false h0
    have hd2 : decide (z ≥ 0) = false := decide_eq_false h0
    clear hB hb hv h hz
    go_enter Tryz.func117, Tryz.ntmps117
    go_wp2
    go_ret
    exact ⟨rfl, HP.out⟩
set_option maxRecDepth 100000 in
set_option maxHeartbeats 1000000 in
theorem closeTo_calls {n B pb lb : Nat} {a : Option Addr} {S : List Txt} {k : Nat} {ins : List Txt} {m : Nat} (hS : S.length ≤ 100000) (z : Int) (hz : z < k) (w : World) (h : Tb n B pb lb a S k ins m w) :
    Calls Tryz.prog 157 #[.pointer (some ⟨B, 0, none⟩), .int .i64 z] w fun e w' => e = .returned (.bool (decide (0 ≤ z))) ∧ CL n B pb lb a S (closeToK k z) ins m w w' := by
  have hk := h.tab.hk
  by_cases h0 : 0 ≤ z
  · have HC := hid_of (closeWith_calls hS (z + 1) (fun _ => ⟨by omega, by omega⟩) w h)
    have e1 : decide (0 ≤ z + 1) = true := decide_eq_true (by omega)
    have e2 : closeK k (z + 1) = closeToK k z := by unfold closeK closeToK; rw [if_pos h0, if_pos (by omega)]
    rw [e1, e2] at HC
    have hw : IntKind.i64.wrap (z + 1) = z + 1 := by rw [IntKind.wrap_i64]; omega
    have hd2 : decide (z ≥ 0) = true := decide_eq_true h0
    have hd : decide (0 ≤ z) = true := decide_eq_true h0
    clear h e1 e2
    go_enter Tryz.func157, Tryz.ntmps157
    go_wp2_with (go_at_call 117; refine HC.out.mono ?_; rintro e w' ⟨rfl, hT⟩)
    go_ret
    exact ⟨by first | rfl | (rw [hd]; rfl), hT⟩
  · have HP : Hid (CL n B pb lb a S (closeToK k z) ins m w w) := by
      have e : closeToK k z = k := by unfold closeToK; rw [if_neg h0]
      rw [e]
      exact CL.refl h
    have hd : decide (0 ≤ z) = false := decide_eq_false h0
    have hd2 : decide (z ≥ 0) = false := decide_eq_false h0
    clear h hz
    go_enter Tryz.func157, Tryz.ntmps157
    go_wp2
    go_ret
    exact ⟨rfl, HP.out⟩
/-- What a putting in does besides: its own row turns. -/
structure PL (n B pb lb : Nat) (a : Option Addr) (S : List Txt) (k : Nat) (ins : List Txt) (m : Nat) (w w' : World) : Prop where
  tb : Tb n B pb lb a S k ins m w'
  keep : Keep n B lb w w'
theorem PL.trans {n B pb lb : Nat} {a : Option Addr} {S : List Txt} {k k' : Nat} {ins ins' : List Txt} {m m' : Nat} {w w1 w2 : World} (h : PL n B pb lb a S k ins m w w1) (h' : PL n B pb lb a S k' ins' m' w1 w2) : PL n B pb lb a S k' ins' m' w w2 := ⟨h'.tb, h.keep.trans h'.keep⟩
theorem CL.pl {n B pb lb : Nat} {a : Option Addr} {S : List Txt} {k : Nat} {ins : List Txt} {m : Nat} {w w' : World} (h : CL n B pb lb a S k ins m w w') (hn : n ≤ w.heap.size) : PL n B pb lb a S k ins m w w' := ⟨h.tb, h.keep.mono hn⟩
theorem PL.below {n B pb lb : Nat} {a : Option Addr} {S : List Txt} {k : Nat} {ins : List Txt} {m : Nat} {w w1 w2 : World} (h : PL n B pb lb a S k ins m w w1) (hb : Below w1.heap.size w1 w2) : PL n B pb lb a S k ins m w w2 := ⟨h.tb.below hb, h.keep.trans (Keep.below (hb.mono h.tb.tab.hn))⟩
theorem PL.mono {n B pb lb : Nat} {a : Option Addr} {S : List Txt} {k : Nat} {ins : List Txt} {m m' : Nat} {w w1 : World} (h : PL n B pb lb a S k ins m w w1) (hm : m ≤ m') : PL n B pb lb a S k ins m' w w1 := ⟨h.tb.mono hm, h.keep⟩
theorem PL.blk {n B pb lb : Nat} {a : Option Addr} {S : List Txt} {k : Nat} {ins : List Txt} {m : Nat} {w w' : World} (h : PL n B pb lb a S k ins m w w') {g : Nat} {cs : Array Value} {t : TypeId} (hq : Blk w g cs t) (hg : g < n) (hB : g ≠ B) (hl : g ≠ lb) : Blk w' g cs t := (h.keep.block g hg hB hl).trans hq
theorem PL.refl {n B pb lb : Nat} {a : Option Addr} {S : List Txt} {k : Nat} {ins : List Txt} {m : Nat} {w : World} (h : Tb n B pb lb a S k ins m w) : PL n B pb lb a S k ins m w w := ⟨h, Keep.refl _ _ _ _⟩
set_option maxRecDepth 100000 in
set_option maxHeartbeats 1000000 in
theorem put_calls {n B pb lb : Nat} {a : Option Addr} {S : List Txt} {k : Nat} {ins : List Txt} {m : Nat} (x : Txt) (hi : ins.length ≤ 1000) (w : World) (h : Tb n B pb lb a S k ins m w) :
    Calls Tryz.prog 142 #[.pointer (some ⟨B, 0, none⟩), .string ⟨x.toArray⟩] w fun e w' => (∃ v, e = .returned v) ∧ PL n B pb lb a S k (ins ++ [x]) m w w' := by
  obtain ⟨i0, hi0, hz0, hz1, hz2⟩ := info_parts infoStr
  obtain ⟨c, vin, hc, hb, hv⟩ := h.tab.blk
  obtain ⟨va, vc, rfl⟩ := owns_slice hv
  have hB : Blk w B #[.map (some pb), .map (some lb), .slice a k c, .slice va ins.length vc] 155 := hb
  have k3 : w.cell? ⟨B, 3, none⟩ = some (.slice va ins.length vc) := hB.cell 3
  have HV := hid_of hv
  have HT := hid_of h
  have HB := hid_of hB
  have HN : Hid (n ≤ w.heap.size) := h.tab.hn
  have HBn : Hid (B < n) := h.tab.hB
  have f3 := hB.frozen 3
  clear hv h hB hb
  go_enter Tryz.func142, Tryz.ntmps142
  go_wp2_with (at_builtin; refine wpList_append_own _ rfl _ _ 29 rfl n 9 i0 (.string ⟨#[]⟩) 1 16 Tryz.underlying29 hi0 hz0 hz1 hz2 rfl (by decide) _ _ _ rfl (World.ownsRow.alloc HV.out _) ⟨w.heap.size, 0, none⟩ 1 1 [_] rfl rfl (cell_one _ _ _ _ rfl) (by simp [Value.oneCell']) (by unfold maxLen; omega) (by omega) (by have := HN.out; simp; omega) ?_; intro v' w4 hown' hgrow _; obtain ⟨a2, c2, rfl⟩ := owns_slice hown'; have q4 := (HB.out.below ((Below.refl _ w).alloc (Nat.le_refl _) (.cells #[.string ⟨x.toArray⟩] 9))).grown hgrow (fun e => by have h1 := (HV.out.lt B e.symm).1; have h2 := HBn.out; omega); have k4 : w4.cell? ⟨B, 3, none⟩ = some (.slice va ins.length vc) := q4.cell 3; have f4 := q4.frozen 3)
  go_end0
  have hb4 : Keep n B lb w w4 := (Keep.below ((Below.refl _ w).alloc (Nat.le_refl _) _ |>.mono HN.out)).trans ⟨hgrow.os, hgrow.tape, hgrow.output, hgrow.size, fun j hj _ _ => hgrow.block j (by have := HN.out; simp; omega) (fun e => by have h1 := (HV.out.lt j e.symm).1; omega)⟩
  have ho : OwnT n w4 (.slice a2 (ins.length + 1) c2) (ins ++ [x]) := by
    show w4.ownsRow n _ 1 _ (ins ++ [x]).length (svs (ins ++ [x]))
    rw [svs_append, List.length_append]
    exact hown'
  refine ⟨⟨_, rfl⟩, HT.out.rebuild hc HT.out.tab.hk (own_set ho HBn.out 3 _) (q4.set 3 _) (fun j hj hne => (Below.heap_setCell _ _ _ _ hne).trans ?_) (by have := hb4.size; simpa [World.setCell] using this), hb4.trans (Keep.set 3 _)⟩
  rw [hgrow.block j (by have := HN.out; simp; omega) (fun e => by have h1 := (HV.out.lt j e.symm).1; omega)]
  exact Below.heap_alloc _ _ _ (by have := HN.out; omega)
end Go.Proofs.YtdkcibafbdmajabGreatDoor.E
