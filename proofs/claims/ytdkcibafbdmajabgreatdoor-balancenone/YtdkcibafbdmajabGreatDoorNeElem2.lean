/- What is proved here: what an element, what a text asks of a stack. -/
import Derived.Test.YtdkcibafbdmajabGreatDoorBun8
namespace Go.Proofs.YtdkcibafbdmajabGreatDoor.E
open Go.RowKit Go.Shelf Go.WideMaps Go.Maps Go.Proofs.YtdkcibafbdmajabGreatDoor.N Go.Proofs.YtdkcibafbdmajabGreatDoor.C

theorem results_text {tmps : Array Value} {W : World} {A : Nat} {v0 v1 v2 : Value} {t : TypeId} (h4 : tmps[4]?.getD undef = .pointer (some ⟨A, 0, none⟩)) (h : Blk W A #[v0, v1, v2] t) :
    (results Tryz.f102 tmps).run Tryz.prog W = .ok (.agg #[v0, v1, v2]) W := by
  have c0 : W.cell? ⟨A, 0, none⟩ = some v0 := h.cell 0
  have c1 : W.cell? ⟨A, 1, none⟩ = some v1 := h.cell 1
  have c2 : W.cell? ⟨A, 2, none⟩ = some v2 := h.cell 2
  simp [results, Tryz.results102, go_sem, h4, c0, c1, c2]
theorem put3_other {W : World} {g j : Nat} (h : j ≠ g) (v0 v1 v2 : Value) : (((W.setCell ⟨g, 0, none⟩ v0).setCell ⟨g, 1, none⟩ v1).setCell ⟨g, 2, none⟩ v2).heap[j]? = W.heap[j]? :=
  (Below.heap_setCell _ _ _ _ h).trans ((Below.heap_setCell _ _ _ _ h).trans (Below.heap_setCell _ _ _ _ h))
/-- The table made ready: nothing put in, the first k left. -/
theorem Tb.fresh {n B pb lb : Nat} {a a0 : Option Addr} {S S0 : List Txt} {k k0 : Nat} {ins0 : List Txt} {m : Nat} {W : World} (h : Tb n B pb lb a0 S0 k0 ins0 m W) (hT : TextsAt W a S) (hlow : ∀ b off, a = some ⟨b, off, none⟩ → 0 < S.length → b < n) {c : Nat} (hk : k ≤ S.length) (hc : k ≤ c) {vin : Value} {c0 : Nat} (hb0 : W.heap[B]? = some (.cells #[.map (some pb), .map (some lb), .slice a0 k0 c0, vin] 155)) :
    Tb W.heap.size B pb lb a S k [] m ((W.setCell ⟨B, 2, none⟩ (.slice a k c)).setCell ⟨B, 3, none⟩ (.slice none 0 0)) := by
  have t := h.tab
  have hn := t.hn
  have ho : ∀ j, j ≠ B → ((W.setCell ⟨B, 2, none⟩ (.slice a k c)).setCell ⟨B, 3, none⟩ (.slice none 0 0)).heap[j]? = W.heap[j]? := fun j hj => (Below.heap_setCell _ _ _ _ hj).trans (Below.heap_setCell _ _ _ _ hj)
  have kp : ∀ {p : Addr} {u : Value}, p.block ≠ B → W.cell? p = some u → ((W.setCell ⟨B, 2, none⟩ (.slice a k c)).setCell ⟨B, 3, none⟩ (.slice none 0 0)).cell? p = some u := fun {p u} hp hc => (World.cell?_of_block (ho _ hp)).trans hc
  obtain ⟨z, hz⟩ := h.mx
  exact ⟨⟨⟨c, .slice none 0 0, hc, ((show Blk W B _ _ from hb0).set 2 _).set 3 _, World.ownsRow_nil _ _ _ _⟩, t.pm.same (ho _ (Ne.symm t.neB.2)), t.lm.same (ho _ (Ne.symm t.neB.1)), fun i hi => by
      obtain ⟨b, off, e, hcell⟩ := hT i hi
      exact ⟨b, off, e, kp (h.neCell hcell (fun _ => by simp) (fun _ _ _ => by simp)) hcell⟩, hk, by have := t.hB; omega, by have := t.hp; omega, by have := t.hl; omega, t.hne, by simp [World.setCell], fun b off e h0 => by have := hlow b off e h0; omega⟩,
    ⟨z, kp (h.neCell hz (fun _ => by simp) (fun _ _ _ => by simp)) hz⟩, by have := h.mlow; omega⟩
/-- .. and seen again from where it was. -/
theorem Tb.back {n N B pb lb : Nat} {a a0 : Option Addr} {S S0 : List Txt} {k k0 : Nat} {ins ins0 : List Txt} {m m0 : Nat} {w W : World} (h0 : Tb n B pb lb a0 S0 k0 ins0 m0 w) (hlow : ∀ b off, a = some ⟨b, off, none⟩ → 0 < S.length → b < n) (h : Tb N B pb lb a S k ins m W) (hn : n ≤ N) : Tb n B pb lb a S k ins m W := by
  obtain ⟨c, vin, hc, hb, hv⟩ := h.tab.blk
  have t := h0.tab
  have u := h.tab
  refine ⟨⟨⟨c, vin, hc, hb, ⟨hv.1, ?_⟩⟩, u.pm, u.lm, u.txt, u.hk, t.hB, t.hp, t.hl, t.hne, Nat.le_trans hn u.hn, hlow⟩, h.mx, h0.mlow⟩
  rcases hv.2 with h1 | ⟨b, cap, cur, e, hb, r⟩
  · exact .inl h1
  · exact .inr ⟨b, cap, cur, e, Nat.le_trans hn hb, r⟩
/-- What was asked: how many are closed, what is put in. -/
structure Asked (n B pb lb : Nat) (a : Option Addr) (S : List Txt) (k : Nat) (r : St) (m : Nat) (w w' : World) (e : Ending) : Prop where
  ans : ∃ vi ci, e = .returned (.agg #[.int .i64 ((k : Int) - (r.1 : Int)), .slice vi r.2.length ci, .bool false]) ∧ OwnT w.heap.size w' (.slice vi r.2.length ci) r.2
  tb : Tb n B pb lb a S r.1 r.2 m w'
  keep : Keep w.heap.size B lb w w'
theorem own_low {base base' : Nat} {w : World} {v : Value} {L : List Txt} (h : OwnT base w v L) (hb : base' ≤ base) : OwnT base' w v L := by
  refine ⟨h.1, ?_⟩
  rcases h.2 with h0 | ⟨g, cap, cur, e, hg, r⟩
  · exact .inl h0
  · exact .inr ⟨g, cap, cur, e, Nat.le_trans hb hg, r⟩
set_option maxRecDepth 100000 in
set_option maxHeartbeats 8000000 in
/-- **element.** -/
theorem element_calls {n B pb lb : Nat} {a a0 : Option Addr} {S S0 : List Txt} {k k0 c : Nat} {ins0 : List Txt} {m : Nat} (hS : Few S) (x : Txt) (hk : k ≤ S.length) (hc : k ≤ c) (w : World) (h : Tb n B pb lb a0 S0 k0 ins0 m w) (hT : TextsAt w a S) (hlow : ∀ b off, a = some ⟨b, off, none⟩ → 0 < S.length → b < n) (hm : m + 12 * S.length ≤ 1000000000000) :
    Calls Tryz.prog 96 #[.pointer (some ⟨B, 0, none⟩), .slice a k c, lookV x] w fun e w' => Asked n B pb lb a S k (elementK S k x) (m + 12 * S.length) w w' e := by
  obtain ⟨W0, hW0⟩ : ∃ W, w.alloc (.cells (lookArr x) 133) = W := ⟨_, rfl⟩
  obtain ⟨W1, hW1⟩ : ∃ W, W0.alloc (.cells zeroPlan 93) = W := ⟨_, rfl⟩
  have b0 : Below w.heap.size w W0 := by rw [← hW0]; exact (Below.refl _ w).alloc (Nat.le_refl _) _
  have b1 : Below w.heap.size w W1 := by rw [← hW1]; exact b0.alloc b0.size _
  have z0 : W0.heap.size = w.heap.size + 1 := by rw [← hW0]; simp
  have z1 : W1.heap.size = w.heap.size + 2 := by rw [← hW1]; simp; omega
  have q1 : Blk W1 w.heap.size (lookArr x) 133 := by
    have h0 : Blk W0 w.heap.size (lookArr x) 133 := by rw [← hW0]; exact Blk.new _ _ _
    rw [← hW1]; exact h0.below ((Below.refl _ _).alloc (Nat.le_refl _) _)
  have r1 : Blk W1 (w.heap.size + 1) zeroPlan 93 := by rw [← hW1, ← z0]; exact Blk.new _ _ _
  have t1 := h.below b1
  obtain ⟨c0, vin, hc0, hb, hv⟩ := t1.tab.blk
  obtain ⟨va, vc, rfl⟩ := owns_slice hv
  have hB : Blk W1 B #[.map (some pb), .map (some lb), .slice a0 k0 c0, .slice va ins0.length vc] 155 := hb
  have tf := t1.fresh (hT.below b1) hlow (k := k) (c := c) hk hc hb
  have hBw : B < w.heap.size := by have h1 := h.tab.hB; have h2 := h.tab.hn; omega
  have hLw : lb < w.heap.size := by have h1 := h.tab.hl; have h2 := h.tab.hn; omega
  have HQB : Hid (w.heap.size ≠ B) := by show _ ≠ _; omega
  have HQL : Hid (w.heap.size ≠ lb) := by show _ ≠ _; omega
  have HQB2 : Hid (w.heap.size + 1 ≠ B) := by show _ ≠ _; omega
  have HQL2 : Hid (w.heap.size + 1 ≠ lb) := by show _ ≠ _; omega
  have HQN : Hid (w.heap.size < w.heap.size + 2) := by show _ < _; omega
  have HQN2 : Hid (w.heap.size + 1 < w.heap.size + 2) := by show _ < _; omega
  have HKK : Hid (k ≤ 100000) := Nat.le_trans hk hS.len
  have HLV : Hid (Value.agg #[.string ⟨x.toArray⟩, .bool (allowB x), .bool (voidB x), .bool (headB x), .bool (blockB x), .func (.func (ownFn (ownOf x))) #[] #[]] = lookV x) := rfl
  have HEL : Hid (ownK S (closeLikeN S (areaN S k) x, []) (ownOf x) = elementK S k x) := rfl
  have k2 : W1.cell? ⟨B, 2, none⟩ = some (.slice a0 k0 c0) := hB.cell 2
  have k3 : W1.cell? ⟨B, 3, none⟩ = some (.slice va ins0.length vc) := hB.cell 3
  have f2 := hB.frozen
  have HW : Hid ((w.alloc (.cells #[.string ⟨x.toArray⟩, .bool (allowB x), .bool (voidB x), .bool (headB x), .bool (blockB x), .func (.func (ownFn (ownOf x))) #[] #[]] 133)).alloc (.cells #[.int .i64 0, .slice none 0 0, .bool false] 93) = W1) := by rw [← hW1, ← hW0]; rfl
  obtain ⟨W2, hW2⟩ : ∃ W, (W1.setCell ⟨B, 2, none⟩ (.slice a k c)).setCell ⟨B, 3, none⟩ (.slice none 0 0) = W := ⟨_, rfl⟩
  rw [hW2, z1] at tf
  have HQX : Hid (Blk W2 w.heap.size (lookArr x) 133) := by rw [← hW2]; exact (q1.other HQB.out 2 _).other HQB.out 3 _
  have HQR : Hid (Blk W2 (w.heap.size + 1) zeroPlan 93) := by rw [← hW2]; exact (r1.other HQB2.out 2 _).other HQB2.out 3 _
  have HKW : Hid (Keep w.heap.size B lb w W2) := by rw [← hW2]; exact (Keep.below b1).trans ((Keep.set 2 _).trans (Keep.set 3 _))
  have HT := hid_of h
  have HLOW := hid_of hlow
  have HTF := hid_of tf
  have HS := hid_of hS
  have d0 : W2.cell? ⟨w.heap.size, 0, none⟩ = some (.string ⟨x.toArray⟩) := HQX.out.cell 0
  have HTC := hid_of (top_calls hS.len W2 tf)
  clear hv hb hB h hT hlow t1 tf b0 b1 hW1 hW0 q1 r1 hS z0 z1 hBw hLw d0
  by_cases hA : topK S k = xArea
  · have HAN : Hid (areaN S k = k - 1) := by show areaN S k = _; unfold areaN; rw [if_pos hA]
    have hk0 : k ≠ 0 := by rintro rfl; cases hA
    obtain ⟨j, rfl⟩ : ∃ j, k = j + 1 := ⟨k - 1, by omega⟩
    rw [hA] at HTC
    clear hA hk0
    rw [← HLV.out]
    go_enter Tryz.func96, Tryz.ntmps96
    go_upto_region 1 with fail
    rw [HW.out]
    clear HW
    go_upto_region 2 with fail
    try rw [hW2]
    clear k2 k3 f2 hW2
    go_wp2_with fail
    (go_at_call 116; refine HTC.out.mono ?_; rintro e w3 ⟨rfl, hb3⟩; unfold xArea)
    have hp3 := (PL.refl HTF.out).below hb3
    obtain ⟨c3, k3⟩ := hp3.tb.left
    have hw1 : IntKind.i64.wrap ((j : Int) + 1 - 1) = (j : Int) := by have := HKK.out; rw [IntKind.wrap_i64]; omega
    have hw2 : IntKind.i64.wrap (j : Int) = (j : Int) := by have := HKK.out; rw [IntKind.wrap_i64]; omega
    have HP3 := hid_of hp3
    clear hp3 hb3
    go_wp2_with fail
    (go_at_call 117; refine (closeWith_calls HS.out.len (j : Int) (fun _ => ⟨by omega, by omega⟩) w3 HP3.out.tb).mono ?_; rintro e w4 ⟨rfl, hcl⟩)
    rw [show closeK (j + 1) (j : Int) = areaN S (j + 1) by rw [HAN.out]; unfold closeK; rw [if_pos (by omega)]; simp] at hcl
    have hq := HP3.out.trans (hcl.pl HP3.out.tb.tab.hn)
    have c40 : w4.cell? ⟨w.heap.size, 0, none⟩ = some (.string ⟨x.toArray⟩) := (hq.blk HQX.out HQN.out HQB.out HQL.out).cell 0
    have c41 : w4.cell? ⟨w.heap.size, 1, none⟩ = some (.bool (allowB x)) := (hq.blk HQX.out HQN.out HQB.out HQL.out).cell 1
    have c42 : w4.cell? ⟨w.heap.size, 2, none⟩ = some (.bool (voidB x)) := (hq.blk HQX.out HQN.out HQB.out HQL.out).cell 2
    have c43 : w4.cell? ⟨w.heap.size, 3, none⟩ = some (.bool (headB x)) := (hq.blk HQX.out HQN.out HQB.out HQL.out).cell 3
    have c44 : w4.cell? ⟨w.heap.size, 4, none⟩ = some (.bool (blockB x)) := (hq.blk HQX.out HQN.out HQB.out HQL.out).cell 4
    have c45 : w4.cell? ⟨w.heap.size, 5, none⟩ = some (.func (.func (ownFn (ownOf x))) #[] #[]) := (hq.blk HQX.out HQN.out HQB.out HQL.out).cell 5
    clear hcl k3 HP3
    go_wp2_with fail
    (go_at_call 118; rw [HLV.out]; refine (closeLike_calls HS.out x _ hq.tb (by omega)).mono ?_; rintro e w5 ⟨⟨v5, rfl⟩, hcl5⟩)
    have hp5 := hq.trans (hcl5.pl hq.tb.tab.hn)
    have c55 : w5.cell? ⟨w.heap.size, 5, none⟩ = some (.func (.func (ownFn (ownOf x))) #[] #[]) := (hp5.blk HQX.out HQN.out HQB.out HQL.out).cell 5
    clear hq hcl5
    have hen := own_enters (ownOf x)
    go_wp2_with fail
    (refine (own_calls HS.out (by simp) w5 hp5.tb (by omega) (ownOf x)).mono ?_; rintro e w6 ⟨⟨v6, rfl⟩, hp6⟩)
    have hp7 := hp5.trans hp6
    rw [HEL.out] at hp7
    clear hp5 hp6
    go_wp2_with fail
    (go_at_call 119; refine (plan_calls HKK.out (element_le S (j + 1) x) w6 hp7.tb).mono ?_; rintro e w7 ⟨vi, ci, rfl, ho7, hb7⟩)
    have hp8 := hp7.below hb7
    have q7 := hp8.blk HQR.out HQN2.out HQB2.out HQL2.out
    have e0 : w7.cell? ⟨w.heap.size + 1, 0, none⟩ = some (.int .i64 0) := q7.cell 0
    have e1 : w7.cell? ⟨w.heap.size + 1, 1, none⟩ = some (.slice none 0 0) := q7.cell 1
    have e2 : w7.cell? ⟨w.heap.size + 1, 2, none⟩ = some (.bool false) := q7.cell 2
    have f0 := q7.frozen
    clear hp7 hb7
    go_wp2_with fail
    have hF := below_put3 (Below.refl (w.heap.size + 1) w7) (Nat.le_refl _) (.int .i64 (((j + 1 : Nat) : Int) - ((elementK S (j + 1) x).1 : Int))) (.slice vi (elementK S (j + 1) x).2.length ci) (.bool false)
    have hT9 : Tb n B pb lb a S (elementK S (j + 1) x).1 (elementK S (j + 1) x).2 (m + 12 * S.length) (((w7.setCell ⟨w.heap.size + 1, 0, none⟩ (.int .i64 (((j + 1 : Nat) : Int) - ((elementK S (j + 1) x).1 : Int)))).setCell ⟨w.heap.size + 1, 1, none⟩ (.slice vi (elementK S (j + 1) x).2.length ci)).setCell ⟨w.heap.size + 1, 2, none⟩ (.bool false)) := by
      have h9 := hp8.tb.mono (show m + 6 * S.length + 6 * S.length ≤ m + 12 * S.length by omega)
      have h9b := h9.tab.blk
      obtain ⟨c9, v9, d1, d2, d3⟩ := h9b
      have hb9 := (((show Blk w7 B _ _ from d2).other (Ne.symm HQB2.out) 0 (.int .i64 (((j + 1 : Nat) : Int) - ((elementK S (j + 1) x).1 : Int)))).other (Ne.symm HQB2.out) 1 (.slice vi (elementK S (j + 1) x).2.length ci)).other (Ne.symm HQB2.out) 2 (.bool false)
      have hnn := HT.out.tab.hn
      exact (HT.out.back HLOW.out h9 (by omega)).rebuild d1 h9.tab.hk (own_low (own_set (own_set (own_set d3 (by omega) 0 _) (by omega) 1 _) (by omega) 2 _) (by omega)) hb9 (fun j hj hne => put3_other (by omega) _ _ _) (by simp [World.setCell])
    refine bodyPost_ret (results_elem rfl (q7.put3 _ _ _)) rfl ⟨⟨vi, ci, rfl, own_low (own_set (own_set (own_set ho7 (by omega) 0 _) (by omega) 1 _) (by omega) 2 _) (by omega)⟩, hT9, ?_⟩
    refine HKW.out.trans ((hp8.keep.mono (by omega)).trans (Keep.below (hF.mono (by omega))))
  · have HAN : Hid (areaN S k = k) := by show areaN S k = _; unfold areaN; rw [if_neg hA]
    have hA2 : (topK S k == [116, 101, 120, 116, 97, 114, 101, 97]) = false := by rw [beq_eq_false_iff_ne]; exact hA
    generalize topK S k = T at *
    clear hA
    rw [← HLV.out]
    go_enter Tryz.func96, Tryz.ntmps96
    go_upto_region 1 with fail
    rw [HW.out]
    clear HW
    go_upto_region 2 with fail
    try rw [hW2]
    clear k2 k3 f2 hW2
    go_wp2_with fail
    (go_at_call 116; refine HTC.out.mono ?_; rintro e w4 ⟨rfl, hb4⟩)
    have hq := (PL.refl HTF.out).below hb4
    rw [← HAN.out] at hq
    have c40 : w4.cell? ⟨w.heap.size, 0, none⟩ = some (.string ⟨x.toArray⟩) := (hq.blk HQX.out HQN.out HQB.out HQL.out).cell 0
    have c41 : w4.cell? ⟨w.heap.size, 1, none⟩ = some (.bool (allowB x)) := (hq.blk HQX.out HQN.out HQB.out HQL.out).cell 1
    have c42 : w4.cell? ⟨w.heap.size, 2, none⟩ = some (.bool (voidB x)) := (hq.blk HQX.out HQN.out HQB.out HQL.out).cell 2
    have c43 : w4.cell? ⟨w.heap.size, 3, none⟩ = some (.bool (headB x)) := (hq.blk HQX.out HQN.out HQB.out HQL.out).cell 3
    have c44 : w4.cell? ⟨w.heap.size, 4, none⟩ = some (.bool (blockB x)) := (hq.blk HQX.out HQN.out HQB.out HQL.out).cell 4
    have c45 : w4.cell? ⟨w.heap.size, 5, none⟩ = some (.func (.func (ownFn (ownOf x))) #[] #[]) := (hq.blk HQX.out HQN.out HQB.out HQL.out).cell 5
    clear hb4
    go_wp2_with fail
    (go_at_call 118; rw [HLV.out]; refine (closeLike_calls HS.out x _ hq.tb (by omega)).mono ?_; rintro e w5 ⟨⟨v5, rfl⟩, hcl5⟩)
    have hp5 := hq.trans (hcl5.pl hq.tb.tab.hn)
    have c55 : w5.cell? ⟨w.heap.size, 5, none⟩ = some (.func (.func (ownFn (ownOf x))) #[] #[]) := (hp5.blk HQX.out HQN.out HQB.out HQL.out).cell 5
    clear hq hcl5
    have hen := own_enters (ownOf x)
    go_wp2_with fail
    (refine (own_calls HS.out (by simp) w5 hp5.tb (by omega) (ownOf x)).mono ?_; rintro e w6 ⟨⟨v6, rfl⟩, hp6⟩)
    have hp7 := hp5.trans hp6
    rw [HEL.out] at hp7
    clear hp5 hp6
    go_wp2_with fail
    (go_at_call 119; refine (plan_calls HKK.out (element_le S k x) w6 hp7.tb).mono ?_; rintro e w7 ⟨vi, ci, rfl, ho7, hb7⟩)
    have hp8 := hp7.below hb7
    have q7 := hp8.blk HQR.out HQN2.out HQB2.out HQL2.out
    have e0 : w7.cell? ⟨w.heap.size + 1, 0, none⟩ = some (.int .i64 0) := q7.cell 0
    have e1 : w7.cell? ⟨w.heap.size + 1, 1, none⟩ = some (.slice none 0 0) := q7.cell 1
    have e2 : w7.cell? ⟨w.heap.size + 1, 2, none⟩ = some (.bool false) := q7.cell 2
    have f0 := q7.frozen
    clear hp7 hb7
    go_wp2_with fail
    have hF := below_put3 (Below.refl (w.heap.size + 1) w7) (Nat.le_refl _) (.int .i64 ((k : Int) - ((elementK S k x).1 : Int))) (.slice vi (elementK S k x).2.length ci) (.bool false)
    have hT9 : Tb n B pb lb a S (elementK S k x).1 (elementK S k x).2 (m + 12 * S.length) (((w7.setCell ⟨w.heap.size + 1, 0, none⟩ (.int .i64 ((k : Int) - ((elementK S k x).1 : Int)))).setCell ⟨w.heap.size + 1, 1, none⟩ (.slice vi (elementK S k x).2.length ci)).setCell ⟨w.heap.size + 1, 2, none⟩ (.bool false)) := by
      have h9 := hp8.tb.mono (show m + 6 * S.length + 6 * S.length ≤ m + 12 * S.length by omega)
      have h9b := h9.tab.blk
      obtain ⟨c9, v9, d1, d2, d3⟩ := h9b
      have hb9 := (((show Blk w7 B _ _ from d2).other (Ne.symm HQB2.out) 0 (.int .i64 ((k : Int) - ((elementK S k x).1 : Int)))).other (Ne.symm HQB2.out) 1 (.slice vi (elementK S k x).2.length ci)).other (Ne.symm HQB2.out) 2 (.bool false)
      have hnn := HT.out.tab.hn
      exact (HT.out.back HLOW.out h9 (by omega)).rebuild d1 h9.tab.hk (own_low (own_set (own_set (own_set d3 (by omega) 0 _) (by omega) 1 _) (by omega) 2 _) (by omega)) hb9 (fun j hj hne => put3_other (by omega) _ _ _) (by simp [World.setCell])
    refine bodyPost_ret (results_elem rfl (q7.put3 _ _ _)) rfl ⟨⟨vi, ci, rfl, own_low (own_set (own_set (own_set ho7 (by omega) 0 _) (by omega) 1 _) (by omega) 2 _) (by omega)⟩, hT9, ?_⟩
    refine HKW.out.trans ((hp8.keep.mono (by omega)).trans (Keep.below (hF.mono (by omega))))
set_option maxRecDepth 100000 in
set_option maxHeartbeats 4000000 in
/-- **text.** -/
theorem text_calls {n B pb lb : Nat} {a a0 : Option Addr} {S S0 : List Txt} {k k0 c : Nat} {ins0 : List Txt} {m : Nat} (hS : Few S) (hk : k ≤ S.length) (hc : k ≤ c) (w : World) (h : Tb n B pb lb a0 S0 k0 ins0 m w) (hT : TextsAt w a S) (hlow : ∀ b off, a = some ⟨b, off, none⟩ → 0 < S.length → b < n) :
    Calls Tryz.prog 102 #[.pointer (some ⟨B, 0, none⟩), .slice a k c] w fun e w' => Asked n B pb lb a S k (textK S k) m w w' e := by
  obtain ⟨W1, hW1⟩ : ∃ W, w.alloc (.cells zeroPlan 93) = W := ⟨_, rfl⟩
  have b1 : Below w.heap.size w W1 := by rw [← hW1]; exact (Below.refl _ w).alloc (Nat.le_refl _) _
  have z1 : W1.heap.size = w.heap.size + 1 := by rw [← hW1]; simp
  have r1 : Blk W1 w.heap.size zeroPlan 93 := by rw [← hW1]; exact Blk.new _ _ _
  have t1 := h.below b1
  obtain ⟨c0, vin, hc0, hb, hv⟩ := t1.tab.blk
  obtain ⟨va, vc, rfl⟩ := owns_slice hv
  have hB : Blk W1 B #[.map (some pb), .map (some lb), .slice a0 k0 c0, .slice va ins0.length vc] 155 := hb
  have tf := t1.fresh (hT.below b1) hlow (k := k) (c := c) hk hc hb
  have hBw : B < w.heap.size := by have h1 := h.tab.hB; have h2 := h.tab.hn; omega
  have hLw : lb < w.heap.size := by have h1 := h.tab.hl; have h2 := h.tab.hn; omega
  have HQB : Hid (w.heap.size ≠ B) := by show _ ≠ _; omega
  have HQL : Hid (w.heap.size ≠ lb) := by show _ ≠ _; omega
  have HQN : Hid (w.heap.size < w.heap.size + 1) := by show _ < _; omega
  have HKK : Hid (k ≤ 100000) := Nat.le_trans hk hS.len
  have HEL : Hid ((textK S k).1 = standN S k ∧ (textK S k).2 = [] ++ standI (topK S k)) := ⟨rfl, rfl⟩
  have k2 : W1.cell? ⟨B, 2, none⟩ = some (.slice a0 k0 c0) := hB.cell 2
  have k3 : W1.cell? ⟨B, 3, none⟩ = some (.slice va ins0.length vc) := hB.cell 3
  have f2 := hB.frozen
  have HW : Hid (w.alloc (.cells #[.int .i64 0, .slice none 0 0, .bool false] 93) = W1) := by rw [← hW1]; rfl
  obtain ⟨W2, hW2⟩ : ∃ W, (W1.setCell ⟨B, 2, none⟩ (.slice a k c)).setCell ⟨B, 3, none⟩ (.slice none 0 0) = W := ⟨_, rfl⟩
  rw [hW2, z1] at tf
  have HQR : Hid (Blk W2 w.heap.size zeroPlan 93) := by rw [← hW2]; exact (r1.other HQB.out 2 _).other HQB.out 3 _
  have HKW : Hid (Keep w.heap.size B lb w W2) := by rw [← hW2]; exact (Keep.below b1).trans ((Keep.set 2 _).trans (Keep.set 3 _))
  have HT := hid_of h
  have HLOW := hid_of hlow
  have HTF := hid_of tf
  have HS := hid_of hS
  clear hv hb hB h hT hlow t1 tf b1 hW1 r1 hS z1 hBw hLw
  go_enter Tryz.func102, Tryz.ntmps102
  go_upto_region 1 with fail
  rw [HW.out]
  clear HW
  go_upto_region 2 with fail
  try rw [hW2]
  clear k2 k3 f2 hW2
  go_wp2_with fail
  (go_at_call 115; refine (stand_calls HS.out.len (by simp) W2 HTF.out).mono ?_; rintro e w6 ⟨⟨v6, rfl⟩, hp7⟩)
  rw [← HEL.out.1, ← HEL.out.2] at hp7
  go_wp2_with fail
  (go_at_call 119; refine (plan_calls HKK.out (by rw [HEL.out.1]; exact standN_le S k) w6 hp7.tb).mono ?_; rintro e w7 ⟨vi, ci, rfl, ho7, hb7⟩)
  have hp8 := hp7.below hb7
  have q7 := hp8.blk HQR.out HQN.out HQB.out HQL.out
  have e0 : w7.cell? ⟨w.heap.size, 0, none⟩ = some (.int .i64 0) := q7.cell 0
  have e1 : w7.cell? ⟨w.heap.size, 1, none⟩ = some (.slice none 0 0) := q7.cell 1
  have e2 : w7.cell? ⟨w.heap.size, 2, none⟩ = some (.bool false) := q7.cell 2
  have f0 := q7.frozen
  clear hp7 hb7
  go_wp2_with fail
  have hF := below_put3 (Below.refl w.heap.size w7) (Nat.le_refl _) (.int .i64 ((k : Int) - ((textK S k).1 : Int))) (.slice vi (textK S k).2.length ci) (.bool false)
  have hT9 : Tb n B pb lb a S (textK S k).1 (textK S k).2 m (((w7.setCell ⟨w.heap.size, 0, none⟩ (.int .i64 ((k : Int) - ((textK S k).1 : Int)))).setCell ⟨w.heap.size, 1, none⟩ (.slice vi (textK S k).2.length ci)).setCell ⟨w.heap.size, 2, none⟩ (.bool false)) := by
    have h9 := hp8.tb
    have h9b := h9.tab.blk
    obtain ⟨c9, v9, d1, d2, d3⟩ := h9b
    have hb9 := (((show Blk w7 B _ _ from d2).other (Ne.symm HQB.out) 0 (.int .i64 ((k : Int) - ((textK S k).1 : Int)))).other (Ne.symm HQB.out) 1 (.slice vi (textK S k).2.length ci)).other (Ne.symm HQB.out) 2 (.bool false)
    have hnn := HT.out.tab.hn
    exact (HT.out.back HLOW.out h9 (by omega)).rebuild d1 h9.tab.hk (own_low (own_set (own_set (own_set d3 (by omega) 0 _) (by omega) 1 _) (by omega) 2 _) (by omega)) hb9 (fun j hj hne => put3_other (by omega) _ _ _) (by simp [World.setCell])
  refine bodyPost_ret (results_text rfl (q7.put3 _ _ _)) rfl ⟨⟨vi, ci, rfl, own_low (own_set (own_set (own_set ho7 (by omega) 0 _) (by omega) 1 _) (by omega) 2 _) (by omega)⟩, hT9, ?_⟩
  refine HKW.out.trans ((hp8.keep.mono (by omega)).trans (Keep.below (hF.mono (by omega))))
end Go.Proofs.YtdkcibafbdmajabGreatDoor.E
