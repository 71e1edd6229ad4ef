/- What is proved here: laws and contracts of NeOwn, NePlace, one behind the other (each says its own). -/
import Derived.Test.YtdkcibafbdmajabGreatDoorNeStand
/- What is proved here: the places of their own that names have. -/
namespace Go.Proofs.YtdkcibafbdmajabGreatDoor.E
open Go.RowKit Go.Shelf Go.WideMaps Go.Maps Go.Proofs.YtdkcibafbdmajabGreatDoor.N Go.Proofs.YtdkcibafbdmajabGreatDoor.C

theorem Tb.left {n B pb lb : Nat} {a : Option Addr} {S : List Txt} {k : Nat} {ins : List Txt} {m : Nat} {W : World} (h : Tb n B pb lb a S k ins m W) : ∃ c, W.cell? ⟨B, 2, none⟩ = some (.slice a k c) := by
  obtain ⟨c, vin, _, hb, _⟩ := h.tab.blk
  have hB : Blk W B _ _ := hb
  exact ⟨c, hB.cell 2⟩
set_option maxRecDepth 100000 in
set_option maxHeartbeats 2000000 in
/-- **within.** -/
theorem within_calls {n B pb lb : Nat} {a : Option Addr} {S : List Txt} {k : Nat} {ins : List Txt} {m m1 : Nat} (hS : Few S) (hi : ins.length ≤ 900) (f1 : Nat) (c1 : Array Value) (p : Txt → Bool) (one : Txt) (w : World) (h : Tb n B pb lb a S k ins m w)
    (hf : ∀ cap, Calls Tryz.prog 124 #[.slice a k cap, .func (.func f1) #[] c1, .func (.func 125) #[] #[]] w fun e w' => e = .returned (.int .i64 (findK S p wallB k)) ∧ CL n B pb lb a S k ins m1 w w') :
    Calls Tryz.prog 154 #[.pointer (some ⟨B, 0, none⟩), .func (.func f1) #[] c1, .string ⟨one.toArray⟩] w fun e w' => (∃ v, e = .returned v) ∧ PL n B pb lb a S (withinK S (k, ins) p one).1 (withinK S (k, ins) p one).2 m1 w w' := by
  obtain ⟨c, k2⟩ := h.left
  have HF := hid_of (hf c)
  have HN : Hid (n ≤ w.heap.size) := h.tab.hn
  have HC : Hid (∀ W, Tb n B pb lb a S k ins m1 W → Calls Tryz.prog 157 #[.pointer (some ⟨B, 0, none⟩), .int .i64 (findK S p wallB k)] W fun e w' => e = .returned (.bool (decide (0 ≤ findK S p wallB k))) ∧ CL n B pb lb a S (closeToK k (findK S p wallB k)) ins m1 W w') := fun W hW =>
    closeTo_calls hS.len _ (findK_lt S p wallB k) W hW
  have HS := hid_of hS
  by_cases h0 : 0 ≤ findK S p wallB k
  · have HE : Hid ((withinK S (k, ins) p one).1 = closeToK k (findK S p wallB k) ∧ (withinK S (k, ins) p one).2 = ins) := by
      unfold withinK; simp only [if_pos h0]; exact ⟨trivial, trivial⟩
    rw [decide_eq_true h0] at HC
    clear h hf hS h0
    go_enter Tryz.func154, Tryz.ntmps154
    go_wp2_with fail
    (go_at_call 124; refine HF.out.mono ?_; rintro e w2 ⟨rfl, hcl⟩)
    go_wp2_with fail
    (go_at_call 157; refine (HC.out _ hcl.tb).mono ?_; rintro e w3 ⟨rfl, hcl3⟩)
    go_wp2_with fail
    go_end0
    exact ⟨⟨_, rfl⟩, by rw [HE.out.1, HE.out.2]; exact (hcl.trans hcl3).pl HN.out⟩
  · have HE : Hid ((withinK S (k, ins) p one).1 = standN S k ∧ (withinK S (k, ins) p one).2 = ins ++ standI (topK S k) ++ [one]) := by
      unfold withinK; simp only [if_neg h0]; exact ⟨rfl, rfl⟩
    have e2 : closeToK k (findK S p wallB k) = k := by unfold closeToK; rw [if_neg h0]
    rw [decide_eq_false h0, e2] at HC
    have HI : Hid ((ins ++ standI (topK S k)).length ≤ 1000) := by have := standI_len (topK S k); show _ ≤ _; simp; omega
    clear h hf hS h0 e2
    go_enter Tryz.func154, Tryz.ntmps154
    go_wp2_with fail
    (go_at_call 124; refine HF.out.mono ?_; rintro e w2 ⟨rfl, hcl⟩)
    go_wp2_with fail
    (go_at_call 157; refine (HC.out _ hcl.tb).mono ?_; rintro e w3 ⟨rfl, hcl3⟩)
    go_wp2_with fail
    (go_at_call 115; refine (stand_calls HS.out.len hi _ hcl3.tb).mono ?_; rintro e w4 ⟨⟨v4, rfl⟩, hp4⟩)
    go_wp2_with fail
    (go_at_call 142; refine (put_calls one HI.out _ hp4.tb).mono ?_; rintro e w5 ⟨⟨v5, rfl⟩, hp5⟩)
    go_wp2_with fail
    go_end0
    exact ⟨⟨_, rfl⟩, by rw [HE.out.1, HE.out.2]; exact (((hcl.trans hcl3).pl HN.out).trans hp4).trans hp5⟩
set_option maxRecDepth 100000 in
set_option maxHeartbeats 2000000 in
/-- **tabled.** -/
theorem tabled_calls {n B pb lb : Nat} {a : Option Addr} {S : List Txt} {k : Nat} {ins : List Txt} {m m1 : Nat} (hS : Few S) (hi : ins.length ≤ 900) (f1 : Nat) (c1 : Array Value) (p : Txt → Bool) (w : World) (h : Tb n B pb lb a S k ins m w) (hm : m1 + 2 * S.length ≤ 1000000000000)
    (hf : ∀ cap, Calls Tryz.prog 124 #[.slice a k cap, .func (.func f1) #[] c1, .func (.func 127) #[] #[]] w fun e w' => e = .returned (.int .i64 (findK S p neverB k)) ∧ CL n B pb lb a S k ins m1 w w') :
    Calls Tryz.prog 156 #[.pointer (some ⟨B, 0, none⟩), .func (.func f1) #[] c1] w fun e w' => e = .returned (.string ⟨(tabledT S k p).toArray⟩) ∧ PL n B pb lb a S (tabledK S (k, ins) p).1 (tabledK S (k, ins) p).2 (m1 + 2 * S.length) w w' := by
  obtain ⟨c, k2⟩ := h.left
  have HF := hid_of (hf c)
  have HN : Hid (n ≤ w.heap.size) := h.tab.hn
  have HC : Hid (∀ W, Tb n B pb lb a S k ins m1 W → Calls Tryz.prog 157 #[.pointer (some ⟨B, 0, none⟩), .int .i64 (findK S p neverB k)] W fun e w' => e = .returned (.bool (decide (0 ≤ findK S p neverB k))) ∧ CL n B pb lb a S (closeToK k (findK S p neverB k)) ins m1 W w') := fun W hW =>
    closeTo_calls hS.len _ (findK_lt S p neverB k) W hW
  have HS := hid_of hS
  by_cases h0 : 0 ≤ findK S p neverB k
  · have HE : Hid ((tabledK S (k, ins) p).1 = closeToK k (findK S p neverB k) ∧ (tabledK S (k, ins) p).2 = ins ∧ tabledT S k p = topK S (closeToK k (findK S p neverB k))) := by
      unfold tabledK tabledT; simp only [if_pos h0]; exact ⟨trivial, trivial, trivial⟩
    rw [decide_eq_true h0] at HC
    clear h hf hS h0 hm
    go_enter Tryz.func156, Tryz.ntmps156
    go_wp2_with fail
    (go_at_call 124; refine HF.out.mono ?_; rintro e w2 ⟨rfl, hcl⟩)
    go_wp2_with fail
    (go_at_call 157; refine (HC.out _ hcl.tb).mono ?_; rintro e w3 ⟨rfl, hcl3⟩)
    go_wp2_with fail
    (go_at_call 116; refine (top_calls HS.out.len _ hcl3.tb).mono ?_; rintro e w4 ⟨rfl, hb4⟩)
    go_wp2_with fail
    go_ret
    exact ⟨by rw [HE.out.2.2]; rfl, by rw [HE.out.1, HE.out.2.1]; exact (((hcl.trans hcl3).pl HN.out).below hb4).mono (by omega)⟩
  · have HE : Hid ((tabledK S (k, ins) p).1 = standN S (closePN S k) ∧ (tabledK S (k, ins) p).2 = ins ++ standI (topK S (closePN S k)) ++ [xTable] ∧ tabledT S k p = xTable) := by
      unfold tabledK tabledT; simp only [if_neg h0]; exact ⟨rfl, rfl, trivial⟩
    have e2 : closeToK k (findK S p neverB k) = k := by unfold closeToK; rw [if_neg h0]
    rw [decide_eq_false h0, e2] at HC
    have HI : Hid ((ins ++ standI (topK S (closePN S k))).length ≤ 1000) := by have := standI_len (topK S (closePN S k)); show _ ≤ _; simp; omega
    clear h hf hS h0 e2
    go_enter Tryz.func156, Tryz.ntmps156
    go_wp2_with fail
    (go_at_call 124; refine HF.out.mono ?_; rintro e w2 ⟨rfl, hcl⟩)
    go_wp2_with fail
    (go_at_call 157; refine (HC.out _ hcl.tb).mono ?_; rintro e w3 ⟨rfl, hcl3⟩)
    go_wp2_with fail
    (go_at_call 144; refine (closeP_calls HS.out _ hcl3.tb (by omega)).mono ?_; rintro e w4 ⟨⟨v4, rfl⟩, hcl4⟩)
    go_wp2_with fail
    (go_at_call 115; refine (stand_calls HS.out.len hi _ hcl4.tb).mono ?_; rintro e w5 ⟨⟨v5, rfl⟩, hp5⟩)
    go_wp2_with fail
    (go_at_call 142; refine (put_calls xTable HI.out _ hp5.tb).mono ?_; rintro e w6 ⟨⟨v6, rfl⟩, hp6⟩)
    go_wp2_with fail
    go_ret
    exact ⟨by rw [HE.out.2.2]; rfl, by rw [HE.out.1, HE.out.2.1]; exact ((((hcl.trans hcl3).trans hcl4).pl HN.out).trans hp5).trans hp6⟩
end Go.Proofs.YtdkcibafbdmajabGreatDoor.E

/- What is proved here: item, term, part, column, row, cell; the place of its own that a name has, whichever it is. -/
namespace Go.Proofs.YtdkcibafbdmajabGreatDoor.E
open Go.RowKit Go.Shelf Go.WideMaps Go.Maps Go.Proofs.YtdkcibafbdmajabGreatDoor.N Go.Proofs.YtdkcibafbdmajabGreatDoor.C

set_option maxRecDepth 100000 in
set_option maxHeartbeats 2000000 in
theorem item_calls {n B pb lb : Nat} {a : Option Addr} {S : List Txt} {k : Nat} {ins : List Txt} {m : Nat} (hS : Few S) (hi : ins.length ≤ 900) (w : World) (h : Tb n B pb lb a S k ins m w) (hm : m + 6 * S.length ≤ 1000000000000) :
    Calls Tryz.prog 136 #[.pointer (some ⟨B, 0, none⟩)] w fun e w' => (∃ v, e = .returned v) ∧ PL n B pb lb a S (itemK S (k, ins)).1 (itemK S (k, ins)).2 (m + 6 * S.length) w w' := by
  have HC := hid_of (within_calls (m1 := m + 2 * S.length) hS hi 155 #[] listB xUl w h (fun cap => find_tb hS k cap h.tab.hk w h (by omega) (asks_plain_tb ent_list list_calls') (asks_plain_tb ent_wall wall_calls)))
  clear h hm hi hS
  go_enter Tryz.func136, Tryz.ntmps136
  go_wp2_with fail
  (go_at_call 154; refine HC.out.mono ?_; rintro e w2 ⟨⟨v, rfl⟩, hp⟩)
  go_wp2_with fail
  go_end0
  exact ⟨⟨_, rfl⟩, hp.mono (by omega)⟩
set_option maxRecDepth 100000 in
set_option maxHeartbeats 2000000 in
theorem term_calls {n B pb lb : Nat} {a : Option Addr} {S : List Txt} {k : Nat} {ins : List Txt} {m : Nat} (hS : Few S) (hi : ins.length ≤ 900) (w : World) (h : Tb n B pb lb a S k ins m w) (hm : m + 6 * S.length ≤ 1000000000000) :
    Calls Tryz.prog 137 #[.pointer (some ⟨B, 0, none⟩)] w fun e w' => (∃ v, e = .returned v) ∧ PL n B pb lb a S (termK S (k, ins)).1 (termK S (k, ins)).2 (m + 6 * S.length) w w' := by
  have hb1 : Below w.heap.size w (w.alloc (.cells #[.string ⟨#[100, 108]⟩] 9)) := (Below.refl _ w).alloc (Nat.le_refl _) _
  have t1 := h.below hb1
  have HC := hid_of (within_calls (m1 := m + 2 * S.length) hS hi 148 #[.pointer (some ⟨w.heap.size, 0, none⟩)] (isB xDl) xDl _ t1 (fun cap => find_is hS xDl w.heap.size k cap h.tab.hk _ t1 (by omega) (box_cell _ _ _) (asks_plain_box ent_wall wall_calls)))
  have HT : Hid (PL n B pb lb a S k ins m w (w.alloc (.cells #[.string ⟨#[100, 108]⟩] 9))) := (PL.refl h).below hb1
  clear h hm hi hS t1 hb1
  go_enter Tryz.func137, Tryz.ntmps137
  go_wp2_with fail
  (go_at_call 126; refine (is_calls _ _).mono ?_; rintro e w1 ⟨rfl, rfl⟩)
  go_wp2_with fail
  (go_at_call 154; refine HC.out.mono ?_; rintro e w2 ⟨⟨v, rfl⟩, hp⟩)
  go_wp2_with fail
  go_end0
  exact ⟨⟨_, rfl⟩, (HT.out.trans hp).mono (by omega)⟩
set_option maxRecDepth 100000 in
set_option maxHeartbeats 2000000 in
theorem part_calls {n B pb lb : Nat} {a : Option Addr} {S : List Txt} {k : Nat} {ins : List Txt} {m : Nat} (hS : Few S) (hi : ins.length ≤ 900) (w : World) (h : Tb n B pb lb a S k ins m w) (hm : m + 6 * S.length ≤ 1000000000000) :
    Calls Tryz.prog 138 #[.pointer (some ⟨B, 0, none⟩)] w fun e w' => (∃ v, e = .returned v) ∧ PL n B pb lb a S (partK S (k, ins)).1 (partK S (k, ins)).2 (m + 6 * S.length) w w' := by
  have hb1 : Below w.heap.size w (w.alloc (.cells #[.string ⟨#[116, 97, 98, 108, 101]⟩] 9)) := (Below.refl _ w).alloc (Nat.le_refl _) _
  have t1 := h.below hb1
  have HC := hid_of (tabled_calls (m1 := m + 2 * S.length) hS hi 148 #[.pointer (some ⟨w.heap.size, 0, none⟩)] (isB xTable) _ t1 (by omega) (fun cap => find_is hS xTable w.heap.size k cap h.tab.hk _ t1 (by omega) (box_cell _ _ _) (asks_plain_box ent_never never_calls)))
  have HT : Hid (PL n B pb lb a S k ins m w (w.alloc (.cells #[.string ⟨#[116, 97, 98, 108, 101]⟩] 9))) := (PL.refl h).below hb1
  clear h hm hi hS t1 hb1
  go_enter Tryz.func138, Tryz.ntmps138
  go_wp2_with fail
  (go_at_call 126; refine (is_calls _ _).mono ?_; rintro e w1 ⟨rfl, rfl⟩)
  go_wp2_with fail
  (go_at_call 156; refine HC.out.mono ?_; rintro e w2 ⟨rfl, hp⟩)
  go_wp2_with fail
  go_end0
  exact ⟨⟨_, rfl⟩, (HT.out.trans hp).mono (by omega)⟩
set_option maxRecDepth 100000 in
set_option maxHeartbeats 2000000 in
theorem row_calls {n B pb lb : Nat} {a : Option Addr} {S : List Txt} {k : Nat} {ins : List Txt} {m : Nat} (hS : Few S) (hi : ins.length ≤ 900) (w : World) (h : Tb n B pb lb a S k ins m w) (hm : m + 6 * S.length ≤ 1000000000000) :
    Calls Tryz.prog 140 #[.pointer (some ⟨B, 0, none⟩)] w fun e w' => (∃ v, e = .returned v) ∧ PL n B pb lb a S (rowK S (k, ins)).1 (rowK S (k, ins)).2 (m + 6 * S.length) w w' := by
  have HC := hid_of (tabled_calls (m1 := m + 2 * S.length) hS hi 158 #[] bodyB w h (by omega) (fun cap => find_tb hS k cap h.tab.hk w h (by omega) (asks_plain_tb ent_body body_calls) (asks_plain_tb ent_never never_calls)))
  have HI : Hid ((tabledK S (k, ins) bodyB).2.length ≤ 1000) := by have := tabled_len S (k, ins) bodyB; show _ ≤ _; simp at this; omega
  have HR : Hid (rowK S (k, ins) = if tabledT S k bodyB = xTable then putK (tabledK S (k, ins) bodyB) xTbody else tabledK S (k, ins) bodyB) := rfl
  clear h hm hi hS
  generalize hT : tabledT S k bodyB = T at *
  by_cases e0 : T = xTable
  · rw [if_pos e0] at HR
    subst e0
    go_enter Tryz.func140, Tryz.ntmps140
    go_wp2_with fail
    (go_at_call 156; refine HC.out.mono ?_; rintro e w2 ⟨rfl, hp⟩; unfold xTable)
    go_wp2_with fail
    (go_at_call 142; refine (put_calls xTbody HI.out _ hp.tb).mono ?_; rintro e w5 ⟨⟨v5, rfl⟩, hp5⟩)
    go_wp2_with fail
    go_end0
    exact ⟨⟨_, rfl⟩, by rw [HR.out]; exact (hp.trans hp5).mono (by omega)⟩
  · rw [if_neg e0] at HR
    have e1 : (T == [116, 97, 98, 108, 101]) = false := by rw [beq_eq_false_iff_ne]; exact e0
    clear e0
    go_enter Tryz.func140, Tryz.ntmps140
    go_wp2_with fail
    (go_at_call 156; refine HC.out.mono ?_; rintro e w2 ⟨rfl, hp⟩)
    go_wp2_with fail
    go_end0
    exact ⟨⟨_, rfl⟩, by rw [HR.out]; exact hp.mono (by omega)⟩
end Go.Proofs.YtdkcibafbdmajabGreatDoor.E
