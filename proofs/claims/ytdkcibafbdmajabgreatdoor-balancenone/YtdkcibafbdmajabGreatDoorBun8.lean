/- What is proved here: laws and contracts of NePlace2, NeElem, one behind the other (each says its own). -/
import Derived.Test.YtdkcibafbdmajabGreatDoorBun7
/- What is proved here: cell, column; the place of its own that a name has, whichever it is. -/
namespace Go.Proofs.YtdkcibafbdmajabGreatDoor.E
open Go.RowKit Go.Shelf Go.WideMaps Go.Maps Go.Proofs.YtdkcibafbdmajabGreatDoor.N Go.Proofs.YtdkcibafbdmajabGreatDoor.C

set_option maxRecDepth 100000 in
set_option maxHeartbeats 4000000 in
theorem ncell_calls {n B pb lb : Nat} {a : Option Addr} {S : List Txt} {k : Nat} {ins : List Txt} {m : Nat} (hS : Few S) (hi : ins.length ≤ 900) (w : World) (h : Tb n B pb lb a S k ins m w) (hm : m + 6 * S.length ≤ 1000000000000) :
    Calls Tryz.prog 141 #[.pointer (some ⟨B, 0, none⟩)] w fun e w' => (∃ v, e = .returned v) ∧ PL n B pb lb a S (cellK S (k, ins)).1 (cellK S (k, ins)).2 (m + 6 * S.length) w w' := by
  have HC := hid_of (tabled_calls (m1 := m + 2 * S.length) hS hi 159 #[] rowB w h (by omega) (fun cap => find_tb hS k cap h.tab.hk w h (by omega) (asks_plain_tb ent_row nrow_calls) (asks_plain_tb ent_never never_calls)))
  have HI : Hid ((tabledK S (k, ins) rowB).2.length ≤ 950) := by have := tabled_len S (k, ins) rowB; show _ ≤ _; simp at this; omega
  have HI1 : Hid (((tabledK S (k, ins) rowB).2 ++ [xTbody]).length ≤ 1000) := by have := HI.out; show _ ≤ _; simp; omega
  have HR : Hid (cellK S (k, ins) = if tabledT S k rowB = xTable then putK (putK (tabledK S (k, ins) rowB) xTbody) xTr else if groupB (tabledT S k rowB) then putK (tabledK S (k, ins) rowB) xTr else tabledK S (k, ins) rowB) := rfl
  clear h hm hi hS
  generalize hT : tabledT S k rowB = T at *
  by_cases e0 : T = xTable
  · rw [if_pos e0] at HR
    subst e0
    go_enter Tryz.func141, Tryz.ntmps141
    go_wp2_with fail
    (go_at_call 156; refine HC.out.mono ?_; rintro e w2 ⟨rfl, hp⟩; unfold xTable)
    go_wp2_with fail
    (go_at_call 142; refine (put_calls xTbody (by have := HI.out; omega) _ hp.tb).mono ?_; rintro e w5 ⟨⟨v5, rfl⟩, hp5⟩)
    go_wp2_with fail
    (go_at_call 142; refine (put_calls xTr HI1.out _ hp5.tb).mono ?_; rintro e w6 ⟨⟨v6, rfl⟩, hp6⟩)
    go_wp2_with fail
    go_end0
    exact ⟨⟨_, rfl⟩, by rw [HR.out]; exact ((hp.trans hp5).trans hp6).mono (by omega)⟩
  · rw [if_neg e0] at HR
    have d0 : (T == [116, 97, 98, 108, 101]) = false := by rw [beq_eq_false_iff_ne]; exact e0
    clear e0
    by_cases e1 : T = xThead
    · rw [show groupB T = true by rw [e1]; rfl, if_pos rfl] at HR
      subst e1
      clear d0
      go_enter Tryz.func141, Tryz.ntmps141
      go_wp2_with fail
      (go_at_call 156; refine HC.out.mono ?_; rintro e w2 ⟨rfl, hp⟩; unfold xThead)
      go_wp2_with fail
      (go_at_call 142; refine (put_calls xTr (by have := HI.out; omega) _ hp.tb).mono ?_; rintro e w5 ⟨⟨v5, rfl⟩, hp5⟩)
      go_wp2_with fail
      go_end0
      exact ⟨⟨_, rfl⟩, by rw [HR.out]; exact (hp.trans hp5).mono (by omega)⟩
    · by_cases e2 : T = xTbody
      · rw [show groupB T = true by rw [e2]; rfl, if_pos rfl] at HR
        subst e2
        clear d0
        go_enter Tryz.func141, Tryz.ntmps141
        go_wp2_with fail
        (go_at_call 156; refine HC.out.mono ?_; rintro e w2 ⟨rfl, hp⟩; unfold xTbody)
        go_wp2_with fail
        (go_at_call 142; refine (put_calls xTr (by have := HI.out; omega) _ hp.tb).mono ?_; rintro e w5 ⟨⟨v5, rfl⟩, hp5⟩)
        go_wp2_with fail
        go_end0
        exact ⟨⟨_, rfl⟩, by rw [HR.out]; exact (hp.trans hp5).mono (by omega)⟩
      · by_cases e3 : T = xTfoot
        · rw [show groupB T = true by rw [e3]; rfl, if_pos rfl] at HR
          subst e3
          clear d0
          go_enter Tryz.func141, Tryz.ntmps141
          go_wp2_with fail
          (go_at_call 156; refine HC.out.mono ?_; rintro e w2 ⟨rfl, hp⟩; unfold xTfoot)
          go_wp2_with fail
          (go_at_call 142; refine (put_calls xTr (by have := HI.out; omega) _ hp.tb).mono ?_; rintro e w5 ⟨⟨v5, rfl⟩, hp5⟩)
          go_wp2_with fail
          go_end0
          exact ⟨⟨_, rfl⟩, by rw [HR.out]; exact (hp.trans hp5).mono (by omega)⟩
        · rw [show groupB T = false by simp [groupB, e1, e2, e3], if_neg (by simp)] at HR
          have d1 : (T == [116, 104, 101, 97, 100]) = false := by rw [beq_eq_false_iff_ne]; exact e1
          have d2 : (T == [116, 98, 111, 100, 121]) = false := by rw [beq_eq_false_iff_ne]; exact e2
          have d3 : (T == [116, 102, 111, 111, 116]) = false := by rw [beq_eq_false_iff_ne]; exact e3
          clear e1 e2 e3
          go_enter Tryz.func141, Tryz.ntmps141
          go_wp2_with fail
          (go_at_call 156; refine HC.out.mono ?_; rintro e w2 ⟨rfl, hp⟩)
          go_wp2_with fail
          go_end0
          exact ⟨⟨_, rfl⟩, by rw [HR.out]; exact hp.mono (by omega)⟩
/-- find of one name, stopped by another, both boxed. -/
theorem find_is2 {n B pb lb : Nat} {a : Option Addr} {S : List Txt} {k : Nat} {ins : List Txt} {m : Nat} (hS : Few S) (y z : Txt) (Bx Bz : Nat) (j cap : Nat) (hj : j ≤ S.length) (w : World) (h : Tb n B pb lb a S k ins m w) (hm : m + 2 * S.length ≤ 1000000000000)
    (hB : w.cell? ⟨Bx, 0, none⟩ = some (.string ⟨y.toArray⟩)) (hZ : w.cell? ⟨Bz, 0, none⟩ = some (.string ⟨z.toArray⟩)) :
    Calls Tryz.prog 124 #[.slice a j cap, .func (.func 148) #[] #[.pointer (some ⟨Bx, 0, none⟩)], .func (.func 148) #[] #[.pointer (some ⟨Bz, 0, none⟩)]] w fun e w' => e = .returned (.int .i64 (findK S (isB y) (isB z) j)) ∧ CL n B pb lb a S k ins (m + 2 * S.length) w w' :=
  (find_calls S (by have := hS.len; omega) hS.each j hj a cap lb _ _ #[] _ #[] _ (isB y) (isB z) (fun m W => (TbI w.heap.size n B pb lb a S k ins m W ∧ W.cell? ⟨Bx, 0, none⟩ = some (.string ⟨y.toArray⟩)) ∧ W.cell? ⟨Bz, 0, none⟩ = some (.string ⟨z.toArray⟩)) m w
    (((minds_tb h.tab.hn h.tab.hl).box (cell_lt hB)).box (cell_lt hZ)) (asks_is fun m W hi => ⟨⟨⟨hi.1.1.next, hi.1.2⟩, hi.2⟩, hi.1.2⟩) (asks_is fun m W hi => ⟨⟨⟨hi.1.1.next, hi.1.2⟩, hi.2⟩, hi.2⟩) ⟨⟨h.toI, hB⟩, hZ⟩ h.tab.txt (by omega)).mono fun e w' ⟨e1, e2, e3⟩ =>
    ⟨e1, (CL.refl h).grown (e2.1.1.tb.mono (by omega)) e3⟩
set_option maxRecDepth 100000 in
set_option maxHeartbeats 4000000 in
theorem column_calls {n B pb lb : Nat} {a : Option Addr} {S : List Txt} {k : Nat} {ins : List Txt} {m : Nat} (hS : Few S) (hi : ins.length ≤ 900) (w : World) (h : Tb n B pb lb a S k ins m w) (hm : m + 6 * S.length ≤ 1000000000000) :
    Calls Tryz.prog 139 #[.pointer (some ⟨B, 0, none⟩)] w fun e w' => (∃ v, e = .returned v) ∧ PL n B pb lb a S (columnK S (k, ins)).1 (columnK S (k, ins)).2 (m + 6 * S.length) w w' := by
  obtain ⟨c, k2⟩ := h.left
  have HN : Hid (n ≤ w.heap.size) := h.tab.hn
  have HT := hid_of h
  have HF : Hid (∀ (W : World) (Bx Bz : Nat), Below w.heap.size w W → W.cell? ⟨Bx, 0, none⟩ = some (.string ⟨#[99, 111, 108, 103, 114, 111, 117, 112]⟩) → W.cell? ⟨Bz, 0, none⟩ = some (.string ⟨#[116, 97, 98, 108, 101]⟩) → Calls Tryz.prog 124 #[.slice a k c, .func (.func 148) #[] #[.pointer (some ⟨Bx, 0, none⟩)], .func (.func 148) #[] #[.pointer (some ⟨Bz, 0, none⟩)]] W fun e w' => e = .returned (.int .i64 (findK S (isB xColgroup) (isB xTable) k)) ∧ CL n B pb lb a S k ins (m + 2 * S.length) W w') := fun W Bx Bz hb hc hz =>
    find_is2 hS xColgroup xTable Bx Bz k c h.tab.hk W (h.below hb) (by omega) hc hz
  have HC : Hid (∀ W, Tb n B pb lb a S k ins (m + 2 * S.length) W → Calls Tryz.prog 157 #[.pointer (some ⟨B, 0, none⟩), .int .i64 (findK S (isB xColgroup) (isB xTable) k)] W fun e w' => e = .returned (.bool (decide (0 ≤ findK S (isB xColgroup) (isB xTable) k))) ∧ CL n B pb lb a S (closeToK k (findK S (isB xColgroup) (isB xTable) k)) ins (m + 2 * S.length) W w') := fun W hW =>
    closeTo_calls hS.len _ (findK_lt _ _ _ _) W hW
  have HTB : Hid (∀ W, Tb n B pb lb a S k ins (m + 2 * S.length) W → Calls Tryz.prog 156 #[.pointer (some ⟨B, 0, none⟩), .func (.func 148) #[] #[.pointer (some ⟨W.heap.size, 0, none⟩)]] (W.alloc (.cells #[.string ⟨#[116, 97, 98, 108, 101]⟩] 9)) fun e w' => e = .returned (.string ⟨(tabledT S k (isB xTable)).toArray⟩) ∧ PL n B pb lb a S (tabledK S (k, ins) (isB xTable)).1 (tabledK S (k, ins) (isB xTable)).2 (m + 6 * S.length) (W.alloc (.cells #[.string ⟨#[116, 97, 98, 108, 101]⟩] 9)) w') := fun W hW => by
    have hb1 : Below W.heap.size W (W.alloc (.cells #[.string ⟨#[116, 97, 98, 108, 101]⟩] 9)) := (Below.refl _ W).alloc (Nat.le_refl _) _
    have t1 := hW.below hb1
    refine (tabled_calls (m1 := m + 4 * S.length) hS hi 148 #[.pointer (some ⟨W.heap.size, 0, none⟩)] (isB xTable) _ t1 (by omega) (fun cap => (find_is hS xTable W.heap.size k cap h.tab.hk _ t1 (by omega) (box_cell _ _ _) (asks_plain_box ent_never never_calls)).mono fun _ _ ⟨e1, e2⟩ => ⟨e1, e2.mono (by omega)⟩)).mono fun _ _ ⟨e1, e2⟩ => ⟨e1, e2.mono (by omega)⟩
  have HI : Hid ((tabledK S (k, ins) (isB xTable)).2.length ≤ 1000) := by have := tabled_len S (k, ins) (isB xTable); show _ ≤ _; simp at this; omega
  have HR : Hid (columnK S (k, ins) = if 0 ≤ findK S (isB xColgroup) (isB xTable) k then (closeToK k (findK S (isB xColgroup) (isB xTable) k), ins) else putK (tabledK S (k, ins) (isB xTable)) xColgroup) := rfl
  have hE : ¬ 0 ≤ findK S (isB xColgroup) (isB xTable) k → closeToK k (findK S (isB xColgroup) (isB xTable) k) = k := fun h0 => by unfold closeToK; rw [if_neg h0]
  have k2a : (w.alloc (.cells #[.string ⟨#[99, 111, 108, 103, 114, 111, 117, 112]⟩] 9)).cell? ⟨B, 2, none⟩ = some (.slice a k c) := old_cell _ k2
  have k2b : ((w.alloc (.cells #[.string ⟨#[99, 111, 108, 103, 114, 111, 117, 112]⟩] 9)).alloc (.cells #[.string ⟨#[116, 97, 98, 108, 101]⟩] 9)).cell? ⟨B, 2, none⟩ = some (.slice a k c) := old_cell _ k2a
  have g1 : ((w.alloc (.cells #[.string ⟨#[99, 111, 108, 103, 114, 111, 117, 112]⟩] 9)).alloc (.cells #[.string ⟨#[116, 97, 98, 108, 101]⟩] 9)).cell? ⟨w.heap.size, 0, none⟩ = some (.string ⟨#[99, 111, 108, 103, 114, 111, 117, 112]⟩) := old_cell _ (box_cell _ _ _)
  have g2 : ((w.alloc (.cells #[.string ⟨#[99, 111, 108, 103, 114, 111, 117, 112]⟩] 9)).alloc (.cells #[.string ⟨#[116, 97, 98, 108, 101]⟩] 9)).cell? ⟨w.heap.size + 1, 0, none⟩ = some (.string ⟨#[116, 97, 98, 108, 101]⟩) := by
    have := box_cell (w.alloc (.cells #[.string ⟨#[99, 111, 108, 103, 114, 111, 117, 112]⟩] 9)) (.string ⟨#[116, 97, 98, 108, 101]⟩) 9
    rwa [World.size_alloc] at this
  have HBL : Hid (Below w.heap.size w ((w.alloc (.cells #[.string ⟨#[99, 111, 108, 103, 114, 111, 117, 112]⟩] 9)).alloc (.cells #[.string ⟨#[116, 97, 98, 108, 101]⟩] 9))) := ((Below.refl _ w).alloc (Nat.le_refl _) _).alloc (by simp) _
  have HG1 := hid_of g1
  have HG2 := hid_of g2
  clear h hm hi hS g1 g2
  generalize findK S (isB xColgroup) (isB xTable) k = z at *
  go_enter Tryz.func139, Tryz.ntmps139
  go_wp2_with fail
  go_region_with (first
    | (go_at_call 126; refine (is_calls _ _).mono ?_; rintro e w1 ⟨rfl, rfl⟩)
    | (go_at_call 124; refine (HF.out _ _ _ (by first | exact HBL.out.drew | exact HBL.out) (by exact HG1.out) (by exact HG2.out)).mono ?_; rintro e w2 ⟨rfl, hcl⟩)
    | (go_at_call 157; refine (HC.out _ hcl.tb).mono ?_; rintro e w3 ⟨rfl, hcl3⟩))
  all_goals
    have hf : CL n B pb lb a S _ ins (m + 2 * S.length) w w3 := (((CL.refl HT.out).below (by first | exact HBL.out.drew | exact HBL.out)).trans hcl).trans hcl3
    clear hcl hcl3
    by_cases h0 : 0 ≤ z
    · rw [decide_eq_true h0]
      have HR1 : Hid (columnK S (k, ins) = (closeToK k z, ins)) := by have h := HR.out; rw [if_pos h0] at h; exact h
      clear h0
      go_wp2
      go_end0
      exact ⟨⟨_, rfl⟩, by rw [HR1.out]; exact (hf.pl HN.out).mono (by omega)⟩
    · rw [decide_eq_false h0]
      have HR1 : Hid (columnK S (k, ins) = putK (tabledK S (k, ins) (isB xTable)) xColgroup) := by have h := HR.out; rw [if_neg h0] at h; exact h
      rw [hE (by omega)] at hf
      clear h0
      go_wp2_with fail
      (go_at_call 126; refine (is_calls _ _).mono ?_; rintro e w4 ⟨rfl, rfl⟩)
      go_wp2_with fail
      (go_at_call 156; refine (HTB.out _ hf.tb).mono ?_; rintro e w5 ⟨rfl, hp5⟩)
      go_wp2_with fail
      (go_at_call 142; refine (put_calls xColgroup HI.out _ hp5.tb).mono ?_; rintro e w6 ⟨⟨v6, rfl⟩, hp6⟩)
      go_wp2_with fail
      go_end0
      exact ⟨⟨_, rfl⟩, by rw [HR1.out]; exact (((hf.pl HN.out).below ((Below.refl _ _).alloc (Nat.le_refl _) _)).trans hp5).trans hp6⟩
theorem own_enters : ∀ o args W, (callFunc (ownFn o) args).run Tryz.prog W = .ok (.enter (ownFn o) args) W
  | .item => enters_of Tryz.func136 (by kernel_rfl) rfl
  | .term => enters_of Tryz.func137 (by kernel_rfl) rfl
  | .part => enters_of Tryz.func138 (by kernel_rfl) rfl
  | .column => enters_of Tryz.func139 (by kernel_rfl) rfl
  | .row => enters_of Tryz.func140 (by kernel_rfl) rfl
  | .cell => enters_of Tryz.func141 (by kernel_rfl) rfl
  | .stand => enters_of Tryz.func115 (by kernel_rfl) rfl
/-- **A name's own place.** -/
theorem own_calls {n B pb lb : Nat} {a : Option Addr} {S : List Txt} {k : Nat} {ins : List Txt} {m : Nat} (hS : Few S) (hi : ins.length ≤ 900) (w : World) (h : Tb n B pb lb a S k ins m w) (hm : m + 6 * S.length ≤ 1000000000000) :
    ∀ o, Calls Tryz.prog (ownFn o) #[.pointer (some ⟨B, 0, none⟩)] w fun e w' => (∃ v, e = .returned v) ∧ PL n B pb lb a S (ownK S (k, ins) o).1 (ownK S (k, ins) o).2 (m + 6 * S.length) w w'
  | .item => item_calls hS hi w h hm
  | .term => term_calls hS hi w h hm
  | .part => part_calls hS hi w h hm
  | .column => column_calls hS hi w h hm
  | .row => row_calls hS hi w h hm
  | .cell => ncell_calls hS hi w h hm
  | .stand => (stand_calls hS.len hi w h).mono fun _ _ ⟨e1, e2⟩ => ⟨e1, e2.mono (by omega)⟩
end Go.Proofs.YtdkcibafbdmajabGreatDoor.E

/- What is proved here: plan, nothing; what an element, what a text asks. -/
namespace Go.Proofs.YtdkcibafbdmajabGreatDoor.E
open Go.RowKit Go.Shelf Go.WideMaps Go.Maps Go.Proofs.YtdkcibafbdmajabGreatDoor.N Go.Proofs.YtdkcibafbdmajabGreatDoor.C

def zeroPlan : Array Value := #[.int .i64 0, .slice none 0 0, .bool false]
theorem results_plan {tmps : Array Value} {W : World} {A : Nat} {v0 v1 v2 : Value} {t : TypeId} (h4 : tmps[4]?.getD undef = .pointer (some ⟨A, 0, none⟩)) (h : Blk W A #[v0, v1, v2] t) :
    (results Tryz.f119 tmps).run Tryz.prog W = .ok (.agg #[v0, v1, v2]) W := by
  have c0 : W.cell? ⟨A, 0, none⟩ = some v0 := h.cell 0
  have c1 : W.cell? ⟨A, 1, none⟩ = some v1 := h.cell 1
  have c2 : W.cell? ⟨A, 2, none⟩ = some v2 := h.cell 2
  simp [results, Tryz.results119, go_sem, h4, c0, c1, c2]
theorem results_elem {tmps : Array Value} {W : World} {A : Nat} {v0 v1 v2 : Value} {t : TypeId} (h4 : tmps[6]?.getD undef = .pointer (some ⟨A, 0, none⟩)) (h : Blk W A #[v0, v1, v2] t) :
    (results Tryz.f96 tmps).run Tryz.prog W = .ok (.agg #[v0, v1, v2]) W := by
  have c0 : W.cell? ⟨A, 0, none⟩ = some v0 := h.cell 0
  have c1 : W.cell? ⟨A, 1, none⟩ = some v1 := h.cell 1
  have c2 : W.cell? ⟨A, 2, none⟩ = some v2 := h.cell 2
  simp [results, Tryz.results96, go_sem, h4, c0, c1, c2]
theorem nothing_calls (z : Int) (a : Option Addr) (n cap : Nat) (d : Bool) (w : World) : Calls Tryz.prog 103 #[.agg #[.int .i64 z, .slice a n cap, .bool d]] w fun e w' => e = .returned (.bool (decide (z = 0) && decide (n = 0))) ∧ Below w.heap.size w w' := by
  by_cases h0 : z = 0
  · subst h0
    go_enter Tryz.func103, Tryz.ntmps103
    go_wp2
    go_ret
    exact ⟨by simp [Bool.beq_eq_decide_eq, Int.natCast_eq_zero], (Below.refl _ _).alloc (Nat.le_refl _) _⟩
  · have hz : (z == 0) = false := by rw [beq_eq_false_iff_ne]; exact h0
    rw [decide_eq_false h0]
    clear h0
    go_enter Tryz.func103, Tryz.ntmps103
    go_wp2
    go_ret
    exact ⟨by simp, (Below.refl _ _).alloc (Nat.le_refl _) _⟩
set_option maxRecDepth 100000 in
set_option maxHeartbeats 2000000 in
theorem plan_calls {n B pb lb : Nat} {a a' : Option Addr} {S : List Txt} {k K cap : Nat} {ins : List Txt} {m : Nat} (hK : K ≤ 100000) (hk : k ≤ K) (w : World) (h : Tb n B pb lb a S k ins m w) :
    Calls Tryz.prog 119 #[.pointer (some ⟨B, 0, none⟩), .slice a' K cap] w fun e w' => ∃ vi ci, e = .returned (.agg #[.int .i64 ((K : Int) - (k : Int)), .slice vi ins.length ci, .bool false]) ∧ OwnT n w' (.slice vi ins.length ci) ins ∧ Below w.heap.size w w' := by
  obtain ⟨W1, hW1⟩ : ∃ W, w.alloc (.cells zeroPlan 93) = W := ⟨_, rfl⟩
  have b1 : Below w.heap.size w W1 := by rw [← hW1]; exact (Below.refl _ w).alloc (Nat.le_refl _) _
  have t1 := h.below b1
  have r1 : Blk W1 w.heap.size zeroPlan 93 := by rw [← hW1]; exact Blk.new _ _ _
  obtain ⟨c, vin, hc, hb, hv⟩ := h.tab.blk
  obtain ⟨vi, ci, rfl⟩ := owns_slice hv
  replace hb := (b1.block B (by have := h.tab.hB; have := h.tab.hn; omega)).trans hb
  have hB : Blk W1 B #[.map (some pb), .map (some lb), .slice a k c, .slice vi ins.length ci] 155 := hb
  have k2 : W1.cell? ⟨B, 2, none⟩ = some (.slice a k c) := hB.cell 2
  have k3 : W1.cell? ⟨B, 3, none⟩ = some (.slice vi ins.length ci) := hB.cell 3
  have hne : w.heap.size ≠ B := by have h1 := h.tab.hB; have h2 := h.tab.hn; omega
  have HR := hid_of r1
  have HB1 := hid_of b1
  have HBB := hid_of hB
  have HNE := hid_of hne
  have HV := hid_of hv
  have HN : Hid (n ≤ w.heap.size) := h.tab.hn
  have HW : Hid (w.alloc (.cells #[.int .i64 0, .slice none 0 0, .bool false] 93) = W1) := hW1
  have e0 : W1.cell? ⟨w.heap.size, 0, none⟩ = some (.int .i64 0) := r1.cell 0
  have e1 : W1.cell? ⟨w.heap.size, 1, none⟩ = some (.slice none 0 0) := r1.cell 1
  have e2 : W1.cell? ⟨w.heap.size, 2, none⟩ = some (.bool false) := r1.cell 2
  have f0 := r1.frozen
  have hw : IntKind.i64.wrap ((K : Int) - (k : Int)) = (K : Int) - (k : Int) := by rw [IntKind.wrap_i64]; omega
  clear hb hv hB h t1 b1 r1 hW1 hne
  go_enter Tryz.func119, Tryz.ntmps119
  go_upto_region 1 with fail
  rw [HW.out]
  clear HW
  have y2 : ((((W1.drew).setCell ⟨w.heap.size, 0, none⟩ (.int .i64 ((K : Int) - (k : Int)))).setCell ⟨w.heap.size, 1, none⟩ (.slice vi ins.length ci)).setCell ⟨w.heap.size, 2, none⟩ (.bool false)).cell? ⟨B, 2, none⟩ = some (.slice a k c) := ((((show Blk W1.drew B _ _ from HBB.out).other (Ne.symm HNE.out) 0 _).other (Ne.symm HNE.out) 1 _).other (Ne.symm HNE.out) 2 _).cell 2
  have y3 : ((((W1.drew).setCell ⟨w.heap.size, 0, none⟩ (.int .i64 ((K : Int) - (k : Int)))).setCell ⟨w.heap.size, 1, none⟩ (.slice vi ins.length ci)).setCell ⟨w.heap.size, 2, none⟩ (.bool false)).cell? ⟨B, 3, none⟩ = some (.slice vi ins.length ci) := ((((show Blk W1.drew B _ _ from HBB.out).other (Ne.symm HNE.out) 0 _).other (Ne.symm HNE.out) 1 _).other (Ne.symm HNE.out) 2 _).cell 3
  go_region_held3 (fun w' => w'.cell? ⟨B, 2, none⟩ = some (.slice a k c) ∧ w'.cell? ⟨B, 3, none⟩ = some (.slice vi ins.length ci)) (first | exact ⟨k2, k3⟩ | exact ⟨y2, y3⟩ | go_keep) (fail)
  go_wp2
  have hF := below_put3 HB1.out (Nat.le_refl _) (.int .i64 ((K : Int) - (k : Int))) (.slice vi ins.length ci) (.bool false)
  exact bodyPost_ret (results_plan rfl (show Blk (World.drew _) _ _ _ from HR.out.put3 _ _ _)) rfl ⟨vi, ci, rfl, owns_below HV.out hF.drew, hF.drew⟩
end Go.Proofs.YtdkcibafbdmajabGreatDoor.E
