/- What is proved here: item, term, part, column, row, cell; the place of its own that a name has, whichever it is. -/
import Derived.Test.YtdkcibafbdmajaaNeOwn
namespace Go.Proofs.Ytdkcibafbdmajaa.E
open Go.RowKit Go.Shelf Go.WideMaps Go.Maps Go.Proofs.Ytdkcibafbdmajaa.N Go.Proofs.Ytdkcibafbdmajaa.C

set_option maxRecDepth 100000 in
set_option maxHeartbeats 2000000 in
theorem item_calls {n B pb lb : Nat} {a : Option Addr} {S : List Txt} {k : Nat} {ins : List Txt} {m : Nat} (hS : Few S) (hi : ins.length ≤ 900) (w : World) (h : Tb n B pb lb a S k ins m w) (hm : m + 6 * S.length ≤ 1000000000000) :
    Calls Try.prog 75 #[.pointer (some ⟨B, 0, none⟩)] w fun e w' => (∃ v, e = .returned v) ∧ PL n B pb lb a S (itemK S (k, ins)).1 (itemK S (k, ins)).2 (m + 6 * S.length) w w' := by
  have HC := hid_of (within_calls (m1 := m + 2 * S.length) hS hi 94 #[] listB xUl w h (fun cap => find_tb hS k cap h.tab.hk w h (by omega) (asks_plain_tb ent_list list_calls') (asks_plain_tb ent_wall wall_calls)))
  clear h hm hi hS
  go_enter Try.func75, Try.ntmps75
  go_wp2_with fail
  (go_at_call 93; refine HC.out.mono ?_; rintro e w2 ⟨⟨v, rfl⟩, hp⟩)
  go_wp2_with fail
  go_end0
  exact ⟨⟨_, rfl⟩, hp.mono (by omega)⟩
set_option maxRecDepth 100000 in
set_option maxHeartbeats 2000000 in
theorem term_calls {n B pb lb : Nat} {a : Option Addr} {S : List Txt} {k : Nat} {ins : List Txt} {m : Nat} (hS : Few S) (hi : ins.length ≤ 900) (w : World) (h : Tb n B pb lb a S k ins m w) (hm : m + 6 * S.length ≤ 1000000000000) :
    Calls Try.prog 76 #[.pointer (some ⟨B, 0, none⟩)] w fun e w' => (∃ v, e = .returned v) ∧ PL n B pb lb a S (termK S (k, ins)).1 (termK S (k, ins)).2 (m + 6 * S.length) w w' := by
  have hb1 : Below w.heap.size w (w.alloc (.cells #[.string ⟨#[100, 108]⟩] 9)) := (Below.refl _ w).alloc (Nat.le_refl _) _
  have t1 := h.below hb1
  have HC := hid_of (within_calls (m1 := m + 2 * S.length) hS hi 85 #[.pointer (some ⟨w.heap.size, 0, none⟩)] (isB xDl) xDl _ t1 (fun cap => find_is hS xDl w.heap.size k cap h.tab.hk _ t1 (by omega) (box_cell _ _ _) (asks_plain_box ent_wall wall_calls)))
  have HT : Hid (PL n B pb lb a S k ins m w (w.alloc (.cells #[.string ⟨#[100, 108]⟩] 9))) := (PL.refl h).below hb1
  clear h hm hi hS t1 hb1
  go_enter Try.func76, Try.ntmps76
  go_wp2_with fail
  (go_at_call 67; refine (is_calls _ _).mono ?_; rintro e w1 ⟨rfl, rfl⟩)
  go_wp2_with fail
  (go_at_call 93; refine HC.out.mono ?_; rintro e w2 ⟨⟨v, rfl⟩, hp⟩)
  go_wp2_with fail
  go_end0
  exact ⟨⟨_, rfl⟩, (HT.out.trans hp).mono (by omega)⟩
set_option maxRecDepth 100000 in
set_option maxHeartbeats 2000000 in
theorem part_calls {n B pb lb : Nat} {a : Option Addr} {S : List Txt} {k : Nat} {ins : List Txt} {m : Nat} (hS : Few S) (hi : ins.length ≤ 900) (w : World) (h : Tb n B pb lb a S k ins m w) (hm : m + 6 * S.length ≤ 1000000000000) :
    Calls Try.prog 77 #[.pointer (some ⟨B, 0, none⟩)] w fun e w' => (∃ v, e = .returned v) ∧ PL n B pb lb a S (partK S (k, ins)).1 (partK S (k, ins)).2 (m + 6 * S.length) w w' := by
  have hb1 : Below w.heap.size w (w.alloc (.cells #[.string ⟨#[116, 97, 98, 108, 101]⟩] 9)) := (Below.refl _ w).alloc (Nat.le_refl _) _
  have t1 := h.below hb1
  have HC := hid_of (tabled_calls (m1 := m + 2 * S.length) hS hi 85 #[.pointer (some ⟨w.heap.size, 0, none⟩)] (isB xTable) _ t1 (by omega) (fun cap => find_is hS xTable w.heap.size k cap h.tab.hk _ t1 (by omega) (box_cell _ _ _) (asks_plain_box ent_never never_calls)))
  have HT : Hid (PL n B pb lb a S k ins m w (w.alloc (.cells #[.string ⟨#[116, 97, 98, 108, 101]⟩] 9))) := (PL.refl h).below hb1
  clear h hm hi hS t1 hb1
  go_enter Try.func77, Try.ntmps77
  go_wp2_with fail
  (go_at_call 67; refine (is_calls _ _).mono ?_; rintro e w1 ⟨rfl, rfl⟩)
  go_wp2_with fail
  (go_at_call 95; refine HC.out.mono ?_; rintro e w2 ⟨rfl, hp⟩)
  go_wp2_with fail
  go_end0
  exact ⟨⟨_, rfl⟩, (HT.out.trans hp).mono (by omega)⟩
set_option maxRecDepth 100000 in
set_option maxHeartbeats 2000000 in
theorem row_calls {n B pb lb : Nat} {a : Option Addr} {S : List Txt} {k : Nat} {ins : List Txt} {m : Nat} (hS : Few S) (hi : ins.length ≤ 900) (w : World) (h : Tb n B pb lb a S k ins m w) (hm : m + 6 * S.length ≤ 1000000000000) :
    Calls Try.prog 79 #[.pointer (some ⟨B, 0, none⟩)] w fun e w' => (∃ v, e = .returned v) ∧ PL n B pb lb a S (rowK S (k, ins)).1 (rowK S (k, ins)).2 (m + 6 * S.length) w w' := by
  have HC := hid_of (tabled_calls (m1 := m + 2 * S.length) hS hi 97 #[] bodyB w h (by omega) (fun cap => find_tb hS k cap h.tab.hk w h (by omega) (asks_plain_tb ent_body body_calls) (asks_plain_tb ent_never never_calls)))
  have HI : Hid ((tabledK S (k, ins) bodyB).2.length ≤ 1000) := by have := tabled_len S (k, ins) bodyB; show _ ≤ _; simp at this; omega
  have HR : Hid (rowK S (k, ins) = if tabledT S k bodyB = xTable then putK (tabledK S (k, ins) bodyB) xTbody else tabledK S (k, ins) bodyB) := rfl
  clear h hm hi hS
  generalize hT : tabledT S k bodyB = T at *
  by_cases e0 : T = xTable
  · rw [if_pos e0] at HR
    subst e0
    go_enter Try.func79, Try.ntmps79
    go_wp2_with fail
    (go_at_call 95; refine HC.out.mono ?_; rintro e w2 ⟨rfl, hp⟩; unfold xTable)
    go_wp2_with fail
    (go_at_call 81; refine (put_calls xTbody HI.out _ hp.tb).mono ?_; rintro e w5 ⟨⟨v5, rfl⟩, hp5⟩)
    go_wp2_with fail
    go_end0
    exact ⟨⟨_, rfl⟩, by rw [HR.out]; exact (hp.trans hp5).mono (by omega)⟩
  · rw [if_neg e0] at HR
    have e1 : (T == [116, 97, 98, 108, 101]) = false := by rw [beq_eq_false_iff_ne]; exact e0
    clear e0
    go_enter Try.func79, Try.ntmps79
    go_wp2_with fail
    (go_at_call 95; refine HC.out.mono ?_; rintro e w2 ⟨rfl, hp⟩)
    go_wp2_with fail
    go_end0
    exact ⟨⟨_, rfl⟩, by rw [HR.out]; exact hp.mono (by omega)⟩
end Go.Proofs.Ytdkcibafbdmajaa.E
