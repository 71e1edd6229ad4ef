/- What is proved here: find where the table is; closeP, closeLike. -/
import Derived.Test.YtdkcibafbdmajaaGreatDoorNeStep
namespace Go.Proofs.YtdkcibafbdmajaaGreatDoor.E
open Go.RowKit Go.Shelf Go.WideMaps Go.Maps Go.Proofs.YtdkcibafbdmajaaGreatDoor.N Go.Proofs.YtdkcibafbdmajaaGreatDoor.C

/-- What is known of the stack: few names, none too long. -/
structure Few (S : List Txt) : Prop where
  len : S.length ≤ 100000
  each : ∀ j, (S.getD j []).length ≤ 10000000000
theorem find_tb {n B pb lb : Nat} {a : Option Addr} {S : List Txt} {k : Nat} {ins : List Txt} {m : Nat} (hS : Few S) {f1 f2 : Nat} {b1 c1 b2 c2 : Array Value} {p q : Txt → Bool} (j cap : Nat) (hj : j ≤ S.length) (w : World) (h : Tb n B pb lb a S k ins m w) (hm : m + 2 * S.length ≤ 1000000000000)
    (h1 : Asks lb f1 b1 c1 p (TbI w.heap.size n B pb lb a S k ins)) (h2 : Asks lb f2 b2 c2 q (TbI w.heap.size n B pb lb a S k ins)) :
    Calls Tryz.prog 72 #[.slice a j cap, .func (.func f1) b1 c1, .func (.func f2) b2 c2] w fun e w' => e = .returned (.int .i64 (findK S p q j)) ∧ CL n B pb lb a S k ins (m + 2 * S.length) w w' :=
  (find_calls S (by have := hS.len; omega) hS.each j hj a cap lb f1 f2 b1 c1 b2 c2 p q _ m w (minds_tb h.tab.hn h.tab.hl) h1 h2 h.toI h.tab.txt (by omega)).mono fun e w' ⟨e1, e2, e3⟩ =>
    ⟨e1, (CL.refl h).grown (e2.tb.mono (by omega)) e3⟩
/-- .. where one name is sought, boxed at Bx. -/
theorem find_is {n B pb lb : Nat} {a : Option Addr} {S : List Txt} {k : Nat} {ins : List Txt} {m : Nat} (hS : Few S) {f2 : Nat} {b2 c2 : Array Value} {q : Txt → Bool} (y : Txt) (Bx : Nat) (j cap : Nat) (hj : j ≤ S.length) (w : World) (h : Tb n B pb lb a S k ins m w) (hm : m + 2 * S.length ≤ 1000000000000)
    (hB : w.cell? ⟨Bx, 0, none⟩ = some (.string ⟨y.toArray⟩)) (h2 : Asks lb f2 b2 c2 q (fun m W => TbI w.heap.size n B pb lb a S k ins m W ∧ W.cell? ⟨Bx, 0, none⟩ = some (.string ⟨y.toArray⟩))) :
    Calls Tryz.prog 72 #[.slice a j cap, .func (.func 94) #[] #[.pointer (some ⟨Bx, 0, none⟩)], .func (.func f2) b2 c2] w fun e w' => e = .returned (.int .i64 (findK S (isB y) q j)) ∧ CL n B pb lb a S k ins (m + 2 * S.length) w w' :=
  (find_calls S (by have := hS.len; omega) hS.each j hj a cap lb _ f2 #[] _ b2 c2 (isB y) q _ m w ((minds_tb h.tab.hn h.tab.hl).box (cell_lt hB)) (asks_is fun m W hi => ⟨⟨hi.1.next, hi.2⟩, hi.2⟩) h2 ⟨h.toI, hB⟩ h.tab.txt (by omega)).mono fun e w' ⟨e1, e2, e3⟩ =>
    ⟨e1, (CL.refl h).grown (e2.1.tb.mono (by omega)) e3⟩
theorem asks_edge_box {C n B pb lb : Nat} {a : Option Addr} {S : List Txt} {k : Nat} {ins : List Txt} {Bx : Nat} {v : Value} : Asks lb 106 #[.pointer (some ⟨B, 0, none⟩)] #[] edgeB (fun m W => TbI C n B pb lb a S k ins m W ∧ W.cell? ⟨Bx, 0, none⟩ = some v) :=
  ⟨enters_of Tryz.func106 (by kernel_rfl) rfl, fun x m W hi hx hm => (edge_calls x hx hm W hi.1.tb).mono fun _ _ ⟨e1, e2, e3⟩ => ⟨e1, ⟨hi.1.grown e2 e3, cell_kept hi.2 e3 hi.1.tb.tab.lm.kind⟩, e3⟩⟩
theorem asks_plain_box {C n B pb lb : Nat} {a : Option Addr} {S : List Txt} {k : Nat} {ins : List Txt} {Bx f : Nat} {v : Value} {p : Txt → Bool} (he : ∀ args W, (callFunc f args).run Tryz.prog W = .ok (.enter f args) W)
    (h : ∀ x w, Calls Tryz.prog f #[.string ⟨x.toArray⟩] w fun e w' => e = .returned (.bool (p x)) ∧ w' = w) : Asks lb f #[] #[] p (fun m W => TbI C n B pb lb a S k ins m W ∧ W.cell? ⟨Bx, 0, none⟩ = some v) := asks_plain (fun _ _ hi => ⟨hi.1.next, hi.2⟩) he h
theorem asks_plain_tb {C n B pb lb : Nat} {a : Option Addr} {S : List Txt} {k : Nat} {ins : List Txt} {f : Nat} {p : Txt → Bool} (he : ∀ args W, (callFunc f args).run Tryz.prog W = .ok (.enter f args) W)
    (h : ∀ x w, Calls Tryz.prog f #[.string ⟨x.toArray⟩] w fun e w' => e = .returned (.bool (p x)) ∧ w' = w) : Asks lb f #[] #[] p (TbI C n B pb lb a S k ins) := asks_plain (fun _ _ hi => hi.next) he h
theorem new_box {w W : World} {v : Value} {t : TypeId} (h : W = w.alloc (.cells #[v] t)) : W.cell? ⟨w.heap.size, 0, none⟩ = some v := by rw [h]; exact box_cell _ _ _
set_option maxRecDepth 100000 in
set_option maxHeartbeats 4000000 in
/-- **closeP.** -/
theorem closeP_calls {n B pb lb : Nat} {a : Option Addr} {S : List Txt} {k : Nat} {ins : List Txt} {m : Nat} (hS : Few S) (w : World) (h : Tb n B pb lb a S k ins m w) (hm : m + 2 * S.length ≤ 1000000000000) :
    Calls Tryz.prog 90 #[.pointer (some ⟨B, 0, none⟩)] w fun e w' => (∃ v, e = .returned v) ∧ CL n B pb lb a S (closePN S k) ins (m + 2 * S.length) w w' := by
  obtain ⟨c, vin, hc, hb, hv⟩ := h.tab.blk
  have hB : Blk w B #[.map (some pb), .map (some lb), .slice a k c, vin] 118 := hb
  have k2 : w.cell? ⟨B, 2, none⟩ = some (.slice a k c) := hB.cell 2
  have HT := hid_of h
  have HF : Hid (∀ (W : World) (Bx : Nat), Below w.heap.size w W → W.cell? ⟨Bx, 0, none⟩ = some (.string ⟨#[112]⟩) → Calls Tryz.prog 72 #[.slice a k c, .func (.func 94) #[] #[.pointer (some ⟨Bx, 0, none⟩)], .func (.func 106) #[.pointer (some ⟨B, 0, none⟩)] #[]] W fun e w' => e = .returned (.int .i64 (findK S (isB xP) edgeB k)) ∧ CL n B pb lb a S k ins (m + 2 * S.length) W w') := fun W Bx hb hc =>
    find_is hS xP Bx k c h.tab.hk W (h.below hb) hm hc asks_edge_box
  have HC : Hid (∀ W, Tb n B pb lb a S k ins (m + 2 * S.length) W → Calls Tryz.prog 65 #[.pointer (some ⟨B, 0, none⟩), .int .i64 (findK S (isB xP) edgeB k)] W fun e w' => e = .returned (.bool (decide (0 ≤ findK S (isB xP) edgeB k))) ∧ CL n B pb lb a S (closePN S k) ins (m + 2 * S.length) W w') := fun W hW =>
    closeWith_calls hS.len _ (fun _ => by have := findK_lt S (isB xP) edgeB k; omega) W hW
  have k2a : (w.alloc (.cells #[.string ⟨#[112]⟩] 9)).cell? ⟨B, 2, none⟩ = some (.slice a k c) := old_cell _ k2
  have k2b : (w.drew.alloc (.cells #[.string ⟨#[112]⟩] 9)).cell? ⟨B, 2, none⟩ = some (.slice a k c) := old_cell (W := w.drew) _ k2
  clear hv hb hB h hm
  generalize findK S (isB xP) edgeB k = z at *
  go_enter Tryz.func90, Tryz.ntmps90
  go_wp2_with fail
  go_region_with (first
    | (go_at_call 74; refine (is_calls _ _).mono ?_; rintro e w1 ⟨rfl, rfl⟩)
    | (go_at_call 72; refine (HF.out _ _ (by first | exact ((Below.refl _ _).alloc (Nat.le_refl _) _).drew | exact (Below.refl _ _).drew.alloc (Nat.le_refl _) _ | exact (Below.refl _ _).alloc (Nat.le_refl _) _) (by first | exact box_cell _ _ _ | exact new_box rfl)).mono ?_; rintro e w2 ⟨rfl, hcl⟩)
    | (go_at_call 65; refine (HC.out _ hcl.tb).mono ?_; rintro e w3 ⟨rfl, hcl3⟩))
  all_goals go_wp2
  all_goals go_end0
  all_goals exact ⟨⟨_, rfl⟩, (((CL.refl HT.out).below (by first | exact ((Below.refl _ _).alloc (Nat.le_refl _) _).drew | exact (Below.refl _ _).drew.alloc (Nat.le_refl _) _ | exact (Below.refl _ _).alloc (Nat.le_refl _) _)).trans hcl).trans hcl3⟩
end Go.Proofs.YtdkcibafbdmajaaGreatDoor.E
