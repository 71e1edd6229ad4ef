/- What is proved here: laws and contracts of NeLike, NeLike2, one behind the other (each says its own). -/
import Derived.Test.YtdkcibafbdmajabGreatDoorNeStep
/- What is proved here: find where the table is; closeP, closeLike. -/
namespace Go.Proofs.YtdkcibafbdmajabGreatDoor.E
open Go.RowKit Go.Shelf Go.WideMaps Go.Maps Go.Proofs.YtdkcibafbdmajabGreatDoor.N Go.Proofs.YtdkcibafbdmajabGreatDoor.C

/-- What is known of the stack: few names, none too long. -/
structure Few (S : List Txt) : Prop where
  len : S.length ≤ 100000
  each : ∀ j, (S.getD j []).length ≤ 10000000000
theorem find_tb {n B pb lb : Nat} {a : Option Addr} {S : List Txt} {k : Nat} {ins : List Txt} {m : Nat} (hS : Few S) {f1 f2 : Nat} {b1 c1 b2 c2 : Array Value} {p q : Txt → Bool} (j cap : Nat) (hj : j ≤ S.length) (w : World) (h : Tb n B pb lb a S k ins m w) (hm : m + 2 * S.length ≤ 1000000000000)
    (h1 : Asks lb f1 b1 c1 p (TbI w.heap.size n B pb lb a S k ins)) (h2 : Asks lb f2 b2 c2 q (TbI w.heap.size n B pb lb a S k ins)) :
    Calls Tryz.prog 124 #[.slice a j cap, .func (.func f1) b1 c1, .func (.func f2) b2 c2] w fun e w' => e = .returned (.int .i64 (findK S p q j)) ∧ CL n B pb lb a S k ins (m + 2 * S.length) w w' :=
  (find_calls S (by have := hS.len; omega) hS.each j hj a cap lb f1 f2 b1 c1 b2 c2 p q _ m w (minds_tb h.tab.hn h.tab.hl) h1 h2 h.toI h.tab.txt (by omega)).mono fun e w' ⟨e1, e2, e3⟩ =>
    ⟨e1, (CL.refl h).grown (e2.tb.mono (by omega)) e3⟩
/-- .. where one name is sought, boxed at Bx. -/
theorem find_is {n B pb lb : Nat} {a : Option Addr} {S : List Txt} {k : Nat} {ins : List Txt} {m : Nat} (hS : Few S) {f2 : Nat} {b2 c2 : Array Value} {q : Txt → Bool} (y : Txt) (Bx : Nat) (j cap : Nat) (hj : j ≤ S.length) (w : World) (h : Tb n B pb lb a S k ins m w) (hm : m + 2 * S.length ≤ 1000000000000)
    (hB : w.cell? ⟨Bx, 0, none⟩ = some (.string ⟨y.toArray⟩)) (h2 : Asks lb f2 b2 c2 q (fun m W => TbI w.heap.size n B pb lb a S k ins m W ∧ W.cell? ⟨Bx, 0, none⟩ = some (.string ⟨y.toArray⟩))) :
    Calls Tryz.prog 124 #[.slice a j cap, .func (.func 148) #[] #[.pointer (some ⟨Bx, 0, none⟩)], .func (.func f2) b2 c2] w fun e w' => e = .returned (.int .i64 (findK S (isB y) q j)) ∧ CL n B pb lb a S k ins (m + 2 * S.length) w w' :=
  (find_calls S (by have := hS.len; omega) hS.each j hj a cap lb _ f2 #[] _ b2 c2 (isB y) q _ m w ((minds_tb h.tab.hn h.tab.hl).box (cell_lt hB)) (asks_is fun m W hi => ⟨⟨hi.1.next, hi.2⟩, hi.2⟩) h2 ⟨h.toI, hB⟩ h.tab.txt (by omega)).mono fun e w' ⟨e1, e2, e3⟩ =>
    ⟨e1, (CL.refl h).grown (e2.1.tb.mono (by omega)) e3⟩
theorem asks_edge_box {C n B pb lb : Nat} {a : Option Addr} {S : List Txt} {k : Nat} {ins : List Txt} {Bx : Nat} {v : Value} : Asks lb 160 #[.pointer (some ⟨B, 0, none⟩)] #[] edgeB (fun m W => TbI C n B pb lb a S k ins m W ∧ W.cell? ⟨Bx, 0, none⟩ = some v) :=
  ⟨enters_of Tryz.func160 (by kernel_rfl) rfl, fun x m W hi hx hm => (edge_calls x hx hm W hi.1.tb).mono fun _ _ ⟨e1, e2, e3⟩ => ⟨e1, ⟨hi.1.grown e2 e3, cell_kept hi.2 e3 hi.1.tb.tab.lm.kind⟩, e3⟩⟩
theorem asks_plain_box {C n B pb lb : Nat} {a : Option Addr} {S : List Txt} {k : Nat} {ins : List Txt} {Bx f : Nat} {v : Value} {p : Txt → Bool} (he : ∀ args W, (callFunc f args).run Tryz.prog W = .ok (.enter f args) W)
    (h : ∀ x w, Calls Tryz.prog f #[.string ⟨x.toArray⟩] w fun e w' => e = .returned (.bool (p x)) ∧ w' = w) : Asks lb f #[] #[] p (fun m W => TbI C n B pb lb a S k ins m W ∧ W.cell? ⟨Bx, 0, none⟩ = some v) := asks_plain (fun _ _ hi => ⟨hi.1.next, hi.2⟩) he h
theorem asks_plain_tb {C n B pb lb : Nat} {a : Option Addr} {S : List Txt} {k : Nat} {ins : List Txt} {f : Nat} {p : Txt → Bool} (he : ∀ args W, (callFunc f args).run Tryz.prog W = .ok (.enter f args) W)
    (h : ∀ x w, Calls Tryz.prog f #[.string ⟨x.toArray⟩] w fun e w' => e = .returned (.bool (p x)) ∧ w' = w) : Asks lb f #[] #[] p (TbI C n B pb lb a S k ins) := asks_plain (fun _ _ hi => hi.next) he h
theorem new_box {w W : World} {v : Value} {t : TypeId} (h : W = w.alloc (.cells #[v] t)) : W.cell? ⟨w.heap.size, 0, none⟩ = some v := by rw [h]; exact box_cell _ _ _
set_option maxRecDepth 100000 in
set_option maxHeartbeats 4000000 in
/-- **closeP.** -/
theorem closeP_calls {n B pb lb : Nat} {a : Option Addr} {S : List Txt} {k : Nat} {ins : List Txt} {m : Nat} (hS : Few S) (w : World) (h : Tb n B pb lb a S k ins m w) (hm : m + 2 * S.length ≤ 1000000000000) :
    Calls Tryz.prog 144 #[.pointer (some ⟨B, 0, none⟩)] w fun e w' => (∃ v, e = .returned v) ∧ CL n B pb lb a S (closePN S k) ins (m + 2 * S.length) w w' := by
  obtain ⟨c, vin, hc, hb, hv⟩ := h.tab.blk
  have hB : Blk w B #[.map (some pb), .map (some lb), .slice a k c, vin] 155 := hb
  have k2 : w.cell? ⟨B, 2, none⟩ = some (.slice a k c) := hB.cell 2
  have HT := hid_of h
  have HF : Hid (∀ (W : World) (Bx : Nat), Below w.heap.size w W → W.cell? ⟨Bx, 0, none⟩ = some (.string ⟨#[112]⟩) → Calls Tryz.prog 124 #[.slice a k c, .func (.func 148) #[] #[.pointer (some ⟨Bx, 0, none⟩)], .func (.func 160) #[.pointer (some ⟨B, 0, none⟩)] #[]] W fun e w' => e = .returned (.int .i64 (findK S (isB xP) edgeB k)) ∧ CL n B pb lb a S k ins (m + 2 * S.length) W w') := fun W Bx hb hc =>
    find_is hS xP Bx k c h.tab.hk W (h.below hb) hm hc asks_edge_box
  have HC : Hid (∀ W, Tb n B pb lb a S k ins (m + 2 * S.length) W → Calls Tryz.prog 117 #[.pointer (some ⟨B, 0, none⟩), .int .i64 (findK S (isB xP) edgeB k)] W fun e w' => e = .returned (.bool (decide (0 ≤ findK S (isB xP) edgeB k))) ∧ CL n B pb lb a S (closePN S k) ins (m + 2 * S.length) W w') := fun W hW =>
    closeWith_calls hS.len _ (fun _ => by have := findK_lt S (isB xP) edgeB k; omega) W hW
  have k2a : (w.alloc (.cells #[.string ⟨#[112]⟩] 9)).cell? ⟨B, 2, none⟩ = some (.slice a k c) := old_cell _ k2
  have k2b : (w.drew.alloc (.cells #[.string ⟨#[112]⟩] 9)).cell? ⟨B, 2, none⟩ = some (.slice a k c) := old_cell (W := w.drew) _ k2
  clear hv hb hB h hm
  generalize findK S (isB xP) edgeB k = z at *
  go_enter Tryz.func144, Tryz.ntmps144
  go_wp2_with fail
  go_region_with (first
    | (go_at_call 126; refine (is_calls _ _).mono ?_; rintro e w1 ⟨rfl, rfl⟩)
    | (go_at_call 124; refine (HF.out _ _ (by first | exact ((Below.refl _ _).alloc (Nat.le_refl _) _).drew | exact (Below.refl _ _).drew.alloc (Nat.le_refl _) _ | exact (Below.refl _ _).alloc (Nat.le_refl _) _) (by first | exact box_cell _ _ _ | exact new_box rfl)).mono ?_; rintro e w2 ⟨rfl, hcl⟩)
    | (go_at_call 117; refine (HC.out _ hcl.tb).mono ?_; rintro e w3 ⟨rfl, hcl3⟩))
  all_goals go_wp2
  all_goals go_end0
  all_goals exact ⟨⟨_, rfl⟩, (((CL.refl HT.out).below (by first | exact ((Below.refl _ _).alloc (Nat.le_refl _) _).drew | exact (Below.refl _ _).drew.alloc (Nat.le_refl _) _ | exact (Below.refl _ _).alloc (Nat.le_refl _) _)).trans hcl).trans hcl3⟩
end Go.Proofs.YtdkcibafbdmajabGreatDoor.E

/- What is proved here: closeLike. -/
namespace Go.Proofs.YtdkcibafbdmajabGreatDoor.E
open Go.RowKit Go.Shelf Go.WideMaps Go.Maps Go.Proofs.YtdkcibafbdmajabGreatDoor.N Go.Proofs.YtdkcibafbdmajabGreatDoor.C

theorem a_not_head : headB xA = false := by decide +kernel
theorem a_not_block : blockB xA = false := by decide +kernel
def lookArr (x : Txt) : Array Value := #[.string ⟨x.toArray⟩, .bool (allowB x), .bool (voidB x), .bool (headB x), .bool (blockB x), .func (.func (ownFn (ownOf x))) #[] #[]]
set_option maxRecDepth 100000 in
set_option maxHeartbeats 4000000 in
theorem closeLike_a {n B pb lb : Nat} {a : Option Addr} {S : List Txt} {k : Nat} {ins : List Txt} {m : Nat} (hS : Few S) (w : World) (h : Tb n B pb lb a S k ins m w) (hm : m + 6 * S.length ≤ 1000000000000) (va vv : Bool) (fo : Nat) :
    Calls Tryz.prog 118 #[.pointer (some ⟨B, 0, none⟩), .agg #[.string ⟨#[97]⟩, .bool va, .bool vv, .bool false, .bool false, .func (.func fo) #[] #[]]] w fun e w' => (∃ v, e = .returned v) ∧ CL n B pb lb a S (closeK k (findK S (isB xA) cellB k)) ins (m + 2 * S.length) w w' := by
  obtain ⟨W1, hW1⟩ : ∃ W, w.alloc (.cells #[.string ⟨#[97]⟩, .bool va, .bool vv, .bool false, .bool false, .func (.func fo) #[] #[]] 133) = W := ⟨_, rfl⟩
  have b1 : Below w.heap.size w W1 := by rw [← hW1]; exact (Below.refl _ w).alloc (Nat.le_refl _) _
  have q1 : Blk W1 w.heap.size #[.string ⟨#[97]⟩, .bool va, .bool vv, .bool false, .bool false, .func (.func fo) #[] #[]] 133 := by rw [← hW1]; exact Blk.new _ _ _
  have t1 := h.below b1
  obtain ⟨c, vin, hc, hb, hv⟩ := t1.tab.blk
  have hB : Blk W1 B #[.map (some pb), .map (some lb), .slice a k c, vin] 155 := hb
  have k2 : W1.cell? ⟨B, 2, none⟩ = some (.slice a k c) := hB.cell 2
  have c0 : W1.cell? ⟨w.heap.size, 0, none⟩ = some (.string ⟨#[97]⟩) := q1.cell 0
  have HT := hid_of h
  have HT1 := hid_of t1
  have HB1 := hid_of b1
  have HF : Hid (∀ (W : World) (Bx : Nat), Below W1.heap.size W1 W → W.cell? ⟨Bx, 0, none⟩ = some (.string ⟨#[97]⟩) → Calls Tryz.prog 124 #[.slice a k c, .func (.func 148) #[] #[.pointer (some ⟨Bx, 0, none⟩)], .func (.func 143) #[] #[]] W fun e w' => e = .returned (.int .i64 (findK S (isB xA) cellB k)) ∧ CL n B pb lb a S k ins (m + 2 * S.length) W w') := fun W Bx hb hc =>
    find_is hS xA Bx k c h.tab.hk W (t1.below hb) (by omega) hc (asks_plain_box ent_cell cell_calls)
  have HC : Hid (∀ W, Tb n B pb lb a S k ins (m + 2 * S.length) W → Calls Tryz.prog 117 #[.pointer (some ⟨B, 0, none⟩), .int .i64 (findK S (isB xA) cellB k)] W fun e w' => e = .returned (.bool (decide (0 ≤ findK S (isB xA) cellB k))) ∧ CL n B pb lb a S (closeK k (findK S (isB xA) cellB k)) ins (m + 2 * S.length) W w') := fun W hW =>
    closeWith_calls hS.len _ (fun _ => by have := findK_lt S (isB xA) cellB k; omega) W hW
  have HW : Hid (w.alloc (.cells #[.string ⟨#[97]⟩, .bool va, .bool vv, .bool false, .bool false, .func (.func fo) #[] #[]] 133) = W1) := hW1
  have c3 : W1.cell? ⟨w.heap.size, 3, none⟩ = some (.bool false) := q1.cell 3
  have c4 : W1.cell? ⟨w.heap.size, 4, none⟩ = some (.bool false) := q1.cell 4
  have k2a : (W1.alloc (.cells #[.string ⟨#[97]⟩] 9)).cell? ⟨B, 2, none⟩ = some (.slice a k c) := old_cell _ k2
  have k2b : (W1.drew.alloc (.cells #[.string ⟨#[97]⟩] 9)).cell? ⟨B, 2, none⟩ = some (.slice a k c) := old_cell (W := W1.drew) _ k2
  have HQ := hid_of q1
  have HNB : Hid (w.heap.size ≠ B) := by have h1 := h.tab.hB; have h2 := h.tab.hn; show _ ≠ _; omega
  have HNL : Hid (w.heap.size ≠ lb) := by have h1 := h.tab.hl; have h2 := h.tab.hn; show _ ≠ _; omega
  clear hv hb hB h t1 b1 hW1 hm q1
  generalize findK S (isB xA) cellB k = z at *
  go_enter Tryz.func118, Tryz.ntmps118
  go_upto_region 1 with fail
  rw [HW.out]
  clear HW
  go_wp2_with fail
  go_region_with (first
    | (go_at_call 126; refine (is_calls _ _).mono ?_; rintro e w1 ⟨rfl, rfl⟩)
    | (go_at_call 124; refine (HF.out _ _ (by first | exact ((Below.refl _ _).alloc (Nat.le_refl _) _).drew | exact (Below.refl _ _).drew.alloc (Nat.le_refl _) _ | exact (Below.refl _ _).alloc (Nat.le_refl _) _) (by first | exact box_cell _ _ _ | exact new_box rfl)).mono ?_; rintro e w2 ⟨rfl, hcl⟩)
    | (go_at_call 117; refine (HC.out _ hcl.tb).mono ?_; rintro e w3 ⟨rfl, hcl3⟩))
  all_goals
    have hq2 := (HQ.out.below (by first | exact ((Below.refl _ _).alloc (Nat.le_refl _) (.cells #[.string ⟨#[97]⟩] 9)).drew | exact (Below.refl _ _).drew.alloc (Nat.le_refl _) (.cells #[.string ⟨#[97]⟩] 9) | exact (Below.refl _ _).alloc (Nat.le_refl _) (.cells #[.string ⟨#[97]⟩] 9)) |> hcl.blk) HNB.out HNL.out
    have hq3 := hcl3.blk hq2 HNB.out HNL.out
    have hf : CL n B pb lb a S _ ins (m + 2 * S.length) w w3 := ((((CL.refl HT.out).below HB1.out).below (by first | exact ((Below.refl _ _).alloc (Nat.le_refl _) _).drew | exact (Below.refl _ _).drew.alloc (Nat.le_refl _) _ | exact (Below.refl _ _).alloc (Nat.le_refl _) _)).trans hcl).trans hcl3
    have d3 : w3.cell? ⟨w.heap.size, 3, none⟩ = some (.bool false) := hq3.cell 3
    have d4 : w3.cell? ⟨w.heap.size, 4, none⟩ = some (.bool false) := hq3.cell 4
    go_wp2
    go_end0
    exact ⟨⟨_, rfl⟩, hf⟩
set_option maxRecDepth 100000 in
set_option maxHeartbeats 4000000 in
theorem closeLike_b {n B pb lb : Nat} {a : Option Addr} {S : List Txt} {k : Nat} {ins : List Txt} {m : Nat} (hS : Few S) (x : Txt) (hx : (x == [97]) = false) (w : World) (h : Tb n B pb lb a S k ins m w) (hm : m + 6 * S.length ≤ 1000000000000) (va vv : Bool) (fo : Nat) :
    Calls Tryz.prog 118 #[.pointer (some ⟨B, 0, none⟩), .agg #[.string ⟨x.toArray⟩, .bool va, .bool vv, .bool (headB x), .bool (blockB x), .func (.func fo) #[] #[]]] w fun e w' => (∃ v, e = .returned v) ∧ CL n B pb lb a S (closeLikeN S k x) ins (m + 6 * S.length) w w' := by
  have hxa : x ≠ xA := by rintro rfl; simp [xA] at hx
  have HCK : Hid (closeLikeN S k x = likeN3 S (likeN2 S k x) x) := by show _ = _; unfold closeLikeN likeN1; rw [if_neg hxa]
  have HL2 : Hid (likeN2 S k x = if headB x then closeK k (findK S headB wallB k) else k) := rfl
  have HL3 : Hid (∀ j, likeN3 S j x = if blockB x then closePN S j else j) := fun _ => rfl
  have HP : Hid (∀ j W, Tb n B pb lb a S j ins (m + 2 * S.length) W → Calls Tryz.prog 144 #[.pointer (some ⟨B, 0, none⟩)] W fun e w' => (∃ v, e = .returned v) ∧ CL n B pb lb a S (closePN S j) ins (m + 6 * S.length) W w') := fun j W hW => (closeP_calls hS W hW (by omega)).mono fun _ _ ⟨e1, e2⟩ => ⟨e1, e2.mono (by omega)⟩
  obtain ⟨W1, hW1⟩ : ∃ W, w.alloc (.cells #[.string ⟨x.toArray⟩, .bool va, .bool vv, .bool (headB x), .bool (blockB x), .func (.func fo) #[] #[]] 133) = W := ⟨_, rfl⟩
  have b1 : Below w.heap.size w W1 := by rw [← hW1]; exact (Below.refl _ w).alloc (Nat.le_refl _) _
  have q1 : Blk W1 w.heap.size #[.string ⟨x.toArray⟩, .bool va, .bool vv, .bool (headB x), .bool (blockB x), .func (.func fo) #[] #[]] 133 := by rw [← hW1]; exact Blk.new _ _ _
  have t1 := h.below b1
  obtain ⟨c, vin, hc, hb, hv⟩ := t1.tab.blk
  have hB : Blk W1 B #[.map (some pb), .map (some lb), .slice a k c, vin] 155 := hb
  have k2 : W1.cell? ⟨B, 2, none⟩ = some (.slice a k c) := hB.cell 2
  have HF : Hid (Calls Tryz.prog 124 #[.slice a k c, .func (.func 123) #[.pointer (some ⟨B, 0, none⟩)] #[], .func (.func 125) #[] #[]] W1 fun e w' => e = .returned (.int .i64 (findK S headB wallB k)) ∧ CL n B pb lb a S k ins (m + 2 * S.length) W1 w') :=
    find_tb hS k c h.tab.hk W1 t1 (by omega) asks_heading (asks_plain_tb ent_wall wall_calls)
  have HC : Hid (∀ W, Tb n B pb lb a S k ins (m + 2 * S.length) W → Calls Tryz.prog 117 #[.pointer (some ⟨B, 0, none⟩), .int .i64 (findK S headB wallB k)] W fun e w' => e = .returned (.bool (decide (0 ≤ findK S headB wallB k))) ∧ CL n B pb lb a S (closeK k (findK S headB wallB k)) ins (m + 2 * S.length) W w') := fun W hW =>
    closeWith_calls hS.len _ (fun _ => by have := findK_lt S headB wallB k; omega) W hW
  have HT1 : Hid (Tb n B pb lb a S k ins (m + 2 * S.length) W1) := t1.mono (by omega)
  have HB1 := hid_of b1
  have HT := hid_of h
  have HNB : Hid (w.heap.size ≠ B) := by have h1 := h.tab.hB; have h2 := h.tab.hn; show _ ≠ _; omega
  have HNL : Hid (w.heap.size ≠ lb) := by have h1 := h.tab.hl; have h2 := h.tab.hn; show _ ≠ _; omega
  have HW : Hid (w.alloc (.cells #[.string ⟨x.toArray⟩, .bool va, .bool vv, .bool (headB x), .bool (blockB x), .func (.func fo) #[] #[]] 133) = W1) := hW1
  have c0 : W1.cell? ⟨w.heap.size, 0, none⟩ = some (.string ⟨x.toArray⟩) := q1.cell 0
  have c3 : W1.cell? ⟨w.heap.size, 3, none⟩ = some (.bool (headB x)) := q1.cell 3
  have c4 : W1.cell? ⟨w.heap.size, 4, none⟩ = some (.bool (blockB x)) := q1.cell 4
  have HQ := hid_of q1
  clear hv hb hB h t1 b1 hW1 hm q1
  generalize findK S headB wallB k = z at *
  generalize headB x = hd at *
  generalize blockB x = bk at *
  cases hd
  · simp only [Bool.false_eq_true, if_false] at HL2
    cases bk
    · simp only [Bool.false_eq_true, if_false] at HL3
      go_enter Tryz.func118, Tryz.ntmps118
      go_upto_region 1 with fail
      rw [HW.out]
      clear HW
      go_wp2_with fail
      go_end0
      exact ⟨⟨_, rfl⟩, by rw [HCK.out, HL3.out, HL2.out]; exact ((CL.refl HT.out).below HB1.out).mono (by omega)⟩
    · simp only [if_true] at HL3
      go_enter Tryz.func118, Tryz.ntmps118
      go_upto_region 1 with fail
      rw [HW.out]
      clear HW
      go_wp2_with (go_at_call 144; refine (HP.out _ W1 HT1.out).mono ?_; rintro e w3 ⟨⟨vr, rfl⟩, hcl3⟩)
      go_end0
      exact ⟨⟨_, rfl⟩, by rw [HCK.out, HL3.out, HL2.out]; exact ((CL.refl HT.out).below HB1.out).trans hcl3⟩
  · simp only [if_true] at HL2
    cases bk
    · simp only [Bool.false_eq_true, if_false] at HL3
      go_enter Tryz.func118, Tryz.ntmps118
      go_upto_region 1 with fail
      rw [HW.out]
      clear HW
      go_wp2_with fail
      (go_at_call 124; refine HF.out.mono ?_; rintro e w2 ⟨rfl, hcl⟩)
      go_wp2_with fail
      (go_at_call 117; refine (HC.out _ hcl.tb).mono ?_; rintro e w3 ⟨rfl, hcl3⟩)
      have d4 : w3.cell? ⟨w.heap.size, 4, none⟩ = some (.bool false) := (hcl3.blk (hcl.blk HQ.out HNB.out HNL.out) HNB.out HNL.out).cell 4
      go_wp2_with fail
      go_end0
      exact ⟨⟨_, rfl⟩, by rw [HCK.out, HL3.out, HL2.out]; exact ((((CL.refl HT.out).below HB1.out).trans hcl).trans hcl3).mono (by omega)⟩
    · simp only [if_true] at HL3
      go_enter Tryz.func118, Tryz.ntmps118
      go_upto_region 1 with fail
      rw [HW.out]
      clear HW
      go_wp2_with fail
      (go_at_call 124; refine HF.out.mono ?_; rintro e w2 ⟨rfl, hcl⟩)
      go_wp2_with fail
      (go_at_call 117; refine (HC.out _ hcl.tb).mono ?_; rintro e w3 ⟨rfl, hcl3⟩)
      have d4 : w3.cell? ⟨w.heap.size, 4, none⟩ = some (.bool true) := (hcl3.blk (hcl.blk HQ.out HNB.out HNL.out) HNB.out HNL.out).cell 4
      go_wp2_with fail
      (go_at_call 144; refine (HP.out _ w3 hcl3.tb).mono ?_; rintro e w4 ⟨⟨vr, rfl⟩, hcl4⟩)
      go_wp2_with fail
      go_end0
      exact ⟨⟨_, rfl⟩, by rw [HCK.out, HL3.out, HL2.out]; exact ((((CL.refl HT.out).below HB1.out).trans hcl).trans hcl3).trans hcl4⟩
/-- **closeLike.** -/
theorem closeLike_calls {n B pb lb : Nat} {a : Option Addr} {S : List Txt} {k : Nat} {ins : List Txt} {m : Nat} (hS : Few S) (x : Txt) (w : World) (h : Tb n B pb lb a S k ins m w) (hm : m + 6 * S.length ≤ 1000000000000) :
    Calls Tryz.prog 118 #[.pointer (some ⟨B, 0, none⟩), lookV x] w fun e w' => (∃ v, e = .returned v) ∧ CL n B pb lb a S (closeLikeN S k x) ins (m + 6 * S.length) w w' := by
  by_cases hx : x = xA
  · subst hx
    have := closeLike_a hS w h hm (allowB xA) (voidB xA) (ownFn (ownOf xA))
    unfold lookV fnV
    rw [a_not_head, a_not_block]
    refine this.mono fun _ _ ⟨e1, e2⟩ => ⟨e1, ?_⟩
    have e : closeLikeN S k xA = closeK k (findK S (isB xA) cellB k) := by
      unfold closeLikeN likeN1 likeN2 likeN3
      rw [a_not_head, a_not_block]
      simp
    rw [e]
    exact e2.mono (by omega)
  · exact closeLike_b hS x (by rw [beq_eq_false_iff_ne]; exact hx) w h hm _ _ _
end Go.Proofs.YtdkcibafbdmajabGreatDoor.E
