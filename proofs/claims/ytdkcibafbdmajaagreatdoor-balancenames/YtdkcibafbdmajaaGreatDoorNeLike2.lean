/- What is proved here: closeLike. -/
import Derived.Test.YtdkcibafbdmajaaGreatDoorNeLike
namespace Go.Proofs.YtdkcibafbdmajaaGreatDoor.E
open Go.RowKit Go.Shelf Go.WideMaps Go.Maps Go.Proofs.YtdkcibafbdmajaaGreatDoor.N Go.Proofs.YtdkcibafbdmajaaGreatDoor.C

theorem a_not_head : headB xA = false := by decide +kernel
theorem a_not_block : blockB xA = false := by decide +kernel
def lookArr (x : Txt) : Array Value := #[.string ⟨x.toArray⟩, .bool (allowB x), .bool (voidB x), .bool (headB x), .bool (blockB x), .func (.func (ownFn (ownOf x))) #[] #[]]
set_option maxRecDepth 100000 in
set_option maxHeartbeats 4000000 in
theorem closeLike_a {n B pb lb : Nat} {a : Option Addr} {S : List Txt} {k : Nat} {ins : List Txt} {m : Nat} (hS : Few S) (w : World) (h : Tb n B pb lb a S k ins m w) (hm : m + 6 * S.length ≤ 1000000000000) (va vv : Bool) (fo : Nat) :
    Calls Tryz.prog 66 #[.pointer (some ⟨B, 0, none⟩), .agg #[.string ⟨#[97]⟩, .bool va, .bool vv, .bool false, .bool false, .func (.func fo) #[] #[]]] w fun e w' => (∃ v, e = .returned v) ∧ CL n B pb lb a S (closeK k (findK S (isB xA) cellB k)) ins (m + 2 * S.length) w w' := by
  obtain ⟨W1, hW1⟩ : ∃ W, w.alloc (.cells #[.string ⟨#[97]⟩, .bool va, .bool vv, .bool false, .bool false, .func (.func fo) #[] #[]] 96) = W := ⟨_, rfl⟩
  have b1 : Below w.heap.size w W1 := by rw [← hW1]; exact (Below.refl _ w).alloc (Nat.le_refl _) _
  have q1 : Blk W1 w.heap.size #[.string ⟨#[97]⟩, .bool va, .bool vv, .bool false, .bool false, .func (.func fo) #[] #[]] 96 := by rw [← hW1]; exact Blk.new _ _ _
  have t1 := h.below b1
  obtain ⟨c, vin, hc, hb, hv⟩ := t1.tab.blk
  have hB : Blk W1 B #[.map (some pb), .map (some lb), .slice a k c, vin] 118 := hb
  have k2 : W1.cell? ⟨B, 2, none⟩ = some (.slice a k c) := hB.cell 2
  have c0 : W1.cell? ⟨w.heap.size, 0, none⟩ = some (.string ⟨#[97]⟩) := q1.cell 0
  have HT := hid_of h
  have HT1 := hid_of t1
  have HB1 := hid_of b1
  have HF : Hid (∀ (W : World) (Bx : Nat), Below W1.heap.size W1 W → W.cell? ⟨Bx, 0, none⟩ = some (.string ⟨#[97]⟩) → Calls Tryz.prog 72 #[.slice a k c, .func (.func 94) #[] #[.pointer (some ⟨Bx, 0, none⟩)], .func (.func 89) #[] #[]] W fun e w' => e = .returned (.int .i64 (findK S (isB xA) cellB k)) ∧ CL n B pb lb a S k ins (m + 2 * S.length) W w') := fun W Bx hb hc =>
    find_is hS xA Bx k c h.tab.hk W (t1.below hb) (by omega) hc (asks_plain_box ent_cell cell_calls)
  have HC : Hid (∀ W, Tb n B pb lb a S k ins (m + 2 * S.length) W → Calls Tryz.prog 65 #[.pointer (some ⟨B, 0, none⟩), .int .i64 (findK S (isB xA) cellB k)] W fun e w' => e = .returned (.bool (decide (0 ≤ findK S (isB xA) cellB k))) ∧ CL n B pb lb a S (closeK k (findK S (isB xA) cellB k)) ins (m + 2 * S.length) W w') := fun W hW =>
    closeWith_calls hS.len _ (fun _ => by have := findK_lt S (isB xA) cellB k; omega) W hW
  have HW : Hid (w.alloc (.cells #[.string ⟨#[97]⟩, .bool va, .bool vv, .bool false, .bool false, .func (.func fo) #[] #[]] 96) = W1) := hW1
  have c3 : W1.cell? ⟨w.heap.size, 3, none⟩ = some (.bool false) := q1.cell 3
  have c4 : W1.cell? ⟨w.heap.size, 4, none⟩ = some (.bool false) := q1.cell 4
  have k2a : (W1.alloc (.cells #[.string ⟨#[97]⟩] 9)).cell? ⟨B, 2, none⟩ = some (.slice a k c) := old_cell _ k2
  have k2b : (W1.drew.alloc (.cells #[.string ⟨#[97]⟩] 9)).cell? ⟨B, 2, none⟩ = some (.slice a k c) := old_cell (W := W1.drew) _ k2
  have HQ := hid_of q1
  have HNB : Hid (w.heap.size ≠ B) := by have h1 := h.tab.hB; have h2 := h.tab.hn; show _ ≠ _; omega
  have HNL : Hid (w.heap.size ≠ lb) := by have h1 := h.tab.hl; have h2 := h.tab.hn; show _ ≠ _; omega
  clear hv hb hB h t1 b1 hW1 hm q1
  generalize findK S (isB xA) cellB k = z at *
  go_enter Tryz.func66, Tryz.ntmps66
  go_upto_region 1 with fail
  rw [HW.out]
  clear HW
  go_wp2_with fail
  go_region_with (first
    | (go_at_call 74; refine (is_calls _ _).mono ?_; rintro e w1 ⟨rfl, rfl⟩)
    | (go_at_call 72; refine (HF.out _ _ (by first | exact ((Below.refl _ _).alloc (Nat.le_refl _) _).drew | exact (Below.refl _ _).drew.alloc (Nat.le_refl _) _ | exact (Below.refl _ _).alloc (Nat.le_refl _) _) (by first | exact box_cell _ _ _ | exact new_box rfl)).mono ?_; rintro e w2 ⟨rfl, hcl⟩)
    | (go_at_call 65; refine (HC.out _ hcl.tb).mono ?_; rintro e w3 ⟨rfl, hcl3⟩))
  all_goals
    have hq2 := (HQ.out.below (by first | exact ((Below.refl _ _).alloc (Nat.le_refl _) (.cells #[.string ⟨#[97]⟩] 9)).drew | exact (Below.refl _ _).drew.alloc (Nat.le_refl _) (.cells #[.string ⟨#[97]⟩] 9) | exact (Below.refl _ _).alloc (Nat.le_refl _) (.cells #[.string ⟨#[97]⟩] 9)) |> hcl.blk) HNB.out HNL.out
    have hq3 := hcl3.blk hq2 HNB.out HNL.out
    have hf : CL n B pb lb a S _ ins (m + 2 * S.length) w w3 := ((((CL.refl HT.out).below HB1.out).below (by first | exact ((Below.refl _ _).alloc (Nat.le_refl _) _).drew | exact (Below.refl _ _).drew.alloc (Nat.le_refl _) _ | exact (Below.refl _ _).alloc (Nat.le_refl _) _)).trans hcl).trans hcl3
    have d3 : w3.cell? ⟨w.heap.size, 3, none⟩ = some (.bool false) := hq3.cell 3
    have d4 : w3.cell? ⟨w.heap.size, 4, none⟩ = some (.bool false) := hq3.cell 4
    go_wp2
    go_end0
    exact ⟨⟨_, rfl⟩, hf⟩
set_option maxRecDepth 100000 in
set_option maxHeartbeats 4000000 in
theorem closeLike_b {n B pb lb : Nat} {a : Option Addr} {S : List Txt} {k : Nat} {ins : List Txt} {m : Nat} (hS : Few S) (x : Txt) (hx : (x == [97]) = false) (w : World) (h : Tb n B pb lb a S k ins m w) (hm : m + 6 * S.length ≤ 1000000000000) (va vv : Bool) (fo : Nat) :
    Calls Tryz.prog 66 #[.pointer (some ⟨B, 0, none⟩), .agg #[.string ⟨x.toArray⟩, .bool va, .bool vv, .bool (headB x), .bool (blockB x), .func (.func fo) #[] #[]]] w fun e w' => (∃ v, e = .returned v) ∧ CL n B pb lb a S (closeLikeN S k x) ins (m + 6 * S.length) w w' := by
  have hxa : x ≠ xA := by rintro rfl; simp [xA] at hx
  have HCK : Hid (closeLikeN S k x = likeN3 S (likeN2 S k x) x) := by show _ = _; unfold closeLikeN likeN1; rw [if_neg hxa]
  have HL2 : Hid (likeN2 S k x = if headB x then closeK k (findK S headB wallB k) else k) := rfl
  have HL3 : Hid (∀ j, likeN3 S j x = if blockB x then closePN S j else j) := fun _ => rfl
  have HP : Hid (∀ j W, Tb n B pb lb a S j ins (m + 2 * S.length) W → Calls Tryz.prog 90 #[.pointer (some ⟨B, 0, none⟩)] W fun e w' => (∃ v, e = .returned v) ∧ CL n B pb lb a S (closePN S j) ins (m + 6 * S.length) W w') := fun j W hW => (closeP_calls hS W hW (by omega)).mono fun _ _ ⟨e1, e2⟩ => ⟨e1, e2.mono (by omega)⟩
  obtain ⟨W1, hW1⟩ : ∃ W, w.alloc (.cells #[.string ⟨x.toArray⟩, .bool va, .bool vv, .bool (headB x), .bool (blockB x), .func (.func fo) #[] #[]] 96) = W := ⟨_, rfl⟩
  have b1 : Below w.heap.size w W1 := by rw [← hW1]; exact (Below.refl _ w).alloc (Nat.le_refl _) _
  have q1 : Blk W1 w.heap.size #[.string ⟨x.toArray⟩, .bool va, .bool vv, .bool (headB x), .bool (blockB x), .func (.func fo) #[] #[]] 96 := by rw [← hW1]; exact Blk.new _ _ _
  have t1 := h.below b1
  obtain ⟨c, vin, hc, hb, hv⟩ := t1.tab.blk
  have hB : Blk W1 B #[.map (some pb), .map (some lb), .slice a k c, vin] 118 := hb
  have k2 : W1.cell? ⟨B, 2, none⟩ = some (.slice a k c) := hB.cell 2
  have HF : Hid (Calls Tryz.prog 72 #[.slice a k c, .func (.func 71) #[.pointer (some ⟨B, 0, none⟩)] #[], .func (.func 73) #[] #[]] W1 fun e w' => e = .returned (.int .i64 (findK S headB wallB k)) ∧ CL n B pb lb a S k ins (m + 2 * S.length) W1 w') :=
    find_tb hS k c h.tab.hk W1 t1 (by omega) asks_heading (asks_plain_tb ent_wall wall_calls)
  have HC : Hid (∀ W, Tb n B pb lb a S k ins (m + 2 * S.length) W → Calls Tryz.prog 65 #[.pointer (some ⟨B, 0, none⟩), .int .i64 (findK S headB wallB k)] W fun e w' => e = .returned (.bool (decide (0 ≤ findK S headB wallB k))) ∧ CL n B pb lb a S (closeK k (findK S headB wallB k)) ins (m + 2 * S.length) W w') := fun W hW =>
    closeWith_calls hS.len _ (fun _ => by have := findK_lt S headB wallB k; omega) W hW
  have HT1 : Hid (Tb n B pb lb a S k ins (m + 2 * S.length) W1) := t1.mono (by omega)
  have HB1 := hid_of b1
  have HT := hid_of h
  have HNB : Hid (w.heap.size ≠ B) := by have h1 := h.tab.hB; have h2 := h.tab.hn; show _ ≠ _; omega
  have HNL : Hid (w.heap.size ≠ lb) := by have h1 := h.tab.hl; have h2 := h.tab.hn; show _ ≠ _; omega
  have HW : Hid (w.alloc (.cells #[.string ⟨x.toArray⟩, .bool va, .bool vv, .bool (headB x), .bool (blockB x), .func (.func fo) #[] #[]] 96) = W1) := hW1
  have c0 : W1.cell? ⟨w.heap.size, 0, none⟩ = some (.string ⟨x.toArray⟩) := q1.cell 0
  have c3 : W1.cell? ⟨w.heap.size, 3, none⟩ = some (.bool (headB x)) := q1.cell 3
  have c4 : W1.cell? ⟨w.heap.size, 4, none⟩ = some (.bool (blockB x)) := q1.cell 4
  have HQ := hid_of q1
  clear hv hb hB h t1 b1 hW1 hm q1
  generalize findK S headB wallB k = z at *
  generalize headB x = hd at *
  generalize blockB x = bk at *
  cases hd
  · simp only [Bool.false_eq_true, if_false] at HL2
    cases bk
    · simp only [Bool.false_eq_true, if_false] at HL3
      go_enter Tryz.func66, Tryz.ntmps66
      go_upto_region 1 with fail
      rw [HW.out]
      clear HW
      go_wp2_with fail
      go_end0
      exact ⟨⟨_, rfl⟩, by rw [HCK.out, HL3.out, HL2.out]; exact ((CL.refl HT.out).below HB1.out).mono (by omega)⟩
    · simp only [if_true] at HL3
      go_enter Tryz.func66, Tryz.ntmps66
      go_upto_region 1 with fail
      rw [HW.out]
      clear HW
      go_wp2_with (go_at_call 90; refine (HP.out _ W1 HT1.out).mono ?_; rintro e w3 ⟨⟨vr, rfl⟩, hcl3⟩)
      go_end0
      exact ⟨⟨_, rfl⟩, by rw [HCK.out, HL3.out, HL2.out]; exact ((CL.refl HT.out).below HB1.out).trans hcl3⟩
  · simp only [if_true] at HL2
    cases bk
    · simp only [Bool.false_eq_true, if_false] at HL3
      go_enter Tryz.func66, Tryz.ntmps66
      go_upto_region 1 with fail
      rw [HW.out]
      clear HW
      go_wp2_with fail
      (go_at_call 72; refine HF.out.mono ?_; rintro e w2 ⟨rfl, hcl⟩)
      go_wp2_with fail
      (go_at_call 65; refine (HC.out _ hcl.tb).mono ?_; rintro e w3 ⟨rfl, hcl3⟩)
      have d4 : w3.cell? ⟨w.heap.size, 4, none⟩ = some (.bool false) := (hcl3.blk (hcl.blk HQ.out HNB.out HNL.out) HNB.out HNL.out).cell 4
      go_wp2_with fail
      go_end0
      exact ⟨⟨_, rfl⟩, by rw [HCK.out, HL3.out, HL2.out]; exact ((((CL.refl HT.out).below HB1.out).trans hcl).trans hcl3).mono (by omega)⟩
    · simp only [if_true] at HL3
      go_enter Tryz.func66, Tryz.ntmps66
      go_upto_region 1 with fail
      rw [HW.out]
      clear HW
      go_wp2_with fail
      (go_at_call 72; refine HF.out.mono ?_; rintro e w2 ⟨rfl, hcl⟩)
      go_wp2_with fail
      (go_at_call 65; refine (HC.out _ hcl.tb).mono ?_; rintro e w3 ⟨rfl, hcl3⟩)
      have d4 : w3.cell? ⟨w.heap.size, 4, none⟩ = some (.bool true) := (hcl3.blk (hcl.blk HQ.out HNB.out HNL.out) HNB.out HNL.out).cell 4
      go_wp2_with fail
      (go_at_call 90; refine (HP.out _ w3 hcl3.tb).mono ?_; rintro e w4 ⟨⟨vr, rfl⟩, hcl4⟩)
      go_wp2_with fail
      go_end0
      exact ⟨⟨_, rfl⟩, by rw [HCK.out, HL3.out, HL2.out]; exact ((((CL.refl HT.out).below HB1.out).trans hcl).trans hcl3).trans hcl4⟩
/-- **closeLike.** -/
theorem closeLike_calls {n B pb lb : Nat} {a : Option Addr} {S : List Txt} {k : Nat} {ins : List Txt} {m : Nat} (hS : Few S) (x : Txt) (w : World) (h : Tb n B pb lb a S k ins m w) (hm : m + 6 * S.length ≤ 1000000000000) :
    Calls Tryz.prog 66 #[.pointer (some ⟨B, 0, none⟩), lookV x] w fun e w' => (∃ v, e = .returned v) ∧ CL n B pb lb a S (closeLikeN S k x) ins (m + 6 * S.length) w w' := by
  by_cases hx : x = xA
  · subst hx
    have := closeLike_a hS w h hm (allowB xA) (voidB xA) (ownFn (ownOf xA))
    unfold lookV fnV
    rw [a_not_head, a_not_block]
    refine this.mono fun _ _ ⟨e1, e2⟩ => ⟨e1, ?_⟩
    have e : closeLikeN S k xA = closeK k (findK S (isB xA) cellB k) := by
      unfold closeLikeN likeN1 likeN2 likeN3
      rw [a_not_head, a_not_block]
      simp
    rw [e]
    exact e2.mono (by omega)
  · exact closeLike_b hS x (by rw [beq_eq_false_iff_ne]; exact hx) w h hm _ _ _
end Go.Proofs.YtdkcibafbdmajaaGreatDoor.E
