/- What is proved here: the document's examples ('awake') hold. -/
import Derived.Test.YtdkcibafbdmajaaNeLaw
namespace Go.Proofs.Ytdkcibafbdmajaa.E
open Go.RowKit Go.Shelf Go.WideMaps Go.Maps Go.Proofs.Ytdkcibafbdmajaa.N Go.Proofs.Ytdkcibafbdmajaa.C

theorem ex1 : openCode [[112], [98]] [100, 105, 118] = 0 ∧ openZ [[112], [98]] [100, 105, 118] = 2 ∧ openI [[112], [98]] [100, 105, 118] = [] := by decide +kernel
theorem ex2 : openCode [[116, 97, 98, 108, 101]] [98] = 0 ∧ openZ [[116, 97, 98, 108, 101]] [98] = 0 ∧ openI [[116, 97, 98, 108, 101]] [98] = [[116, 98, 111, 100, 121], [116, 114], [116, 100]] := by decide +kernel
/-- A row that a literal makes. -/
theorem lit_texts (w : World) (L : List Txt) (cs : Array Value) (hc : cs = (L.map fun x => Value.string ⟨x.toArray⟩).toArray) : TextsAt (w.alloc (.cells cs 9)) (some ⟨w.heap.size, 0, none⟩) L := fun j hj => ⟨w.heap.size, 0, rfl, by
  rw [cell_new, hc, Nat.zero_add]
  simp [hj]⟩
theorem few_of (L : List Txt) (h : L.length ≤ 100) (hb : ∀ x ∈ L, x.length ≤ 100) : Few L := ⟨by omega, fun j => by
  rw [List.getD_eq_getElem?_getD]
  by_cases hj : j < L.length
  · rw [List.getElem?_eq_getElem hj]
    have := hb _ (List.getElem_mem hj)
    simp
    omega
  · rw [List.getElem?_eq_none (by omega)]
    simp⟩
theorem lit_stack (w : World) (L : List Txt) (cs : Array Value) (hc : cs = (L.map fun x => Value.string ⟨x.toArray⟩).toArray) (h : L.length ≤ 100) (hb : ∀ x ∈ L, x.length ≤ 100) : StackAt (w.alloc (.cells cs 9)) (some ⟨w.heap.size, 0, none⟩) L L.length :=
  ⟨lit_texts w L cs hc, Nat.le_refl _, few_of L h hb, by omega⟩
set_option maxRecDepth 100000 in
set_option maxHeartbeats 4000000 in
theorem awake_calls (w : World) (hm : MaxOk w) : Calls Try.prog 9 #[] w fun e w' => e = .returned (.bool true) ∧ Below w.heap.size w w' := by
  have HO : Hid (∀ (W : World) (hm : MaxOk W) (a : Option Addr) (S : List Txt) (c : Nat) (h : StackAt W a S c) (x : Txt) (hx : x.length ≤ 10000000000), Calls Try.prog 11 #[.slice a S.length c, .string ⟨x.toArray⟩] W fun e w' => ∃ vi ci, e = .returned (.tuple #[.agg #[.int .i64 (openZ S x), .slice vi (openI S x).length ci, .bool false], .int .i64 (openCode S x)]) ∧ OwnT W.heap.size w' (.slice vi (openI S x).length ci) (openI S x) ∧ Below W.heap.size W w') := Open_calls
  have b0 : Below w.heap.size w (w.alloc (.cells #[.string ⟨#[112]⟩, .string ⟨#[98]⟩] 9)) := (Below.refl _ _).alloc (Nat.le_refl _) _
  have H1 := hid_of (HO.out _ (hm.below b0) _ [[112], [98]] 2 (lit_stack w [[112], [98]] _ rfl (by simp) (by simp)) [100, 105, 118] (by simp))
  rw [ex1.1, ex1.2.1, ex1.2.2] at H1
  have HM := hid_of hm
  have HB0 := hid_of b0
  clear b0 hm
  go_enter Try.func9, Try.ntmps9
  go_wp2_with fail
  (go_at_call 11; refine H1.out.mono ?_; rintro e w1 ⟨v1, c1, rfl, ho1, hb1⟩)
  go_upto_region 2 with fail
  obtain ⟨W2, hW2⟩ : ∃ W, w1.alloc (.cells #[.int .i64 2, .slice v1 0 c1, .bool false] 27) = W := ⟨_, rfl⟩
  have b2 : Below w1.heap.size w1 W2 := by rw [← hW2]; exact (Below.refl _ _).alloc (Nat.le_refl _) _
  have q2 : Blk W2 w1.heap.size #[.int .i64 2, .slice v1 0 c1, .bool false] 27 := by rw [← hW2]; exact Blk.new _ _ _
  rw [hW2]
  have s1 := hb1.size
  have HB2 : Hid (Below w.heap.size w W2) := (HB0.out.trans (hb1.mono HB0.out.size)).trans (b2.mono (by have := HB0.out.size; omega))
  have HQ2 := hid_of q2
  clear ho1 hb1 b2 q2 hW2 s1 H1
  have b3 : Below W2.heap.size W2 (W2.alloc (.cells #[.string ⟨#[116, 97, 98, 108, 101]⟩] 9)) := (Below.refl _ _).alloc (Nat.le_refl _) _
  have H2 := hid_of (HO.out _ ((HM.out.below HB2.out).below b3) _ [[116, 97, 98, 108, 101]] 1 (lit_stack W2 [[116, 97, 98, 108, 101]] _ rfl (by simp) (by simp)) [98] (by simp))
  rw [ex2.1, ex2.2.1, ex2.2.2] at H2
  have HB3 := hid_of b3
  clear b3 HO
  go_wp2_with fail
  (go_at_call 11; refine H2.out.mono ?_; rintro e w3 ⟨v3, c3, rfl, ho3, hb3⟩)
  go_upto_region 3 with fail
  obtain ⟨ht3, hc3, _, hl3⟩ := texts_own ho3
  obtain ⟨W4, hW4⟩ : ∃ W, w3.alloc (.cells #[.int .i64 0, .slice v3 3 c3, .bool false] 27) = W := ⟨_, rfl⟩
  try rw [show ([[116, 98, 111, 100, 121], [116, 114], [116, 100]] : List Txt).length = 3 from rfl]
  have b4 : Below w3.heap.size w3 W4 := by rw [← hW4]; exact (Below.refl _ _).alloc (Nat.le_refl _) _
  have q4 : Blk W4 w3.heap.size #[.int .i64 0, .slice v3 3 c3, .bool false] 27 := by rw [← hW4]; exact Blk.new _ _ _
  have HB24 : Hid (Below W2.heap.size W2 W4) := (HB3.out.trans (hb3.mono HB3.out.size)).trans (b4.mono (by have := HB3.out.size; have := hb3.size; omega))
  have HT4 := hid_of (ht3.below b4)
  have q24 := HQ2.out.below HB24.out
  try rw [hW4]
  clear ho3 hb3 b4 hW4 ht3 H2
  have d0 : W4.cell? ⟨w1.heap.size, 0, none⟩ = some (.int .i64 2) := q24.cell 0
  have d1 : W4.cell? ⟨w1.heap.size, 1, none⟩ = some (.slice v1 0 c1) := q24.cell 1
  have g0 : W4.cell? ⟨w3.heap.size, 0, none⟩ = some (.int .i64 0) := q4.cell 0
  have g1 : W4.cell? ⟨w3.heap.size, 1, none⟩ = some (.slice v3 3 c3) := q4.cell 1
  clear q24 q4
  go_wp2_with (first
    | (go_at_call 16; refine (num_calls _ _).mono ?_; rintro e w' ⟨rfl, hw'⟩; have hx' := hw'.symm; subst hx')
    | (go_at_call 17; refine (same_calls' [[116, 98, 111, 100, 121], [116, 114], [116, 100]] [[116, 98, 111, 100, 121], [116, 114], [116, 100]] _ _ _ _ _ (by simp) (by simp) (HT4.out.below ((Below.refl _ _).alloc (Nat.le_refl _) _)) (lit_texts W4 [[116, 98, 111, 100, 121], [116, 114], [116, 100]] _ rfl)).mono ?_; rintro e w6 ⟨rfl, hb6⟩))
  go_ret
  exact ⟨rfl, HB2.out.trans ((HB24.out.trans (((Below.refl _ W4).alloc (Nat.le_refl _) _ |>.trans (hb6.mono (by simp))).mono HB24.out.size)).mono HB2.out.size)⟩
end Go.Proofs.Ytdkcibafbdmajaa.E
