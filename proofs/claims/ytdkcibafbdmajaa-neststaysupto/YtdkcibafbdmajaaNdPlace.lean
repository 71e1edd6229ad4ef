/- What is proved here: place of the document of layer 16. -/
import Derived.Test.YtdkcibafbdmajaaBun6
namespace Go.Proofs.Ytdkcibafbdmajaa.E
open Go.RowKit Go.Shelf Go.WideMaps Go.Maps Go.Proofs.Ytdkcibafbdmajaa.N Go.Proofs.Ytdkcibafbdmajaa.C

theorem txts_nil' (w : World) : Txts w none [] 0 := ⟨fun j hj => absurd hj (by simp), Nat.le_refl _, fun _ => rfl⟩
/-- A row lies at or above a block. -/
def AboveA (B : Nat) (v : Option Addr) : Prop := ∀ ad, v = some ad → B ≤ ad.block
theorem above_own {base : Nat} {w : World} {a : Option Addr} {n c : Nat} {L : List Txt} (h : OwnT base w (.slice a n c) L) : AboveA base a := fun ad e => by
  subst e
  exact (h.lt ad.block rfl).1
theorem above_none (B : Nat) : AboveA B none := fun _ e => by cases e
theorem AboveA.mono {B C : Nat} {v : Option Addr} (h : AboveA B v) (hc : C ≤ B) : AboveA C v := fun ad e => Nat.le_trans hc (h ad e)
theorem unblock_le (S : List Txt) (n : Nat) : unblockN S n ≤ n := closeK_le _ _ (findK_lt _ _ _ _)
theorem inner_len (S : List Txt) : ∀ k, (innerK S k).2.length ≤ 3
  | 0 => by simp [innerK]
  | k + 1 => by
    unfold innerK
    split
    · exact inner_len S k
    · show (innI _).length ≤ 3
      unfold innI
      repeat' split
      all_goals simp
/-- Closed to the topmost of some; behind a table some are put in, behind a group others. -/
def placeK (S : List Txt) (p : Txt → Bool) (n : Nat) (T G : List Txt) : St :=
  if findK S p neverB n < 0 then ((innerK S (unblockN S n)).1, (innerK S (unblockN S n)).2 ++ [xTable] ++ T)
  else ((findK S p neverB n + 1).toNat, if S.getD (findK S p neverB n).toNat [] = xTable then T else if groupB (S.getD (findK S p neverB n).toNat []) then G else [])
set_option maxRecDepth 100000 in
set_option maxHeartbeats 4000000 in
/-- **place.** -/
theorem place_calls (S : List Txt) (U : ByteArray) (hU : U.size ≤ 1000000000) (a : Option Addr) (n c : Nat) (hn : n ≤ S.length) (hc : n ≤ c) (hs : S.length ≤ 1000000000) (ta ga : Option Addr) (T G : List Txt) (tc gc : Nat) (hTl : T.length ≤ 1000) (B0 : Nat) (hTB : AboveA B0 ta) (hGB : AboveA B0 ga) (w : World) (hB0 : B0 ≤ w.heap.size) (h : TextsAt w a S) (hT : Txts w ta T tc) (hG : Txts w ga G gc) :
    Calls Try.prog 63 #[.slice a n c, .string U, .slice ta T.length tc, .slice ga G.length gc] w fun e w' => ∃ v cv, e = .returned (.tuple #[.slice a (placeK S (isT U) n T G).1 c, .slice v (placeK S (isT U) n T G).2.length cv]) ∧ Txts w' v (placeK S (isT U) n T G).2 cv ∧ Below w.heap.size w w' ∧ AboveA B0 v := by
  have HTOP := hid_of (dtop_calls S U hU a n c hn hs w h)
  have hlt := findK_lt S (isT U) neverB n
  have HP : Hid (placeK S (isT U) n T G = placeK S (isT U) n T G) := rfl
  by_cases hi : findK S (isT U) neverB n < 0
  · have HPK : Hid (placeK S (isT U) n T G = ((innerK S (unblockN S n)).1, (innerK S (unblockN S n)).2 ++ [xTable] ++ T)) := by show _ = _; unfold placeK; rw [if_pos hi]
    rw [HPK.out]
    have hul := unblock_le S n
    have hil := inner_len S (unblockN S n)
    have HUN := hid_of (fun W hW => unblocked_calls S a n c hn hc hs W (h.below (w' := W) hW))
    have HIN := hid_of (fun W hW => inner_calls S a c hs (unblockN S n) W (by omega) (by omega) (h.below (w' := W) hW))
    have hd : decide (findK S (isT U) neverB n < 0) = true := decide_eq_true hi
    have HT := hid_of hT
    clear h hT hG hlt hi HP HPK
    generalize innerK S (unblockN S n) = r at *
    generalize unblockN S n = u at *
    obtain ⟨r1, r2⟩ := r
    simp only at hil
    go_enter Try.func63, Try.ntmps63
    go_wp2_with fail
    (go_at_call 45; refine HTOP.out.mono ?_; rintro e w1 ⟨rfl, hb1⟩)
    have HB1 := hid_of hb1
    clear hb1
    go_wp2_with fail
    (go_at_call 62; refine (HUN.out _ HB1.out).mono ?_; rintro e w2 ⟨rfl, hb2⟩)
    have HB2 : Hid (Below w.heap.size w w2) := HB1.out.trans (hb2.mono HB1.out.size)
    clear hb2
    go_wp2_with fail
    (go_at_call 42; refine (HIN.out _ HB2.out).mono ?_; rintro e w3 ⟨v3, c3, rfl, ho3, hb3⟩)
    have HB3 : Hid (Below w.heap.size w w3) := HB2.out.trans (hb3.mono HB2.out.size)
    have HO3A : Hid (Txts (w3.alloc (.cells #[] 9)) v3 r2 c3) := (txts_own ho3).below ((Below.refl _ w3).alloc (Nat.le_refl _) _)
    have HB3A : Hid (Below w.heap.size w (w3.alloc (.cells #[] 9))) := HB3.out.alloc HB3.out.size _
    have HLIT : Hid (OwnT w3.heap.size (w3.alloc (.cells #[] 9)) (.slice (some ⟨w3.heap.size, 0, none⟩) 0 0) []) := own_lit' w3 #[] [] 0 rfl rfl (by decide)
    clear ho3 hb3
    go_wp2_with (first
      | (at_builtin; refine append_texts rfl _ _ rfl w3.heap.size _ [] rfl HLIT.out v3 c3 r2 rfl HO3A.out (by simp; omega) (by simp) ?_; intro v' w4 hown4 hgrow4; rw [List.nil_append] at hown4; obtain ⟨a4, c4, rfl⟩ := owns_slice hown4; have HB4 : Hid (Below w.heap.size w w4) := HB3A.out.grown hgrow4 HB3A.out.size (fun j hj => by cases hj; exact HB3.out.size); have HO4A : Hid (OwnT w3.heap.size (w4.alloc (.cells #[.string ⟨#[116, 97, 98, 108, 101]⟩] 9)) (.slice a4 r2.length c4) r2) := World.ownsRow.alloc hown4 _; have HX4 : Hid (Txts (w4.alloc (.cells #[.string ⟨#[116, 97, 98, 108, 101]⟩] 9)) (some ⟨w4.heap.size, 0, none⟩) [xTable] 1) := ⟨lit_texts w4 [xTable] _ rfl, Nat.le_refl _, fun e => by cases e⟩; have HB4A : Hid (Below w.heap.size w (w4.alloc (.cells #[.string ⟨#[116, 97, 98, 108, 101]⟩] 9))) := HB4.out.alloc HB4.out.size _; have HS4 : Hid (w3.heap.size ≤ w4.heap.size) := Nat.le_trans (by simp) hgrow4.size; clear hown4 hgrow4)
      | (at_builtin; refine append_texts rfl _ _ rfl w3.heap.size _ r2 rfl HO4A.out (some ⟨w4.heap.size, 0, none⟩) 1 [xTable] rfl HX4.out (by simp; omega) (by have := HS4.out; simp; omega) ?_; intro v' w5 hown5 hgrow5; obtain ⟨a5, c5, rfl⟩ := owns_slice hown5; have HO5 := hid_of hown5; have HB5 : Hid (Below w.heap.size w w5) := HB4A.out.grown hgrow5 HB4A.out.size (fun j hj => Nat.le_trans HB3.out.size (HO4A.out.lt j hj).1); have HS5 : Hid (w3.heap.size ≤ w5.heap.size) := Nat.le_trans HS4.out (Nat.le_trans (by simp) hgrow5.size); have HT5 := hid_of (HT.out.below HB5.out); clear hown5 hgrow5)
      | (at_builtin; refine append_texts rfl _ _ rfl w3.heap.size _ (r2 ++ [xTable]) (by rw [List.length_append]; rfl) HO5.out ta tc T rfl HT5.out (by simp; omega) HS5.out ?_; intro v' w6 hown6 hgrow6; obtain ⟨a6, c6, rfl⟩ := owns_slice hown6))
    go_ret2
    have e6 : (r2 ++ [xTable] ++ T).length = r2.length + (T.length + 1) := by simp <;> omega
    exact ⟨a6, c6, (by rw [e6]; rfl), txts_own hown6, HB5.out.grown hgrow6 HB5.out.size (fun j hj => Nat.le_trans HB3.out.size (HO5.out.lt j hj).1), (above_own hown6).mono (Nat.le_trans hB0 HB3.out.size)⟩
  · obtain ⟨i, hii⟩ : ∃ i : Nat, findK S (isT U) neverB n = (i : Int) := ⟨(findK S (isT U) neverB n).toNat, by omega⟩
    have HPK : Hid (placeK S (isT U) n T G = (i + 1, if S.getD i [] = xTable then T else if groupB (S.getD i []) then G else [])) := by
      show _ = _
      unfold placeK
      rw [if_neg hi, hii]
      rfl
    rw [hii] at hlt
    rw [show topI S U n = (i : Int) from hii] at HTOP
    have hiN : i < n := by omega
    obtain ⟨b, off, rfl, hcx⟩ := h i (by omega)
    have hd : decide ((i : Int) < 0) = false := decide_eq_false (by omega)
    have hw1 : IntKind.i64.wrap ((i : Int) + 1) = ((i + 1 : Nat) : Int) := by rw [IntKind.wrap_i64]; omega
    have h10 : (0 : Int) ≤ ((i + 1 : Nat) : Int) := by omega
    have h1c : ((i + 1 : Nat) : Int) ≤ (c : Int) := by omega
    have hi0 : (0 : Int) ≤ (i : Int) := by omega
    have hi1 : (i : Int) < ((i + 1 : Nat) : Int) := by omega
    have HIS := hid_of (fun W => dis_calls (S.getD i []) tGroups (by decide) W)
    rw [isT_groups] at HIS
    have HT := hid_of hT
    have HG := hid_of hG
    have HX := hid_of (fun W (hW : Below w.heap.size w W) => (hW.cell (p := ⟨b, off + i, none⟩) (cell_lt hcx)).trans hcx)
    clear h hT hG hi hii HP hlt
    generalize S.getD i [] = x at *
    by_cases e1 : x = xTable
    · subst e1
      have HX2 : Hid (∀ W, Below w.heap.size w W → W.cell? ⟨b, off + i, none⟩ = some (.string ⟨#[116, 97, 98, 108, 101]⟩)) := HX.out
      clear HX HIS hcx
      have HX := HX2
      clear HX2
      have HP2 : Hid (placeK S (isT U) n T G = (i + 1, T)) := by rw [HPK.out]; show (_, _) = _; rw [if_pos rfl]
      rw [HP2.out]
      clear HPK HP2
      go_enter Try.func63, Try.ntmps63
      go_wp2_with fail
      (go_at_call 45; refine HTOP.out.mono ?_; rintro e w1 ⟨rfl, hb1⟩)
      have HB1 := hid_of hb1
      have hx1 := HX.out _ hb1
      clear hb1
      go_wp2
      go_ret2
      exact ⟨ta, tc, rfl, HT.out.below HB1.out, HB1.out, hTB⟩
    · have g1 : (x == [116, 97, 98, 108, 101]) = false := by rw [beq_eq_false_iff_ne]; exact e1
      cases e2 : groupB x
      · rw [e2] at HIS
        have HP2 : Hid (placeK S (isT U) n T G = (i + 1, [])) := by rw [HPK.out]; show (_, _) = _; rw [if_neg e1, if_neg (by rw [e2]; decide)]
        rw [HP2.out]
        clear HPK HP2
        go_enter Try.func63, Try.ntmps63
        go_wp2_with fail
        (go_at_call 45; refine HTOP.out.mono ?_; rintro e w1 ⟨rfl, hb1⟩)
        have HB1 := hid_of hb1
        have hx1 := HX.out _ hb1
        clear hb1
        go_wp2_with fail
        (go_at_call 43; refine (HIS.out _).mono ?_; rintro e w2 ⟨rfl, hb2⟩)
        go_wp2
        go_ret2
        exact ⟨none, 0, rfl, txts_nil' _, HB1.out.trans (hb2.mono HB1.out.size), above_none _⟩
      · rw [e2] at HIS
        have HP2 : Hid (placeK S (isT U) n T G = (i + 1, G)) := by rw [HPK.out]; show (_, _) = _; rw [if_neg e1, if_pos e2]
        rw [HP2.out]
        clear HPK HP2
        go_enter Try.func63, Try.ntmps63
        go_wp2_with fail
        (go_at_call 45; refine HTOP.out.mono ?_; rintro e w1 ⟨rfl, hb1⟩)
        have HB1 := hid_of hb1
        have hx1 := HX.out _ hb1
        clear hb1
        go_wp2_with fail
        (go_at_call 43; refine (HIS.out _).mono ?_; rintro e w2 ⟨rfl, hb2⟩)
        go_wp2
        go_ret2
        exact ⟨ga, gc, rfl, HG.out.below (HB1.out.trans (hb2.mono HB1.out.size)), HB1.out.trans (hb2.mono HB1.out.size), hGB⟩
end Go.Proofs.Ytdkcibafbdmajaa.E
