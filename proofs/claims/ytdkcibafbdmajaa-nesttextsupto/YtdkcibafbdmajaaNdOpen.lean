/- What is proved here: Allowed, Right and Open of the document of layer 16. -/
import Derived.Test.YtdkcibafbdmajaaNdFacts
namespace Go.Proofs.Ytdkcibafbdmajaa.E
open Go.RowKit Go.Shelf Go.WideMaps Go.Maps Go.Proofs.Ytdkcibafbdmajaa.N Go.Proofs.Ytdkcibafbdmajaa.C

set_option maxRecDepth 100000 in
theorem dallowed_calls (x : Txt) (w : World) : Calls Try.prog 14 #[.string ⟨x.toArray⟩] w fun e w' => e = .returned (.bool (allowB x)) ∧ Below w.heap.size w w' := by
  have H := hid_of (rin_calls ⟨x.toArray⟩ 15 w)
  have HB : Hid (inZ 15 x = allowB x) := rfl
  go_enter Try.func14, Try.ntmps14
  go_wp2_with (go_at_call 38; refine H.out.mono ?_; rintro e w1 ⟨rfl, hb1⟩; rw [HB.out])
  go_ret
  exact ⟨rfl, hb1⟩
/-- A row of texts lies apart from a block that holds none. -/
theorem txts_apart {W : World} {B b off c : Nat} {L : List Txt} {z : Int} {sv : Value} {d : Bool} {t : TypeId} {sa : Option Addr} {sn sc : Nat} (hq : Blk W B #[.int .i64 z, sv, .bool d] t) (hsv : sv = .slice sa sn sc) (h : Txts W (some ⟨b, off, none⟩) L c) (h0 : 0 < L.length) : b ≠ B := fun e => by
  subst e hsv
  obtain ⟨b', off', e, hc⟩ := h.txt 0 h0
  cases e
  rw [hq.cell] at hc
  match off, hc with
  | 0, hc => cases hc
  | 1, hc => cases hc
  | 2, hc => cases hc
  | n + 3, hc => simp at hc
theorem txts_put3 {W : World} {B c : Nat} {v : Option Addr} {L : List Txt} {z : Int} {d : Bool} {t : TypeId} {sa : Option Addr} {sn sc : Nat} (hq : Blk W B #[.int .i64 z, .slice sa sn sc, .bool d] t) (h : Txts W v L c) (u0 u1 u2 : Value) : Txts (((W.setCell ⟨B, 0, none⟩ u0).setCell ⟨B, 1, none⟩ u1).setCell ⟨B, 2, none⟩ u2) v L c := by
  refine ⟨fun j hj => ?_, h.cap, h.nil⟩
  obtain ⟨b, off, e, hc⟩ := h.txt j hj
  subst e
  have hne : b ≠ B := txts_apart hq rfl h (by omega)
  have far : ∀ (X : World) (i : Nat) (u : Value), (X.setCell ⟨B, i, none⟩ u).cell? ⟨b, off + j, none⟩ = X.cell? ⟨b, off + j, none⟩ := fun X i u => by
    simp only [World.cell?]
    rw [Below.heap_setCell _ _ _ _ (fun e => hne e)]
  exact ⟨b, off, rfl, by rw [far, far, far]; exact hc⟩
set_option maxRecDepth 100000 in
set_option maxHeartbeats 8000000 in
/-- **Right**, of the document. -/
theorem dRight_calls (S : List Txt) (a : Option Addr) (c : Nat) (hc : S.length ≤ c) (hs : S.length ≤ 1000000000) (w : World) (h : TextsAt w a S) :
    Calls Try.prog 13 #[.slice a S.length c] w fun e w' => e = .returned (.bool (rightK S S.length)) ∧ Below w.heap.size w w' := by
  have HT := hid_of h
  clear h
  go_enter Try.func13, Try.ntmps13
  go_wp2
  go_loopw [3, 4, 5, 6, 9] (fun _ _ _ _ i wr => ∃ k : Nat, k ≤ S.length ∧ i = .int .i64 k ∧ Hid (rightK S k = true) ∧ Hid (Below w.heap.size w wr)) (fun _ _ _ _ i _ => S.length - (intOf i).toNat)
  case atStart => exact ⟨0, by omega, rfl, rfl, Below.refl _ _⟩
  case round =>
    obtain ⟨k, hk, rfl, hR, hB⟩ := hrel
    by_cases hlt : k < S.length
    · obtain ⟨b, off, rfl, hcx⟩ := (HT.out.below hB.out) k hlt
      have HON : Hid (rightAtD S S.length k = true → rightK S (k + 1) = true) := fun h => rightD_on hlt hR.out h
      have HOFF : Hid (rightAtD S S.length k = false → rightK S S.length = false) := fun h => rightD_off hlt hR.out h
      have HD : Hid (rightAtD S S.length k = (allowB (S.getD k []) && (!voidB (S.getD k []) && (!(decide (S.getD k [] = xArea) && decide ((k : Int) < (S.length : Int) - 1)) && (decide (k ≤ (asksD S k (S.getD k [])).1) && decide ((asksD S k (S.getD k [])).2.length = 0)))))) := rfl
      have hwL : IntKind.i64.wrap ((S.length : Int) - 1) = (S.length : Int) - 1 := by rw [IntKind.wrap_i64]; omega
      have hk0 : (0 : Int) ≤ (k : Int) := by omega
      have hkc : (k : Int) ≤ (c : Int) := by omega
      have HAL := hid_of (fun W => dallowed_calls (S.getD k []) W)
      have HVO := hid_of (fun W => rin_calls ⟨(S.getD k []).toArray⟩ 0 W)
      have HIV : Hid (inZ 0 (S.getD k []) = voidB (S.getD k [])) := rfl
      have HAS := hid_of (fun W hW => dasks_calls S (S.getD k []) (some ⟨b, off, none⟩) k c (by omega) (by omega) hs W (HT.out.below (w' := W) hW))
      generalize rightAtD S S.length k = rd at *
      generalize asksD S k (S.getD k []) = r at *
      generalize S.getD k [] = x at *
      obtain ⟨r1, r2⟩ := r
      simp only at HD
      cases hal : allowB x
      · have HF : Hid (rd = false) := by rw [HD.out]; show _ = _; rw [hal]; rfl
        go_wp2_with fail
        (go_at_call 14; refine (HAL.out _).mono ?_; rintro e w1 ⟨rfl, hb1⟩; rw [hal])
        have HB1 : Hid (Below w.heap.size w w1) := hB.out.trans (hb1.mono hB.out.size)
        clear hb1
        go_wp2_with fail
        have HR2 := hid_of (HOFF.out HF.out)
        go_ret
        exact ⟨by rw [HR2.out]; rfl, HB1.out⟩
      cases hvo : voidB x
      rotate_left
      · have HF : Hid (rd = false) := by rw [HD.out]; show _ = _; rw [hvo]; simp
        go_wp2_with fail
        (go_at_call 14; refine (HAL.out _).mono ?_; rintro e w1 ⟨rfl, hb1⟩; rw [hal])
        have HB1 : Hid (Below w.heap.size w w1) := hB.out.trans (hb1.mono hB.out.size)
        clear hb1
        go_wp2_with fail
        (go_at_call 38; refine (HVO.out _).mono ?_; rintro e w2 ⟨rfl, hb2⟩; rw [HIV.out, hvo])
        have HB2 : Hid (Below w.heap.size w w2) := HB1.out.trans (hb2.mono HB1.out.size)
        clear hb2
        go_wp2_with fail
        have HR2 := hid_of (HOFF.out HF.out)
        go_ret
        exact ⟨by rw [HR2.out]; rfl, HB2.out⟩
      by_cases har : x = [116, 101, 120, 116, 97, 114, 101, 97]
      · subst har
        by_cases hl1 : (k : Int) < (S.length : Int) - 1
        · have hd0 : decide ((k : Int) < (S.length : Int) - 1) = true := decide_eq_true hl1
          have HF : Hid (rd = false) := by rw [HD.out]; show _ = _; rw [decide_eq_true (show ([116, 101, 120, 116, 97, 114, 101, 97] : Txt) = xArea from rfl), hd0]; simp
          go_wp2_with fail
          (go_at_call 14; refine (HAL.out _).mono ?_; rintro e w1 ⟨rfl, hb1⟩; rw [hal])
          have HB1 : Hid (Below w.heap.size w w1) := hB.out.trans (hb1.mono hB.out.size)
          clear hb1
          go_wp2_with fail
          (go_at_call 38; refine (HVO.out _).mono ?_; rintro e w2 ⟨rfl, hb2⟩; rw [HIV.out, hvo])
          have HB2 : Hid (Below w.heap.size w w2) := HB1.out.trans (hb2.mono HB1.out.size)
          clear hb2
          go_wp2_with fail
          have HR2 := hid_of (HOFF.out HF.out)
          go_ret
          exact ⟨by rw [HR2.out]; rfl, HB2.out⟩
        · have hd0 : decide ((k : Int) < (S.length : Int) - 1) = false := decide_eq_false hl1
          have harea : (decide (([116, 101, 120, 116, 97, 114, 101, 97] : Txt) = xArea) && decide ((k : Int) < (S.length : Int) - 1)) = false := by rw [hd0]; simp
          by_cases hlf : r1 < k
          · have hd1 : decide ((r1 : Int) < (k : Int)) = true := decide_eq_true (by omega)
            have HF : Hid (rd = false) := by rw [HD.out]; show _ = _; rw [decide_eq_false (show ¬ k ≤ r1 by omega)]; simp
            go_wp2_with fail
            (go_at_call 14; refine (HAL.out _).mono ?_; rintro e w1 ⟨rfl, hb1⟩; rw [hal])
            have HB1 : Hid (Below w.heap.size w w1) := hB.out.trans (hb1.mono hB.out.size)
            clear hb1
            go_wp2_with fail
            (go_at_call 38; refine (HVO.out _).mono ?_; rintro e w2 ⟨rfl, hb2⟩; rw [HIV.out, hvo])
            have HB2 : Hid (Below w.heap.size w w2) := HB1.out.trans (hb2.mono HB1.out.size)
            clear hb2
            go_wp2_with fail
            (go_at_call 39; refine (HAS.out _ HB2.out).mono ?_; rintro e w3 ⟨v3, c3, rfl, ho3, hb3, -⟩)
            have HB3 : Hid (Below w.heap.size w w3) := HB2.out.trans (hb3.mono HB2.out.size)
            clear hb3 ho3
            go_wp2_with fail
            have HR2 := hid_of (HOFF.out HF.out)
            go_ret
            exact ⟨by rw [HR2.out]; rfl, HB3.out⟩
          · have hd1 : decide ((r1 : Int) < (k : Int)) = false := decide_eq_false (by omega)
            by_cases hr2 : r2.length = 0
            · have hd2 : decide ((r2.length : Int) > 0) = false := decide_eq_false (by omega)
              have HF : Hid (rd = true) := by rw [HD.out]; show _ = _; rw [decide_eq_true (show k ≤ r1 by omega), decide_eq_true hr2, hal, hvo, harea]; rfl
              have HN := hid_of (HON.out HF.out)
              go_wp2_with fail
              (go_at_call 14; refine (HAL.out _).mono ?_; rintro e w1 ⟨rfl, hb1⟩; rw [hal])
              have HB1 : Hid (Below w.heap.size w w1) := hB.out.trans (hb1.mono hB.out.size)
              clear hb1
              go_wp2_with fail
              (go_at_call 38; refine (HVO.out _).mono ?_; rintro e w2 ⟨rfl, hb2⟩; rw [HIV.out, hvo])
              have HB2 : Hid (Below w.heap.size w w2) := HB1.out.trans (hb2.mono HB1.out.size)
              clear hb2
              go_wp2_with fail
              (go_at_call 39; refine (HAS.out _ HB2.out).mono ?_; rintro e w3 ⟨v3, c3, rfl, ho3, hb3, -⟩)
              have HB3 : Hid (Below w.heap.size w w3) := HB2.out.trans (hb3.mono HB2.out.size)
              clear hb3 ho3
              go_wp2_with fail
              all_goals first
                | exact ⟨⟨k + 1, by omega, by go_num, HN, HB3⟩, by simp [intOf]; omega⟩
                | (go_roundw
                   case rel => exact ⟨k + 1, by omega, by go_num, HN, HB3⟩
                   case measure => simp [intOf]; omega)
            · have hd2 : decide ((r2.length : Int) > 0) = true := decide_eq_true (by omega)
              have HF : Hid (rd = false) := by rw [HD.out]; show _ = _; rw [decide_eq_false hr2]; simp
              go_wp2_with fail
              (go_at_call 14; refine (HAL.out _).mono ?_; rintro e w1 ⟨rfl, hb1⟩; rw [hal])
              have HB1 : Hid (Below w.heap.size w w1) := hB.out.trans (hb1.mono hB.out.size)
              clear hb1
              go_wp2_with fail
              (go_at_call 38; refine (HVO.out _).mono ?_; rintro e w2 ⟨rfl, hb2⟩; rw [HIV.out, hvo])
              have HB2 : Hid (Below w.heap.size w w2) := HB1.out.trans (hb2.mono HB1.out.size)
              clear hb2
              go_wp2_with fail
              (go_at_call 39; refine (HAS.out _ HB2.out).mono ?_; rintro e w3 ⟨v3, c3, rfl, ho3, hb3, -⟩)
              have HB3 : Hid (Below w.heap.size w w3) := HB2.out.trans (hb3.mono HB2.out.size)
              clear hb3 ho3
              go_wp2_with fail
              have HR2 := hid_of (HOFF.out HF.out)
              go_ret
              exact ⟨by rw [HR2.out]; rfl, HB3.out⟩
      · have g1 : (x == [116, 101, 120, 116, 97, 114, 101, 97]) = false := by rw [beq_eq_false_iff_ne]; exact har
        have harea : (decide (x = xArea) && decide ((k : Int) < (S.length : Int) - 1)) = false := by rw [decide_eq_false (show ¬ x = xArea from har)]; rfl
        by_cases hlf : r1 < k
        · have hd1 : decide ((r1 : Int) < (k : Int)) = true := decide_eq_true (by omega)
          have HF : Hid (rd = false) := by rw [HD.out]; show _ = _; rw [decide_eq_false (show ¬ k ≤ r1 by omega)]; simp
          go_wp2_with fail
          (go_at_call 14; refine (HAL.out _).mono ?_; rintro e w1 ⟨rfl, hb1⟩; rw [hal])
          have HB1 : Hid (Below w.heap.size w w1) := hB.out.trans (hb1.mono hB.out.size)
          clear hb1
          go_wp2_with fail
          (go_at_call 38; refine (HVO.out _).mono ?_; rintro e w2 ⟨rfl, hb2⟩; rw [HIV.out, hvo])
          have HB2 : Hid (Below w.heap.size w w2) := HB1.out.trans (hb2.mono HB1.out.size)
          clear hb2
          go_wp2_with fail
          (go_at_call 39; refine (HAS.out _ HB2.out).mono ?_; rintro e w3 ⟨v3, c3, rfl, ho3, hb3, -⟩)
          have HB3 : Hid (Below w.heap.size w w3) := HB2.out.trans (hb3.mono HB2.out.size)
          clear hb3 ho3
          go_wp2_with fail
          have HR2 := hid_of (HOFF.out HF.out)
          go_ret
          exact ⟨by rw [HR2.out]; rfl, HB3.out⟩
        · have hd1 : decide ((r1 : Int) < (k : Int)) = false := decide_eq_false (by omega)
          by_cases hr2 : r2.length = 0
          · have hd2 : decide ((r2.length : Int) > 0) = false := decide_eq_false (by omega)
            have HF : Hid (rd = true) := by rw [HD.out]; show _ = _; rw [decide_eq_true (show k ≤ r1 by omega), decide_eq_true hr2, hal, hvo, harea]; rfl
            have HN := hid_of (HON.out HF.out)
            go_wp2_with fail
            (go_at_call 14; refine (HAL.out _).mono ?_; rintro e w1 ⟨rfl, hb1⟩; rw [hal])
            have HB1 : Hid (Below w.heap.size w w1) := hB.out.trans (hb1.mono hB.out.size)
            clear hb1
            go_wp2_with fail
            (go_at_call 38; refine (HVO.out _).mono ?_; rintro e w2 ⟨rfl, hb2⟩; rw [HIV.out, hvo])
            have HB2 : Hid (Below w.heap.size w w2) := HB1.out.trans (hb2.mono HB1.out.size)
            clear hb2
            go_wp2_with fail
            (go_at_call 39; refine (HAS.out _ HB2.out).mono ?_; rintro e w3 ⟨v3, c3, rfl, ho3, hb3, -⟩)
            have HB3 : Hid (Below w.heap.size w w3) := HB2.out.trans (hb3.mono HB2.out.size)
            clear hb3 ho3
            go_wp2_with fail
            all_goals first
              | exact ⟨⟨k + 1, by omega, by go_num, HN, HB3⟩, by simp [intOf]; omega⟩
              | (go_roundw
                 case rel => exact ⟨k + 1, by omega, by go_num, HN, HB3⟩
                 case measure => simp [intOf]; omega)
          · have hd2 : decide ((r2.length : Int) > 0) = true := decide_eq_true (by omega)
            have HF : Hid (rd = false) := by rw [HD.out]; show _ = _; rw [decide_eq_false hr2]; simp
            go_wp2_with fail
            (go_at_call 14; refine (HAL.out _).mono ?_; rintro e w1 ⟨rfl, hb1⟩; rw [hal])
            have HB1 : Hid (Below w.heap.size w w1) := hB.out.trans (hb1.mono hB.out.size)
            clear hb1
            go_wp2_with fail
            (go_at_call 38; refine (HVO.out _).mono ?_; rintro e w2 ⟨rfl, hb2⟩; rw [HIV.out, hvo])
            have HB2 : Hid (Below w.heap.size w w2) := HB1.out.trans (hb2.mono HB1.out.size)
            clear hb2
            go_wp2_with fail
            (go_at_call 39; refine (HAS.out _ HB2.out).mono ?_; rintro e w3 ⟨v3, c3, rfl, ho3, hb3, -⟩)
            have HB3 : Hid (Below w.heap.size w w3) := HB2.out.trans (hb3.mono HB2.out.size)
            clear hb3 ho3
            go_wp2_with fail
            have HR2 := hid_of (HOFF.out HF.out)
            go_ret
            exact ⟨by rw [HR2.out]; rfl, HB3.out⟩
    · obtain rfl : k = S.length := by omega
      go_wp2
      go_ret
      exact ⟨by rw [hR.out]; rfl, hB.out⟩
theorem results_dopen {tmps : Array Value} {W : World} {A : Nat} {v0 v1 v2 : Value} {t : TypeId} (h4 : tmps[4]?.getD undef = .pointer (some ⟨A, 0, none⟩)) (h : Blk W A #[v0, v1, v2] t) :
    (results Try.f19 tmps).run Try.prog W = .ok (.agg #[v0, v1, v2]) W := by
  have c0 : W.cell? ⟨A, 0, none⟩ = some v0 := h.cell 0
  have c1 : W.cell? ⟨A, 1, none⟩ = some v1 := h.cell 1
  have c2 : W.cell? ⟨A, 2, none⟩ = some v2 := h.cell 2
  simp [results, Try.results19, go_sem, h4, c0, c1, c2]
theorem asks_le {S : List Txt} {L : Nat} (hr : rightK S L = true) (k : Nat) (hk : k ≤ L) (x : Txt) : (asksD S k x).1 ≤ k := by
  rw [asks_element hr k hk]
  exact element_le S k x
set_option maxRecDepth 100000 in
set_option maxHeartbeats 4000000 in
/-- **Open**, of the document. -/
theorem dOpen_calls (S : List Txt) (x : Txt) (a : Option Addr) (k c : Nat) (hk : k ≤ S.length) (hc : k ≤ c) (hs : S.length ≤ 1000000000) (hle : (asksD S k x).1 ≤ k) (w : World) (h : TextsAt w a S) :
    Calls Try.prog 19 #[.slice a k c, .string ⟨x.toArray⟩] w fun e w' => ∃ v cv, e = .returned (.agg #[.int .i64 ((k : Int) - ((asksD S k x).1 : Int)), .slice v (asksD S k x).2.length cv, .bool false]) ∧ Txts w' v (asksD S k x).2 cv ∧ Below w.heap.size w w' ∧ AboveA w.heap.size v := by
  obtain ⟨W1, hW1⟩ : ∃ W, w.alloc (.cells zeroPlan 27) = W := ⟨_, rfl⟩
  have b1 : Below w.heap.size w W1 := by rw [← hW1]; exact (Below.refl _ w).alloc (Nat.le_refl _) _
  have r1 : Blk W1 w.heap.size zeroPlan 27 := by rw [← hW1]; exact Blk.new _ _ _
  have HW : Hid (w.alloc (.cells #[.int .i64 0, .slice none 0 0, .bool false] 27) = W1) := by rw [← hW1]; rfl
  have HB1 := hid_of b1
  have HR1 := hid_of r1
  have HAS := hid_of (dasks_calls S x a k c hk hc hs W1 (h.below b1))
  clear hW1 b1 r1 h
  generalize asksD S k x = r at *
  obtain ⟨q1, q2⟩ := r
  simp only at hle
  have hwz : IntKind.i64.wrap ((k : Int) - (q1 : Int)) = (k : Int) - (q1 : Int) := by rw [IntKind.wrap_i64]; omega
  go_enter Try.func19, Try.ntmps19
  go_upto_region 1 with fail
  rw [HW.out]
  go_wp2_with fail
  (go_at_call 39; refine HAS.out.mono ?_; rintro e w2 ⟨v2, c2, rfl, ho2, hb2, ha2⟩)
  have HB2 : Hid (Below w.heap.size w w2) := HB1.out.trans (hb2.mono HB1.out.size)
  have HR2 := hid_of (HR1.out.below hb2)
  have HO2 := hid_of ho2
  have j0 : w2.cell? ⟨w.heap.size, 0, none⟩ = some (.int .i64 0) := HR2.out.cell 0
  have j1 : w2.cell? ⟨w.heap.size, 1, none⟩ = some (.slice none 0 0) := HR2.out.cell 1
  have j2 : w2.cell? ⟨w.heap.size, 2, none⟩ = some (.bool false) := HR2.out.cell 2
  have jfr := HR2.out.frozen
  clear ho2 hb2
  go_wp2_with fail
  exact bodyPost_ret (results_dopen rfl (HR2.out.put3 _ _ _)) rfl ⟨v2, c2, rfl, txts_put3 HR2.out HO2.out _ _ _, below_put3 HB2.out (Nat.le_refl _) _ _ _, ha2.mono HB1.out.size⟩
end Go.Proofs.Ytdkcibafbdmajaa.E
