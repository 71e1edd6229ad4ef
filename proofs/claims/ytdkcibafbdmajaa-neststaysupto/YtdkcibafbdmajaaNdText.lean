/- What is proved here: Text of the document of layer 16. -/
import Derived.Test.YtdkcibafbdmajaaNdPlace
namespace Go.Proofs.Ytdkcibafbdmajaa.E
open Go.RowKit Go.Shelf Go.WideMaps Go.Maps Go.Proofs.Ytdkcibafbdmajaa.N Go.Proofs.Ytdkcibafbdmajaa.C

/-- What a text asks: how many are closed, what is put in, whether it is dropped. -/
def textD (S : List Txt) (k : Nat) (bl : Bool) : Nat × List Txt × Bool :=
  if topK S k = xArea then (0, [], false)
  else if (decide (0 < (innerK S k).2.length) || decide ((innerK S k).1 < k)) && bl then (0, [], true)
  else (k - (innerK S k).1, (innerK S k).2, false)
set_option maxRecDepth 100000 in
set_option maxHeartbeats 4000000 in
/-- **Text**, of the document. -/
theorem dtext_calls (S : List Txt) (a : Option Addr) (k c : Nat) (hk : k ≤ S.length) (hc : k ≤ c) (hs : S.length ≤ 1000000000) (bl : Bool) (w : World) (h : TextsAt w a S) :
    Calls Try.prog 24 #[.slice a k c, .bool bl] w fun e w' => ∃ v cv, e = .returned (.agg #[.int .i64 ((textD S k bl).1 : Int), .slice v (textD S k bl).2.1.length cv, .bool (textD S k bl).2.2]) ∧ OwnT w.heap.size w' (.slice v (textD S k bl).2.1.length cv) (textD S k bl).2.1 ∧ Below w.heap.size w w' := by
  obtain ⟨W1, hW1⟩ : ∃ W, w.alloc (.cells zeroPlan 27) = W := ⟨_, rfl⟩
  have b1 : Below w.heap.size w W1 := by rw [← hW1]; exact (Below.refl _ w).alloc (Nat.le_refl _) _
  have r1 : Blk W1 w.heap.size zeroPlan 27 := by rw [← hW1]; exact Blk.new _ _ _
  have HW : Hid (w.alloc (.cells #[.int .i64 0, .slice none 0 0, .bool false] 27) = W1) := by rw [← hW1]; rfl
  have HB1 := hid_of b1
  have HR1 := hid_of r1
  have HIN := hid_of (fun W hW => inner_calls S a c hs k W hk hc (h.below (w' := W) hW))
  have hle := inner_le S k
  have HD : Hid (textD S k bl = if topK S k = xArea then (0, [], false) else if (decide (0 < (innerK S k).2.length) || decide ((innerK S k).1 < k)) && bl then (0, [], true) else (k - (innerK S k).1, (innerK S k).2, false)) := rfl
  have HTXA := hid_of (h.below b1)
  clear hW1 b1 r1 h
  have i0 : W1.cell? ⟨w.heap.size, 0, none⟩ = some (.int .i64 0) := HR1.out.cell 0
  have i1 : W1.cell? ⟨w.heap.size, 1, none⟩ = some (.slice none 0 0) := HR1.out.cell 1
  have i2 : W1.cell? ⟨w.heap.size, 2, none⟩ = some (.bool false) := HR1.out.cell 2
  have ifr := HR1.out.frozen
  by_cases h0 : k = 0
  · subst h0
    have HD0 : Hid (textD S 0 bl = (0, [], false)) := by rw [HD.out]; show ite _ _ _ = _; rw [show topK S 0 = [] from rfl, if_neg (by decide)]; simp [innerK]
    have HIN0 : Hid (∀ W, Below w.heap.size w W → Calls Try.prog 42 #[.slice a 0 c] W fun e w' => ∃ v cv, e = .returned (.tuple #[.slice a 0 c, .slice v ([] : List Txt).length cv]) ∧ OwnT W.heap.size w' (.slice v ([] : List Txt).length cv) [] ∧ Below W.heap.size W w') := HIN.out
    rw [HD0.out]
    clear HD HIN HTXA hle HD0
    go_enter Try.func24, Try.ntmps24
    go_upto_region 1 with fail
    rw [HW.out]
    go_wp2_with fail
    (go_at_call 42; refine (HIN0.out _ HB1.out).mono ?_; rintro e w2 ⟨v2, c2, rfl, ho2, hb2⟩)
    have HB2 : Hid (Below w.heap.size w w2) := HB1.out.trans (hb2.mono HB1.out.size)
    have HR2 := hid_of (HR1.out.below hb2)
    have HO2 : Hid (OwnT (w.heap.size + 1) w2 _ []) := own_low ho2 (Nat.succ_le_of_lt HR1.out.lt)
    have j0 : w2.cell? ⟨w.heap.size, 0, none⟩ = some (.int .i64 0) := HR2.out.cell 0
    have j1 : w2.cell? ⟨w.heap.size, 1, none⟩ = some (.slice none 0 0) := HR2.out.cell 1
    have j2 : w2.cell? ⟨w.heap.size, 2, none⟩ = some (.bool false) := HR2.out.cell 2
    have jfr := HR2.out.frozen
    clear ho2 hb2
    go_wp2_with fail
    exact bodyPost_ret (results_text rfl (HR2.out.put3 _ _ _)) rfl ⟨v2, c2, rfl, own_low (base' := w.heap.size) (own_set (own_set (own_set HO2.out (by omega) _ _) (by omega) _ _) (by omega) _ _) (by omega), below_put3 HB2.out (Nat.le_refl _) _ _ _⟩
  · obtain ⟨b, off, rfl, hcx⟩ := HTXA.out (k - 1) (by omega)
    have hgt : decide ((k : Int) > 0) = true := decide_eq_true (by omega)
    have hwk : IntKind.i64.wrap ((k : Int) - 1) = ((k - 1 : Nat) : Int) := by rw [IntKind.wrap_i64]; omega
    have hk0 : (0 : Int) ≤ ((k - 1 : Nat) : Int) := by omega
    have hkl : ((k - 1 : Nat) : Int) < (k : Int) := by omega
    have HTOP : Hid (topK S k = S.getD (k - 1) []) := by show _ = _; unfold topK; rw [if_neg h0]
    rw [HTOP.out] at HD
    clear HTXA HTOP h0
    generalize S.getD (k - 1) [] = x at *
    by_cases e1 : x = [116, 101, 120, 116, 97, 114, 101, 97]
    · subst e1
      have HD1 : Hid (textD S k bl = (0, [], false)) := by rw [HD.out]; exact if_pos rfl
      rw [HD1.out]
      clear HD HD1 HIN hle
      go_enter Try.func24, Try.ntmps24
      go_upto_region 1 with fail
      rw [HW.out]
      go_wp2_with fail
      exact bodyPost_ret (results_text rfl (HR1.out.put3 _ _ _)) rfl ⟨none, 0, rfl, World.ownsRow_nil _ _ _ _, below_put3 HB1.out (Nat.le_refl _) _ _ _⟩
    · have g1 : (x == [116, 101, 120, 116, 97, 114, 101, 97]) = false := by rw [beq_eq_false_iff_ne]; exact e1
      have HD1 : Hid (textD S k bl = if (decide (0 < (innerK S k).2.length) || decide ((innerK S k).1 < k)) && bl then (0, [], true) else (k - (innerK S k).1, (innerK S k).2, false)) := by rw [HD.out]; exact if_neg e1
      clear HD e1
      obtain ⟨r1, r2, hr⟩ : ∃ r1 r2, innerK S k = (r1, r2) := ⟨_, _, rfl⟩
      rw [hr] at HD1 HIN hle
      simp only at hle
      have hwz : IntKind.i64.wrap ((k : Int) - (r1 : Int)) = ((k - r1 : Nat) : Int) := by rw [IntKind.wrap_i64]; omega
      clear hr
      by_cases h2 : 0 < r2.length
      · have hL : decide ((r2.length : Int) > 0) = true := decide_eq_true (by omega)
        have hL2 : decide (0 < r2.length) = true := decide_eq_true h2
        have hL3 : ¬ r2 = [] := fun e => by rw [e] at h2; simp at h2
        have hL4 : ¬ r2.length = 0 := by omega
        cases bl
        · have HD2 : Hid (textD S k false = (k - r1, r2, false)) := by rw [HD1.out]; show _ = _; simp
          rw [HD2.out]
          clear HD1 HD2 h2
          go_enter Try.func24, Try.ntmps24
          go_upto_region 1 with fail
          rw [HW.out]
          go_wp2_with fail
          (go_at_call 42; refine (HIN.out _ HB1.out).mono ?_; rintro e w2 ⟨v2, c2, rfl, ho2, hb2⟩)
          have HB2 : Hid (Below w.heap.size w w2) := HB1.out.trans (hb2.mono HB1.out.size)
          have HR2 := hid_of (HR1.out.below hb2)
          have HO2 : Hid (OwnT (w.heap.size + 1) w2 _ r2) := own_low ho2 (Nat.succ_le_of_lt HR1.out.lt)
          have j0 : w2.cell? ⟨w.heap.size, 0, none⟩ = some (.int .i64 0) := HR2.out.cell 0
          have j1 : w2.cell? ⟨w.heap.size, 1, none⟩ = some (.slice none 0 0) := HR2.out.cell 1
          have j2 : w2.cell? ⟨w.heap.size, 2, none⟩ = some (.bool false) := HR2.out.cell 2
          have jfr := HR2.out.frozen
          clear ho2 hb2
          go_wp2_with fail
          exact bodyPost_ret (results_text rfl (HR2.out.put3 _ _ _)) rfl ⟨v2, c2, rfl, own_low (base' := w.heap.size) (own_set (own_set (own_set HO2.out (by omega) _ _) (by omega) _ _) (by omega) _ _) (by omega), below_put3 HB2.out (Nat.le_refl _) _ _ _⟩
        · have HD2 : Hid (textD S k true = (0, [], true)) := by rw [HD1.out]; show _ = _; simp [h2]
          rw [HD2.out]
          clear HD1 HD2 h2
          go_enter Try.func24, Try.ntmps24
          go_upto_region 1 with fail
          rw [HW.out]
          go_wp2_with fail
          (go_at_call 42; refine (HIN.out _ HB1.out).mono ?_; rintro e w2 ⟨v2, c2, rfl, ho2, hb2⟩)
          have HB2 : Hid (Below w.heap.size w w2) := HB1.out.trans (hb2.mono HB1.out.size)
          have HR2 := hid_of (HR1.out.below hb2)
          have HO2 : Hid (OwnT (w.heap.size + 1) w2 _ r2) := own_low ho2 (Nat.succ_le_of_lt HR1.out.lt)
          have j0 : w2.cell? ⟨w.heap.size, 0, none⟩ = some (.int .i64 0) := HR2.out.cell 0
          have j1 : w2.cell? ⟨w.heap.size, 1, none⟩ = some (.slice none 0 0) := HR2.out.cell 1
          have j2 : w2.cell? ⟨w.heap.size, 2, none⟩ = some (.bool false) := HR2.out.cell 2
          have jfr := HR2.out.frozen
          clear ho2 hb2
          go_wp2_with fail
          exact bodyPost_ret (results_text rfl (HR2.out.put3 _ _ _)) rfl ⟨none, 0, rfl, World.ownsRow_nil _ _ _ _, below_put3 HB2.out (Nat.le_refl _) _ _ _⟩
      · have hL2 : ¬ 0 < r2.length := h2
        have hL3 : r2.length = 0 := by omega
        obtain rfl : r2 = [] := List.eq_nil_of_length_eq_zero hL3
        have hL : decide ((([] : List Txt).length : Int) > 0) = false := by decide
        clear hL2 hL3
        by_cases h3 : r1 < k
        · have hl3 : decide ((r1 : Int) < (k : Int)) = true := decide_eq_true (by omega)
          have hl4 : decide (r1 < k) = true := decide_eq_true h3
          cases bl
          · have HD2 : Hid (textD S k false = (k - r1, [], false)) := by rw [HD1.out]; show _ = _; simp
            rw [HD2.out]
            clear HD1 HD2 h2
            go_enter Try.func24, Try.ntmps24
            go_upto_region 1 with fail
            rw [HW.out]
            go_wp2_with fail
            (go_at_call 42; refine (HIN.out _ HB1.out).mono ?_; rintro e w2 ⟨v2, c2, rfl, ho2, hb2⟩)
            have HB2 : Hid (Below w.heap.size w w2) := HB1.out.trans (hb2.mono HB1.out.size)
            have HR2 := hid_of (HR1.out.below hb2)
            have HO2 : Hid (OwnT (w.heap.size + 1) w2 _ ([] : List Txt)) := own_low ho2 (Nat.succ_le_of_lt HR1.out.lt)
            have j0 : w2.cell? ⟨w.heap.size, 0, none⟩ = some (.int .i64 0) := HR2.out.cell 0
            have j1 : w2.cell? ⟨w.heap.size, 1, none⟩ = some (.slice none 0 0) := HR2.out.cell 1
            have j2 : w2.cell? ⟨w.heap.size, 2, none⟩ = some (.bool false) := HR2.out.cell 2
            have jfr := HR2.out.frozen
            clear ho2 hb2
            go_wp2_with fail
            exact bodyPost_ret (results_text rfl (HR2.out.put3 _ _ _)) rfl ⟨v2, c2, rfl, own_low (base' := w.heap.size) (own_set (own_set (own_set HO2.out (by omega) _ _) (by omega) _ _) (by omega) _ _) (by omega), below_put3 HB2.out (Nat.le_refl _) _ _ _⟩
          · have HD2 : Hid (textD S k true = (0, [], true)) := by rw [HD1.out]; show _ = _; simp [h3]
            rw [HD2.out]
            clear HD1 HD2 h2
            go_enter Try.func24, Try.ntmps24
            go_upto_region 1 with fail
            rw [HW.out]
            go_wp2_with fail
            (go_at_call 42; refine (HIN.out _ HB1.out).mono ?_; rintro e w2 ⟨v2, c2, rfl, ho2, hb2⟩)
            have HB2 : Hid (Below w.heap.size w w2) := HB1.out.trans (hb2.mono HB1.out.size)
            have HR2 := hid_of (HR1.out.below hb2)
            have HO2 : Hid (OwnT (w.heap.size + 1) w2 _ ([] : List Txt)) := own_low ho2 (Nat.succ_le_of_lt HR1.out.lt)
            have j0 : w2.cell? ⟨w.heap.size, 0, none⟩ = some (.int .i64 0) := HR2.out.cell 0
            have j1 : w2.cell? ⟨w.heap.size, 1, none⟩ = some (.slice none 0 0) := HR2.out.cell 1
            have j2 : w2.cell? ⟨w.heap.size, 2, none⟩ = some (.bool false) := HR2.out.cell 2
            have jfr := HR2.out.frozen
            clear ho2 hb2
            go_wp2_with fail
            exact bodyPost_ret (results_text rfl (HR2.out.put3 _ _ _)) rfl ⟨none, 0, rfl, World.ownsRow_nil _ _ _ _, below_put3 HB2.out (Nat.le_refl _) _ _ _⟩
        · have hl3 : decide ((r1 : Int) < (k : Int)) = false := decide_eq_false (by omega)
          have hl4 : decide (r1 < k) = false := decide_eq_false h3
          have HD2 : Hid (textD S k bl = (k - r1, [], false)) := by rw [HD1.out]; show _ = _; simp [h3]
          rw [HD2.out]
          clear HD1 HD2 h2
          go_enter Try.func24, Try.ntmps24
          go_upto_region 1 with fail
          rw [HW.out]
          go_wp2_with fail
          (go_at_call 42; refine (HIN.out _ HB1.out).mono ?_; rintro e w2 ⟨v2, c2, rfl, ho2, hb2⟩)
          have HB2 : Hid (Below w.heap.size w w2) := HB1.out.trans (hb2.mono HB1.out.size)
          have HR2 := hid_of (HR1.out.below hb2)
          have HO2 : Hid (OwnT (w.heap.size + 1) w2 _ ([] : List Txt)) := own_low ho2 (Nat.succ_le_of_lt HR1.out.lt)
          have j0 : w2.cell? ⟨w.heap.size, 0, none⟩ = some (.int .i64 0) := HR2.out.cell 0
          have j1 : w2.cell? ⟨w.heap.size, 1, none⟩ = some (.slice none 0 0) := HR2.out.cell 1
          have j2 : w2.cell? ⟨w.heap.size, 2, none⟩ = some (.bool false) := HR2.out.cell 2
          have jfr := HR2.out.frozen
          clear ho2 hb2
          go_wp2_with fail
          exact bodyPost_ret (results_text rfl (HR2.out.put3 _ _ _)) rfl ⟨v2, c2, rfl, own_low (base' := w.heap.size) (own_set (own_set (own_set HO2.out (by omega) _ _) (by omega) _ _) (by omega) _ _) (by omega), below_put3 HB2.out (Nat.le_refl _) _ _ _⟩
end Go.Proofs.Ytdkcibafbdmajaa.E
