/- What is proved here: the contract of Line of sieveref07: the line of a token that may be is the one that write writes. -/
import Derived.Lib.QuietBelow
import Derived.BigQuiet
import Derived.Test.YtelfejbhlolppaaDoorBun9
namespace Go.Proofs.YtelfejbhlolppaaDoor.T
open Go.RowKit N

theorem ret_str {a b : ByteArray} (h : a.data.toList = b.data.toList) : Ending.returned (.string a) = .returned (.string b) := by rw [data_inj h]
theorem check_bare {t : Tok} {l : AL} (h : checkB t l = true) (hk : t.kind ≠ 1) : l = [] ∧ t.self = false := by
  unfold checkB at h
  rw [Bool.and_eq_true] at h
  have h := h.1
  have hb : ∀ x : Bool, (bareB t l && x) = true → l = [] ∧ t.self = false := fun x hx => by
    simp only [bareB, Bool.and_eq_true] at hx
    exact ⟨by simpa using hx.1.1, by simpa using hx.1.2⟩
  unfold fitsB at h
  by_cases k0 : t.kind = 0
  · rw [if_pos k0, Bool.and_assoc] at h; exact hb _ h
  by_cases k2 : t.kind = 2
  · rw [if_neg k0, if_neg hk, if_pos k2, Bool.and_assoc] at h; exact hb _ h
  by_cases k3 : t.kind = 3
  · rw [if_neg k0, if_neg hk, if_neg k2, if_pos k3] at h; exact hb _ h
  by_cases k4 : t.kind = 4
  · rw [if_neg k0, if_neg hk, if_neg k2, if_neg k3, if_pos k4, Bool.and_assoc] at h; exact hb _ h
  rw [if_neg k0, if_neg hk, if_neg k2, if_neg k3, if_neg k4] at h
  cases h

set_option maxRecDepth 100000 in
set_option maxHeartbeats 4000000 in
theorem line_calls (t : Tok) (l : AL) (av : Value) (w : World) (hH : HasA w av l) (hl : SizesA l) (ht : t.Sizes) (hck : checkB t l = true) (hsz : sizeT t l ≤ 140737488355328) :
    Calls Tryd.prog 21 #[t.val av] w fun e w' => e = .returned (.string ⟨(lineB t l).toArray⟩) ∧ Below w.heap.size w w' := by
  obtain ⟨la, lc, rfl⟩ := hH.slice
  have HS : Hid (HasA w (.slice la l.length lc) l) := hH
  have HL : Hid (SizesA l) := hl
  have HZT : Hid (2 * (t.name.size + t.text.size) + 2 * sumA l + 6 * l.length + 12 ≤ 140737488355328) := hsz
  have hnz := ht.1
  have hnt := ht.2
  have hll := hl.1
  have hkk := check_kind hck
  have HBR : Hid (t.kind ≠ 1 → l = [] ∧ t.self = false) := check_bare hck
  have HLB : Hid (lineB t l = headB t ++ attrsL l ++ selfL t.self) := rfl
  clear hH hl ht hsz hck
  obtain ⟨kind, name, text, self, p0, p1, p2⟩ := t
  unfold Tok.val
  simp only at hnz hnt hkk HBR HLB HZT ⊢
  have hzt := HZT.out
  have qn := quoteB_len name.data.toList
  have qt := quoteB_len text.data.toList
  rw [size_data] at qn qt
  obtain ⟨QN, hQN⟩ : ∃ Q : ByteArray, (⟨(quoteB name.data.toList).toArray⟩ : ByteArray) = Q := ⟨_, rfl⟩
  obtain ⟨QT, hQT⟩ : ∃ Q : ByteArray, (⟨(quoteB text.data.toList).toArray⟩ : ByteArray) = Q := ⟨_, rfl⟩
  have hqn : QN.data.toList = quoteB name.data.toList := by rw [← hQN]
  have hqt : QT.data.toList = quoteB text.data.toList := by rw [← hQT]
  have HQN : Hid (QN.data.toList = quoteB name.data.toList) := hqn
  have HQT : Hid (QT.data.toList = quoteB text.data.toList) := hqt
  have zn : QN.size ≤ 2 * name.size + 2 := by rw [← size_data, hqn]; exact qn
  have zt : QT.size ≤ 2 * text.size + 2 := by rw [← size_data, hqt]; exact qt
  have CN : Hid (∀ W, Calls Tryd.prog 37 #[.string name] W fun e w' => e = .returned (.string QN) ∧ w' = W) := fun W => by rw [← hQN]; exact rquote_calls name W hnz
  have CT : Hid (∀ W, Calls Tryd.prog 37 #[.string text] W fun e w' => e = .returned (.string QT) ∧ w' = W) := fun W => by rw [← hQT]; exact rquote_calls text W hnt
  clear hQN hQT hqn hqt qn qt
  obtain ⟨W0, hW0⟩ : ∃ W0, w.alloc (.cells #[.int .i64 kind, .string name, .string text, .slice la l.length lc, .bool self, .int .i64 p0, .int .i64 p1, .int .i64 p2] 28) = W0 := ⟨_, rfl⟩
  have b0 : Below w.heap.size w W0 := by rw [← hW0]; exact (Below.refl _ w).alloc (Nat.le_refl _) _
  have hz0 : w.heap.size < W0.heap.size := by rw [← hW0]; simp
  have t0 : W0.cell? ⟨w.heap.size, 0, none⟩ = some (.int .i64 kind) := by rw [← hW0, C.cell_new]; rfl
  have t1 : W0.cell? ⟨w.heap.size, 1, none⟩ = some (.string name) := by rw [← hW0, C.cell_new]; rfl
  have t2 : W0.cell? ⟨w.heap.size, 2, none⟩ = some (.string text) := by rw [← hW0, C.cell_new]; rfl
  have t3 : W0.cell? ⟨w.heap.size, 3, none⟩ = some (.slice la l.length lc) := by rw [← hW0, C.cell_new]; rfl
  have t4 : W0.cell? ⟨w.heap.size, 4, none⟩ = some (.bool self) := by rw [← hW0, C.cell_new]; rfl
  have HB0 : Hid (Below w.heap.size w W0) := b0
  have HS0 : Hid (HasA W0 (.slice la l.length lc) l) := HS.out.below b0
  clear b0
  have rn4 : 4 + QN.size ≤ 9223372036854775807 := by omega
  have rn6 : 6 + QN.size ≤ 9223372036854775807 := by omega
  have rt5 : 5 + QT.size ≤ 9223372036854775807 := by omega
  have rt8 : 8 + QT.size ≤ 9223372036854775807 := by omega
  go_enter Tryd.func21, Tryd.ntmps21
  by_cases k0 : kind = 0
  · subst k0
    obtain ⟨rfl, rfl⟩ := HBR.out (by decide)
    rw [List.length_nil] at hW0 t3
    go_wp2_with (go_at_call 37; refine (CT.out _).mono ?_; rintro e w' ⟨rfl, hw⟩; have hx' := hw.symm; subst hx')
    all_goals go_ret
    all_goals exact ⟨ret_str (by rw [app_data, HQT.out, HLB.out]; simp [headB, wordB, attrsL, selfL]), HB0.out⟩
  by_cases k2 : kind = 2
  · subst k2
    obtain ⟨rfl, rfl⟩ := HBR.out (by decide)
    rw [List.length_nil] at hW0 t3
    go_wp2_with (go_at_call 37; refine (CN.out _).mono ?_; rintro e w' ⟨rfl, hw⟩; have hx' := hw.symm; subst hx')
    all_goals go_ret
    all_goals exact ⟨ret_str (by rw [app_data, HQN.out, HLB.out]; simp [headB, wordB, attrsL, selfL]), HB0.out⟩
  by_cases k3 : kind = 3
  · subst k3
    obtain ⟨rfl, rfl⟩ := HBR.out (by decide)
    rw [List.length_nil] at hW0 t3
    go_wp2_with (go_at_call 37; refine (CT.out _).mono ?_; rintro e w' ⟨rfl, hw⟩; have hx' := hw.symm; subst hx')
    all_goals go_ret
    all_goals exact ⟨ret_str (by rw [app_data, HQT.out, HLB.out]; simp [headB, wordB, attrsL, selfL]), HB0.out⟩
  by_cases k4 : kind = 4
  · subst k4
    obtain ⟨rfl, rfl⟩ := HBR.out (by decide)
    rw [List.length_nil] at hW0 t3
    go_wp2
    all_goals go_ret
    all_goals exact ⟨ret_str (by rw [HLB.out]; simp [headB, wordB, attrsL, selfL]), HB0.out⟩
  obtain rfl : kind = 1 := by omega
  clear k0 k2 k3 k4
  go_wp2_with (go_at_call 37; refine (CN.out _).mono ?_; rintro e w' ⟨rfl, hw⟩; have hx' := hw.symm; subst hx')
  obtain ⟨S0, hS0⟩ : ∃ S : ByteArray, (⟨#[115, 116, 97, 114, 116, 32]⟩ : ByteArray) ++ QN = S := ⟨_, rfl⟩
  have HS1 : Hid (S0.data.toList = headB ⟨1, name, text, self, p0, p1, p2⟩) := by
    show _ = _
    rw [← hS0, app_data, HQN.out]; simp [headB, wordB]
  rw [hS0]
  clear hS0
  have hhl := headB_len ⟨1, name, text, self, p0, p1, p2⟩
  simp only at hhl
  generalize hHd : headB _ = Hd at HS1 HLB hhl
  clear hHd
  go_loopw [3, 5, 35] (fun v _ i wr => ∃ (k : Nat) (S : ByteArray), k ≤ l.length ∧ v = .string S ∧ i = .int .i64 k ∧ Hid (S.data.toList = Hd ++ attrsL (l.take k)) ∧ Hid (Below W0.heap.size W0 wr)) (fun _ _ i _ => l.length - (intOf i).toNat)
  case atStart => exact ⟨0, S0, by omega, rfl, rfl, by show _ = _; rw [HS1.out]; simp [attrsL], Below.refl _ _⟩
  case round =>
    obtain ⟨k, S, hk, rfl, rfl, hS, hB⟩ := hrel
    have s1 := hB.out.size
    have hal := attrsL_len (l.take k)
    have hSz : S.size ≤ (2 * (name.size + text.size) + 10) + 2 * sumA (l.take k) + 6 * k := by
      rw [← size_data, hS.out, List.length_append]
      simp only [List.length_take] at hal; omega
    clear hal
    by_cases hlt : k < l.length
    · obtain ⟨ab, off, rfl, d0, d1⟩ := (HS0.out.below hB.out).at k hlt
      have hsu := sumA_succ l k hlt
      have hst := sumA_take l (k + 1)
      have hsx := attrsL_succ l k hlt
      have hz1 := HL.out.2 l[k] (List.getElem_mem _)
      rcases hx : l[k] with ⟨n, x⟩
      rw [hx] at d0 d1 hsu hsx hz1
      simp only at d0 d1 hsu hz1
      have HN : Hid (Hd ++ attrsL (l.take (k + 1)) = S.data.toList ++ ([32] ++ quoteB n.data.toList ++ [61] ++ quoteB x.data.toList)) := by
        show _ = _
        rw [hsx, hS.out, List.append_assoc]; rfl
      have hroom : S.size + 2 * (n.size + x.size) + 6 ≤ 140737488355328 := by omega
      have q1 := quoteB_len n.data.toList
      have q2 := quoteB_len x.data.toList
      rw [size_data] at q1 q2
      obtain ⟨Q1, hQ1⟩ : ∃ Q : ByteArray, (⟨(quoteB n.data.toList).toArray⟩ : ByteArray) = Q := ⟨_, rfl⟩
      obtain ⟨Q2, hQ2⟩ : ∃ Q : ByteArray, (⟨(quoteB x.data.toList).toArray⟩ : ByteArray) = Q := ⟨_, rfl⟩
      have hq1 : Q1.data.toList = quoteB n.data.toList := by rw [← hQ1]
      have hq2 : Q2.data.toList = quoteB x.data.toList := by rw [← hQ2]
      have HQ1 : Hid (Q1.data.toList = quoteB n.data.toList ∧ Q2.data.toList = quoteB x.data.toList) := ⟨hq1, hq2⟩
      have z1 : Q1.size ≤ 2 * n.size + 2 := by rw [← size_data, hq1]; exact q1
      have z2 : Q2.size ≤ 2 * x.size + 2 := by rw [← size_data, hq2]; exact q2
      obtain ⟨W1, hW1⟩ : ∃ W1, wr.alloc (.cells #[.string n, .string x] 36) = W1 := ⟨_, rfl⟩
      have hA1 : W1.heap[wr.heap.size]? = some (.cells #[.string n, .string x] 36 (0, 0)) := by rw [← hW1]; exact new_at _ _ _
      have b1 : Below wr.heap.size wr W1 := by rw [← hW1]; exact (Below.refl _ wr).alloc (Nat.le_refl _) _
      have HB1 : Hid (Below W0.heap.size W0 W1) := hB.out.trans (b1.mono s1)
      have mixed : Tryd.prog.follows .mixedOrders = true := by kernel_rfl
      have D : ∀ d os, Below W1.heap.size W1 (Go.Sort.grow (redrawn W1 d) os) := fun d os => below_regrown W1 d os
      have x0 : ∀ d os, (Go.Sort.grow (redrawn W1 d) os).cell? ⟨wr.heap.size, 0, none⟩ = some (.string n) := fun d os => cell_regrown (cell_at hA1) d os
      have x1 : ∀ d os, (Go.Sort.grow (redrawn W1 d) os).cell? ⟨wr.heap.size, 1, none⟩ = some (.string x) := fun d os => cell_regrown (cell_at hA1) d os
      have c1 : ∀ d os, Calls Tryd.prog 37 #[.string n] (Go.Sort.grow (redrawn W1 d) os) fun e w'' => e = .returned (.string Q1) ∧ ∃ p : Regrown, w'' = Go.Sort.grow (redrawn W1 p.d) p.os := fun d os => Calls.regrown_of (by rw [← hQ1]; exact (rquote_calls n _ hz1.1).mono fun e w' ⟨h1, h2⟩ => ⟨h1, by rw [h2]; exact Below.refl _ _⟩)
      have c2 : ∀ d os, Calls Tryd.prog 37 #[.string x] (Go.Sort.grow (redrawn W1 d) os) fun e w'' => e = .returned (.string Q2) ∧ ∃ p : Regrown, w'' = Go.Sort.grow (redrawn W1 p.d) p.os := fun d os => Calls.regrown_of (by rw [← hQ2]; exact (rquote_calls x _ hz1.2).mono fun e w' ⟨h1, h2⟩ => ⟨h1, by rw [h2]; exact Below.refl _ _⟩)
      obtain ⟨A1, hA1e⟩ : ∃ A : ByteArray, (⟨#[32]⟩ : ByteArray) ++ Q1 = A := ⟨_, rfl⟩
      obtain ⟨A2, hA2e⟩ : ∃ A : ByteArray, A1 ++ (⟨#[61]⟩ : ByteArray) = A := ⟨_, rfl⟩
      obtain ⟨A3, hA3e⟩ : ∃ A : ByteArray, A2 ++ Q2 = A := ⟨_, rfl⟩
      obtain ⟨A4, hA4e⟩ : ∃ A : ByteArray, S ++ A3 = A := ⟨_, rfl⟩
      have e1 : A1.size = 1 + Q1.size := by rw [← hA1e, ByteArray.size_append]; rfl
      have e2 : A2.size = A1.size + 1 := by rw [← hA2e, ByteArray.size_append]; rfl
      have e3 : A3.size = A2.size + Q2.size := by rw [← hA3e, ByteArray.size_append]
      have p1 : ∀ w, (Op.stringOp .add ⟨#[32]⟩ Q1).run Tryd.prog w = .ok (.string A1) w := fun w => by rw [← hA1e]; exact run_string_add_sum _ _ _ (by show 1 + _ ≤ _; omega)
      have p2 : ∀ w, (Op.stringOp .add A1 ⟨#[61]⟩).run Tryd.prog w = .ok (.string A2) w := fun w => by rw [← hA2e]; exact run_string_add_sum _ _ _ (by show _ + 1 ≤ _; omega)
      have p3 : ∀ w, (Op.stringOp .add A2 Q2).run Tryd.prog w = .ok (.string A3) w := fun w => by rw [← hA3e]; exact run_string_add_sum _ _ _ (by omega)
      have p4 : ∀ w, (Op.stringOp .add S A3).run Tryd.prog w = .ok (.string A4) w := fun w => by rw [← hA4e]; exact run_string_add_sum _ _ _ (by omega)
      have HA4 : Hid (A4.data.toList = Hd ++ attrsL (l.take (k + 1))) := by
        show _ = _
        rw [HN.out, ← hA4e, app_data, ← hA3e, app_data, ← hA2e, app_data, ← hA1e, app_data, hq1, hq2]
      clear hA1e hA2e hA3e hA4e e1 e2 e3 hQ1 hQ2 hq1 hq2 q1 q2 z1 z2 hsu hst hsx hx hz1 hroom
      go_wp2_with fail
      refine wp_region_quiet_below mixed (by kernel_rfl) ?_
      repeat (go_big_quiet_step (first | with_reducible exact c1 _ _ | with_reducible exact c2 _ _))
      refine wpQuiet_nil ?_
      intro _ hw'
      obtain ⟨⟨dq, osq⟩, hw''⟩ := hw'
      have hb2 : Below W1.heap.size W1 (Go.Sort.grow (redrawn W1 dq) osq) := D dq osq
      rw [← hw''] at hb2
      clear hw'' c1 c2 p1 p2 p3 p4 D mixed x0 x1
      rename_i w2
      have HB2 : Hid (Below W0.heap.size W0 w2) := HB1.out.trans (hb2.mono HB1.out.size)
      clear hb2
      go_wp2
      go_roundw
      case rel => exact ⟨k + 1, A4, by omega, rfl, by go_num, HA4, HB2⟩
      case measure => simp [intOf]; omega
    · obtain rfl : k = l.length := by omega
      rw [List.take_length] at hS
      have t4' := (hB.out.cell (p := ⟨w.heap.size, 4, none⟩) hz0).trans t4
      have hst := sumA_take l l.length
      have r2 : S.size + 2 ≤ 9223372036854775807 := by omega
      cases self with
      | false =>
        go_wp2
        go_ret
        exact ⟨ret_str (by rw [hS.out, HLB.out]; simp [selfL]), HB0.out.trans (hB.out.mono HB0.out.size)⟩
      | true =>
        go_wp2
        go_ret
        exact ⟨ret_str (by rw [app_data, hS.out, HLB.out]; simp [selfL]), HB0.out.trans (hB.out.mono HB0.out.size)⟩
end Go.Proofs.YtelfejbhlolppaaDoor.T
