/- What is proved here: the places of their own that names have. -/
import Derived.Test.YtdkcibafbdmajaaNeStand
namespace Go.Proofs.Ytdkcibafbdmajaa.E
open Go.RowKit Go.Shelf Go.WideMaps Go.Maps Go.Proofs.Ytdkcibafbdmajaa.N Go.Proofs.Ytdkcibafbdmajaa.C

theorem Tb.left {n B pb lb : Nat} {a : Option Addr} {S : List Txt} {k : Nat} {ins : List Txt} {m : Nat} {W : World} (h : Tb n B pb lb a S k ins m W) : ∃ c, W.cell? ⟨B, 2, none⟩ = some (.slice a k c) := by
  obtain ⟨c, vin, _, hb, _⟩ := h.tab.blk
  have hB : Blk W B _ _ := hb
  exact ⟨c, hB.cell 2⟩
set_option maxRecDepth 100000 in
set_option maxHeartbeats 2000000 in
/-- **within.** -/
theorem within_calls {n B pb lb : Nat} {a : Option Addr} {S : List Txt} {k : Nat} {ins : List Txt} {m m1 : Nat} (hS : Few S) (hi : ins.length ≤ 900) (f1 : Nat) (c1 : Array Value) (p : Txt → Bool) (one : Txt) (w : World) (h : Tb n B pb lb a S k ins m w)
    (hf : ∀ cap, Calls Try.prog 65 #[.slice a k cap, .func (.func f1) #[] c1, .func (.func 66) #[] #[]] w fun e w' => e = .returned (.int .i64 (findK S p wallB k)) ∧ CL n B pb lb a S k ins m1 w w') :
    Calls Try.prog 93 #[.pointer (some ⟨B, 0, none⟩), .func (.func f1) #[] c1, .string ⟨one.toArray⟩] w fun e w' => (∃ v, e = .returned v) ∧ PL n B pb lb a S (withinK S (k, ins) p one).1 (withinK S (k, ins) p one).2 m1 w w' := by
  obtain ⟨c, k2⟩ := h.left
  have HF := hid_of (hf c)
  have HN : Hid (n ≤ w.heap.size) := h.tab.hn
  have HC : Hid (∀ W, Tb n B pb lb a S k ins m1 W → Calls Try.prog 96 #[.pointer (some ⟨B, 0, none⟩), .int .i64 (findK S p wallB k)] W fun e w' => e = .returned (.bool (decide (0 ≤ findK S p wallB k))) ∧ CL n B pb lb a S (closeToK k (findK S p wallB k)) ins m1 W w') := fun W hW =>
    closeTo_calls hS.len _ (findK_lt S p wallB k) W hW
  have HS := hid_of hS
  by_cases h0 : 0 ≤ findK S p wallB k
  · have HE : Hid ((withinK S (k, ins) p one).1 = closeToK k (findK S p wallB k) ∧ (withinK S (k, ins) p one).2 = ins) := by
      unfold withinK; simp only [if_pos h0]; exact ⟨trivial, trivial⟩
    rw [decide_eq_true h0] at HC
    clear h hf hS h0
    go_enter Try.func93, Try.ntmps93
    go_wp2_with fail
    (go_at_call 65; refine HF.out.mono ?_; rintro e w2 ⟨rfl, hcl⟩)
    go_wp2_with fail
    (go_at_call 96; refine (HC.out _ hcl.tb).mono ?_; rintro e w3 ⟨rfl, hcl3⟩)
    go_wp2_with fail
    go_end0
    exact ⟨⟨_, rfl⟩, by rw [HE.out.1, HE.out.2]; exact (hcl.trans hcl3).pl HN.out⟩
  · have HE : Hid ((withinK S (k, ins) p one).1 = standN S k ∧ (withinK S (k, ins) p one).2 = ins ++ standI (topK S k) ++ [one]) := by
      unfold withinK; simp only [if_neg h0]; exact ⟨rfl, rfl⟩
    have e2 : closeToK k (findK S p wallB k) = k := by unfold closeToK; rw [if_neg h0]
    rw [decide_eq_false h0, e2] at HC
    have HI : Hid ((ins ++ standI (topK S k)).length ≤ 1000) := by have := standI_len (topK S k); show _ ≤ _; simp; omega
    clear h hf hS h0 e2
    go_enter Try.func93, Try.ntmps93
    go_wp2_with fail
    (go_at_call 65; refine HF.out.mono ?_; rintro e w2 ⟨rfl, hcl⟩)
    go_wp2_with fail
    (go_at_call 96; refine (HC.out _ hcl.tb).mono ?_; rintro e w3 ⟨rfl, hcl3⟩)
    go_wp2_with fail
    (go_at_call 57; refine (stand_calls HS.out.len hi _ hcl3.tb).mono ?_; rintro e w4 ⟨⟨v4, rfl⟩, hp4⟩)
    go_wp2_with fail
    (go_at_call 81; refine (put_calls one HI.out _ hp4.tb).mono ?_; rintro e w5 ⟨⟨v5, rfl⟩, hp5⟩)
    go_wp2_with fail
    go_end0
    exact ⟨⟨_, rfl⟩, by rw [HE.out.1, HE.out.2]; exact (((hcl.trans hcl3).pl HN.out).trans hp4).trans hp5⟩
set_option maxRecDepth 100000 in
set_option maxHeartbeats 2000000 in
/-- **tabled.** -/
theorem tabled_calls {n B pb lb : Nat} {a : Option Addr} {S : List Txt} {k : Nat} {ins : List Txt} {m m1 : Nat} (hS : Few S) (hi : ins.length ≤ 900) (f1 : Nat) (c1 : Array Value) (p : Txt → Bool) (w : World) (h : Tb n B pb lb a S k ins m w) (hm : m1 + 2 * S.length ≤ 1000000000000)
    (hf : ∀ cap, Calls Try.prog 65 #[.slice a k cap, .func (.func f1) #[] c1, .func (.func 68) #[] #[]] w fun e w' => e = .returned (.int .i64 (findK S p neverB k)) ∧ CL n B pb lb a S k ins m1 w w') :
    Calls Try.prog 95 #[.pointer (some ⟨B, 0, none⟩), .func (.func f1) #[] c1] w fun e w' => e = .returned (.string ⟨(tabledT S k p).toArray⟩) ∧ PL n B pb lb a S (tabledK S (k, ins) p).1 (tabledK S (k, ins) p).2 (m1 + 2 * S.length) w w' := by
  obtain ⟨c, k2⟩ := h.left
  have HF := hid_of (hf c)
  have HN : Hid (n ≤ w.heap.size) := h.tab.hn
  have HC : Hid (∀ W, Tb n B pb lb a S k ins m1 W → Calls Try.prog 96 #[.pointer (some ⟨B, 0, none⟩), .int .i64 (findK S p neverB k)] W fun e w' => e = .returned (.bool (decide (0 ≤ findK S p neverB k))) ∧ CL n B pb lb a S (closeToK k (findK S p neverB k)) ins m1 W w') := fun W hW =>
    closeTo_calls hS.len _ (findK_lt S p neverB k) W hW
  have HS := hid_of hS
  by_cases h0 : 0 ≤ findK S p neverB k
  · have HE : Hid ((tabledK S (k, ins) p).1 = closeToK k (findK S p neverB k) ∧ (tabledK S (k, ins) p).2 = ins ∧ tabledT S k p = topK S (closeToK k (findK S p neverB k))) := by
      unfold tabledK tabledT; simp only [if_pos h0]; exact ⟨trivial, trivial, trivial⟩
    rw [decide_eq_true h0] at HC
    clear h hf hS h0 hm
    go_enter Try.func95, Try.ntmps95
    go_wp2_with fail
    (go_at_call 65; refine HF.out.mono ?_; rintro e w2 ⟨rfl, hcl⟩)
    go_wp2_with fail
    (go_at_call 96; refine (HC.out _ hcl.tb).mono ?_; rintro e w3 ⟨rfl, hcl3⟩)
    go_wp2_with fail
    (go_at_call 58; refine (top_calls HS.out.len _ hcl3.tb).mono ?_; rintro e w4 ⟨rfl, hb4⟩)
    go_wp2_with fail
    go_ret
    exact ⟨by rw [HE.out.2.2]; rfl, by rw [HE.out.1, HE.out.2.1]; exact (((hcl.trans hcl3).pl HN.out).below hb4).mono (by omega)⟩
  · have HE : Hid ((tabledK S (k, ins) p).1 = standN S (closePN S k) ∧ (tabledK S (k, ins) p).2 = ins ++ standI (topK S (closePN S k)) ++ [xTable] ∧ tabledT S k p = xTable) := by
      unfold tabledK tabledT; simp only [if_neg h0]; exact ⟨rfl, rfl, trivial⟩
    have e2 : closeToK k (findK S p neverB k) = k := by unfold closeToK; rw [if_neg h0]
    rw [decide_eq_false h0, e2] at HC
    have HI : Hid ((ins ++ standI (topK S (closePN S k))).length ≤ 1000) := by have := standI_len (topK S (closePN S k)); show _ ≤ _; simp; omega
    clear h hf hS h0 e2
    go_enter Try.func95, Try.ntmps95
    go_wp2_with fail
    (go_at_call 65; refine HF.out.mono ?_; rintro e w2 ⟨rfl, hcl⟩)
    go_wp2_with fail
    (go_at_call 96; refine (HC.out _ hcl.tb).mono ?_; rintro e w3 ⟨rfl, hcl3⟩)
    go_wp2_with fail
    (go_at_call 83; refine (closeP_calls HS.out _ hcl3.tb (by omega)).mono ?_; rintro e w4 ⟨⟨v4, rfl⟩, hcl4⟩)
    go_wp2_with fail
    (go_at_call 57; refine (stand_calls HS.out.len hi _ hcl4.tb).mono ?_; rintro e w5 ⟨⟨v5, rfl⟩, hp5⟩)
    go_wp2_with fail
    (go_at_call 81; refine (put_calls xTable HI.out _ hp5.tb).mono ?_; rintro e w6 ⟨⟨v6, rfl⟩, hp6⟩)
    go_wp2_with fail
    go_ret
    exact ⟨by rw [HE.out.2.2]; rfl, by rw [HE.out.1, HE.out.2.1]; exact ((((hcl.trans hcl3).trans hcl4).pl HN.out).trans hp5).trans hp6⟩
end Go.Proofs.Ytdkcibafbdmajaa.E
