/- What is proved here: laws and contracts of NePlan, NeOwnL, one behind the other (each says its own). -/
import Derived.Test.YtdkcibafbdmajaaNeLaw
import Derived.Laws.AppendOwnNone
import Derived.Laws.OwnMore
/- What is proved here: plan and nothing of the statements of layer 16. -/
namespace Go.Proofs.Ytdkcibafbdmajaa.E
open Go.RowKit Go.Shelf Go.WideMaps Go.Maps Go.Proofs.Ytdkcibafbdmajaa.N Go.Proofs.Ytdkcibafbdmajaa.C

set_option maxRecDepth 100000 in
set_option maxHeartbeats 4000000 in
theorem lplan_calls (z z' : Int) (d d' : Bool) (L L' : List Txt) (a a' : Option Addr) (c c' : Nat) (w : World) (hn : L.length ≤ 1000000000000) (hn' : L'.length ≤ 1000000000000) (h : TextsAt w a L) (h' : TextsAt w a' L') :
    Calls Try.prog 20 #[.agg #[.int .i64 z, .slice a L.length c, .bool d], .agg #[.int .i64 z', .slice a' L'.length c', .bool d']] w fun e w' => e = .returned (.bool (decide (z = z') && (decide (d = d') && decide (L = L')))) ∧ Below w.heap.size w w' := by
  obtain ⟨W1, hW1⟩ : ∃ W, w.alloc (.cells #[.int .i64 z, .slice a L.length c, .bool d] 27) = W := ⟨_, rfl⟩
  obtain ⟨W2, hW2⟩ : ∃ W, W1.alloc (.cells #[.int .i64 z', .slice a' L'.length c', .bool d'] 27) = W := ⟨_, rfl⟩
  have z1 : W1.heap.size = w.heap.size + 1 := by rw [← hW1]; simp
  have b1 : Below w.heap.size w W1 := by rw [← hW1]; exact (Below.refl _ w).alloc (Nat.le_refl _) _
  have b2 : Below w.heap.size w W2 := by rw [← hW2]; exact b1.alloc b1.size _
  have q1 : Blk W2 w.heap.size #[.int .i64 z, .slice a L.length c, .bool d] 27 := by
    have h0 : Blk W1 w.heap.size #[.int .i64 z, .slice a L.length c, .bool d] 27 := by rw [← hW1]; exact Blk.new _ _ _
    rw [← hW2]; exact h0.below ((Below.refl _ _).alloc (Nat.le_refl _) _)
  have q2 : Blk W2 (w.heap.size + 1) #[.int .i64 z', .slice a' L'.length c', .bool d'] 27 := by rw [← hW2, ← z1]; exact Blk.new _ _ _
  have HW : Hid ((w.alloc (.cells #[.int .i64 z, .slice a L.length c, .bool d] 27)).alloc (.cells #[.int .i64 z', .slice a' L'.length c', .bool d'] 27) = W2) := by show _ = _; rw [← hW2, ← hW1]
  have HS := hid_of (same_calls' L L' a a' c c' W2 hn hn' (h.below b2) (h'.below b2))
  have HB2 := hid_of b2
  have c0 : W2.cell? ⟨w.heap.size, 0, none⟩ = some (.int .i64 z) := q1.cell 0
  have c1 : W2.cell? ⟨w.heap.size, 1, none⟩ = some (.slice a L.length c) := q1.cell 1
  have c2 : W2.cell? ⟨w.heap.size, 2, none⟩ = some (.bool d) := q1.cell 2
  have e0 : W2.cell? ⟨w.heap.size + 1, 0, none⟩ = some (.int .i64 z') := q2.cell 0
  have e1 : W2.cell? ⟨w.heap.size + 1, 1, none⟩ = some (.slice a' L'.length c') := q2.cell 1
  have e2 : W2.cell? ⟨w.heap.size + 1, 2, none⟩ = some (.bool d') := q2.cell 2
  have hsh : Hid (decide (L = L') = decide (L = L')) := rfl
  generalize decide (L = L') = eq at *
  clear h h' q1 q2 b1 b2 hW1 hW2 z1 hn hn' hsh
  by_cases hz : z = z'
  · subst hz
    cases d <;> cases d'
    · go_enter Try.func20, Try.ntmps20
      go_upto_region 1 with fail
      rw [HW.out]
      clear HW
      go_wp2_with (go_at_call 17; refine HS.out.mono ?_; rintro e w3 ⟨rfl, hb3⟩)
      go_ret
      exact ⟨by simp, HB2.out.trans (hb3.mono HB2.out.size)⟩
    · go_enter Try.func20, Try.ntmps20
      go_upto_region 1 with fail
      rw [HW.out]
      clear HW
      go_wp2
      go_ret
      exact ⟨by simp, HB2.out⟩
    · go_enter Try.func20, Try.ntmps20
      go_upto_region 1 with fail
      rw [HW.out]
      clear HW
      go_wp2
      go_ret
      exact ⟨by simp, HB2.out⟩
    · go_enter Try.func20, Try.ntmps20
      go_upto_region 1 with fail
      rw [HW.out]
      clear HW
      go_wp2_with (go_at_call 17; refine HS.out.mono ?_; rintro e w3 ⟨rfl, hb3⟩)
      go_ret
      exact ⟨by simp, HB2.out.trans (hb3.mono HB2.out.size)⟩
  · have hzz : (z == z') = false := by rw [beq_eq_false_iff_ne]; exact hz
    rw [decide_eq_false hz]
    clear hz
    go_enter Try.func20, Try.ntmps20
    go_upto_region 1 with fail
    rw [HW.out]
    clear HW
    go_wp2
    go_ret
    exact ⟨by simp, HB2.out⟩
def nothB (z : Int) (d : Bool) (L : List Txt) : Bool := decide (z = 0) && (decide (d = false) && decide (L = []))
set_option maxRecDepth 100000 in
set_option maxHeartbeats 4000000 in
theorem lnothing_calls (z : Int) (d : Bool) (L : List Txt) (a : Option Addr) (c : Nat) (w : World) (hn : L.length ≤ 1000000000000) (h : TextsAt w a L) :
    Calls Try.prog 18 #[.agg #[.int .i64 z, .slice a L.length c, .bool d]] w fun e w' => e = .returned (.bool (nothB z d L)) ∧ Below w.heap.size w w' := by
  have b1 : Below w.heap.size w (w.alloc (.cells #[.int .i64 z, .slice a L.length c, .bool d] 27)) := (Below.refl _ w).alloc (Nat.le_refl _) _
  have HP : Hid (Calls Try.prog 20 #[.agg #[.int .i64 z, .slice a L.length c, .bool d], .agg #[.int .i64 0, .slice none 0 0, .bool false]] (w.alloc (.cells #[.int .i64 z, .slice a L.length c, .bool d] 27)) fun e w' => e = .returned (.bool (nothB z d L)) ∧ Below (w.alloc (.cells #[.int .i64 z, .slice a L.length c, .bool d] 27)).heap.size (w.alloc (.cells #[.int .i64 z, .slice a L.length c, .bool d] 27)) w') := lplan_calls z 0 d false L [] a none c 0 _ hn (by simp) (h.below b1) (fun j hj => absurd hj (by simp))
  have HB1 := hid_of b1
  clear b1 h hn
  generalize nothB z d L = nb at *
  go_enter Try.func18, Try.ntmps18
  go_wp2_with (go_at_call 20; refine HP.out.mono ?_; rintro e w3 ⟨rfl, hb3⟩)
  go_ret
  exact ⟨rfl, HB1.out.trans (hb3.mono HB1.out.size)⟩
end Go.Proofs.Ytdkcibafbdmajaa.E

/- What is proved here: appending texts to a row of one's own; own and Apply of layer 16, of the program and of the document. -/
namespace Go.Proofs.Ytdkcibafbdmajaa.E
open Go.RowKit Go.Shelf Go.WideMaps Go.Maps Go.Proofs.Ytdkcibafbdmajaa.N Go.Proofs.Ytdkcibafbdmajaa.C

theorem svs_one' (L : List Txt) : ∀ u ∈ svs L, u.oneCell' = true := fun x hx => by simp [svs] at hx; obtain ⟨c, _, rfl⟩ := hx; rfl
theorem svs_len (L : List Txt) : (svs L).length = L.length := by simp [svs]
/-- A row of texts, as appending reads it. -/
structure Txts (w : World) (a : Option Addr) (L : List Txt) (c : Nat) : Prop where
  txt : TextsAt w a L
  cap : L.length ≤ c
  nil : a = none → c = 0
theorem Txts.below {w w' : World} {a : Option Addr} {L : List Txt} {c : Nat} (h : Txts w a L c) (hb : Below w.heap.size w w') : Txts w' a L c := ⟨h.txt.below hb, h.cap, h.nil⟩
theorem txts_own {base : Nat} {w : World} {a : Option Addr} {n c : Nat} {L : List Txt} (h : OwnT base w (.slice a n c) L) : Txts w a L c := by
  obtain ⟨h1, h2, _, _⟩ := texts_own h
  refine ⟨h1, h2, fun e => ?_⟩
  rcases h.2 with ⟨e0, _⟩ | ⟨g, cap2, cur, e2, _⟩
  · injection e0
  · injection e2 with e2; rw [e] at e2; cases e2
/-- 'append(s, x...)' of texts to a row of one's own. -/
theorem append_texts {w : World} {ops : Array Oper} {rest : List Oper} {o : Oper} {a : Act} {Q : Exit → Act → World → Prop} (hgd : o.guard = none) (s x : Operand)
    (ho : o.op = .call { callee := .builtin .append, args := #[s, x], argTypes := #[22, 22] }) (base : Nat)
    (v : Value) (L0 : List Txt) (hs : a.eval s = v) (hown : OwnT base w v L0) (xa : Option Addr) (cap : Nat) (L : List Txt) (hx : a.eval x = .slice xa L.length cap) (hX : Txts w xa L cap)
    (h63 : L0.length + L.length ≤ 1000000000000) (hbase : base ≤ w.heap.size)
    (h : ∀ v' w', OwnT base w' v' (L0 ++ L) → w.grownBy w' v.ownBlock → wpList Try.prog ops Q rest (a.put o.dst v') w') : wpList Try.prog ops Q (o :: rest) a w := by
  obtain ⟨i0, hi, hz0, hz1, hz2⟩ := info_parts infoStr
  cases xa with
  | none =>
    obtain rfl := hX.nil rfl
    obtain rfl : L = [] := List.eq_nil_of_length_eq_zero (by have := hX.cap; omega)
    exact wpList_append_own_none hgd s x _ ho base _ i0 1 Try.underlying22 hi v _ _ hs hown hx (h v w (by rw [List.append_nil]; exact hown) (World.grownBy.refl _ _))
  | some ad =>
    have hc : ∀ j u, (svs L)[j]? = some u → w.cell? (ad.add j) = some u := fun j u hj => by
      have hj' : j < L.length := by rw [← svs_len]; exact (List.getElem?_eq_some_iff.1 hj).1
      obtain ⟨b, off, e, hcell⟩ := hX.txt j hj'
      obtain rfl : ad = ⟨b, off, none⟩ := Option.some.inj e
      rw [C.add_none, hcell, ← hj]
      simp [svs, hj', List.getD]
    exact wpList_append_own w hgd s x _ ho base _ i0 (.string ⟨#[]⟩) 1 16 Try.underlying22 hi hz0 hz1 hz2 rfl (by decide) v _ _ hs hown ad L.length cap (svs L) hx (by rw [svs_len]; omega) hc (svs_one' L) (by unfold maxLen; omega) (by omega) hbase (fun v' w' h1 h2 _ => h v' w' (by
      show w'.ownsRow base _ 1 v' (L0 ++ L).length (svs (L0 ++ L))
      rw [svs_append, List.length_append]
      exact h1) h2)
set_option maxRecDepth 100000 in
set_option maxHeartbeats 2000000 in
theorem lown_calls (L : List Txt) (a : Option Addr) (c : Nat) (w : World) (hT : Txts w a L c) (hL : L.length ≤ 10000000) :
    Calls Try.prog 10 #[.slice a L.length c] w fun e w' => ∃ v cv, e = .returned (.slice v L.length cv) ∧ OwnT w.heap.size w' (.slice v L.length cv) L ∧ Below w.heap.size w w' := by
  have b1 : Below w.heap.size w (w.alloc (.cells #[] 9)) := (Below.refl _ w).alloc (Nat.le_refl _) _
  have HT := hid_of (hT.below b1)
  have HB := hid_of b1
  have ho : OwnT w.heap.size (w.alloc (.cells #[] 9)) (.slice (some ⟨w.heap.size, 0, none⟩) 0 0) [] := World.ownsRow_lit w #[] 0 (Nat.le_refl _) (by unfold maxLen; omega) (by simp)
  have HO := hid_of ho
  clear hT b1 ho
  go_enter Try.func10, Try.ntmps10
  go_wp2_with (at_builtin; refine append_texts rfl _ _ rfl w.heap.size _ [] rfl HO.out a c L rfl HT.out (by simp; omega) (by simp) ?_; intro v' w4 hown' hgrow; rw [List.nil_append] at hown'; obtain ⟨a2, c2, rfl⟩ := owns_slice hown')
  go_ret
  exact ⟨a2, c2, rfl, hown', HB.out.grown hgrow HB.out.size (fun j hj => (HO.out.lt j hj).1)⟩
end Go.Proofs.Ytdkcibafbdmajaa.E
