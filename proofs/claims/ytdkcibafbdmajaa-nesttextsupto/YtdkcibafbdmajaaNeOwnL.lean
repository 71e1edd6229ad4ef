/- What is proved here: appending texts to a row of one's own; own and Apply of layer 16, of the program and of the document. -/
import Derived.Laws.AppendOwnNone
import Derived.Laws.OwnMore
import Derived.Test.YtdkcibafbdmajaaNePlan
namespace Go.Proofs.Ytdkcibafbdmajaa.E
open Go.RowKit Go.Shelf Go.WideMaps Go.Maps Go.Proofs.Ytdkcibafbdmajaa.N Go.Proofs.Ytdkcibafbdmajaa.C

theorem svs_one' (L : List Txt) : ∀ u ∈ svs L, u.oneCell' = true := fun x hx => by simp [svs] at hx; obtain ⟨c, _, rfl⟩ := hx; rfl
theorem svs_len (L : List Txt) : (svs L).length = L.length := by simp [svs]
/-- A row of texts, as appending reads it. -/
structure Txts (w : World) (a : Option Addr) (L : List Txt) (c : Nat) : Prop where
  txt : TextsAt w a L
  cap : L.length ≤ c
  nil : a = none → c = 0
theorem Txts.below {w w' : World} {a : Option Addr} {L : List Txt} {c : Nat} (h : Txts w a L c) (hb : Below w.heap.size w w') : Txts w' a L c := ⟨h.txt.below hb, h.cap, h.nil⟩
theorem txts_own {base : Nat} {w : World} {a : Option Addr} {n c : Nat} {L : List Txt} (h : OwnT base w (.slice a n c) L) : Txts w a L c := by
  obtain ⟨h1, h2, _, _⟩ := texts_own h
  refine ⟨h1, h2, fun e => ?_⟩
  rcases h.2 with ⟨e0, _⟩ | ⟨g, cap2, cur, e2, _⟩
  · injection e0
  · injection e2 with e2; rw [e] at e2; cases e2
/-- 'append(s, x...)' of texts to a row of one's own. -/
theorem append_texts {w : World} {ops : Array Oper} {rest : List Oper} {o : Oper} {a : Act} {Q : Exit → Act → World → Prop} (hgd : o.guard = none) (s x : Operand)
    (ho : o.op = .call { callee := .builtin .append, args := #[s, x], argTypes := #[22, 22] }) (base : Nat)
    (v : Value) (L0 : List Txt) (hs : a.eval s = v) (hown : OwnT base w v L0) (xa : Option Addr) (cap : Nat) (L : List Txt) (hx : a.eval x = .slice xa L.length cap) (hX : Txts w xa L cap)
    (h63 : L0.length + L.length ≤ 1000000000000) (hbase : base ≤ w.heap.size)
    (h : ∀ v' w', OwnT base w' v' (L0 ++ L) → w.grownBy w' v.ownBlock → wpList Try.prog ops Q rest (a.put o.dst v') w') : wpList Try.prog ops Q (o :: rest) a w := by
  obtain ⟨i0, hi, hz0, hz1, hz2⟩ := info_parts infoStr
  cases xa with
  | none =>
    obtain rfl := hX.nil rfl
    obtain rfl : L = [] := List.eq_nil_of_length_eq_zero (by have := hX.cap; omega)
    exact wpList_append_own_none hgd s x _ ho base _ i0 1 Try.underlying22 hi v _ _ hs hown hx (h v w (by rw [List.append_nil]; exact hown) (World.grownBy.refl _ _))
  | some ad =>
    have hc : ∀ j u, (svs L)[j]? = some u → w.cell? (ad.add j) = some u := fun j u hj => by
      have hj' : j < L.length := by rw [← svs_len]; exact (List.getElem?_eq_some_iff.1 hj).1
      obtain ⟨b, off, e, hcell⟩ := hX.txt j hj'
      obtain rfl : ad = ⟨b, off, none⟩ := Option.some.inj e
      rw [C.add_none, hcell, ← hj]
      simp [svs, hj', List.getD]
    exact wpList_append_own w hgd s x _ ho base _ i0 (.string ⟨#[]⟩) 1 16 Try.underlying22 hi hz0 hz1 hz2 rfl (by decide) v _ _ hs hown ad L.length cap (svs L) hx (by rw [svs_len]; omega) hc (svs_one' L) (by unfold maxLen; omega) (by omega) hbase (fun v' w' h1 h2 _ => h v' w' (by
      show w'.ownsRow base _ 1 v' (L0 ++ L).length (svs (L0 ++ L))
      rw [svs_append, List.length_append]
      exact h1) h2)
set_option maxRecDepth 100000 in
set_option maxHeartbeats 2000000 in
theorem lown_calls (L : List Txt) (a : Option Addr) (c : Nat) (w : World) (hT : Txts w a L c) (hL : L.length ≤ 10000000) :
    Calls Try.prog 10 #[.slice a L.length c] w fun e w' => ∃ v cv, e = .returned (.slice v L.length cv) ∧ OwnT w.heap.size w' (.slice v L.length cv) L ∧ Below w.heap.size w w' := by
  have b1 : Below w.heap.size w (w.alloc (.cells #[] 9)) := (Below.refl _ w).alloc (Nat.le_refl _) _
  have HT := hid_of (hT.below b1)
  have HB := hid_of b1
  have ho : OwnT w.heap.size (w.alloc (.cells #[] 9)) (.slice (some ⟨w.heap.size, 0, none⟩) 0 0) [] := World.ownsRow_lit w #[] 0 (Nat.le_refl _) (by unfold maxLen; omega) (by simp)
  have HO := hid_of ho
  clear hT b1 ho
  go_enter Try.func10, Try.ntmps10
  go_wp2_with (at_builtin; refine append_texts rfl _ _ rfl w.heap.size _ [] rfl HO.out a c L rfl HT.out (by simp; omega) (by simp) ?_; intro v' w4 hown' hgrow; rw [List.nil_append] at hown'; obtain ⟨a2, c2, rfl⟩ := owns_slice hown')
  go_ret
  exact ⟨a2, c2, rfl, hown', HB.out.grown hgrow HB.out.size (fun j hj => (HO.out.lt j hj).1)⟩
end Go.Proofs.Ytdkcibafbdmajaa.E
