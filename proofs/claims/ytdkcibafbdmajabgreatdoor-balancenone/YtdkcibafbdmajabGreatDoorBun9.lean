/- What is proved here: laws and contracts of BaFind, NeLaw, NePlan, NeOwnL, NeAwake, one behind the other (each says its own). -/
import Derived.Test.YtdkcibafbdmajabGreatDoorBaM
import Derived.Test.YtdkcibafbdmajabGreatDoorNeCalls
import Derived.WalkSmall
import Derived.Deep.Draws
import Derived.Laws.AppendOwnNone
import Derived.Laws.OwnMore
/- What is proved here: find, stand and open of a balancer. -/
namespace Go.Proofs.YtdkcibafbdmajabGreatDoor.B
open Go.RowKit Go.Shelf Go.WideMaps Go.Maps Go.Proofs.YtdkcibafbdmajabGreatDoor.N Go.Proofs.YtdkcibafbdmajabGreatDoor.C Go.Proofs.YtdkcibafbdmajabGreatDoor.E

set_option maxRecDepth 100000 in
set_option maxHeartbeats 4000000 in
/-- **find.** -/
theorem find_calls (n B : Nat) (s : BSt) (f : Fi) (hl : s.F.length ≤ 1000000000) (w : World) (h : BalAt n B s w) (hn : n ≤ w.heap.size) :
    Calls Tryz.prog 70 #[.pointer (some ⟨B, 0, none⟩), .agg #[.int .i64 f.p0, .int .i64 f.p1, .int .i64 f.p2], .int .i64 f.y, .string ⟨f.nm.toArray⟩] w fun r w' => (∃ v, r = .returned v) ∧ BalAt n B { s with F := s.F ++ [f] } w' ∧ Fr B w w' := by
  obtain ⟨i0, hi, hz0, hz1, hz2⟩ := info_parts info_fi
  obtain ⟨p0, p1, p2, y, nm⟩ := f
  obtain ⟨W1, hW1⟩ : ∃ W, w.alloc (.cells #[.int .i64 p0, .int .i64 p1, .int .i64 p2] 35) = W := ⟨_, rfl⟩
  have b1 : Below w.heap.size w W1 := by rw [← hW1]; exact (Below.refl _ w).alloc (Nat.le_refl _) _
  have HNW : Hid (n ≤ W1.heap.size) := Nat.le_trans hn b1.size
  have q1 : Blk W1 w.heap.size #[.int .i64 p0, .int .i64 p1, .int .i64 p2] 35 := by rw [← hW1]; exact Blk.new _ _ _
  have h1 := h.below b1
  have hB := h.hB
  have hltw := h.lt
  obtain ⟨v0, v1, v2, hb, o0, o1, o2⟩ := h1.blk
  have hlt := h1.lt
  have hne1 := row_not o1 hb (by decide)
  have c1 : W1.cell? ⟨B, 1, none⟩ = some v1 := hb.cell 1
  have f1 : W1.frozen? ⟨B, 1, none⟩ = false := hb.frozen 1
  have e0 : W1.cell? ⟨w.heap.size, 0, none⟩ = some (.int .i64 p0) := q1.cell 0
  have e1 : W1.cell? ⟨w.heap.size, 1, none⟩ = some (.int .i64 p1) := q1.cell 1
  have e2 : W1.cell? ⟨w.heap.size, 2, none⟩ = some (.int .i64 p2) := q1.cell 2
  have HW : Hid (w.alloc (.cells #[.int .i64 p0, .int .i64 p1, .int .i64 p2] 35) = W1) := hW1
  have HB := hid_of hb
  have HO0 := hid_of o0
  have HO1 := hid_of o1
  have HO2 := hid_of o2
  have HB1 := hid_of b1
  have HE := hid_of (fi_one ⟨p0, p1, p2, y, nm⟩)
  have HN1 := hid_of hne1
  clear h h1 hW1 b1 q1 hb o0 o1 o2 hne1
  go_enter Tryz.func70, Tryz.ntmps70
  go_upto_region 1 with fail
  rw [HW.out]
  clear HW
  go_region_law (refine step_append_lies _ rfl _ _ 39 rfl n 74 i0 (.agg #[.int .i64 0, .int .i64 0, .int .i64 0, .int .i64 0, .string ⟨#[]⟩]) 5 48 Tryz.underlying39 hi hz0 hz1 hz2 rfl (by decide) v1 s.F.length (fiv s.F) (by simp [Act.eval]) (HO1.out.drew.alloc _) ⟨W1.heap.size, 0, none⟩ 1 1 (Fi.cells ⟨p0, p1, p2, y, nm⟩) (by simp [Act.eval]) rfl (World.news_of_block (cs := #[.int .i64 p0, .int .i64 p1, .int .i64 p2, .int .i64 y, .string ⟨nm.toArray⟩]) (fr := (0, 0)) (World.alloc_heap_new _ _)) HE.out (by decide) (by unfold maxLen; omega) (by omega) (Nat.le_trans HNW.out (by simp)) _ rfl ?_; intro g cap w4 hown hgrow hat hlt4; have hb4 := blk_grown (blk_da HB.out _) hgrow HN1.out; have f4 := hb4.frozen 1; have c4 := hb4.cell 1)
  all_goals
    have ho1 : OwnFi n w4 (.slice (some ⟨g, 0, none⟩) (s.F.length + 1) cap) (s.F ++ [⟨p0, p1, p2, y, nm⟩]) := by
      have h := hown
      rw [← fiv_snoc] at h
      simpa [OwnFi] using h
    have hg0 : OwnEv n w4 v0 s.E := own_other (HO1.out.drew.alloc _) (HO0.out.drew.alloc _) (by decide) hgrow
    have hg2 : OwnT n w4 v2 s.S := own_other (HO1.out.drew.alloc _) (HO2.out.drew.alloc _) (by decide) hgrow
    have hfr := (Fr.of_below (B := B) hltw HB1.out).trans ((Fr.of_below (B := B) hlt ((Below.refl _ W1).drew.alloc (Nat.le_refl _) _)).trans (fr_row (i := 1) (len := s.F.length + 1) (cap := cap) (blk_da HB.out _) rfl (by decide) hgrow hb4 (hat.imp id (fun e => by rw [e]; simp))))
    go_end0
    exact ⟨⟨_, rfl⟩, ⟨⟨v0, _, v2, hb4.set 1 _, row_set hg0 hb4 (by decide), row_set ho1 hb4 (by decide), row_set hg2 hb4 (by decide)⟩, hB⟩, hfr⟩
set_option maxRecDepth 100000 in
set_option maxHeartbeats 4000000 in
/-- **stand.** -/
theorem stand_calls (n B : Nat) (s : BSt) (e : Ev) (he : e.av.oneCell' = true) (hl : s.E.length ≤ 1000000000) (w : World) (h : BalAt n B s w) (hn : n ≤ w.heap.size) :
    Calls Tryz.prog 75 #[.pointer (some ⟨B, 0, none⟩), e.val] w fun r w' => (∃ v, r = .returned v) ∧ BalAt n B { s with E := s.E ++ [e], fr := false } w' ∧ Fr B w w' := by
  have HT := hid_of (fun W (hW : BalAt n B s W) (hnW : n ≤ W.heap.size) => tell_calls n B s e he hl W hW hnW)
  obtain ⟨k, nm, tx, av⟩ := e
  have HT : Hid (∀ W, BalAt n B s W → n ≤ W.heap.size → Calls Tryz.prog 97 #[.pointer (some ⟨B, 0, none⟩), .agg #[.int .i64 k, .string ⟨nm.toArray⟩, .string ⟨tx.toArray⟩, av]] W fun r w' => (∃ v, r = .returned v) ∧ BalAt n B { s with E := s.E ++ [⟨k, nm, tx, av⟩] } w' ∧ Fr B W w') := HT.out
  obtain ⟨W1, hW1⟩ : ∃ W, w.alloc (.cells #[.int .i64 k, .string ⟨nm.toArray⟩, .string ⟨tx.toArray⟩, av] 51) = W := ⟨_, rfl⟩
  have b1 : Below w.heap.size w W1 := by rw [← hW1]; exact (Below.refl _ w).alloc (Nat.le_refl _) _
  have HNW : Hid (n ≤ W1.heap.size) := Nat.le_trans hn b1.size
  have q1 : Blk W1 w.heap.size #[.int .i64 k, .string ⟨nm.toArray⟩, .string ⟨tx.toArray⟩, av] 51 := by rw [← hW1]; exact Blk.new _ _ _
  have HH1 := hid_of (h.below b1)
  have hB := h.hB
  have HLW := hid_of h.lt
  have e0 : W1.cell? ⟨w.heap.size, 0, none⟩ = some (.int .i64 k) := q1.cell 0
  have e1 : W1.cell? ⟨w.heap.size, 1, none⟩ = some (.string ⟨nm.toArray⟩) := q1.cell 1
  have e2 : W1.cell? ⟨w.heap.size, 2, none⟩ = some (.string ⟨tx.toArray⟩) := q1.cell 2
  have e3 : W1.cell? ⟨w.heap.size, 3, none⟩ = some av := q1.cell 3
  have HW : Hid (w.alloc (.cells #[.int .i64 k, .string ⟨nm.toArray⟩, .string ⟨tx.toArray⟩, av] 51) = W1) := hW1
  have HB1 := hid_of b1
  clear h hW1 b1 q1 he
  show Calls Tryz.prog 75 #[.pointer (some ⟨B, 0, none⟩), .agg #[.int .i64 k, .string ⟨nm.toArray⟩, .string ⟨tx.toArray⟩, av]] w _
  go_enter Tryz.func75, Tryz.ntmps75
  go_upto_region 1 with fail
  rw [HW.out]
  clear HW
  go_cut [] from 4 (fun wx => Hid (BalAt n B { s with E := s.E ++ [⟨k, nm, tx, av⟩] } wx) ∧ Hid (Fr B w wx) ∧ Hid (n ≤ wx.heap.size))
  case first =>
    go_region_with (go_at_call 97; refine (HT.out _ (HH1.out.below (by first | exact Below.refl _ _ | exact (Below.refl _ _).drew)) (by first | exact HNW.out | (simp; exact HNW.out))).mono ?_; rintro e w4 ⟨⟨v4, rfl⟩, hb4, hk4⟩; have hk5 : Fr B w w4 := (Fr.of_below HLW.out HB1.out).trans (by first | exact hk4 | exact (Fr.of_below HH1.out.lt (Below.refl _ W1).drew).trans hk4))
    all_goals go_wp2_with fail
    all_goals go_meet
    all_goals exact ⟨hb4, hk5, Nat.le_trans hn hk5.size⟩
  case rest =>
    obtain ⟨HB4, HK4, HN4⟩ := hcut
    obtain ⟨v0, v1, v2, hb, o0, o1, o2⟩ := HB4.out.blk
    have f5 := hb.frozen 5
    have c5 : wc.cell? ⟨B, 5, none⟩ = some (.bool s.fr) := hb.cell 5
    have HB := hid_of hb
    clear hb
    go_wp2_with fail
    go_end0
    exact ⟨⟨_, rfl⟩, ⟨⟨v0, v1, v2, HB.out.set 5 _, row_set o0 HB.out (by decide), row_set o1 HB.out (by decide), row_set o2 HB.out (by decide)⟩, hB⟩, HK4.out.trans (fr_put HB.out (i := 5) rfl (.inl (by decide)))⟩
end Go.Proofs.YtdkcibafbdmajabGreatDoor.B

/- What is proved here: same, num, plan, nothing, long, awake of the statements of layer 16. -/
namespace Go.Proofs.YtdkcibafbdmajabGreatDoor.E
open Go.RowKit Go.Shelf Go.WideMaps Go.Maps Go.Proofs.YtdkcibafbdmajabGreatDoor.N Go.Proofs.YtdkcibafbdmajabGreatDoor.C

theorem texts_own {base : Nat} {w : World} {a : Option Addr} {n c : Nat} {L : List Txt} (h : OwnT base w (.slice a n c) L) : TextsAt w a L ∧ L.length ≤ c ∧ n = L.length ∧ (∀ b off, a = some ⟨b, off, none⟩ → b < w.heap.size) := by
  rcases HasT.of h with ⟨rfl, a', cap, e⟩ | ⟨b, cap, e, hcap, hb, hc⟩
  · injection e with e1 e2 e3
    subst e1 e2 e3
    refine ⟨fun j hj => absurd hj (by simp), by simp, rfl, fun b off e => ?_⟩
    rcases h.2 with ⟨e0, _⟩ | ⟨g, cap2, cur, e2, _, hg, _⟩
    · injection e0 with e0; rw [e0] at e; cases e
    · injection e2 with e2; rw [e2] at e; cases e; exact lt_of_block hg
  · injection e with e1 e2 e3
    subst e1 e2 e3
    refine ⟨fun j hj => ⟨b, 0, rfl, ?_⟩, hcap, rfl, fun b' off e => by cases e; exact hb⟩
    rw [Nat.zero_add, hc j hj]
    simp [hj]
end Go.Proofs.YtdkcibafbdmajabGreatDoor.E

/- What is proved here: plan and nothing of the statements of layer 16. -/
namespace Go.Proofs.YtdkcibafbdmajabGreatDoor.E
open Go.RowKit Go.Shelf Go.WideMaps Go.Maps Go.Proofs.YtdkcibafbdmajabGreatDoor.N Go.Proofs.YtdkcibafbdmajabGreatDoor.C

def nothB (z : Int) (d : Bool) (L : List Txt) : Bool := decide (z = 0) && (decide (d = false) && decide (L = []))
end Go.Proofs.YtdkcibafbdmajabGreatDoor.E

/- What is proved here: appending texts to a row of one's own; own and Apply of layer 16, of the program and of the document. -/
namespace Go.Proofs.YtdkcibafbdmajabGreatDoor.E
open Go.RowKit Go.Shelf Go.WideMaps Go.Maps Go.Proofs.YtdkcibafbdmajabGreatDoor.N Go.Proofs.YtdkcibafbdmajabGreatDoor.C

theorem svs_one' (L : List Txt) : ∀ u ∈ svs L, u.oneCell' = true := fun x hx => by simp [svs] at hx; obtain ⟨c, _, rfl⟩ := hx; rfl
theorem svs_len (L : List Txt) : (svs L).length = L.length := by simp [svs]
/-- A row of texts, as appending reads it. -/
structure Txts (w : World) (a : Option Addr) (L : List Txt) (c : Nat) : Prop where
  txt : TextsAt w a L
  cap : L.length ≤ c
  nil : a = none → c = 0
theorem Txts.below {w w' : World} {a : Option Addr} {L : List Txt} {c : Nat} (h : Txts w a L c) (hb : Below w.heap.size w w') : Txts w' a L c := ⟨h.txt.below hb, h.cap, h.nil⟩
theorem txts_own {base : Nat} {w : World} {a : Option Addr} {n c : Nat} {L : List Txt} (h : OwnT base w (.slice a n c) L) : Txts w a L c := by
  obtain ⟨h1, h2, _, _⟩ := texts_own h
  refine ⟨h1, h2, fun e => ?_⟩
  rcases h.2 with ⟨e0, _⟩ | ⟨g, cap2, cur, e2, _⟩
  · injection e0
  · injection e2 with e2; rw [e] at e2; cases e2
/-- 'append(s, x...)' of texts to a row of one's own. -/
theorem append_texts {w : World} {ops : Array Oper} {rest : List Oper} {o : Oper} {a : Act} {Q : Exit → Act → World → Prop} (hgd : o.guard = none) (s x : Operand)
    (ho : o.op = .call { callee := .builtin .append, args := #[s, x], argTypes := #[29, 29] }) (base : Nat)
    (v : Value) (L0 : List Txt) (hs : a.eval s = v) (hown : OwnT base w v L0) (xa : Option Addr) (cap : Nat) (L : List Txt) (hx : a.eval x = .slice xa L.length cap) (hX : Txts w xa L cap)
    (h63 : L0.length + L.length ≤ 1000000000000) (hbase : base ≤ w.heap.size)
    (h : ∀ v' w', OwnT base w' v' (L0 ++ L) → w.grownBy w' v.ownBlock → wpList Tryz.prog ops Q rest (a.put o.dst v') w') : wpList Tryz.prog ops Q (o :: rest) a w := by
  obtain ⟨i0, hi, hz0, hz1, hz2⟩ := info_parts infoStr
  cases xa with
  | none =>
    obtain rfl := hX.nil rfl
    obtain rfl : L = [] := List.eq_nil_of_length_eq_zero (by have := hX.cap; omega)
    exact wpList_append_own_none hgd s x _ ho base _ i0 1 Tryz.underlying29 hi v _ _ hs hown hx (h v w (by rw [List.append_nil]; exact hown) (World.grownBy.refl _ _))
  | some ad =>
    have hc : ∀ j u, (svs L)[j]? = some u → w.cell? (ad.add j) = some u := fun j u hj => by
      have hj' : j < L.length := by rw [← svs_len]; exact (List.getElem?_eq_some_iff.1 hj).1
      obtain ⟨b, off, e, hcell⟩ := hX.txt j hj'
      obtain rfl : ad = ⟨b, off, none⟩ := Option.some.inj e
      rw [C.add_none, hcell, ← hj]
      simp [svs, hj', List.getD]
    exact wpList_append_own w hgd s x _ ho base _ i0 (.string ⟨#[]⟩) 1 16 Tryz.underlying29 hi hz0 hz1 hz2 rfl (by decide) v _ _ hs hown ad L.length cap (svs L) hx (by rw [svs_len]; omega) hc (svs_one' L) (by unfold maxLen; omega) (by omega) hbase (fun v' w' h1 h2 _ => h v' w' (by
      show w'.ownsRow base _ 1 v' (L0 ++ L).length (svs (L0 ++ L))
      rw [svs_append, List.length_append]
      exact h1) h2)
end Go.Proofs.YtdkcibafbdmajabGreatDoor.E

/- What is proved here: the document's examples ('awake') hold. -/
namespace Go.Proofs.YtdkcibafbdmajabGreatDoor.E
open Go.RowKit Go.Shelf Go.WideMaps Go.Maps Go.Proofs.YtdkcibafbdmajabGreatDoor.N Go.Proofs.YtdkcibafbdmajabGreatDoor.C

theorem ex1 : openCode [[112], [98]] [100, 105, 118] = 0 ∧ openZ [[112], [98]] [100, 105, 118] = 2 ∧ openI [[112], [98]] [100, 105, 118] = [] := by decide +kernel
theorem ex2 : openCode [[116, 97, 98, 108, 101]] [98] = 0 ∧ openZ [[116, 97, 98, 108, 101]] [98] = 0 ∧ openI [[116, 97, 98, 108, 101]] [98] = [[116, 98, 111, 100, 121], [116, 114], [116, 100]] := by decide +kernel
/-- A row that a literal makes. -/
theorem lit_texts (w : World) (L : List Txt) (cs : Array Value) (hc : cs = (L.map fun x => Value.string ⟨x.toArray⟩).toArray) : TextsAt (w.alloc (.cells cs 9)) (some ⟨w.heap.size, 0, none⟩) L := fun j hj => ⟨w.heap.size, 0, rfl, by
  rw [cell_new, hc, Nat.zero_add]
  simp [hj]⟩
theorem few_of (L : List Txt) (h : L.length ≤ 100) (hb : ∀ x ∈ L, x.length ≤ 100) : Few L := ⟨by omega, fun j => by
  rw [List.getD_eq_getElem?_getD]
  by_cases hj : j < L.length
  · rw [List.getElem?_eq_getElem hj]
    have := hb _ (List.getElem_mem hj)
    simp
    omega
  · rw [List.getElem?_eq_none (by omega)]
    simp⟩
theorem lit_stack (w : World) (L : List Txt) (cs : Array Value) (hc : cs = (L.map fun x => Value.string ⟨x.toArray⟩).toArray) (h : L.length ≤ 100) (hb : ∀ x ∈ L, x.length ≤ 100) : StackAt (w.alloc (.cells cs 9)) (some ⟨w.heap.size, 0, none⟩) L L.length :=
  ⟨lit_texts w L cs hc, Nat.le_refl _, few_of L h hb, by omega⟩
end Go.Proofs.YtdkcibafbdmajabGreatDoor.E
