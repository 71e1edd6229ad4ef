/- What is proved here: laws and contracts of BaOpen, BaClose, one behind the other (each says its own). -/
import Derived.Test.YtdkcibafbdmajabGreatDoorBun9
/- What is proved here: open and close of a balancer's stack. -/
namespace Go.Proofs.YtdkcibafbdmajabGreatDoor.B
open Go.RowKit Go.Shelf Go.WideMaps Go.Maps Go.Proofs.YtdkcibafbdmajabGreatDoor.N Go.Proofs.YtdkcibafbdmajabGreatDoor.C Go.Proofs.YtdkcibafbdmajabGreatDoor.E

/-- 'append(s, x)' of one text to a row of one's own, and where the new one lies. -/
theorem append_one {w : World} {ops : Array Oper} {rest : List Oper} {o : Oper} {a : Act} {Q : Exit → Act → World → Prop} (hgd : o.guard = none) (s x : Operand)
    (ho : o.op = .call { callee := .builtin .append, args := #[s, x], argTypes := #[29, 29] }) (base : Nat)
    (v : Value) (L0 : List Txt) (hs : a.eval s = v) (hown : OwnT base w v L0) (xb : Nat) (t : Txt) (hx : a.eval x = .slice (some ⟨xb, 0, none⟩) 1 1) (hX : Blk w xb #[.string ⟨t.toArray⟩] 9)
    (h63 : L0.length ≤ 100000000000) (hbase : base ≤ w.heap.size)
    (h : ∀ g cap w', OwnT base w' (.slice (some ⟨g, 0, none⟩) (L0.length + 1) cap) (L0 ++ [t]) → w.grownBy w' v.ownBlock → (v.ownBlock = some g ∨ g = w.heap.size) → wpList Tryz.prog ops Q rest (a.put o.dst (.slice (some ⟨g, 0, none⟩) (L0.length + 1) cap)) w') : wpList Tryz.prog ops Q (o :: rest) a w := by
  obtain ⟨i0, hi, hz0, hz1, hz2⟩ := info_parts infoStr
  exact wpList_append_lies w hgd s x 29 ho base 9 i0 (.string ⟨#[]⟩) 1 16 Tryz.underlying29 hi hz0 hz1 hz2 rfl (by decide) v _ _ hs hown ⟨xb, 0, none⟩ 1 1 (svs [t]) hx (by simp [svs]) (World.news_of_block (cs := #[.string ⟨t.toArray⟩]) hX) (svs_one' [t]) (by decide) (by unfold maxLen; omega) (by omega) hbase _ rfl (fun g cap w' h1 h2 h3 _ => h g cap w' (by
      show w'.ownsRow base _ 1 _ (L0 ++ [t]).length (svs (L0 ++ [t]))
      rw [svs_append, List.length_append]
      exact h1) h2 h3)
def freshB (x : Txt) : Bool := x == [112, 114, 101] || x == [116, 101, 120, 116, 97, 114, 101, 97]
theorem own_take {base : Nat} {w : World} {a : Option Addr} {n c : Nat} {S : List Txt} (h : OwnT base w (.slice a n c) S) (k : Nat) (hk : k ≤ S.length) : OwnT base w (.slice a k c) (S.take k) := by
  have hkl : (S.take k).length = k := by rw [List.length_take]; omega
  have hsv : svs (S.take k) = (svs S).take k := by simp [svs, List.map_take]
  refine ⟨?_, ?_⟩
  · rw [hsv, hkl, List.length_take]
    have : (svs S).length = S.length := by simp [svs]
    omega
  · rcases h.2 with ⟨e1, e2⟩ | ⟨g, cap, cur, e1, hg, hr, h1, h2, h3, h4⟩
    · left
      injection e1 with i1 i2 i3
      subst i1 i3
      have : k = 0 := by omega
      subst this
      exact ⟨rfl, by rw [hkl]⟩
    · right
      injection e1 with i1 i2 i3
      subst i1 i3
      refine ⟨g, c, cur, by rw [hkl], hg, hr, by rw [hkl]; omega, h2, h3, ?_⟩
      rw [hkl, hsv, ← h4, List.take_take]
      congr 1
      omega
set_option maxRecDepth 100000 in
set_option maxHeartbeats 4000000 in
/-- **open.** -/
theorem open_calls (n B : Nat) (s : BSt) (x : Txt) (aa : Option Addr) (an ac : Nat) (hl : s.E.length ≤ 1000000000) (hl2 : s.S.length ≤ 1000000000) (w : World) (h : BalAt n B s w) (hn : n ≤ w.heap.size) :
    Calls Tryz.prog 77 #[.pointer (some ⟨B, 0, none⟩), .string ⟨x.toArray⟩, .slice aa an ac] w fun r w' => (∃ v, r = .returned v) ∧ BalAt n B { s with E := s.E ++ [⟨1, x, [], .slice aa an ac⟩], S := s.S ++ [x], fr := freshB x } w' ∧ Fr B w w' := by
  have HT : Hid (Calls Tryz.prog 75 #[.pointer (some ⟨B, 0, none⟩), .agg #[.int .i64 1, .string ⟨x.toArray⟩, .string ⟨#[]⟩, .slice aa an ac]] w fun r w' => (∃ v, r = .returned v) ∧ BalAt n B { s with E := s.E ++ [⟨1, x, [], .slice aa an ac⟩], fr := false } w' ∧ Fr B w w') := stand_calls n B s ⟨1, x, [], .slice aa an ac⟩ rfl hl w h hn
  have hB := h.hB
  have HFR : Hid (freshB x = (x == [112, 114, 101] || x == [116, 101, 120, 116, 97, 114, 101, 97])) := rfl
  clear h
  go_enter Tryz.func77, Tryz.ntmps77
  go_wp2_with fail
  (go_at_call 75; refine HT.out.mono ?_; rintro e w1 ⟨⟨vr, rfl⟩, h1, k1⟩)
  have HN1 : Hid (n ≤ w1.heap.size) := Nat.le_trans hn k1.size
  obtain ⟨v0, v1, v2, hb, o0, o1, o2⟩ := h1.blk
  obtain ⟨va, vc, rfl⟩ := owns_slice o2
  have hlt := h1.lt
  have c2 : w1.cell? ⟨B, 2, none⟩ = some (.slice va s.S.length vc) := hb.cell 2
  have f2 := hb.frozen 2
  have HB := hid_of hb
  have HO0 := hid_of o0
  have HO1 := hid_of o1
  have HO2 := hid_of o2
  have HK1 := hid_of k1
  have HLA : Hid (OwnT n (w1.alloc (.cells #[.string ⟨x.toArray⟩] 9)) (.slice va s.S.length vc) s.S) := World.ownsRow.alloc o2 _
  have HLX : Hid (Blk (w1.alloc (.cells #[.string ⟨x.toArray⟩] 9)) w1.heap.size #[.string ⟨x.toArray⟩] 9) := Blk.new _ _ _
  have HLB : Hid (Blk (w1.alloc (.cells #[.string ⟨x.toArray⟩] 9)) B _ 69) := hb.below ((Below.refl _ w1).alloc (Nat.le_refl _) _)
  have HNE := hid_of (row_not o2 hb (by decide))
  clear h1 hb o0 o1 o2 k1 HT
  go_upto_region 2 with (at_builtin; refine append_one rfl _ _ rfl n _ s.S rfl HLA.out w1.heap.size x rfl HLX.out (by omega) (Nat.le_trans HN1.out (by simp)) ?_; intro a2 c2' w2 hown hgrow hat; have hb2 := blk_grown HLB.out hgrow HNE.out; have c2'' := hb2.cell 2; have f2'' := hb2.frozen 2; have hlt2 := lt_of_block hb2)
  have g0 : OwnEv n w2 v0 (s.E ++ [⟨1, x, [], .slice aa an ac⟩]) := own_other (World.ownsRow.alloc HO2.out _) (World.ownsRow.alloc HO0.out _) (by decide) hgrow
  have g1 : OwnFi n w2 v1 s.F := own_other (World.ownsRow.alloc HO2.out _) (World.ownsRow.alloc HO1.out _) (by decide) hgrow
  obtain ⟨W2, hW2⟩ : ∃ W, w2.setCell ⟨B, 2, none⟩ (.slice (some ⟨a2, 0, none⟩) (s.S.length + 1) c2') = W := ⟨_, rfl⟩
  have h2 : BalAt n B { s with E := s.E ++ [⟨1, x, [], .slice aa an ac⟩], S := s.S ++ [x], fr := false } W2 := by
    rw [← hW2]
    have ho : OwnT n w2 (.slice (some ⟨a2, 0, none⟩) (s.S.length + 1) c2') (s.S ++ [x]) := hown
    exact ⟨⟨v0, v1, _, hb2.set 2 _, row_set g0 hb2 (by decide), row_set g1 hb2 (by decide), row_set ho hb2 (by decide)⟩, hB⟩
  have HK2 : Hid (Fr B w W2) := by
    rw [← hW2]
    exact HK1.out.trans ((Fr.of_below hlt ((Below.refl _ w1).alloc (Nat.le_refl _) _)).trans (fr_row (i := 2) HLB.out rfl (by decide) hgrow hb2 (hat.imp id (fun e => by rw [e]; exact Nat.le_refl _))))
  have HH2 := hid_of h2
  try rw [hW2]
  obtain ⟨u0, u1, u2, hb3, p0, p1, p2⟩ := h2.blk
  have f5 := hb3.frozen 5
  have c5 : W2.cell? ⟨B, 5, none⟩ = some (.bool false) := hb3.cell 5
  have HB3 := hid_of hb3
  clear hb3 h2 hW2 g0 g1 hown hgrow hb2 c2'' f2'' hlt2 HB HO0 HO1 HO2 HNE c2 f2 hlt
  by_cases e1 : x = [112, 114, 101]
  · subst e1
    have HF : Hid (freshB [112, 114, 101] = true) := by show _ = _; decide
    go_wp2_with fail
    go_end0
    exact ⟨⟨_, rfl⟩, ⟨⟨u0, u1, u2, by simp only [HF.out]; exact HB3.out.set 5 _, row_set p0 HB3.out (by decide), row_set p1 HB3.out (by decide), row_set p2 HB3.out (by decide)⟩, hB⟩, HK2.out.trans (fr_put HB3.out (i := 5) rfl (.inl (by decide)))⟩
  · have g1 : (x == [112, 114, 101]) = false := by rw [beq_eq_false_iff_ne]; exact e1
    by_cases e2 : x = [116, 101, 120, 116, 97, 114, 101, 97]
    · subst e2
      have HF : Hid (freshB [116, 101, 120, 116, 97, 114, 101, 97] = true) := by show _ = _; decide
      go_wp2_with fail
      go_end0
      exact ⟨⟨_, rfl⟩, ⟨⟨u0, u1, u2, by simp only [HF.out]; exact HB3.out.set 5 _, row_set p0 HB3.out (by decide), row_set p1 HB3.out (by decide), row_set p2 HB3.out (by decide)⟩, hB⟩, HK2.out.trans (fr_put HB3.out (i := 5) rfl (.inl (by decide)))⟩
    · have g2 : (x == [116, 101, 120, 116, 97, 114, 101, 97]) = false := by rw [beq_eq_false_iff_ne]; exact e2
      have HF : Hid (freshB x = false) := by rw [HFR.out, g1, g2]; rfl
      clear e1 e2
      go_wp2_with fail
      go_end0
      exact ⟨⟨_, rfl⟩, ⟨⟨u0, u1, u2, by simp only [HF.out]; exact HB3.out.set 5 _, row_set p0 HB3.out (by decide), row_set p1 HB3.out (by decide), row_set p2 HB3.out (by decide)⟩, hB⟩, HK2.out.trans (fr_put HB3.out (i := 5) rfl (.inl (by decide)))⟩
end Go.Proofs.YtdkcibafbdmajabGreatDoor.B

/- What is proved here: close of a balancer's stack; behind; finish. -/
namespace Go.Proofs.YtdkcibafbdmajabGreatDoor.B
open Go.RowKit Go.Shelf Go.WideMaps Go.Maps Go.Proofs.YtdkcibafbdmajabGreatDoor.N Go.Proofs.YtdkcibafbdmajabGreatDoor.C Go.Proofs.YtdkcibafbdmajabGreatDoor.E

/-- The events of closing so many, from the top. -/
def clE (S : List Txt) : Nat → List Ev
  | 0 => []
  | j + 1 => clE S j ++ [⟨2, S.getD (S.length - 1 - j) [], [], .slice none 0 0⟩]
theorem clE_len (S : List Txt) : ∀ j, (clE S j).length = j
  | 0 => rfl
  | j + 1 => by rw [clE, List.length_append, clE_len S j]; rfl
def closedS (s : BSt) (j : Nat) : BSt := { s with E := s.E ++ clE s.S j, S := s.S.take (s.S.length - j), fr := if j = 0 then s.fr else false }
theorem closed_zero (s : BSt) : closedS s 0 = s := by unfold closedS clE; simp
theorem take_get (S : List Txt) (j : Nat) (hj : j < S.length) : (S.take (S.length - j)).length = S.length - j ∧ (S.take (S.length - j)).getD (S.length - j - 1) [] = S.getD (S.length - 1 - j) [] := by
  constructor
  · rw [List.length_take]; omega
  · rw [List.getD_eq_getElem?_getD, List.getD_eq_getElem?_getD, List.getElem?_take_of_lt (by omega)]
    congr 2
    omega
set_option maxRecDepth 100000 in
set_option maxHeartbeats 4000000 in
/-- **close.** -/
theorem close_calls (n B : Nat) (s : BSt) (k : Nat) (hk : k ≤ s.S.length) (hl : s.E.length + k ≤ 1000000000) (hl2 : s.S.length ≤ 1000000000) (w : World) (h : BalAt n B s w) (hn : n ≤ w.heap.size) :
    Calls Tryz.prog 58 #[.pointer (some ⟨B, 0, none⟩), .int .i64 k] w fun r w' => (∃ v, r = .returned v) ∧ BalAt n B (closedS s k) w' ∧ Fr B w w' := by
  have hB := h.hB
  have HH := hid_of h
  clear h
  go_enter Tryz.func58, Tryz.ntmps58
  go_wp2
  go_loopw [4, 6] (fun _ i wr => ∃ j : Nat, j ≤ k ∧ i = .int .i64 j ∧ Hid (BalAt n B (closedS s j) wr) ∧ Hid (Fr B w wr)) (fun _ i _ => k - (intOf i).toNat)
  case atStart => exact ⟨0, by omega, rfl, by rw [closed_zero]; exact HH.out, Fr.refl _ _⟩
  case round =>
    obtain ⟨j, hj, rfl, hA, hK⟩ := hrel
    by_cases hlt : j < k
    · obtain ⟨v0, v1, v2, hb, o0, o1, o2⟩ := hA.out.blk
      obtain ⟨va, vc, rfl⟩ := owns_slice o2
      obtain ⟨t1, t2⟩ := take_get s.S j (by omega)
      have HNR : Hid (n ≤ wr.heap.size) := Nat.le_trans hn hK.out.size
      have o2' : OwnT n wr (.slice va (s.S.length - j) vc) (s.S.take (s.S.length - j)) := by
        have h := o2
        show World.ownsRow _ _ _ _ _ _ _
        rw [show (closedS s j).S.length = s.S.length - j from t1] at h
        exact h
      obtain ⟨b, off, rfl, hc⟩ := (texts_own o2').1 (s.S.length - j - 1) (by rw [t1]; omega)
      rw [t2] at hc
      have hcap := (texts_own o2').2.1
      rw [t1] at hcap
      have HX : Hid (clE s.S (j + 1) = clE s.S j ++ [⟨2, s.S.getD (s.S.length - 1 - j) [], [], .slice none 0 0⟩]) := rfl
      generalize s.S.getD (s.S.length - 1 - j) [] = x at *
      have c2 : wr.cell? ⟨B, 2, none⟩ = some (.slice (some ⟨b, off, none⟩) (s.S.length - j) vc) := by
        rw [hb.cell]
        show some (Value.slice _ (closedS s j).S.length _) = _
        rw [show (closedS s j).S.length = s.S.length - j from t1]
      obtain ⟨m, hm⟩ : ∃ m, s.S.length - j = m + 1 := ⟨s.S.length - j - 1, by omega⟩
      rw [hm] at c2 hc hcap o2'
      have hm1 : m + 1 - 1 = m := by omega
      rw [hm1] at hc
      have hw1 : IntKind.i64.wrap ((m : Int) + 1 - 1) = (m : Int) := by rw [IntKind.wrap_i64]; omega
      have hw2 : IntKind.i64.wrap (m : Int) = (m : Int) := by rw [IntKind.wrap_i64]; omega
      have hm0 : (0 : Int) ≤ (m : Int) := by omega
      have hmc : (m : Int) ≤ (vc : Int) := by omega
      have hmlt : (m : Int) < ((m + 1 : Nat) : Int) := by omega
      have hmlt2 : (m : Int) < (m : Int) + 1 := by omega
      have HT : Hid (Calls Tryz.prog 75 #[.pointer (some ⟨B, 0, none⟩), .agg #[.int .i64 2, .string ⟨x.toArray⟩, .string ⟨#[]⟩, .slice none 0 0]] wr fun r w' => (∃ v, r = .returned v) ∧ BalAt n B { (closedS s j) with E := (closedS s j).E ++ [⟨2, x, [], .slice none 0 0⟩], fr := false } w' ∧ Fr B wr w') := stand_calls n B (closedS s j) ⟨2, x, [], .slice none 0 0⟩ rfl (by show (s.E ++ clE s.S j).length ≤ _; rw [List.length_append, clE_len]; omega) wr hA.out HNR.out
      clear hb o0 o1 o2 o2' t1 t2
      go_wp2_with fail
      (go_at_call 75; refine HT.out.mono ?_; rintro e w2 ⟨⟨vr, rfl⟩, h2, k2⟩)
      have HK2 : Hid (Fr B w w2) := hK.out.trans k2
      obtain ⟨u0, u1, u2, hb2, p0, p1, p2⟩ := h2.blk
      obtain ⟨ua, uc, rfl⟩ := owns_slice p2
      obtain ⟨t1, t2⟩ := take_get s.S j (by omega)
      have p2' : OwnT n w2 (.slice ua (m + 1) uc) (s.S.take (m + 1)) := by
        have h := p2
        show World.ownsRow _ _ _ _ _ _ _
        rw [show ({ (closedS s j) with E := (closedS s j).E ++ [⟨2, x, [], .slice none 0 0⟩], fr := false } : BSt).S.length = m + 1 from t1.trans hm, show ({ (closedS s j) with E := (closedS s j).E ++ [⟨2, x, [], .slice none 0 0⟩], fr := false } : BSt).S = s.S.take (m + 1) by show s.S.take (s.S.length - j) = _; rw [hm]] at h
        have e : (s.S.take (m + 1)).length = m + 1 := by rw [List.length_take]; omega
        first | exact h | (rw [e]; exact h)
      have d2 : w2.cell? ⟨B, 2, none⟩ = some (.slice ua (m + 1) uc) := by
        rw [hb2.cell]
        show some (Value.slice _ (closedS s j).S.length _) = _
        rw [show (closedS s j).S.length = m + 1 from t1.trans hm]
      have p3 : OwnT n w2 (.slice ua m uc) (s.S.take m) := by
        have h := own_take p2' m (by rw [List.length_take]; omega)
        rwa [List.take_take, Nat.min_eq_left (by omega)] at h
      have hucap := (texts_own p2').2.1
      have huc : (m : Int) ≤ (uc : Int) := by have := hucap; rw [List.length_take] at this; omega
      obtain ⟨b', off', rfl, -⟩ := (texts_own p2').1 m (by rw [List.length_take]; omega)
      have f2 := hb2.frozen
      have d3 : w2.cell? ⟨B, 3, none⟩ = some (.slice none 0 0) := hb2.cell 3
      have d4 : w2.cell? ⟨B, 4, none⟩ = some (.map none) := hb2.cell 4
      have HB2 := hid_of hb2
      have P0 := hid_of p0
      have P1 := hid_of p1
      have P3 := hid_of p3
      clear h2 k2 hb2 p0 p1 p2 p2' p3 t1 t2 hucap HT
      go_wp2_with fail
      have g1 := (HB2.out.set 2 (.slice (some ⟨b', off', none⟩) m uc))
      have hfin : BalAt n B (closedS s (j + 1)) (((w2.setCell ⟨B, 2, none⟩ (.slice (some ⟨b', off', none⟩) m uc)).setCell ⟨B, 3, none⟩ (.slice none 0 0)).setCell ⟨B, 4, none⟩ (.map none)) := by
        have hb5 := (g1.set 3 (.slice none 0 0)).set 4 (.map none)
        have r : ∀ {e : TypeId} {size nn : Nat} {v : Value} {xs : List Value}, w2.ownsRow n e size v nn xs → e ≠ 69 → (((w2.setCell ⟨B, 2, none⟩ (.slice (some ⟨b', off', none⟩) m uc)).setCell ⟨B, 3, none⟩ (.slice none 0 0)).setCell ⟨B, 4, none⟩ (.map none)).ownsRow n e size v nn xs := fun hr hne => row_set (row_set (row_set hr HB2.out hne) g1 hne) (g1.set 3 (.slice none 0 0)) hne
        have eS : s.S.take (s.S.length - (j + 1)) = s.S.take m := by congr 1; omega
        have eE : s.E ++ clE s.S (j + 1) = (closedS s j).E ++ [⟨2, x, [], .slice none 0 0⟩] := by rw [HX.out]; show _ = (s.E ++ clE s.S j) ++ _; rw [List.append_assoc]
        refine ⟨⟨u0, u1, _, hb5, ?_, r P1.out (by decide), ?_⟩, hB⟩
        · show OwnEv n _ u0 (s.E ++ clE s.S (j + 1))
          rw [eE]
          exact r P0.out (by decide)
        · show OwnT n _ _ (s.S.take (s.S.length - (j + 1)))
          rw [eS]
          exact r P3.out (by decide)
      have q1 := fr_put HB2.out (i := 2) (x := .slice (some ⟨b', off', none⟩) m uc) rfl (.inr (.inr rfl))
      have q2 := fr_put (B := B) (i := 3) (v := .slice none 0 0) (x := .slice none 0 0) g1 rfl (.inl (by decide))
      have q3 := fr_put (B := B) (i := 4) (v := .map none) (x := .map none) (g1.set 3 (.slice none 0 0)) rfl (.inl (by decide))
      have hbel : Fr B w (((w2.setCell ⟨B, 2, none⟩ (.slice (some ⟨b', off', none⟩) m uc)).setCell ⟨B, 3, none⟩ (.slice none 0 0)).setCell ⟨B, 4, none⟩ (.map none)) := HK2.out.trans ((q1.trans q2).trans q3)
      all_goals first
        | exact ⟨⟨j + 1, by omega, by go_num, hfin, hbel⟩, by simp [intOf]; omega⟩
        | (go_roundw
           case rel => exact ⟨j + 1, by omega, by go_num, hfin, hbel⟩
           case measure => simp [intOf]; omega)
    · obtain rfl : j = k := by omega
      go_wp2
      go_end0
      exact ⟨⟨_, rfl⟩, hA.out, hK.out⟩
end Go.Proofs.YtdkcibafbdmajabGreatDoor.B
