/- What is proved here: the statement UtfPieces (a decoder that is fed any bytes in any pieces: what it tells, piece by piece, holds back, and behind the end) holds for any bytes and any cuts, where the arguments hold at most 1048576 values together, with no other condition but what the card says of the two tables of unicode/utf8. -/
import Derived.Laws.AppendOwnNone
import Derived.Test.YtjhoaepokkaoeaaDoorCards
import Derived.Test.YtjhoaepokkaoeaaDoorTie
import Derived.Test.YtjhoaepokkaoeaaDoorOpen
import Derived.Test.YtjhoaepokkaoeaaDoorRTail
import Derived.Test.YtjhoaepokkaoeaaDoorUDec
namespace Go.Proofs.YtjhoaepokkaoeaaDoor.UPieces
open Go.ChangeShapes Go.WideShapes Go.ChangeAt Go.RowKit Go.Shelf U

theorem append_ints {w : World} {ops : Array Oper} {rest : List Oper} {o : Oper} {a : Act} {Q : Exit → Act → World → Prop} (hgd : o.guard = none) (s x : Operand) (t : TypeId)
    (ho : o.op = .call { callee := .builtin .append, args := #[s, x], argTypes := #[t, t] }) (base : Nat) (e : TypeId) (i : TypeInfo) (q : IntKind) (bytes : Nat) (ht : Tryd.prog.underlying t = some (.slice e)) (hi : Tryd.prog.info? e = some i) (hz : i.zero = some (.int q 0)) (hsize : i.size = 1) (hby : i.bytes = bytes)
    (v : Value) (n : Nat) (xs : List Value) (hs : a.eval s = v) (hown : w.ownsRow base e 1 v n xs) (xv : Value) (zs : List Int) (hx : a.eval x = xv) (hH : HasI q w xv zs) (hn : xv = .slice none 0 0 ∨ ∃ ad len cap, xv = .slice (some ad) len cap)
    (h63 : n + zs.length ≤ maxLen) (hbytes : (n + zs.length) * bytes ≤ 140737488355328) (hbase : base ≤ w.heap.size)
    (h : ∀ v' w', w'.ownsRow base e 1 v' (n + zs.length) (xs ++ zs.map (Value.int q)) → w.grownBy w' v.ownBlock → wpList Tryd.prog ops Q rest (a.put o.dst v') w') : wpList Tryd.prog ops Q (o :: rest) a w := by
  rcases hn with rfl | ⟨ad, len, cap, rfl⟩
  · have hz0 : zs = [] := by
      rcases hH with ⟨rfl, _⟩ | ⟨hp, b, off, c, e, _⟩
      · rfl
      · simp at e
    subst hz0
    exact wpList_append_own_none hgd s x t ho base e i 1 ht hi v n xs hs hown hx (h v w (by simpa using hown) (World.grownBy.refl _ _))
  · have hl : len = zs.length ∧ ∀ j u, (zs.map (Value.int q))[j]? = some u → w.cell? (ad.add j) = some u := by
      rcases hH with ⟨rfl, a', c', e⟩ | ⟨hp, b, off, c, e, _, hc⟩
      · simp at e; exact ⟨e.2.1, fun j u hj => by simp at hj⟩
      · obtain ⟨rfl, rfl, rfl⟩ : ad = ⟨b, off, none⟩ ∧ len = zs.length ∧ cap = c := by simpa using e
        refine ⟨rfl, fun j u hj => ?_⟩
        have hj' : j < zs.length := by have := (List.getElem?_eq_some_iff.1 hj).1; simpa using this
        rw [List.getElem?_map, List.getElem?_eq_getElem hj'] at hj
        cases hj
        rw [add_none, hc j hj']
        simp [zAt, hj']
    obtain ⟨rfl, hnews⟩ := hl
    exact wpList_append_own _ hgd s x t ho base e i (.int q 0) 1 bytes ht hi hz hsize hby rfl (by decide) v n xs hs hown ad zs.length cap (zs.map (Value.int q)) hx (by simp) hnews (fun u hu => by obtain ⟨z, _, rfl⟩ := List.mem_map.1 hu; rfl) h63 hbytes hbase (fun v' w' a b _ => h v' w' a b)

/-- Runes as numbers. -/
def RI (bs : List UInt8) : List Int := (runes bs).map fun r : Nat => (r : Int)
theorem runesI_eq (bs : List UInt8) : runesI bs = RI bs := by unfold runesI RI; rw [runes_pcs]; simp
theorem RI_vals (bs : List UInt8) : ((runes bs).map fun r : Nat => Value.int .i32 (r : Int)) = (RI bs).map (Value.int .i32) := by simp [RI]
theorem RI_length (bs : List UInt8) : (RI bs).length = (runes bs).length := by simp [RI]
theorem RI_le (bs : List UInt8) : (RI bs).length ≤ bs.length := by rw [← runesI_eq, runesI_length]; exact pcs_length bs
theorem owns_nil_or {W : World} {base : Nat} {e : TypeId} {size : Nat} {v : Value} {n : Nat} {xs : List Value} (h : W.ownsRow base e size v n xs) : v = .slice none 0 0 ∨ ∃ ad len cap, v = .slice (some ad) len cap := by
  rcases h.2 with ⟨rfl, _⟩ | ⟨g, cap, cur, rfl, _⟩
  · exact .inl rfl
  · exact .inr ⟨_, _, _, rfl⟩
/-- Pieces in memory of their own, with the values that hold them. -/
def OwnX (base : Nat) (w : World) (r : Value) (xs : List (Value × List UInt8)) : Prop :=
  w.ownsRow base 22 1 r xs.length (xs.map Prod.fst) ∧ ∀ x ∈ xs, w.ownsRow base 5 1 x.1 x.2.length (bvs x.2)
theorem OwnX.below {base : Nat} {A B : World} {r : Value} {xs : List (Value × List UInt8)} (h : OwnX base A r xs) (hb : Below A.heap.size A B) : OwnX base B r xs := ⟨owns_below h.1 hb, fun x hx => owns_below (h.2 x hx) hb⟩
theorem OwnX.kept {base : Nat} {A B : World} {r : Value} {xs : List (Value × List UInt8)} {row : Option Nat} (h : OwnX base A r xs) (hg : A.grownBy B row) (hne : ∀ (v : Value) e n xs, A.ownsRow base e 1 v n xs → (e = 22 ∨ e = 5) → v.ownBlock = none ∨ v.ownBlock ≠ row) : OwnX base B r xs :=
  ⟨h.1.kept hg (hne _ _ _ _ h.1 (.inl rfl)), fun x hx => (h.2 x hx).kept hg (hne _ _ _ _ (h.2 x hx) (.inr rfl))⟩
theorem OwnX.at {base : Nat} {w : World} {r : Value} {xs : List (Value × List UInt8)} (h : OwnX base w r xs) (k : Nat) (hk : k < xs.length) : ∃ g cap, r = .slice (some ⟨g, 0, none⟩) xs.length cap ∧ xs.length ≤ cap ∧ g < w.heap.size ∧ w.cell? ⟨g, k, none⟩ = some xs[k].1 ∧ HasB w.heap.size w xs[k].1 xs[k].2 ∧ ∃ a c, xs[k].1 = .slice a xs[k].2.length c := by
  rcases h.1.2 with ⟨rfl, e0⟩ | ⟨g, cap, cur, rfl, hb, hg, hcap, _⟩
  · omega
  · have hm := h.2 xs[k] (List.getElem_mem _)
    refine ⟨g, cap, rfl, hcap, lt_of_block hg, ?_, (hasB_owns hm).1, owns_slice hm⟩
    rw [h.1.cellAt k (by omega), List.getElem?_map, List.getElem?_eq_getElem hk, Option.map_some]
theorem OwnX.ne {W : World} {base d : Nat} {e : TypeId} {v : Value} {n : Nat} {xs : List Value} (h : W.ownsRow base e 1 v n xs) (hd : d < base) : v.ownBlock = none ∨ v.ownBlock ≠ some d := by
  cases e' : v.ownBlock with
  | none => exact .inl rfl
  | some j => exact .inr (fun e => by have := (h.lt j e').1; simp at e; omega)
theorem RowB.grown {g N : Nat} {f : Nat → Nat} {w w' : World} {row : Option Nat} (h : RowB g N f w) (hg : w.grownBy w' row) (hne : some g ≠ row) : RowB g N f w' := by
  refine ⟨fun j hj => hg.cell (h.1 j hj) hne, fun j hj => ?_⟩
  have hb := hg.block g (cell_lt (h.1 j hj)) hne
  have := h.2 j hj
  unfold World.frozen? at this ⊢
  rw [show w'.heap[(⟨g, j, none⟩ : Addr).block]? = w.heap[(⟨g, j, none⟩ : Addr).block]? from hb]
  exact this
/-- The first bytes of what came in. -/
theorem hasB_first {n₀ : Nat} {W : World} {a : Option Addr} {A : List UInt8} {c k : Nat} (h : HasB n₀ W (.slice a A.length c) A) (hk : k ≤ A.length) : HasB n₀ W (.slice a k c) (A.take k) := by
  have hl : (A.take k).length = k := by simp; omega
  rcases h with ⟨e, _⟩ | ⟨hp, b, off, cap, e, hcap, hb, hx⟩
  · subst e; obtain rfl : k = 0 := by simpa using hk
    exact .inl ⟨rfl, a, c, rfl⟩
  · simp only [Value.slice.injEq] at e
    obtain ⟨rfl, _, rfl⟩ := e
    by_cases h0 : k = 0
    · subst h0; exact .inl ⟨rfl, _, _, rfl⟩
    · refine .inr ⟨by omega, b, off, c, by rw [hl], by omega, hb, fun j hj => ?_⟩
      rw [hl] at hj
      rw [show byteAt (A.take k) j = byteAt A j from by simp [byteAt, hj]]
      exact hx j (by omega)
/-- What was fed behind k pieces. -/
def fedTo (L : List (List UInt8)) (k : Nat) : List UInt8 := (L.take k).flatten
theorem fedTo_zero (L : List (List UInt8)) : fedTo L 0 = [] := by simp [fedTo]
theorem fedTo_succ (L : List (List UInt8)) (k : Nat) (h : k < L.length) : fedTo L (k + 1) = fedTo L k ++ L[k] := by
  unfold fedTo
  rw [List.take_succ_eq_append_getElem h, List.flatten_append]
  simp
theorem fedTo_all (L : List (List UInt8)) : fedTo L L.length = L.flatten := by simp [fedTo]
theorem fedTo_take (L : List (List UInt8)) (k : Nat) : fedTo L k = L.flatten.take (fedTo L k).length := by
  have e : L.flatten = fedTo L k ++ (L.drop k).flatten := by
    unfold fedTo
    rw [← List.flatten_append, List.take_append_drop]
  rw [e, List.take_append_of_le_length (Nat.le_refl _), List.take_length]
theorem fedTo_le (L : List (List UInt8)) (k : Nat) : (fedTo L k).length ≤ L.flatten.length := by
  have h := congrArg List.length (fedTo_take L k)
  rw [List.length_take] at h
  omega

set_option maxRecDepth 100000 in
set_option maxHeartbeats 4000000 in
theorem walk (w : World) (hT : Lib.Utf8Tabs (Tryd.lays32_ren.g 2) (Tryd.lays32_ren.g 3) w) (v : Value) (bs : List UInt8) (hb : HasB w.heap.size w v bs) (hl : bs.length ≤ 1048576) (v' : Value) (cs : List Int) (hc : HasI .i64 w v' cs) (_ : ∀ z ∈ cs, (Lit.int .i64 z).wf = true) (hm : cs.length ≤ 1048576) :
    Calls Tryd.prog 3 #[v, v'] w fun e w' => e = .returned (.bool true) ∧ Below w.heap.size w w' := by
  obtain ⟨i0, hi, hz0, hz1, hz2⟩ := info_parts info21
  obtain ⟨va, vc, rfl, hvc⟩ : ∃ a c, v = .slice a bs.length c ∧ bs.length ≤ c := by
    rcases hb with ⟨rfl, a, cap, rfl⟩ | ⟨hp, b, off, cap, rfl, hcap, _⟩
    · exact ⟨a, cap, rfl, by simp⟩
    · exact ⟨_, cap, rfl, hcap⟩
  have HT : Hid (Lib.Utf8Tabs (Tryd.lays32_ren.g 2) (Tryd.lays32_ren.g 3) w) := hT
  have HB : Hid (HasB w.heap.size w (.slice va bs.length vc) bs) := hb
  have HC : Hid (HasI .i64 w v' cs) := hc
  have hdT : w.heap.size ≠ Tryd.lays32_ren.g 2 ∧ w.heap.size ≠ Tryd.lays32_ren.g 3 := by
    have h1 := cell_lt (hT.1 0 (by omega))
    have h2 := cell_lt (hT.2 0 (by omega)).1
    simp only at h1 h2
    omega
  clear hT hb hc
  go_enter Tryd.func3, Tryd.ntmps3
  go_wp2_with (go_at_call 6; refine (new_calls w).mono ?_; rintro e w1 ⟨rfl, hD1, hb1⟩)
  refine (cuts_calls _ _ bs cs w.heap.size w1 (by omega) (by omega) (HB.out.below hb1) (HasI.below hb1 HC.out)).mono ?_
  rintro e w2 ⟨cv, rfl, hOC, hb2⟩
  obtain ⟨L, hL⟩ : ∃ L, cuts bs cs = L := ⟨_, rfl⟩
  have hLl : L.length = cs.length + 1 := by rw [← hL]; exact cuts_length bs cs
  have HLF : Hid (L.flatten = bs) := by rw [← hL]; exact cuts_flat bs cs
  rw [hL] at hOC
  clear hL
  obtain ⟨xs, hx1, hx2, hx3⟩ := hOC
  have hxl : xs.length = L.length := by rw [← hx1]; simp
  have hXC : OwnX w1.heap.size w2 cv xs := ⟨by rw [hxl]; exact hx2, hx3⟩
  obtain ⟨ca, cc, rfl⟩ := owns_slice hx2
  have s1 := hb1.size
  have z1 := hD1.lt
  have HD2 : Hid (DecAt w2 w.heap.size false (heldOf (fedTo L 0))) := by
    rw [fedTo_zero]
    exact hD1.kept (hb2.block _ z1)
  have HOC : Hid (OwnX w1.heap.size w2 (.slice ca L.length cc) xs) := hXC
  have HX1 : Hid (xs.map Prod.snd = L) := hx1
  have HXL : Hid (xs.length = L.length) := hxl
  have HB2 : Hid (Below w.heap.size w w2) := hb1.trans (hb2.mono s1)
  have s2 := hb2.size
  have HLN : Hid (L.length = cs.length + 1) := hLl
  have hLm : (L.length : Int) ≤ 1048577 := by omega
  clear hD1 hb1 hb2 hXC hx1 hx2 hx3 hxl hLl
  go_wp2
  go_loopw [6, 7, 9, 10, 11, 12, 13, 14, 28] (fun tv fed _ _ _ _ _ _ i wr => ∃ k : Nat, k ≤ L.length ∧ i = .int .i64 k ∧ fed = .int .i64 (fedTo L k).length ∧ Hid (DecAt wr w.heap.size false (heldOf (fedTo L k))) ∧ Hid (OwnX w1.heap.size wr (.slice ca L.length cc) xs) ∧ Hid (wr.ownsRow w1.heap.size 21 1 tv (RI (sureOf (fedTo L k))).length ((RI (sureOf (fedTo L k))).map (Value.int .i32))) ∧ Hid (Below w.heap.size w wr) ∧ w1.heap.size ≤ wr.heap.size) (fun _ _ _ _ _ _ _ _ i _ => L.length - (intOf i).toNat)
  case atStart =>
    refine ⟨0, by omega, rfl, by rw [fedTo_zero]; rfl, HD2, HOC, ?_, HB2, s2⟩
    rw [fedTo_zero]
    exact World.ownsRow_nil _ _ _ _
  case round =>
    clear HD2 HOC HB2
    obtain ⟨k, hk, rfl, rfl, hD, hOC, hO, hB, hsz⟩ := hrel
    by_cases hlt : k < L.length
    · have hkx : k < xs.length := by have := HXL.out; omega
      obtain ⟨cg, ccap, e0, hcap, hcg, hcc, hpB, pa, pc, hpv⟩ := hOC.out.at k hkx
      simp only [Value.slice.injEq] at e0
      obtain ⟨rfl, hdead, rfl⟩ := e0
      clear hdead
      have HPV : Hid (xs[k].1 = .slice pa xs[k].2.length pc) := hpv
      have HP2 : Hid (xs[k].2 = L[k]) := by
        have : (xs.map Prod.snd)[k]'(by simp; exact hkx) = L[k] := by simp [HX1.out]
        show _ = _
        simpa using this
      rw [hpv, HP2.out] at hcc hpB
      clear hpv
      obtain ⟨P, hP⟩ : ∃ P, fedTo L k = P := ⟨_, rfl⟩
      obtain ⟨c, hcd⟩ : ∃ c, L[k] = c := ⟨_, rfl⟩
      obtain ⟨Q, hQ⟩ : ∃ Q, P ++ c = Q := ⟨_, rfl⟩
      have HQ1 : Hid (fedTo L (k + 1) = Q) := by show _ = _; rw [fedTo_succ L k hlt, hP, hcd, hQ]
      have hQt : Q = bs.take Q.length := by have := fedTo_take L (k + 1); rw [HLF.out, HQ1.out] at this; exact this
      have hQl : Q.length ≤ bs.length := by have := fedTo_le L (k + 1); rw [HLF.out, HQ1.out] at this; exact this
      have hQs : Q.length = P.length + c.length := by rw [← hQ]; simp
      have HHQ : Hid ((heldOf P ++ c).drop ((heldOf P ++ c).length - tailN (heldOf P ++ c)) = heldOf Q) := by show _ = _; rw [← hQ, feed_held]
      have HRQ : Hid (RI (sureOf Q) = RI (sureOf P) ++ RI ((heldOf P ++ c).take ((heldOf P ++ c).length - tailN (heldOf P ++ c)))) := by show _ = _; unfold RI; rw [← hQ, feed_runes, List.map_append]
      rw [hP] at hD hO
      rw [hcd] at hpB hcc
      have hsL : (sureOf Q).length ≤ Q.length := by unfold sureOf; simp
      have hrL := RI_le (sureOf Q)
      have HRS : Hid ((RI (sureOf Q)).length = (RI (sureOf P)).length + (RI ((heldOf P ++ c).take ((heldOf P ++ c).length - tailN (heldOf P ++ c)))).length) := by show _ = _; rw [HRQ.out]; simp
      have HQT : Hid (Q = bs.take Q.length) := hQt
      have HSU : Hid (sureOf Q = bs.take (Q.length - tailN Q)) := by
        show _ = _
        have h1 : sureOf Q = Q.take (Q.length - tailN Q) := rfl
        have e : Q.take (Q.length - tailN Q) = (bs.take Q.length).take (Q.length - tailN Q) := congrArg (fun X => X.take (Q.length - tailN Q)) hQt
        rw [h1, e, List.take_take, Nat.min_eq_left (by omega)]
      have HHL : Hid ((heldOf Q).length = tailN Q) := held_length Q
      have htq := (tail_le Q).1
      have HFE : Hid (((P.length : Int) + (c.length : Int)) = (Q.length : Int)) := by show _ = _; omega
      have hP0 : (fedTo L k).length = P.length := by rw [hP]
      have HCK : Hid (L[k] = c) := hcd
      rw [hP0]
      clear hQt hQ
      obtain ⟨tq, htt⟩ : ∃ tq, tailN Q = tq := ⟨_, rfl⟩
      have HTQ : Hid (tailN Q = tq) := htt
      rw [htt] at htq HSU HHL
      have HFT : Hid (((Q.length : Int) - (tq : Int)) = ((Q.length - tq : Nat) : Int)) := by show _ = _; omega
      have HQS : Hid (Q.length = P.length + c.length) := hQs
      have hPQ : P.length ≤ Q.length := by omega
      have hcQ : c.length ≤ Q.length := by omega
      have hPc : (P.length : Int) + (c.length : Int) ≤ 1048576 := by omega
      clear htt hP hcd hQs hP0
      have hsz0 := hB.out.size
      go_wp2_with fail
      refine (lend_calls _ c wr.heap.size wr (by omega) hpB).mono ?_
      rintro e w3 ⟨rfl, hrow, hb3⟩
      have s3 := hb3.size
      have hg3 : wr.heap.size < w3.heap.size := cell_lt (hrow.1 0 (by omega))
      have B3 : Below w.heap.size w w3 := hB.out.trans (hb3.mono hsz0)
      have D3 : DecAt w3 w.heap.size false (heldOf P) := hD.out.kept (hb3.block _ hD.out.lt)
      have hdw := hD.out.lt
      have C3 : OwnX w1.heap.size w3 (.slice (some ⟨cg, 0, none⟩) L.length cc) xs := hOC.out.below hb3
      have O3 := owns_below hO.out hb3
      go_wp2_with fail
      refine (feed_calls w.heap.size (heldOf P) c wr.heap.size 2 (c.length + 2) w3 D3 (by omega) (fun j hj => by
          rw [hrow.1 (2 + j) (by omega), byteAt_lent c _ (by omega), if_pos (by omega), show 2 + j - 2 = j by omega]) (tabs_below HT.out B3) hdT).mono ?_
      rintro e w4 ⟨v4, rfl, ho4, hD4, hg4⟩
      rw [HHQ.out] at hD4
      rw [RI_vals, ← RI_length] at ho4
      generalize heldOf P ++ c = hc at *
      have hd1 : w.heap.size < w1.heap.size := z1
      have s4 := hg4.size
      have B4 : Below w.heap.size w w4 := B3.grown hg4 B3.size (fun j hj => by cases hj; exact Nat.le_refl _)
      have O4 : w4.ownsRow w1.heap.size 21 1 u6 _ _ := O3.kept hg4 (OwnX.ne O3 hd1)
      have C4 : OwnX w1.heap.size w4 (.slice (some ⟨cg, 0, none⟩) L.length cc) xs := C3.kept hg4 (fun v e n xs h _ => OwnX.ne h hd1)
      have R4 := RowB.grown hrow hg4 (by simp; omega)
      have HO4 : Hid (w4.ownsRow w1.heap.size 21 1 u6 (RI (sureOf P)).length ((RI (sureOf P)).map (Value.int .i32))) := O4
      have Ho4 : Hid (w4.ownsRow w3.heap.size 21 1 v4 (RI (hc.take (hc.length - tailN hc))).length ((RI (hc.take (hc.length - tailN hc))).map (Value.int .i32))) := ho4
      have HD4 : Hid (DecAt w4 w.heap.size false (heldOf Q)) := hD4
      have HC4 : Hid (OwnX w1.heap.size w4 (.slice (some ⟨cg, 0, none⟩) L.length cc) xs) := C4
      have HR4 : Hid (RowB wr.heap.size (c.length + 4) (byteAt (lent c)) w4) := R4
      have HB4 : Hid (Below w.heap.size w w4) := B4
      have HU6 : Hid (∀ j, u6.ownBlock = some j → w1.heap.size ≤ j ∧ j < wr.heap.size) := hO.out.lt
      have hw14 : w1.heap.size ≤ w4.heap.size := by omega
      have hnil := owns_nil_or ho4
      have HNL : Hid (v4 = .slice none 0 0 ∨ ∃ ad len cap, v4 = .slice (some ad) len cap) := hnil
      clear hrow hb3 B3 D3 C3 O3 ho4 hD4 hg4 B4 O4 C4 R4 hnil hpB hcc hD hOC hO hB
      go_wp2_with (first
        | (at_builtin; refine append_ints rfl _ _ 26 rfl w1.heap.size 21 i0 .i32 4 Tryd.underlying26 hi hz0 hz1 hz2 u6 _ _ rfl HO4.out v4 (RI (hc.take (hc.length - tailN hc))) rfl (hasI_owns Ho4.out) HNL.out (by have := HRS.out; unfold maxLen; omega) (by have := HRS.out; omega) hw14 ?_; intro v5 w5 ho5 hg5; rw [HFE.out])
        | fail)
      have B5 : Below w.heap.size w w5 := HB4.out.grown hg5 HB4.out.size (fun j hj => by have := (HO4.out.lt j hj).1; omega)
      have hR5 : (RI (sureOf P)).length + (RI (hc.take (hc.length - tailN hc))).length = (RI (sureOf Q)).length := HRS.out.symm
      rw [hR5, ← List.map_append, ← HRQ.out] at ho5
      have D5 : DecAt w5 w.heap.size false (heldOf Q) := HD4.out.kept (hg5.block _ HD4.out.lt (fun e => by have := (HO4.out.lt _ e.symm).1; omega))
      have C5 : OwnX w1.heap.size w5 (.slice (some ⟨cg, 0, none⟩) L.length cc) xs := HC4.out.kept hg5 (fun v e n ys h he => by rcases he with rfl | rfl <;> exact owns_apart h HO4.out (by decide))
      have R5 := RowB.grown HR4.out hg5 (fun e => by have := (HU6.out _ e.symm).2; omega)
      have s5 := hg5.size
      have HO5 : Hid (w5.ownsRow w1.heap.size 21 1 v5 (RI (sureOf Q)).length ((RI (sureOf Q)).map (Value.int .i32))) := ho5
      clear ho5 hg5 hR5 HO4 Ho4 HD4 HC4 HR4 HB4 HNL
      have HB5 : Hid (Below w.heap.size w w5) := B5
      have HD5 : Hid (DecAt w5 w.heap.size false (heldOf Q)) := D5
      have HC5 : Hid (OwnX w1.heap.size w5 (.slice (some ⟨cg, 0, none⟩) L.length cc) xs) := C5
      have HR5 : Hid (RowB wr.heap.size (c.length + 4) (byteAt (lent c)) w5) := R5
      clear B5 D5 C5 R5
      refine (rtail_calls _ Q w.heap.size w5 (by omega) (by have h := hasB_first (HB.out.below HB5.out) hQl; rw [← HQT.out] at h; exact h)).mono ?_
      rintro e w6 ⟨rfl, hb6⟩
      rw [HTQ.out]
      have s6 := hb6.size
      have c6 : w6.cell? ⟨w.heap.size, 5, none⟩ = some (.int .i64 tq) := by have h := (HD5.out.kept (hb6.block _ HD5.out.lt)).count; rw [HHL.out] at h; exact h
      have HB6 : Hid (Below w.heap.size w w6) := HB5.out.trans (hb6.mono HB5.out.size)
      have hne : ((tq : Int) != (tq : Int)) = false := by simp
      have HLS : Hid ((sureOf Q).length ≤ 4398046511104) := by show _ ≤ _; omega
      go_wp2_with (first
        | (go_at_call 11; refine (held_some w.heap.size tq _ c6).mono ?_; rintro e w' ⟨rfl, hx'⟩; obtain rfl : w6 = w' := hx'.symm)
        | fail)
      refine (rrunes_calls _ (sureOf Q) w.heap.size w6 HLS.out (by have h := hasB_first (HB.out.below HB6.out) (show Q.length - tq ≤ bs.length by omega); rw [← HSU.out] at h; exact h)).mono ?_
      rintro e w7 ⟨ra, rc, rfl, ho7, hb7⟩
      rw [runesI_eq] at ho7 ⊢
      have s7 := hb7.size
      have HO7 : Hid (w7.ownsRow w6.heap.size 21 1 (.slice ra (RI (sureOf Q)).length rc) (RI (sureOf Q)).length ((RI (sureOf Q)).map (Value.int .i32))) := ho7
      have HT7 : Hid (w7.ownsRow w1.heap.size 21 1 v5 (RI (sureOf Q)).length ((RI (sureOf Q)).map (Value.int .i32))) := owns_below (owns_below HO5.out hb6) hb7
      have hb57 : Below w5.heap.size w5 w7 := hb6.trans (hb7.mono s6)
      clear hb6 hb7 ho7
      go_wp2_with fail
      refine (same_calls _ _ (RI (sureOf Q)) (RI (sureOf Q)) w7 (by omega) (hasI_owns HT7.out) (hasI_owns HO7.out)).mono ?_
      rintro e w8 ⟨rfl, hb8⟩
      rw [decide_eq_true rfl]
      have hb58 : Below w5.heap.size w5 w8 := hb57.trans (hb8.mono hb57.size)
      have C8 := HC5.out.below hb58
      have R8 := HR5.out.below hb58 (by omega)
      have B8 : Below w.heap.size w w8 := HB5.out.trans (hb58.mono HB5.out.size)
      have p8 : HasB w8.heap.size w8 (.slice pa c.length pc) c := by
        have h := (hasB_owns (C8.2 xs[k] (List.getElem_mem _))).1
        rw [HPV.out, HP2.out, HCK.out] at h
        exact h
      go_wp2_with fail
      refine (kept_calls _ c w8.heap.size wr.heap.size w8 (by omega) p8 R8).mono ?_
      rintro e w9 ⟨rfl, hb9⟩
      have hb59 : Below w5.heap.size w5 w9 := hb58.trans (hb9.mono hb58.size)
      have HR : Hid (DecAt w9 w.heap.size false (heldOf (fedTo L (k + 1)))) := by rw [HQ1.out]; exact HD5.out.kept (hb59.block _ HD5.out.lt)
      have HRc : Hid (OwnX w1.heap.size w9 (.slice (some ⟨cg, 0, none⟩) L.length cc) xs) := HC5.out.below hb59
      have HRo : Hid (w9.ownsRow w1.heap.size 21 1 v5 (RI (sureOf (fedTo L (k + 1)))).length ((RI (sureOf (fedTo L (k + 1)))).map (Value.int .i32))) := by rw [HQ1.out]; exact owns_below HO5.out hb59
      have HRb : Hid (Below w.heap.size w w9) := HB5.out.trans (hb59.mono HB5.out.size)
      have hsz9 : w1.heap.size ≤ w9.heap.size := by have := hb59.size; omega
      have HQL : Hid ((fedTo L (k + 1)).length = Q.length) := by rw [HQ1.out]; rfl
      clear hb57 hb58 hb8 hb9 hb59 C8 R8 B8 p8 c6 HR5 HC5 HD5 HB5 HB6 HO5 HO7 HT7
      go_wp2
      go_roundw
      case rel => exact ⟨k + 1, by omega, by go_num, by rw [HQL.out], HR, HRc, HRo, HRb, hsz9⟩
      case measure => simp [intOf]; omega
    · obtain rfl : k = L.length := by omega
      have HF : Hid (fedTo L L.length = bs) := by show _ = _; rw [fedTo_all]; exact HLF.out
      rw [HF.out] at hD hO
      have hsz0 := hB.out.size
      have hdw := hD.out.lt
      have hd1 : w.heap.size < w1.heap.size := z1
      have hrL := RI_le bs
      have HRS : Hid ((RI bs).length = (RI (sureOf bs)).length + (RI (heldOf bs)).length) := by show _ = _; unfold RI; rw [end_runes bs]; simp
      have HRQ : Hid (RI bs = RI (sureOf bs) ++ RI (heldOf bs)) := by show _ = _; unfold RI; rw [← List.map_append, ← end_runes bs]
      have HU6 : Hid (∀ j, u6.ownBlock = some j → w1.heap.size ≤ j ∧ j < wr.heap.size) := hO.out.lt
      rw [HF.out]
      go_wp2_with fail
      refine (end_calls w.heap.size (heldOf bs) wr hD.out (tabs_below HT.out hB.out)).mono ?_
      rintro e w3 ⟨v3, rfl, ho3, hD3, hg3⟩
      rw [RI_vals, ← RI_length] at ho3
      have s3 := hg3.size
      have B3 : Below w.heap.size w w3 := hB.out.grown hg3 hsz0 (fun j hj => by cases hj; exact Nat.le_refl _)
      have O3 : w3.ownsRow w1.heap.size 21 1 u6 _ _ := hO.out.kept hg3 (OwnX.ne hO.out hd1)
      have HO3 : Hid (w3.ownsRow w1.heap.size 21 1 u6 (RI (sureOf bs)).length ((RI (sureOf bs)).map (Value.int .i32))) := O3
      have Ho3 : Hid (w3.ownsRow wr.heap.size 21 1 v3 (RI (heldOf bs)).length ((RI (heldOf bs)).map (Value.int .i32))) := ho3
      have HD3 : Hid (DecAt w3 w.heap.size true []) := hD3
      have HB3 : Hid (Below w.heap.size w w3) := B3
      have HNL : Hid (v3 = .slice none 0 0 ∨ ∃ ad len cap, v3 = .slice (some ad) len cap) := owns_nil_or ho3
      have hw13 : w1.heap.size ≤ w3.heap.size := by omega
      clear ho3 hD3 hg3 B3 O3 hD hOC hO hB
      go_wp2_with (first
        | (at_builtin; refine append_ints rfl _ _ 26 rfl w1.heap.size 21 i0 .i32 4 Tryd.underlying26 hi hz0 hz1 hz2 u6 _ _ rfl HO3.out v3 (RI (heldOf bs)) rfl (hasI_owns Ho3.out) HNL.out (by have := HRS.out; unfold maxLen; omega) (by have := HRS.out; omega) hw13 ?_; intro v5 w5 ho5 hg5)
        | fail)
      have s5 := hg5.size
      have B5 : Below w.heap.size w w5 := HB3.out.grown hg5 HB3.out.size (fun j hj => by have := (HO3.out.lt j hj).1; omega)
      have hR5 : (RI (sureOf bs)).length + (RI (heldOf bs)).length = (RI bs).length := HRS.out.symm
      rw [hR5, ← List.map_append, ← HRQ.out] at ho5
      have D5 : DecAt w5 w.heap.size true [] := HD3.out.kept (hg5.block _ HD3.out.lt (fun e => by have := (HO3.out.lt _ e.symm).1; omega))
      have hdl5 := D5.lt
      obtain ⟨W6, hW6⟩ : ∃ W6, w5.alloc (.cells #[.int .u8 65] 5) = W6 := ⟨_, rfl⟩
      have b6 : Below w5.heap.size w5 W6 := by rw [← hW6]; exact (Below.refl _ w5).alloc (Nat.le_refl _) _
      have D6 : DecAt W6 w.heap.size true [] := D5.kept (b6.block _ hdl5)
      have O6 : W6.ownsRow w1.heap.size 21 1 v5 (RI bs).length ((RI bs).map (Value.int .i32)) := owns_below ho5 b6
      have B6 : Below w.heap.size w W6 := B5.trans (b6.mono B5.size)
      have HO6 : Hid (W6.ownsRow w1.heap.size 21 1 v5 (RI bs).length ((RI bs).map (Value.int .i32))) := O6
      have HB6 : Hid (Below w.heap.size w W6) := B6
      obtain ⟨g0, g1, g2, hg6, _, _⟩ := D6
      have cm := (cell_heap hg6 0).trans rfl
      have co := (cell_heap hg6 1).trans rfl
      have cn := (cell_heap hg6 5).trans rfl
      simp only [List.getElem?_cons_zero, List.getElem?_cons_succ, List.length_nil] at cm co cn
      have HCN : Hid (W6.cell? ⟨w.heap.size, 5, none⟩ = some (.int .i64 ((0 : Nat) : Int))) := cn
      clear ho5 hg5 hR5 B5 D5 b6 O6 B6 hg6 HO3 Ho3 HD3 HB3 HNL cn
      have hst : Hid (∀ w', w' = W6 → Calls Tryd.prog 32 #[.pointer (some ⟨w.heap.size, 0, none⟩)] w' fun e w' => e = .returned (.int .i64 3) ∧ w' = W6) := fun w' e => by subst e; exact state_over _ _ cm co
      clear cm co
      try rw [hW6]
      go_wp2_with fail
      refine (feed_err (some ⟨w.heap.size, 0, none⟩) _ 3 W6 (by decide) hst.out).mono ?_
      rintro e w' ⟨rfl, hx'⟩
      obtain rfl : W6 = w' := hx'.symm
      go_wp2_with fail
      refine (end_err (some ⟨w.heap.size, 0, none⟩) 3 W6 (by decide) hst.out).mono ?_
      rintro e w' ⟨rfl, hx''⟩
      obtain rfl : W6 = w' := hx''.symm
      go_wp2_with fail
      refine (rrunes_calls _ bs w.heap.size W6 (by omega) (HB.out.below HB6.out)).mono ?_
      rintro e w7 ⟨ra, rc, rfl, ho7, hb7⟩
      rw [runesI_eq] at ho7 ⊢
      have s7 := hb7.size
      go_wp2_with fail
      refine (same_calls _ _ (RI bs) (RI bs) w7 (by omega) (hasI_owns (owns_below HO6.out hb7)) (hasI_owns ho7)).mono ?_
      rintro e w8 ⟨rfl, hb8⟩
      rw [decide_eq_true rfl]
      have hb68 : Below W6.heap.size W6 w8 := hb7.trans (hb8.mono s7)
      have c8 := (hb68.cell (p := ⟨w.heap.size, 5, none⟩) (cell_lt HCN.out)).trans HCN.out
      have B8 : Below w.heap.size w w8 := HB6.out.trans (hb68.mono HB6.out.size)
      clear ho7 hb7 hb8
      go_wp2_with fail
      refine (held_some w.heap.size ((0 : Nat) : Int) w8 c8).mono ?_
      rintro e w' ⟨rfl, hx3⟩
      obtain rfl : w8 = w' := hx3.symm
      go_wp2_with fail
      refine (lives_calls w8 (tabs_below HT.out B8)).mono ?_
      rintro e w9 ⟨rfl, hb9⟩
      go_wp2
      go_ret
      exact ⟨rfl, B8.trans (hb9.mono B8.size)⟩

set_option maxRecDepth 100000 in
theorem contract (H : Type) (enc : TypeId × Value → H) (W : World) (base : Nat) (args : Array Value) (ds gs : List (DataW H)) (before : List MemPlace)
    (hval : ∀ (j : Nat) t v, Tryd.f3.params[j]? = some t → args[j]? = some v → Value.okWide Tryd.prog W .any base t v)
    (hW : DataW.Whole enc Tryd.prog Tryd.f3.params.toList Rows.utfPiecesSpec.vars false W args.toList ds gs before) (hL : laidMetH Tryd.prog Rows.utfPiecesUptoRow.laid W) (hk : Rows.uptoSmall H (ds ++ gs) = true) :
    Calls Tryd.prog 3 args W fun e W' => ∃ v, e = .returned v ∧ Rows.utfPiecesSpec.post enc Tryd.prog Tryd.f3 false true false false W args v W' := by
  have hW' := hW
  have hlt := hW.lt
  obtain ⟨p, q, hA0, hV, rfl, hfz, hnd⟩ := hW
  have hA : DataW.TrodAll enc Tryd.prog W 0 (fun _ => true) true Tryd.f3.params.toList args.toList ds p := hA0
  rw [Tryd.params3] at hA hval
  obtain ⟨v0, vs0, d0, ds0, p0, q0, hargs, rfl, rfl, h0, r0⟩ := trodAll_cons hA
  obtain ⟨v1, vs1, d1, ds1, p1, q1, rfl, rfl, rfl, h1, r1⟩ := trodAll_cons r0
  obtain ⟨rfl, rfl, rfl⟩ := trodAll_nil r1
  obtain rfl : args = #[v0, v1] := by cases args; simp_all
  obtain ⟨rfl, rfl⟩ := trodVars_none hV
  clear hA0
  simp only [List.append_nil] at hW' hlt hk
  have hbulk := of_decide_eq_true hk
  simp only [Rows.uptoBulkAll] at hbulk
  have e0 := okWide_slice Tryd.underlying22 (hval 0 22 v0 rfl rfl)
  obtain ⟨b0, hb0, l0⟩ := bytes_of_read (by kernel_rfl) e0 h0
  have e1 := okWide_slice Tryd.underlying23 (hval 1 23 v1 rfl rfl)
  obtain ⟨z1, hb1, l1, w1⟩ := ints_of_read Tryd.underlying23 Tryd.underlying3 (by kernel_rfl) e1 h1
  refine (walk W (tabs_of_laid hL) v0 b0 hb0 (by omega) v1 z1 hb1 w1 (by omega)).mono fun e W' ⟨he, hb⟩ => ?_
  subst he
  exact ⟨_, rfl, post_below hW' (fun _ _ _ => trodAll_cons_mk (shut_bool Tryd.underlying4 _) trodAll_mk0) (trodAll_cons_mk (stays (by kernel_rfl) (of_decide_eq_true (by kernel_rfl)) h0 hb (fun x hx => hlt x (by simp [hx]))) (trodAll_cons_mk (stays (by kernel_rfl) (of_decide_eq_true (by kernel_rfl)) h1 hb (fun x hx => hlt x (by simp [hx]))) trodAll_mk0)) rfl hb⟩

set_option maxRecDepth 100000 in
theorem laid_met (os : Os) : laidMet Tryd.prog Rows.utfPiecesUptoRow.laid ((withTabs (World.holding Tryd.prog os ⟨#[], #[], []⟩)).forCall (fun _ _ => 0) ⟨#[], #[Value.slice none 0 0, Value.slice none 0 0], []⟩).memory :=
  laidMet_of_run' 8 (by kernel_rfl) (by kernel_rfl)
set_option maxRecDepth 100000 in
theorem reads (os : Os) {H : Type} (enc : TypeId × Value → H) : ∃ places, DataW.whole enc Tryd.prog ((withTabs (World.holding Tryd.prog os ⟨#[], #[], []⟩)).forCall (fun _ _ => 0) ⟨#[], #[Value.slice none 0 0, Value.slice none 0 0], []⟩).memory Tryd.f3.params.toList Rows.utfPiecesSpec.vars false #[Value.slice none 0 0, Value.slice none 0 0].toList 8 = some ([.nil, .nil], [], places) :=
  ⟨[], by kernel_rfl⟩

set_option maxRecDepth 100000 in
theorem lifted (os : Os) (started : os.Started) (H : Type) (enc : TypeId × Value → H) (F : Stop.Interp) :
    ReturnsInHanded {} Tryd.checked os 3 .any ((Rows.OpenSpec.upto Rows.utfPiecesSpec).preRow enc Tryd.prog Tryd.f3 Rows.utfPiecesUptoRow.domain false Rows.utfPiecesUptoRow.laid) (((Rows.OpenSpec.upto Rows.utfPiecesSpec).at F).post enc Tryd.prog Tryd.f3 false true false false) := by
  obtain ⟨places, hx⟩ := reads os enc
  refine returnsInHanded_of_row (C := Tryd.checked) (s := Rows.OpenSpec.upto Rows.utfPiecesSpec) own started (by kernel_rfl) Tryd.func3
    (witness_row_at (enc := enc) (C := Tryd.checked) false (withTabs (World.holding Tryd.prog os ⟨#[], #[], []⟩)) #[Value.slice none 0 0, Value.slice none 0 0] rfl (by kernel_rfl) (by kernel_rfl) (by kernel_rfl)
      (OpenSpec.preRow_of_cond 8 hx (by kernel_rfl) (fun k hk => by cases hk; kernel_rfl) (by kernel_rfl) (laid_met os))) ?_
  intro W base args ds gs before hval hW _ hcond _ hL _ _
  exact contract H enc W base args ds gs before hval hW hL (hcond _ rfl)

set_option maxRecDepth 100000 in
theorem said : Rows.UtfPiecesUptoSaid :=
  OpenClaim.holds_of_cond 3 Tryd.f3 rfl rfl rfl rfl rfl rfl rfl ⟨rfl, rfl, rfl, rfl, rfl⟩ rfl rfl rfl rfl rfl (by kernel_rfl) Tryd.func3 (by kernel_rfl)
    (of_decide_eq_true (by kernel_rfl)) (by unfold Func.isWrapper; first | (rw [if_pos (by decide +kernel)]; kernel_rfl) | (rw [if_neg (by decide +kernel)]; exact ⟨rfl, rfl⟩))
    (fun os started H enc _ F => by rw [OpenClaim.pre_eq_preRow]; exact lifted os started H enc F)

theorem plain (f : FuncId) (fn : Func) (hf : Tryd.pinned.checked.prog.funcNamed "sieve/sievelaw01.UtfPieces" = some f) (hfn : Tryd.pinned.checked.prog.funcs[f]? = some fn) :
    false = Tryd.pinned.checked.prog.looks [] ∧ ∀ (j : Nat) t, fn.params[j]? = some t → Tryd.pinned.checked.prog.wantsStandIn t = false := by
  obtain rfl : f = 3 := Option.some.inj ((show Tryd.prog.funcNamed "sieve/sievelaw01.UtfPieces" = some 3 by kernel_rfl).symm.trans hf) |>.symm
  obtain rfl : fn = Tryd.f3 := (Option.some.inj (Tryd.func3.symm.trans hfn)).symm
  refine ⟨by kernel_rfl, fun j t ht => ?_⟩
  rw [Tryd.params3] at ht
  have hm := Array.mem_of_getElem? ht
  simp only [List.mem_toArray, List.mem_cons, List.not_mem_nil, or_false] at hm
  rcases hm with rfl | rfl
  · exact (show Tryd.prog.wantsStandIn 22 = false by kernel_rfl)
  · exact (show Tryd.prog.wantsStandIn 23 = false by kernel_rfl)

theorem card : Rows.UtfPiecesUptoCardSaid :=
  Claim7.holds_tied_plain_at .later [] _ _ _ _ said (fun _ h => by cases h) (by kernel_rfl) (fun _ h => by cases h) utfPiecesUpto_row_tie rfl ⟨rfl, rfl⟩ (by kernel_rfl) rfl plain (by kernel_rfl)

end Go.Proofs.YtjhoaepokkaoeaaDoor.UPieces
