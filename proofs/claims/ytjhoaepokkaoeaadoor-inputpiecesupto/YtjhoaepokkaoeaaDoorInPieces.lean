/- What is proved here: the statement InputPieces (a stream that is fed any bytes in any pieces: the cells that are sure, the place of the next one, and behind the end) holds for any bytes and any cuts, where the arguments hold at most 1048576 values together, with no other condition but what the card says of the two tables of unicode/utf8. -/
import Derived.Laws.AppendOwnNone
import Derived.Deep.RegionHeld3
import Derived.Test.YtjhoaepokkaoeaaDoorCards
import Derived.Test.YtjhoaepokkaoeaaDoorTie
import Derived.Test.YtjhoaepokkaoeaaDoorOpen
import Derived.Test.YtjhoaepokkaoeaaDoorIFeed
import Derived.Test.YtjhoaepokkaoeaaDoorIHeld
import Derived.Test.YtjhoaepokkaoeaaDoorISame
import Derived.Test.YtjhoaepokkaoeaaDoorMathL
namespace Go.Proofs.YtjhoaepokkaoeaaDoor.InPieces
open Go.ChangeShapes Go.WideShapes Go.ChangeAt Go.RowKit Go.Shelf U

/-- Cells appended to cells of one's own. -/
theorem append_cells {w : World} {ops : Array Oper} {rest : List Oper} {o : Oper} {a : Act} {Q : Exit → Act → World → Prop} (hgd : o.guard = none) (s x : Operand) (t : TypeId)
    (ho : o.op = .call { callee := .builtin .append, args := #[s, x], argTypes := #[t, t] }) (base base' : Nat) (e : TypeId) (i : TypeInfo) (z : Value) (bytes : Nat) (ht : Tryd.prog.underlying t = some (.slice e)) (hi : Tryd.prog.info? e = some i) (hz : i.zero = some z) (hsize : i.size = 4) (hby : i.bytes = bytes) (hzs : z.cells.size = 4)
    (v : Value) (n : Nat) (xs : List Value) (hs : a.eval s = v) (hown : w.ownsRow base e 4 v n xs) (xv : Value) (l : List Cn) (hx : a.eval x = xv) (hH : w.ownsRow base' e 4 xv l.length (l.flatMap cvs))
    (h63 : n + l.length ≤ maxLen) (hbytes : (n + l.length) * bytes ≤ 140737488355328) (hbase : base ≤ w.heap.size)
    (h : ∀ v' w', w'.ownsRow base e 4 v' (n + l.length) (xs ++ l.flatMap cvs) → w.grownBy w' v.ownBlock → wpList Tryd.prog ops Q rest (a.put o.dst v') w') : wpList Tryd.prog ops Q (o :: rest) a w := by
  have h1 : ∀ u ∈ l.flatMap cvs, u.oneCell' = true := fun u hu => by
    obtain ⟨x, _, hx⟩ := List.mem_flatMap.1 hu
    simp [cvs] at hx
    rcases hx with rfl | rfl | rfl | rfl <;> rfl
  have hfl : (l.flatMap cvs).length = l.length * 4 := hH.1
  rcases hH.2 with ⟨rfl, e0⟩ | ⟨g, cap, cur, rfl, _⟩
  · obtain rfl : l = [] := List.length_eq_zero_iff.1 e0
    exact wpList_append_own_none hgd s x t ho base e i 4 ht hi v n xs hs hown hx (h v w (by simpa using hown) (World.grownBy.refl _ _))
  · exact wpList_append_own _ hgd s x t ho base e i z 4 bytes ht hi hz hsize hby hzs (by decide) v n xs hs hown ⟨g, 0, none⟩ l.length cap (l.flatMap cvs) hx hfl (fun j u hj => by
        rw [add_none, Nat.zero_add, hH.cellAt j (by have := (List.getElem?_eq_some_iff.1 hj).1; rw [hfl] at this; exact this)]; exact hj) h1 h63 hbytes hbase (fun v' w' a b _ => h v' w' a b)

theorem owns_nil_or {W : World} {base : Nat} {e : TypeId} {size : Nat} {v : Value} {n : Nat} {xs : List Value} (h : W.ownsRow base e size v n xs) : v = .slice none 0 0 ∨ ∃ ad len cap, v = .slice (some ad) len cap := by
  rcases h.2 with ⟨rfl, _⟩ | ⟨g, cap, cur, rfl, _⟩
  · exact .inl rfl
  · exact .inr ⟨_, _, _, rfl⟩
/-- Pieces in memory of their own, with the values that hold them. -/
def OwnX (base : Nat) (w : World) (r : Value) (xs : List (Value × List UInt8)) : Prop :=
  w.ownsRow base 22 1 r xs.length (xs.map Prod.fst) ∧ ∀ x ∈ xs, w.ownsRow base 5 1 x.1 x.2.length (bvs x.2)
theorem OwnX.below {base : Nat} {A B : World} {r : Value} {xs : List (Value × List UInt8)} (h : OwnX base A r xs) (hb : Below A.heap.size A B) : OwnX base B r xs := ⟨owns_below h.1 hb, fun x hx => owns_below (h.2 x hx) hb⟩
theorem OwnX.kept {base : Nat} {A B : World} {r : Value} {xs : List (Value × List UInt8)} {row : Option Nat} (h : OwnX base A r xs) (hg : A.grownBy B row) (hne : ∀ (v : Value) e n xs, A.ownsRow base e 1 v n xs → (e = 22 ∨ e = 5) → v.ownBlock = none ∨ v.ownBlock ≠ row) : OwnX base B r xs :=
  ⟨h.1.kept hg (hne _ _ _ _ h.1 (.inl rfl)), fun x hx => (h.2 x hx).kept hg (hne _ _ _ _ (h.2 x hx) (.inr rfl))⟩
theorem OwnX.at {base : Nat} {w : World} {r : Value} {xs : List (Value × List UInt8)} (h : OwnX base w r xs) (k : Nat) (hk : k < xs.length) : ∃ g cap, r = .slice (some ⟨g, 0, none⟩) xs.length cap ∧ xs.length ≤ cap ∧ g < w.heap.size ∧ w.cell? ⟨g, k, none⟩ = some xs[k].1 ∧ HasB w.heap.size w xs[k].1 xs[k].2 ∧ ∃ a c, xs[k].1 = .slice a xs[k].2.length c := by
  rcases h.1.2 with ⟨rfl, e0⟩ | ⟨g, cap, cur, rfl, hb, hg, hcap, _⟩
  · omega
  · have hm := h.2 xs[k] (List.getElem_mem _)
    refine ⟨g, cap, rfl, hcap, lt_of_block hg, ?_, (hasB_owns hm).1, owns_slice hm⟩
    rw [h.1.cellAt k (by omega), List.getElem?_map, List.getElem?_eq_getElem hk, Option.map_some]
theorem OwnX.ne {W : World} {base d : Nat} {e : TypeId} {v : Value} {n : Nat} {xs : List Value} (h : W.ownsRow base e 1 v n xs) (hd : d < base) : v.ownBlock = none ∨ v.ownBlock ≠ some d := by
  cases e' : v.ownBlock with
  | none => exact .inl rfl
  | some j => exact .inr (fun e => by have := (h.lt j e').1; simp at e; omega)
theorem RowB.grown {g N : Nat} {f : Nat → Nat} {w w' : World} {row : Option Nat} (h : RowB g N f w) (hg : w.grownBy w' row) (hne : some g ≠ row) : RowB g N f w' := by
  refine ⟨fun j hj => hg.cell (h.1 j hj) hne, fun j hj => ?_⟩
  have hb := hg.block g (cell_lt (h.1 j hj)) hne
  have := h.2 j hj
  unfold World.frozen? at this ⊢
  rw [show w'.heap[(⟨g, j, none⟩ : Addr).block]? = w.heap[(⟨g, j, none⟩ : Addr).block]? from hb]
  exact this
/-- The first bytes of what came in. -/
theorem hasB_first {n₀ : Nat} {W : World} {a : Option Addr} {A : List UInt8} {c k : Nat} (h : HasB n₀ W (.slice a A.length c) A) (hk : k ≤ A.length) : HasB n₀ W (.slice a k c) (A.take k) := by
  have hl : (A.take k).length = k := by simp; omega
  rcases h with ⟨e, _⟩ | ⟨hp, b, off, cap, e, hcap, hb, hx⟩
  · subst e; obtain rfl : k = 0 := by simpa using hk
    exact .inl ⟨rfl, a, c, rfl⟩
  · simp only [Value.slice.injEq] at e
    obtain ⟨rfl, _, rfl⟩ := e
    by_cases h0 : k = 0
    · subst h0; exact .inl ⟨rfl, _, _, rfl⟩
    · refine .inr ⟨by omega, b, off, c, by rw [hl], by omega, hb, fun j hj => ?_⟩
      rw [hl] at hj
      rw [show byteAt (A.take k) j = byteAt A j from by simp [byteAt, hj]]
      exact hx j (by omega)
/-- What was fed behind k pieces. -/
def fedTo (L : List (List UInt8)) (k : Nat) : List UInt8 := (L.take k).flatten
theorem fedTo_zero (L : List (List UInt8)) : fedTo L 0 = [] := by simp [fedTo]
theorem fedTo_succ (L : List (List UInt8)) (k : Nat) (h : k < L.length) : fedTo L (k + 1) = fedTo L k ++ L[k] := by
  unfold fedTo
  rw [List.take_succ_eq_append_getElem h, List.flatten_append]
  simp
theorem fedTo_all (L : List (List UInt8)) : fedTo L L.length = L.flatten := by simp [fedTo]
theorem fedTo_take (L : List (List UInt8)) (k : Nat) : fedTo L k = L.flatten.take (fedTo L k).length := by
  have e : L.flatten = fedTo L k ++ (L.drop k).flatten := by
    unfold fedTo
    rw [← List.flatten_append, List.take_append_drop]
  rw [e, List.take_append_of_le_length (Nat.le_refl _), List.take_length]
theorem fedTo_le (L : List (List UInt8)) (k : Nat) : (fedTo L k).length ≤ L.flatten.length := by
  have h := congrArg List.length (fedTo_take L k)
  rw [List.length_take] at h
  omega

theorem fold_bounds (fr : Nat) : ∀ (ts : List (Nat × Nat)) (s : Sn), 1 ≤ s.c → (ts.foldl (stepN fr) s).l ≤ s.l + ts.length ∧ (ts.foldl (stepN fr) s).c ≤ s.c + ts.length ∧ 1 ≤ (ts.foldl (stepN fr) s).c
  | [], s, h => ⟨Nat.le_refl _, Nat.le_refl _, h⟩
  | x :: ts, s, h => by
    rw [List.foldl_cons]
    have h1 : 1 ≤ (stepN fr s x).c ∧ (stepN fr s x).l ≤ s.l + 1 ∧ (stepN fr s x).c ≤ s.c + 1 := by
      unfold stepN
      repeat' split
      all_goals simp
      all_goals omega
    have := fold_bounds fr ts (stepN fr s x) h1.1
    simp only [List.length_cons]
    omega
theorem read_bounds (X : List UInt8) : (readN 0 1 1 (toks X)).l ≤ 1 + X.length ∧ 1 ≤ (readN 0 1 1 (toks X)).c ∧ (readN 0 1 1 (toks X)).c ≤ 1 + X.length := by
  have h := fold_bounds 0 (toks X) ⟨0, 0, 1, 1, []⟩ (Nat.le_refl _)
  have h2 := toks_length X
  unfold readN
  simp only at h
  omega
theorem own_ne {W : World} {base d : Nat} {e : TypeId} {size : Nat} {v : Value} {n : Nat} {xs : List Value} (h : W.ownsRow base e size v n xs) (hd : d < base) : v.ownBlock = none ∨ v.ownBlock ≠ some d := by
  cases e' : v.ownBlock with
  | none => exact .inl rfl
  | some j => exact .inr (fun e => by have := (h.lt j e').1; simp at e; omega)
theorem sureI_length (P : List UInt8) : (sureI P).length = cutI P := by have := cutI_le P; simp [sureI]; omega

set_option maxRecDepth 100000 in
set_option maxHeartbeats 4000000 in
theorem walk (w : World) (hT : Lib.Utf8Tabs (Tryd.lays32_ren.g 2) (Tryd.lays32_ren.g 3) w) (v : Value) (bs : List UInt8) (hb : HasB w.heap.size w v bs) (hl : bs.length ≤ 1048576) (v' : Value) (cs : List Int) (hc : HasI .i64 w v' cs) (_ : ∀ z ∈ cs, (Lit.int .i64 z).wf = true) (hm : cs.length ≤ 1048576) :
    Calls Tryd.prog 5 #[v, v'] w fun e w' => e = .returned (.bool true) ∧ Below w.heap.size w w' := by
  obtain ⟨i0, hi, hz0, hz1, hz2⟩ := info_parts infoCell
  obtain ⟨va, vc, rfl, hvc⟩ : ∃ a c, v = .slice a bs.length c ∧ bs.length ≤ c := by
    rcases hb with ⟨rfl, a, cap, rfl⟩ | ⟨hp, b, off, cap, rfl, hcap, _⟩
    · exact ⟨a, cap, rfl, by simp⟩
    · exact ⟨_, cap, rfl, hcap⟩
  have HT : Hid (Lib.Utf8Tabs (Tryd.lays32_ren.g 2) (Tryd.lays32_ren.g 3) w) := hT
  have HB : Hid (HasB w.heap.size w (.slice va bs.length vc) bs) := hb
  have HC : Hid (HasI .i64 w v' cs) := hc
  have hdT : Hid (Tryd.lays32_ren.g 2 < w.heap.size ∧ Tryd.lays32_ren.g 3 < w.heap.size) := ⟨cell_lt (hT.1 0 (by omega)), cell_lt (hT.2 0 (by omega)).1⟩
  clear hT hb hc
  go_enter Tryd.func5, Tryd.ntmps5
  go_wp2_with (go_at_call 22; refine (snew_calls w).mono ?_; rintro e w1 ⟨d, rfl, hD1, hd1, hb1⟩)
  refine (rread_calls _ bs w.heap.size w1 (by omega) (HB.out.below hb1)).mono ?_
  rintro e w1a ⟨al, rfl, hAll, hb1a⟩
  obtain ⟨aa, ac, rfl⟩ := owns_slice hAll
  go_wp2_with fail
  refine (cuts_calls _ _ bs cs w.heap.size w1a (by omega) (by omega) (HB.out.below (hb1.trans (hb1a.mono hb1.size))) (HasI.below (hb1.trans (hb1a.mono hb1.size)) HC.out)).mono ?_
  rintro e w2 ⟨cv, rfl, hOC, hb2⟩
  obtain ⟨L, hL⟩ : ∃ L, cuts bs cs = L := ⟨_, rfl⟩
  have hLl : L.length = cs.length + 1 := by rw [← hL]; exact cuts_length bs cs
  have HLF : Hid (L.flatten = bs) := by rw [← hL]; exact cuts_flat bs cs
  rw [hL] at hOC
  clear hL
  obtain ⟨xs, hx1, hx2, hx3⟩ := hOC
  have hxl : xs.length = L.length := by rw [← hx1]; simp
  have hXC : OwnX w1a.heap.size w2 cv xs := ⟨by rw [hxl]; exact hx2, hx3⟩
  obtain ⟨ca, cc, rfl⟩ := owns_slice hx2
  have s1 := hb1.size
  have s1a := hb1a.size
  have z1 := hD1.lt
  have HD2 : Hid (StrAt w2 d false 0 1 1 []) := (hD1.kept (hb1a.block _ z1)).kept (hb2.block _ (by omega))
  have HOC : Hid (OwnX w1a.heap.size w2 (.slice ca L.length cc) xs) := hXC
  have HX1 : Hid (xs.map Prod.snd = L) := hx1
  have HXL : Hid (xs.length = L.length) := hxl
  have HB2 : Hid (Below w.heap.size w w2) := (hb1.trans (hb1a.mono s1)).trans (hb2.mono (by omega))
  have s2 := hb2.size
  have HA2 : Hid (w2.ownsRow w1.heap.size 62 4 (.slice aa (cellsOf bs).length ac) (cellsOf bs).length ((cellsOf bs).flatMap cvs)) := owns_below hAll hb2
  have HAB : Hid (∀ j, (Value.slice aa (cellsOf bs).length ac).ownBlock = some j → w1.heap.size ≤ j ∧ j < w1a.heap.size) := hAll.lt
  have HLN : Hid (L.length = cs.length + 1) := hLl
  have hLm : (L.length : Int) ≤ 1048577 := by omega
  have hML := cellsOf_len bs
  clear hD1 hb1 hb1a hb2 hXC hx1 hx2 hx3 hxl hLl hAll
  obtain ⟨M, hM⟩ : ∃ M, (cellsOf bs).length = M := ⟨_, rfl⟩
  have HM : Hid ((cellsOf bs).length = M) := hM
  rw [hM] at HA2 HAB hML ⊢
  clear hM
  go_wp2
  go_loopw [7, 8, 10, 11, 12, 13, 14, 15, 16, 32] (fun tv fed _ _ _ _ _ _ _ i wr => ∃ k : Nat, k ≤ L.length ∧ i = .int .i64 k ∧ fed = .int .i64 (fedTo L k).length ∧ Hid (StrAt wr d false (cutI (fedTo L k)) (readN 0 1 1 (toks (sureI (fedTo L k)))).l (readN 0 1 1 (toks (sureI (fedTo L k)))).c (heldI (fedTo L k))) ∧ Hid (OwnX w1a.heap.size wr (.slice ca L.length cc) xs) ∧ Hid (wr.ownsRow w2.heap.size 62 4 tv (cellsOf (sureI (fedTo L k))).length ((cellsOf (sureI (fedTo L k))).flatMap cvs)) ∧ Hid (wr.ownsRow w1.heap.size 62 4 (.slice aa M ac) M ((cellsOf bs).flatMap cvs)) ∧ Hid (Below w.heap.size w wr) ∧ w2.heap.size ≤ wr.heap.size) (fun _ _ _ _ _ _ _ _ _ i _ => L.length - (intOf i).toNat)
  case atStart =>
    refine ⟨0, by omega, rfl, by rw [fedTo_zero]; rfl, ?_, HOC, ?_, HA2, HB2, Nat.le_refl _⟩
    · rw [fedTo_zero]; exact HD2
    · rw [fedTo_zero]
      exact World.ownsRow_nil _ _ _ _
  case round =>
    clear HD2 HOC HB2 HA2
    obtain ⟨k, hk, rfl, rfl, hD, hOC, hO, hAl, hB, hsz⟩ := hrel
    by_cases hlt : k < L.length
    · have hkx : k < xs.length := by have := HXL.out; omega
      obtain ⟨cg, ccap, e0, hcap, hcg, hcc, hpB, pa, pc, hpv⟩ := hOC.out.at k hkx
      simp only [Value.slice.injEq] at e0
      obtain ⟨rfl, hdead, rfl⟩ := e0
      clear hdead
      have HPV : Hid (xs[k].1 = .slice pa xs[k].2.length pc) := hpv
      have HP2 : Hid (xs[k].2 = L[k]) := by
        have : (xs.map Prod.snd)[k]'(by simp; exact hkx) = L[k] := by simp [HX1.out]
        show _ = _
        simpa using this
      rw [hpv, HP2.out] at hcc hpB
      clear hpv
      obtain ⟨P, hP⟩ : ∃ P, fedTo L k = P := ⟨_, rfl⟩
      obtain ⟨c, hcd⟩ : ∃ c, L[k] = c := ⟨_, rfl⟩
      obtain ⟨Q, hQ⟩ : ∃ Q, P ++ c = Q := ⟨_, rfl⟩
      have HQ1 : Hid (fedTo L (k + 1) = Q) := by show _ = _; rw [fedTo_succ L k hlt, hP, hcd, hQ]
      have hQt : Q = bs.take Q.length := by have := fedTo_take L (k + 1); rw [HLF.out, HQ1.out] at this; exact this
      have hQl : Q.length ≤ bs.length := by have := fedTo_le L (k + 1); rw [HLF.out, HQ1.out] at this; exact this
      have hQs : Q.length = P.length + c.length := by rw [← hQ]; simp
      rw [hP] at hD hO
      rw [hcd] at hpB hcc
      obtain ⟨RP, hRP⟩ : ∃ RP, readN 0 1 1 (toks (sureI P)) = RP := ⟨_, rfl⟩
      obtain ⟨RN, hRN⟩ : ∃ RN, readN (cutI P) RP.l RP.c (toks ((heldI P ++ c).take (cutI (heldI P ++ c)))) = RN := ⟨_, rfl⟩
      obtain ⟨CP, hCP⟩ : ∃ CP, cellsOf (sureI P) = CP := ⟨_, rfl⟩
      obtain ⟨CQ, hCQ⟩ : ∃ CQ, cellsOf (sureI Q) = CQ := ⟨_, rfl⟩
      have hfc := feedI_cells P c
      rw [hQ, hRP, hRN, hCP, hCQ] at hfc
      have HCE : Hid (CQ = CP ++ RN.out) := hfc.1
      have HRL : Hid ((readN 0 1 1 (toks (sureI Q))).l = RN.l ∧ (readN 0 1 1 (toks (sureI Q))).c = RN.c) := hfc.2
      have HHQ : Hid ((heldI P ++ c).drop (cutI (heldI P ++ c)) = heldI Q) := by show _ = _; rw [← hQ, feedI_held]
      have HCU : Hid (cutI P + cutI (heldI P ++ c) = cutI Q) := by show _ = _; rw [← hQ]; exact (cut_append P c).symm
      have HRN : Hid (readN (cutI P) RP.l RP.c (toks ((heldI P ++ c).take (cutI (heldI P ++ c)))) = RN) := hRN
      have HCQ : Hid (cellsOf (sureI Q) = CQ) := hCQ
      have hbP := read_bounds (sureI P)
      rw [hRP, sureI_length] at hbP
      have hcP := cutI_le P
      rw [hRP] at hD
      rw [hCP] at hO
      have hCQl : CQ.length ≤ Q.length := by have h1 := cellsOf_len (sureI Q); rw [hCQ, sureI_length] at h1; have := cutI_le Q; omega
      have HCS : Hid (CQ.length = CP.length + RN.out.length) := by show _ = _; rw [HCE.out, List.length_append]
      have HQT : Hid (Q = bs.take Q.length) := hQt
      have HSU : Hid (sureI Q = bs.take (cutI Q)) := by
        show _ = _
        have h1 : sureI Q = Q.take (cutI Q) := rfl
        have e : Q.take (cutI Q) = (bs.take Q.length).take (cutI Q) := congrArg (fun X => X.take (cutI Q)) hQt
        rw [h1, e, List.take_take, Nat.min_eq_left (cutI_le Q)]
      have HFE : Hid (((P.length : Int) + (c.length : Int)) = (Q.length : Int)) := by show _ = _; omega
      have hP0 : (fedTo L k).length = P.length := by rw [hP]
      have HCK : Hid (L[k] = c) := hcd
      rw [hP0]
      have HREST : Hid (∃ Y, cellsOf bs = CQ ++ (readN (cutI Q) RN.l RN.c (toks Y)).out) := by
        have e : bs = Q ++ (L.drop (k + 1)).flatten := by
          have h1 : L.flatten = (L.take (k + 1)).flatten ++ (L.drop (k + 1)).flatten := by rw [← List.flatten_append, List.take_append_drop]
          rw [← HLF.out, h1]
          exact congrArg (· ++ _) HQ1.out
        have h2 := restI_cells Q (L.drop (k + 1)).flatten
        rw [← e, HRL.out.1, HRL.out.2, hCQ] at h2
        exact ⟨_, h2⟩
      have HQS : Hid (Q.length = P.length + c.length) := hQs
      have hPQ : P.length ≤ Q.length := by omega
      have hcQ : c.length ≤ Q.length := by omega
      have hPc : (P.length : Int) + (c.length : Int) ≤ 1048576 := by omega
      have HBP : Hid (cutI P ≤ 1048576 ∧ RP.l ≤ 1048577 ∧ 1 ≤ RP.c ∧ RP.c ≤ 1048577) := by refine ⟨?_, ?_, ?_, ?_⟩ <;> omega
      clear hQt hQ hfc hRN hCQ hRP hCP hP hcd hQs hP0 hbP hcP
      have hsz0 := hB.out.size
      go_wp2_with fail
      refine (lend_calls _ c wr.heap.size wr (by omega) hpB).mono ?_
      rintro e w3 ⟨rfl, hrow, hb3⟩
      have s3 := hb3.size
      have hg3 : wr.heap.size < w3.heap.size := cell_lt (hrow.1 0 (by omega))
      have B3 : Below w.heap.size w w3 := hB.out.trans (hb3.mono hsz0)
      have hdw := hD.out.lt
      have D3 := hD.out.kept (hb3.block _ hdw)
      have C3 : OwnX w1a.heap.size w3 (.slice (some ⟨cg, 0, none⟩) L.length cc) xs := hOC.out.below hb3
      have O3 := owns_below hO.out hb3
      have A3 := owns_below hAl.out hb3
      go_wp2_with fail
      refine (sfeed_calls d (cutI P) RP.l RP.c (heldI P) c wr.heap.size 2 (c.length + 2) w3 D3 (by omega) (by have := HBP.out; omega) (by have := HBP.out; omega) (by have := HBP.out; omega) (fun j hj => by
          rw [hrow.1 (2 + j) (by omega), byteAt_lent c _ (by omega), if_pos (by omega), show 2 + j - 2 = j by omega]) (tabs_below HT.out B3) ⟨Nat.lt_of_lt_of_le hdT.out.1 hd1, Nat.lt_of_lt_of_le hdT.out.2 hd1⟩).mono ?_
      rintro e w4 ⟨v4, rfl, ho4, hD4, hg4⟩
      rw [HHQ.out, HCU.out, HRN.out] at hD4
      rw [HRN.out] at ho4
      have hd2 : d < w1.heap.size := z1
      have s4 := hg4.size
      have B4 : Below w.heap.size w w4 := B3.grown hg4 B3.size (fun j hj => by cases hj; exact hd1)
      have O4 := O3.kept hg4 (own_ne O3 (by omega))
      have A4 := A3.kept hg4 (own_ne A3 (by omega))
      have C4 : OwnX w1a.heap.size w4 (.slice (some ⟨cg, 0, none⟩) L.length cc) xs := C3.kept hg4 (fun v e n xs h _ => own_ne h (by omega))
      have R4 := RowB.grown hrow hg4 (by simp; omega)
      have HO4 : Hid (w4.ownsRow w2.heap.size 62 4 u7 CP.length (CP.flatMap cvs)) := O4
      have HA4 : Hid (w4.ownsRow w1.heap.size 62 4 (.slice aa M ac) M ((cellsOf bs).flatMap cvs)) := A4
      have Ho4 : Hid (w4.ownsRow w3.heap.size 62 4 v4 RN.out.length (RN.out.flatMap cvs)) := ho4
      have HD4 : Hid (StrAt w4 d false (cutI Q) RN.l RN.c (heldI Q)) := hD4
      have HC4 : Hid (OwnX w1a.heap.size w4 (.slice (some ⟨cg, 0, none⟩) L.length cc) xs) := C4
      have HR4 : Hid (RowB wr.heap.size (c.length + 4) (byteAt (lent c)) w4) := R4
      have HB4 : Hid (Below w.heap.size w w4) := B4
      have HU7 : Hid (∀ j, u7.ownBlock = some j → w2.heap.size ≤ j ∧ j < wr.heap.size) := hO.out.lt
      have hw14 : w2.heap.size ≤ w4.heap.size := by omega
      clear hrow hb3 B3 D3 C3 O3 A3 ho4 hD4 hg4 B4 O4 A4 C4 R4 hpB hcc hD hOC hO hB hAl
      go_wp2_with (first
        | (at_builtin; refine append_cells rfl _ _ 53 rfl w2.heap.size w3.heap.size 62 i0 _ 32 Tryd.underlying53 hi hz0 hz1 hz2 rfl u7 _ _ rfl HO4.out v4 RN.out rfl Ho4.out (by have := HCS.out; unfold maxLen; omega) (by have := HCS.out; omega) hw14 ?_; intro v5 w5 ho5 hg5; rw [HFE.out])
        | fail)
      have B5 : Below w.heap.size w w5 := HB4.out.grown hg5 HB4.out.size (fun j hj => by have := (HO4.out.lt j hj).1; omega)
      have hR5 : CP.length + RN.out.length = CQ.length := HCS.out.symm
      rw [hR5, ← List.flatMap_append, ← HCE.out] at ho5
      have D5 : StrAt w5 d false (cutI Q) RN.l RN.c (heldI Q) := HD4.out.kept (hg5.block _ HD4.out.lt (fun e => by have := (HO4.out.lt _ e.symm).1; omega))
      have C5 : OwnX w1a.heap.size w5 (.slice (some ⟨cg, 0, none⟩) L.length cc) xs := HC4.out.kept hg5 (fun v e n ys h he => by rcases he with rfl | rfl <;> exact owns_apart h HO4.out (by decide))
      have A5 : w5.ownsRow w1.heap.size 62 4 (.slice aa M ac) M ((cellsOf bs).flatMap cvs) := HA4.out.kept hg5 (by
        cases e : (Value.slice aa M ac).ownBlock with
        | none => exact .inl rfl
        | some j => exact .inr (fun e' => by have h1 := (HAB.out j e).2; have h2 := (HU7.out j e'.symm).1; omega))
      have R5 := RowB.grown HR4.out hg5 (fun e => by have := (HU7.out _ e.symm).2; omega)
      have s5 := hg5.size
      obtain ⟨ta, tc, rfl⟩ := owns_slice ho5
      have HO5 : Hid (w5.ownsRow w2.heap.size 62 4 (.slice ta CQ.length tc) CQ.length (CQ.flatMap cvs)) := ho5
      clear ho5 hg5 hR5 HO4 Ho4 HD4 HC4 HR4 HB4 HA4
      have HB5 : Hid (Below w.heap.size w w5) := B5
      have HD5 : Hid (StrAt w5 d false (cutI Q) RN.l RN.c (heldI Q)) := D5
      have HC5 : Hid (OwnX w1a.heap.size w5 (.slice (some ⟨cg, 0, none⟩) L.length cc) xs) := C5
      have HA5 : Hid (w5.ownsRow w1.heap.size 62 4 (.slice aa M ac) M ((cellsOf bs).flatMap cvs)) := A5
      have HR5 : Hid (RowB wr.heap.size (c.length + 4) (byteAt (lent c)) w5) := R5
      clear B5 D5 C5 R5 A5
      have HQH : Hid (∀ W, Below w.heap.size w W → HasB w.heap.size W (.slice va Q.length vc) Q) := fun W hW => by have h := hasB_first (HB.out.below hW) hQl; rw [← HQT.out] at h; exact h
      have hdoc := doc_cut Q
      have htq3 := (tail_le Q).2
      obtain ⟨tq, htt⟩ : ∃ tq, tailN Q = tq := ⟨_, rfl⟩
      have HTQ : Hid (tailN Q = tq) := htt
      obtain ⟨hn, hhn⟩ : ∃ hn, heldN Q = hn := ⟨_, rfl⟩
      have HHN : Hid (heldN Q = hn) := hhn
      obtain ⟨q, hq⟩ : ∃ q, cutI Q = q := ⟨_, rfl⟩
      have HCT : Hid (cutI Q = q) := hq
      rw [hq] at hdoc
      unfold docN at hdoc
      rw [htt, hhn] at hdoc
      rw [htt] at htq3
      have HDOC : Hid (Q.length - (if crN Q tq = true then tq + 1 else hn) = q ∧ (if crN Q tq = true then tq + 1 else hn) ≤ Q.length) := hdoc
      clear htt hhn hq hdoc
      refine (lheld_calls va vc Q w.heap.size w5 (by omega) HB5.out.size (HQH.out _ HB5.out)).mono ?_
      rintro e w6 ⟨rfl, hb6⟩
      rw [HHN.out]
      have s6 := hb6.size
      have HB6 : Hid (Below w.heap.size w w6) := HB5.out.trans (hb6.mono HB5.out.size)
      have HB6d : Hid (Below w.heap.size w w6.drew) := HB6.out.drew
      have hQvc : (Q.length : Int) ≤ (vc : Int) := by omega
      have hQ0 : (0 : Int) ≤ (Q.length : Int) := by omega
      go_wp2_with fail
      go_region_with (first
        | (go_at_call 10; refine (rtail_calls _ Q w.heap.size w6.drew (by omega) (HQH.out _ HB6d.out)).mono ?_; rintro e w7 ⟨rfl, hb7⟩; rw [HTQ.out]; have s7 := hb7.size; have HB7 : Hid (Below w.heap.size w w7) := HB6d.out.trans (hb7.mono HB6d.out.size))
        | (go_at_call 26; refine (cr_calls va vc Q w.heap.size tq w7 (by omega) (by omega) (HQH.out _ HB7.out)).mono ?_; rintro e w8 ⟨rfl, hb8⟩))
      have s8 := hb8.size
      have HB8 : Hid (Below w.heap.size w w8) := HB7.out.trans (hb8.mono HB7.out.size)
      have s7' : w6.heap.size ≤ w7.heap.size := s7
      have HS8 : Hid (Below w5.heap.size w5 w8) := (hb6.drew.trans (hb7.mono s6)).trans (hb8.mono (by omega))
      clear hb6 hb7 hb8 HB6 HB7
      cases hcr : crN Q tq
      case' false =>
        rw [hcr] at HDOC
        simp only [Bool.false_eq_true, if_false] at HDOC
        have hnq : (Q.length : Int) - (hn : Int) = (q : Int) := by have := HDOC.out; omega
        have hqQ : (q : Int) ≤ (bs.length : Int) := by have := HDOC.out; omega
        go_wp2_with fail
        obtain ⟨w9, h9⟩ : ∃ w9, w9 = w8 := ⟨_, rfl⟩
        subst h9
        have HB9 := HB8
        have HS9 := HS8
        clear hnq HB8 HS8 HDOC hcr
      case' true =>
        rw [hcr] at HDOC
        simp only [if_true] at HDOC
        have hnq : (Q.length : Int) - ((tq : Int) + 1) = (q : Int) := by have := HDOC.out; omega
        have hqQ : (q : Int) ≤ (bs.length : Int) := by have := HDOC.out; omega
        go_wp2_with fail
        refine (rtail_calls _ Q w.heap.size w8 (by omega) (HQH.out _ HB8.out)).mono ?_
        rintro e w9 ⟨rfl, hb9⟩
        rw [HTQ.out]
        have s9 := hb9.size
        go_wp2_with fail
        have HB9 : Hid (Below w.heap.size w w9) := HB8.out.trans (hb9.mono HB8.out.size)
        have HS9 : Hid (Below w5.heap.size w5 w9) := HS8.out.trans (hb9.mono HS8.out.size)
        clear hnq HB8 HS8 HDOC hcr hb9
      all_goals
        refine (rread_calls _ (sureI Q) w.heap.size w9 (by rw [sureI_length, HCT.out]; omega) (by have h := hasB_first (HB.out.below HB9.out) (show q ≤ bs.length by omega); rw [← HCT.out, ← HSU.out, HCT.out] at h; exact h)).mono ?_
        rintro e w10 ⟨wv, rfl, ho10, hb10⟩
        rw [HCQ.out] at ho10
        have s9' := HS9.out.size
        have s10 := hb10.size
        have HO10 : Hid (w10.ownsRow w9.heap.size 62 4 wv CQ.length (CQ.flatMap cvs)) := ho10
        have HT10 : Hid (w10.ownsRow w2.heap.size 62 4 (.slice ta CQ.length tc) CQ.length (CQ.flatMap cvs)) := owns_below (owns_below HO5.out HS9.out) hb10
        have hb510 : Below w5.heap.size w5 w10 := HS9.out.trans (hb10.mono s9')
        clear ho10 hb10
        go_wp2_with fail
        refine (csame_calls _ _ _ _ CQ w10 (by omega) HT10.out HO10.out).mono ?_
        rintro e w11 ⟨rfl, hb11⟩
        have hb511 : Below w5.heap.size w5 w11 := hb510.trans (hb11.mono hb510.size)
        have C11 := HC5.out.below hb511
        have R11 := HR5.out.below hb511 (by omega)
        have p11 : HasB w11.heap.size w11 (.slice pa c.length pc) c := by
          have h := (hasB_owns (C11.2 xs[k] (List.getElem_mem _))).1
          rw [HPV.out, HP2.out, HCK.out] at h
          exact h
        go_wp2_with fail
        refine (kept_calls _ c w11.heap.size wr.heap.size w11 (by omega) p11 R11).mono ?_
        rintro e w12 ⟨rfl, hb12⟩
        have hb512 : Below w5.heap.size w5 w12 := hb511.trans (hb12.mono hb511.size)
        have D12 := HD5.out.kept (hb512.block _ HD5.out.lt)
        rw [HCT.out] at D12
        have A12 := owns_below HA5.out hb512
        have s12 := hb512.size
        have HB512 : Hid (Below w5.heap.size w5 w12) := hb512
        clear hb510 hb511 hb11 hb12 C11 R11 p11 HR5 HO10 HT10 hb512
        have HA12 : Hid (w12.ownsRow w1.heap.size 62 4 (.slice aa M ac) M ((cellsOf bs).flatMap cvs)) := A12
        clear A12
        have HSP : Hid (SpotAt w12 d (q : Int) (RN.l : Int) (RN.c : Int)) := D12.spot.1
        have HD12 : Hid (StrAt w12 d false q RN.l RN.c (heldI Q)) := D12
        clear D12
        by_cases hmM : CQ.length < M
        case' pos =>
          have hlen : CQ.length < (cellsOf bs).length := by rw [HM.out]; exact hmM
          have hNX : (cellsOf bs)[CQ.length].y = q ∧ (cellsOf bs)[CQ.length].l = RN.l ∧ (cellsOf bs)[CQ.length].c = RN.c := by
            obtain ⟨Y, hY⟩ := HREST.out
            have h1 : (cellsOf bs)[CQ.length]? = (readN (cutI Q) RN.l RN.c (toks Y)).out.head? := by rw [hY, List.getElem?_append_right (Nat.le_refl _), Nat.sub_self, List.head?_eq_getElem?]
            rw [List.getElem?_eq_getElem hlen] at h1
            have := first_cell (cutI Q) RN.l RN.c Y _ h1.symm
            rw [HCT.out] at this
            exact this
          obtain ⟨g, eg, hgb, hgl, c0, c1, c2, c3⟩ := owns_cell (l := cellsOf bs) (a := aa) (cap := ac) (by rw [HM.out]; exact HA12.out) CQ.length hlen
          rw [hNX.1] at c1
          rw [hNX.2.1] at c2
          rw [hNX.2.2] at c3
          clear hNX hlen c0
          subst eg
          have hmI : (CQ.length : Int) < (M : Int) := by omega
          have hm0 : (0 : Int) ≤ (CQ.length : Int) := by omega
          have HSPd : Hid (SpotAt w12.drew d (q : Int) (RN.l : Int) (RN.c : Int)) := ⟨HSP.out.c0, HSP.out.c1, HSP.out.c2, HSP.out.fz⟩
          go_wp2_with fail
          go_region_held3 (fun w' => w'.cell? ⟨g, CQ.length * 4 + 1, none⟩ = some (.int .i64 (q : Int)) ∧ w'.cell? ⟨g, CQ.length * 4 + 2, none⟩ = some (.int .i64 (RN.l : Int)) ∧ w'.cell? ⟨g, CQ.length * 4 + 3, none⟩ = some (.int .i64 (RN.c : Int)))
            (first | exact ⟨c1, c2, c3⟩ | exact ⟨k1, k2, k3⟩ | go_keep)
            (first | (go_at_call 28; refine (place_some d _ _ _ w12.drew HSPd.out).mono ?_; rintro e w13 ⟨rfl, hw13⟩; have hb13 : Below w12.heap.size w12 w13 := (by rw [hw13]; exact (Below.refl _ w12).drew.alloc (Nat.le_refl _) _); clear hw13; have k1 := (hb13.cell (p := ⟨g, CQ.length * 4 + 1, none⟩) hgl).trans c1; have k2 := (hb13.cell (p := ⟨g, CQ.length * 4 + 2, none⟩) hgl).trans c2; have k3 := (hb13.cell (p := ⟨g, CQ.length * 4 + 3, none⟩) hgl).trans c3))
          have hb513 : Below w5.heap.size w5 w13 := HB512.out.trans (hb13.mono s12)
          clear k1 k2 k3 c1 c2 c3 hb13 HSPd HSP hmI hm0
        case' neg =>
          have hmI : ¬ (CQ.length : Int) < (M : Int) := by omega
          go_wp2_with fail
          clear HSP
          go_quiet (fail)
          have hb513 : Below w5.heap.size w5 (w12.drewN nq) := HB512.out.trans ⟨rfl, rfl, rfl, Nat.le_refl _, fun _ _ => rfl⟩
          obtain ⟨w13, h13⟩ : ∃ w13, w13 = w12.drewN nq := ⟨_, rfl⟩
          rw [← h13] at hb513 ⊢
          clear h13 hmI
        all_goals
          have HR : Hid (StrAt w13 d false (cutI (fedTo L (k + 1))) (readN 0 1 1 (toks (sureI (fedTo L (k + 1))))).l (readN 0 1 1 (toks (sureI (fedTo L (k + 1))))).c (heldI (fedTo L (k + 1)))) := by rw [HQ1.out, HRL.out.1, HRL.out.2]; exact HD5.out.kept (hb513.block _ HD5.out.lt)
          have HRc : Hid (OwnX w1a.heap.size w13 (.slice (some ⟨cg, 0, none⟩) L.length cc) xs) := HC5.out.below hb513
          have HRo : Hid (w13.ownsRow w2.heap.size 62 4 (.slice ta CQ.length tc) (cellsOf (sureI (fedTo L (k + 1)))).length ((cellsOf (sureI (fedTo L (k + 1)))).flatMap cvs)) := by rw [HQ1.out, HCQ.out]; exact owns_below HO5.out hb513
          have HRa := owns_below HA5.out hb513
          have HRA : Hid (w13.ownsRow w1.heap.size 62 4 _ M ((cellsOf bs).flatMap cvs)) := HRa
          have HRb : Hid (Below w.heap.size w w13) := HB5.out.trans (hb513.mono HB5.out.size)
          have hsz13 : w2.heap.size ≤ w13.heap.size := by have := hb513.size; omega
          have HQL : Hid ((fedTo L (k + 1)).length = Q.length) := by rw [HQ1.out]; rfl
          clear hb513 HB512 HA12 HD12 HC5 HD5 HB5 HO5 HA5 HRa HS9 HB9
          go_wp2
          go_roundw
          case rel => exact ⟨k + 1, by omega, by go_num, by rw [HQL.out], HR, HRc, HRo, HRA, HRb, hsz13⟩
          case measure => simp [intOf]; omega
    · obtain rfl : k = L.length := by omega
      have HF : Hid (fedTo L L.length = bs) := by show _ = _; rw [fedTo_all]; exact HLF.out
      rw [HF.out] at hD hO
      have hsz0 := hB.out.size
      have hdw := hD.out.lt
      have hd2 : d < w1.heap.size := z1
      obtain ⟨RP, hRP⟩ : ∃ RP, readN 0 1 1 (toks (sureI bs)) = RP := ⟨_, rfl⟩
      obtain ⟨RE, hRE⟩ : ∃ RE, readN (cutI bs) RP.l RP.c (toks (heldI bs)) = RE := ⟨_, rfl⟩
      obtain ⟨CP, hCP⟩ : ∃ CP, cellsOf (sureI bs) = CP := ⟨_, rfl⟩
      obtain ⟨CA, hCA⟩ : ∃ CA, cellsOf bs = CA := ⟨_, rfl⟩
      have hrest := restI_cells bs []
      rw [List.append_nil, List.append_nil, hRP, hRE, hCP, hCA] at hrest
      have HCE : Hid (CA = CP ++ RE.out) := hrest
      have HCS : Hid (CA.length = CP.length + RE.out.length) := by show _ = _; rw [HCE.out, List.length_append]
      have HRE : Hid (readN (cutI bs) RP.l RP.c (toks (heldI bs)) = RE) := hRE
      have hbP := read_bounds (sureI bs)
      have hcb := cutI_le bs
      rw [hRP, sureI_length] at hbP
      rw [hRP] at hD
      rw [hCP] at hO
      rw [hCA] at hAl
      have HMA : Hid (CA.length = M) := by rw [← hCA]; exact HM.out
      have HU7 : Hid (∀ j, u7.ownBlock = some j → w2.heap.size ≤ j ∧ j < wr.heap.size) := hO.out.lt
      clear hrest hRE hCP hCA hRP
      rw [HF.out]
      go_wp2_with fail
      refine (send_calls d (cutI bs) RP.l RP.c (heldI bs) wr hD.out (by omega) (by omega) (by omega) (tabs_below HT.out hB.out) ⟨Nat.lt_of_lt_of_le hdT.out.1 hd1, Nat.lt_of_lt_of_le hdT.out.2 hd1⟩).mono ?_
      rintro e w3 ⟨v3, rfl, ho3, hD3, hg3⟩
      rw [HRE.out] at ho3 hD3
      have s3 := hg3.size
      have HB3 : Hid (Below w.heap.size w w3) := hB.out.grown hg3 hsz0 (fun j hj => by cases hj; exact hd1)
      have HO3 : Hid (w3.ownsRow w2.heap.size 62 4 u7 CP.length (CP.flatMap cvs)) := hO.out.kept hg3 (own_ne hO.out (by omega))
      have HA3 : Hid (w3.ownsRow w1.heap.size 62 4 (.slice aa M ac) M (CA.flatMap cvs)) := hAl.out.kept hg3 (own_ne hAl.out (by omega))
      have Ho3 : Hid (w3.ownsRow wr.heap.size 62 4 v3 RE.out.length (RE.out.flatMap cvs)) := ho3
      have HD3 : Hid (StrAt w3 d true (cutI bs + (heldI bs).length) RE.l RE.c []) := hD3
      have hw13 : w2.heap.size ≤ w3.heap.size := by omega
      clear ho3 hD3 hg3 hD hOC hO hB hAl
      go_wp2_with (first
        | (at_builtin; refine append_cells rfl _ _ 53 rfl w2.heap.size wr.heap.size 62 i0 _ 32 Tryd.underlying53 hi hz0 hz1 hz2 rfl u7 _ _ rfl HO3.out v3 RE.out rfl Ho3.out (by have := HCS.out; have := HMA.out; unfold maxLen; omega) (by have := HCS.out; have := HMA.out; omega) hw13 ?_; intro v5 w5 ho5 hg5)
        | fail)
      have s5 := hg5.size
      have B5 : Below w.heap.size w w5 := HB3.out.grown hg5 HB3.out.size (fun j hj => by have := (HO3.out.lt j hj).1; omega)
      have hR5 : CP.length + RE.out.length = CA.length := HCS.out.symm
      rw [hR5, ← List.flatMap_append, ← HCE.out] at ho5
      have D5 := HD3.out.kept (hg5.block _ HD3.out.lt (fun e => by have := (HO3.out.lt _ e.symm).1; omega))
      have A5 : w5.ownsRow w1.heap.size 62 4 (.slice aa M ac) M (CA.flatMap cvs) := HA3.out.kept hg5 (by
        cases e : (Value.slice aa M ac).ownBlock with
        | none => exact .inl rfl
        | some j => exact .inr (fun e' => by have h1 := (HAB.out j e).2; have h2 := (HU7.out j e'.symm).1; omega))
      have hdl5 := D5.lt
      obtain ⟨W6, hW6⟩ : ∃ W6, w5.alloc (.cells #[.int .u8 65] 5) = W6 := ⟨_, rfl⟩
      have b6 : Below w5.heap.size w5 W6 := by rw [← hW6]; exact (Below.refl _ w5).alloc (Nat.le_refl _) _
      have D6 := D5.kept (b6.block _ hdl5)
      have HO6 : Hid (W6.ownsRow w2.heap.size 62 4 v5 CA.length (CA.flatMap cvs)) := owns_below ho5 b6
      have HA6 : Hid (W6.ownsRow w1.heap.size 62 4 (.slice aa M ac) CA.length (CA.flatMap cvs)) := by rw [HMA.out]; exact owns_below A5 b6
      have HB6 : Hid (Below w.heap.size w W6) := B5.trans (b6.mono B5.size)
      obtain ⟨g0, g1, g2, g3, hg6, _, _⟩ := D6
      have cm := (cell_heap hg6 3).trans rfl
      have co := (cell_heap hg6 4).trans rfl
      simp only [List.getElem?_cons_zero, List.getElem?_cons_succ] at cm co
      have hst : Hid (∀ w', w' = W6 → Calls Tryd.prog 43 #[.pointer (some ⟨d, 0, none⟩)] w' fun e w' => e = .returned (.int .i64 3) ∧ w' = W6) := fun w' e => by subst e; exact sstate_over _ _ cm co
      clear ho5 hg5 hR5 B5 D5 A5 b6 hg6 HO3 Ho3 HD3 HB3 HA3 cm co
      try rw [hW6]
      clear hW6
      go_wp2_with fail
      refine (sfeed_err (some ⟨d, 0, none⟩) _ 3 W6 (by decide) hst.out).mono ?_
      rintro e w' ⟨rfl, hx'⟩
      obtain rfl : W6 = w' := hx'.symm
      go_wp2_with fail
      refine (send_err (some ⟨d, 0, none⟩) 3 W6 (by decide) hst.out).mono ?_
      rintro e w' ⟨rfl, hx''⟩
      obtain rfl : W6 = w' := hx''.symm
      go_wp2_with fail
      refine (csame_calls _ _ _ _ CA W6 (by have := HMA.out; omega) HO6.out HA6.out).mono ?_
      rintro e w7 ⟨rfl, hb7⟩
      have B7 : Below w.heap.size w w7 := HB6.out.trans (hb7.mono HB6.out.size)
      go_wp2_with fail
      refine (ilives_calls w7 (tabs_below HT.out B7)).mono ?_
      rintro e w9 ⟨rfl, hb9⟩
      go_wp2
      go_ret
      exact ⟨rfl, B7.trans (hb9.mono B7.size)⟩

set_option maxRecDepth 100000 in
theorem contract (H : Type) (enc : TypeId × Value → H) (W : World) (base : Nat) (args : Array Value) (ds gs : List (DataW H)) (before : List MemPlace)
    (hval : ∀ (j : Nat) t v, Tryd.f5.params[j]? = some t → args[j]? = some v → Value.okWide Tryd.prog W .any base t v)
    (hW : DataW.Whole enc Tryd.prog Tryd.f5.params.toList Rows.inputPiecesSpec.vars false W args.toList ds gs before) (hL : laidMetH Tryd.prog Rows.inputPiecesUptoRow.laid W) (hk : Rows.uptoSmall H (ds ++ gs) = true) :
    Calls Tryd.prog 5 args W fun e W' => ∃ v, e = .returned v ∧ Rows.inputPiecesSpec.post enc Tryd.prog Tryd.f5 false true false false W args v W' := by
  have hW' := hW
  have hlt := hW.lt
  obtain ⟨p, q, hA0, hV, rfl, hfz, hnd⟩ := hW
  have hA : DataW.TrodAll enc Tryd.prog W 0 (fun _ => true) true Tryd.f5.params.toList args.toList ds p := hA0
  rw [Tryd.params5] at hA hval
  obtain ⟨v0, vs0, d0, ds0, p0, q0, hargs, rfl, rfl, h0, r0⟩ := trodAll_cons hA
  obtain ⟨v1, vs1, d1, ds1, p1, q1, rfl, rfl, rfl, h1, r1⟩ := trodAll_cons r0
  obtain ⟨rfl, rfl, rfl⟩ := trodAll_nil r1
  obtain rfl : args = #[v0, v1] := by cases args; simp_all
  obtain ⟨rfl, rfl⟩ := trodVars_none hV
  clear hA0
  simp only [List.append_nil] at hW' hlt hk
  have hbulk := of_decide_eq_true hk
  simp only [Rows.uptoBulkAll] at hbulk
  have e0 := okWide_slice Tryd.underlying22 (hval 0 22 v0 rfl rfl)
  obtain ⟨b0, hb0, l0⟩ := bytes_of_read (by kernel_rfl) e0 h0
  have e1 := okWide_slice Tryd.underlying23 (hval 1 23 v1 rfl rfl)
  obtain ⟨z1, hb1, l1, w1⟩ := ints_of_read Tryd.underlying23 Tryd.underlying3 (by kernel_rfl) e1 h1
  refine (walk W (tabs_of_laid hL) v0 b0 hb0 (by omega) v1 z1 hb1 w1 (by omega)).mono fun e W' ⟨he, hb⟩ => ?_
  subst he
  exact ⟨_, rfl, post_below hW' (fun _ _ _ => trodAll_cons_mk (shut_bool Tryd.underlying4 _) trodAll_mk0) (trodAll_cons_mk (stays (by kernel_rfl) (of_decide_eq_true (by kernel_rfl)) h0 hb (fun x hx => hlt x (by simp [hx]))) (trodAll_cons_mk (stays (by kernel_rfl) (of_decide_eq_true (by kernel_rfl)) h1 hb (fun x hx => hlt x (by simp [hx]))) trodAll_mk0)) rfl hb⟩

set_option maxRecDepth 100000 in
theorem laid_met (os : Os) : laidMet Tryd.prog Rows.inputPiecesUptoRow.laid ((withTabs (World.holding Tryd.prog os ⟨#[], #[], []⟩)).forCall (fun _ _ => 0) ⟨#[], #[Value.slice none 0 0, Value.slice none 0 0], []⟩).memory :=
  laidMet_of_run' 8 (by kernel_rfl) (by kernel_rfl)
set_option maxRecDepth 100000 in
theorem reads (os : Os) {H : Type} (enc : TypeId × Value → H) : ∃ places, DataW.whole enc Tryd.prog ((withTabs (World.holding Tryd.prog os ⟨#[], #[], []⟩)).forCall (fun _ _ => 0) ⟨#[], #[Value.slice none 0 0, Value.slice none 0 0], []⟩).memory Tryd.f5.params.toList Rows.inputPiecesSpec.vars false #[Value.slice none 0 0, Value.slice none 0 0].toList 8 = some ([.nil, .nil], [], places) :=
  ⟨[], by kernel_rfl⟩

set_option maxRecDepth 100000 in
theorem lifted (os : Os) (started : os.Started) (H : Type) (enc : TypeId × Value → H) (F : Stop.Interp) :
    ReturnsInHanded {} Tryd.checked os 5 .any ((Rows.OpenSpec.upto Rows.inputPiecesSpec).preRow enc Tryd.prog Tryd.f5 Rows.inputPiecesUptoRow.domain false Rows.inputPiecesUptoRow.laid) (((Rows.OpenSpec.upto Rows.inputPiecesSpec).at F).post enc Tryd.prog Tryd.f5 false true false false) := by
  obtain ⟨places, hx⟩ := reads os enc
  refine returnsInHanded_of_row (C := Tryd.checked) (s := Rows.OpenSpec.upto Rows.inputPiecesSpec) own started (by kernel_rfl) Tryd.func5
    (witness_row_at (enc := enc) (C := Tryd.checked) false (withTabs (World.holding Tryd.prog os ⟨#[], #[], []⟩)) #[Value.slice none 0 0, Value.slice none 0 0] rfl (by kernel_rfl) (by kernel_rfl) (by kernel_rfl)
      (OpenSpec.preRow_of_cond 8 hx (by kernel_rfl) (fun k hk => by cases hk; kernel_rfl) (by kernel_rfl) (laid_met os))) ?_
  intro W base args ds gs before hval hW _ hcond _ hL _ _
  exact contract H enc W base args ds gs before hval hW hL (hcond _ rfl)

set_option maxRecDepth 100000 in
theorem said : Rows.InputPiecesUptoSaid :=
  OpenClaim.holds_of_cond 5 Tryd.f5 rfl rfl rfl rfl rfl rfl rfl ⟨rfl, rfl, rfl, rfl, rfl⟩ rfl rfl rfl rfl rfl (by kernel_rfl) Tryd.func5 (by kernel_rfl)
    (of_decide_eq_true (by kernel_rfl)) (by unfold Func.isWrapper; first | (rw [if_pos (by decide +kernel)]; kernel_rfl) | (rw [if_neg (by decide +kernel)]; exact ⟨rfl, rfl⟩))
    (fun os started H enc _ F => by rw [OpenClaim.pre_eq_preRow]; exact lifted os started H enc F)

theorem plain (f : FuncId) (fn : Func) (hf : Tryd.pinned.checked.prog.funcNamed "sieve/sievelaw03.InputPieces" = some f) (hfn : Tryd.pinned.checked.prog.funcs[f]? = some fn) :
    false = Tryd.pinned.checked.prog.looks [] ∧ ∀ (j : Nat) t, fn.params[j]? = some t → Tryd.pinned.checked.prog.wantsStandIn t = false := by
  obtain rfl : f = 5 := Option.some.inj ((show Tryd.prog.funcNamed "sieve/sievelaw03.InputPieces" = some 5 by kernel_rfl).symm.trans hf) |>.symm
  obtain rfl : fn = Tryd.f5 := (Option.some.inj (Tryd.func5.symm.trans hfn)).symm
  refine ⟨by kernel_rfl, fun j t ht => ?_⟩
  rw [Tryd.params5] at ht
  have hm := Array.mem_of_getElem? ht
  simp only [List.mem_toArray, List.mem_cons, List.not_mem_nil, or_false] at hm
  rcases hm with rfl | rfl
  · exact (show Tryd.prog.wantsStandIn 22 = false by kernel_rfl)
  · exact (show Tryd.prog.wantsStandIn 23 = false by kernel_rfl)

theorem card : Rows.InputPiecesUptoCardSaid :=
  Claim7.holds_tied_plain_at .later [] _ _ _ _ said (fun _ h => by cases h) (by kernel_rfl) (fun _ h => by cases h) inputPiecesUpto_row_tie rfl ⟨rfl, rfl⟩ (by kernel_rfl) rfl plain (by kernel_rfl)

end Go.Proofs.YtjhoaepokkaoeaaDoor.InPieces
