/- What is proved here: the contract of a buffer's Rest. -/
import Derived.Test.YtkpjmcoihbebkaaCFillR
import Derived.Test.YtkpjmcoihbebkaaBun7
namespace Go.Proofs.Ytkpjmcoihbebkaa.CInv
open Go.RowKit C

/-- Bytes that are held are appended to a row of one's own. -/
theorem append_hasP {w : World} {ops : Array Oper} {rest : List Oper} {o : Oper} {a : Act} {Q : Exit → Act → World → Prop} (hgd : o.guard = none) (s x : Operand)
    (ho : o.op = .call { callee := .builtin .append, args := #[s, x], argTypes := #[39, 39] }) (base : Nat) (v : Value) (M : List UInt8) (hs : a.eval s = v) (hown : w.ownsRow base 5 1 v M.length (bvs M))
    (s0 : Nat) (P : Nat → Prop) (xv : Value) (X : List UInt8) (hx : a.eval x = xv) (hX : HeldSt s0 P w xv X) (hb : base ≤ w.heap.size) (hl : M.length + X.length ≤ 100000000000000)
    (h : ∀ v' w', w'.ownsRow base 5 1 v' (M ++ X).length (bvs (M ++ X)) → w.grownBy w' v.ownBlock → wpList Try.prog ops Q rest (a.put o.dst v') w') : wpList Try.prog ops Q (o :: rest) a w := by
  obtain ⟨i0, hi, hz0, hz1, hz2⟩ := info_parts infoByte
  have none_ : xv = .slice none 0 0 → X = [] → wpList Try.prog ops Q (o :: rest) a w := fun e1 e2 => by
    subst e2
    exact wpList_append_own_none hgd s x _ ho base _ i0 1 Try.underlying39 hi v _ _ hs hown (hx.trans e1) (h v w (by rw [List.append_nil]; exact hown) (World.grownBy.refl _ _))
  have some_ : ∀ ad c, xv = .slice (some ad) X.length c → (∀ j u, (bvs X)[j]? = some u → w.cell? (ad.add j) = some u) → wpList Try.prog ops Q (o :: rest) a w := fun ad c e1 e2 =>
    wpList_append_own w hgd s x _ ho base _ i0 (.int .u8 0) 1 1 Try.underlying39 hi hz0 hz1 hz2 rfl (by decide) v _ _ hs hown ad X.length c (bvs X) (hx.trans e1) (by rw [bvs_length]; omega) e2 (bvs_one X) (by unfold maxLen; omega) (by omega) hb (fun v' w' r1 r2 _ => h v' w' (by rw [List.length_append, bvs_append]; exact r1) r2)
  rcases hX with ⟨xa, e, h1, h2⟩ | hX'
  · cases xa with
    | none =>
      have e0 := h1 rfl
      exact none_ (by rw [e, e0]) (List.length_eq_zero_iff.1 e0)
    | some ad => exact some_ ad _ e (fun j u hu => (h2 ad rfl j u hu).1)
  · have hX2 := hX'
    rcases hX'.2 with ⟨e, e0⟩ | ⟨g, cap, cur, e, hb', hg, hc, _⟩
    · exact none_ e (List.length_eq_zero_iff.1 e0)
    · refine some_ ⟨g, 0, none⟩ cap e (fun j u hu => ?_)
      have hj : j < (bvs X).length := (List.getElem?_eq_some_iff.1 hu).1
      rw [bvs_length] at hj
      rw [e] at hX2
      rw [add_none, Nat.zero_add, hX2.cellAt j (by omega)]
      exact hu
/-- What a Rest leaves. -/
def RestEnd (base b g s0 size taken : Nat) (l : Scr) (w : World) (i t : Nat) (H : List UInt8) (E : Int) (A : List UInt8) (i' p' t' : Nat) (W : World) : Prop :=
  ∃ (a2 : Option Addr) (cap2 : Nat) (E0 : Int), Inv l i' p' t' ∧ Src base W g (reach l) i' p' t' ∧ BufAt W b g size (taken + A.length : Nat) (.slice a2 0 cap2) ∧ t ≤ t' ∧ A.length = H.length + (t' - t) ∧ A = H ++ ((bytesOf l).1.drop t).take (t' - t) ∧ i ≤ i' ∧ KeepP (fun j => j = g ∨ j = b ∨ s0 ≤ j) w W ∧
    E0 ≠ 0 ∧ (E0 = rdE l i' p' ∨ (E0 = 22 ∧ i + 100 ≤ i')) ∧ E = (if E0 = 21 then 0 else E0)

set_option maxRecDepth 100000 in
set_option maxHeartbeats 4000000 in
/-- **Rest.** -/
theorem rest_calls {base : Nat} (Q : Nat → Prop) (w : World) (b g : Nat) (l : Scr) (i p t : Nat) (size taken : Nat) (a : Option Addr) (cap : Nat) (H : List UInt8) (h : BufAt w b g size taken (.slice a H.length cap)) (hI : Inv l i p t) (hS : Src base w g (reach l) i p t) (hP : HasP (fun j => j ≠ g ∧ j ≠ b ∧ Q j) w (.slice a H.length cap) H)
    (hgb : g < b) (hsz : H.length ≤ size) (hs1 : 1 ≤ size) (hsize : size ≤ 16777216) (hbd : (bytesOf l).1.length ≤ 16777216) (hll : l.length ≤ 16777216) (hd : ∀ x ∈ l, x.1.length ≤ 100000000000000) (ht : taken + H.length = t) (hrd : ∀ i p, rdE l i p ≠ 23) :
    Calls Try.prog 26 #[.pointer (some ⟨b, 0, none⟩)] w fun e W' => ∃ (E : Int) (d : Value) (A : List UInt8) (i' p' t' : Nat), e = .returned (.tuple #[d, .int .i64 E]) ∧ W'.ownsRow w.heap.size 5 1 d A.length (bvs A) ∧ RestEnd base b g w.heap.size size taken l w i t H E A i' p' t' W' := by
  have HB : Hid (BufAt w b g size taken (.slice a H.length cap)) := h
  have hblt := Blk.lt h
  have htk : taken ≤ 16777216 := by have := told_le hI; omega
  have HSt : Hid (Inv l i p t ∧ Src base w g (reach l) i p t ∧ HasP (fun j => j ≠ g ∧ j ≠ b ∧ Q j) w (.slice a H.length cap) H) := ⟨hI, hS, hP⟩
  clear hI hS hP h
  go_enter Try.func26, Try.ntmps26
  go_wp2_with fail
  refine (bMade_calls _ _ _ _ _ _ HB.out).mono ?_
  rintro e w' ⟨rfl, hx⟩
  obtain rfl : w = w' := hx.symm
  go_wp2_with fail
  go_loopw [4, 5] (fun v4 _ wr => ∃ (A Hc : List UInt8) (hca : Option Addr) (hcc i' p' t' : Nat), Hid (wr.ownsRow w.heap.size 5 1 v4 A.length (bvs A)) ∧ Hid (Inv l i' p' t' ∧ Src base wr g (reach l) i' p' t' ∧ BufAt wr b g size (taken + A.length : Nat) (.slice hca Hc.length hcc) ∧ Hc.length ≤ hcc ∧ HeldSt wr.heap.size (fun j => j ≠ g ∧ ¬ (fun _ => False) j ∧ j ≠ b ∧ True) wr (.slice hca Hc.length Hc.length) Hc ∧ HasB wr.heap.size wr (.slice hca Hc.length Hc.length) Hc) ∧ Hid (t ≤ t' ∧ A.length + Hc.length = H.length + (t' - t) ∧ A ++ Hc = H ++ ((bytesOf l).1.drop t).take (t' - t) ∧ Hc.length ≤ size ∧ i ≤ i') ∧ Hid (KeepP (fun j => j = g ∨ j = b ∨ w.heap.size ≤ j) w wr)) (fun _ _ wr => 100000000 - (intOf ((wr.cell? ⟨b, 3, none⟩).getD (.int .i64 0))).toNat)
  case atStart =>
    obtain ⟨s1, s2, s3⟩ := HSt.out
    have hHB := s3.take H.length H.length (Nat.le_refl _) (Nat.le_refl _)
    rw [List.take_length] at hHB
    obtain ⟨_, _, e, ec, _⟩ := id s3
    cases e
    exact ⟨[], H, a, cap, i, p, t, World.ownsRow_nil _ _ _ _, ⟨s1, s2, by simpa using HB.out, ec, s3.held (Below.refl _ _) (fun j _ hx => ⟨hx.1, fun h => h, hx.2.1, trivial⟩), hHB⟩, ⟨Nat.le_refl _, by simp, by simp, hsz, Nat.le_refl _⟩, KeepP.refl _ _⟩
  case round =>
    obtain ⟨A, Hc, hca, hcc, i1, p1, t1, hO, hSt, hL, hK⟩ := hrel
    obtain ⟨s1, s2, s3, s4, s5, s6⟩ := hSt.out
    obtain ⟨l1, l2, l3, l4, l5⟩ := hL.out
    have hkw := hK.out.size
    obtain ⟨va, vc, rfl⟩ := owns_slice hO.out
    have hte := told_le s1
    have FC : Hid (Calls Try.prog 30 #[.pointer (some ⟨b, 0, none⟩), .func (.func 37) #[] #[]] wr fun e W' => ∃ E : Int, e = .returned (.int .i64 E) ∧ FillEndG (outR size i1 l) (fun _ => False) (fun _ => True) base b g wr.heap.size size (taken + A.length) l wr i1 t1 Hc E W') :=
      fillR_calls (fun _ => True) wr b g l i1 p1 t1 size (taken + A.length) hca hcc Hc s3 s1 s2 s4 s5 s6 hgb l4 hsize hbd hll hd
    have c3 : wr.cell? ⟨b, 3, none⟩ = some (.int .i64 (taken + A.length : Nat)) := Blk.cell s3 3
    have HC3 : Hid (wr.cell? ⟨b, 3, none⟩ = some (.int .i64 (taken + A.length : Nat))) := c3
    clear s1 s2 s3 s4 s5 s6 c3
    go_wp2_with fail
    refine FC.out.mono ?_
    rintro e W2 ⟨E, rfl, H', hv', i', p', t', f1, f2, f3, f4, f5, f6, f7, f8, f9, f10, f11⟩
    obtain ⟨a1, cap1, rfl, hc1⟩ := f4.slice
    have cb2 : W2.cell? ⟨b, 2, none⟩ = some (.slice a1 H'.length cap1) := Blk.cell f3 2
    have HO2 : Hid (W2.ownsRow w.heap.size 5 1 (.slice va A.length vc) A.length (bvs A)) := f10.owns hO.out (fun k hk hx => by
      have := World.ownsRow.lt hO.out k hk
      rcases hx with e | e | e | e
      · omega
      · exact e
      · omega
      · omega)
    have HE2 : Hid (HeldSt wr.heap.size (fun j => j ≠ g ∧ ¬ (fun _ => False) j ∧ j ≠ b ∧ True) W2 (.slice a1 H'.length cap1) H') := f4
    have k2 : KeepP (fun j => j = g ∨ j = b ∨ w.heap.size ≤ j) w W2 := ⟨f10.os.trans hK.out.os, f10.tape.trans hK.out.tape, f10.output.trans hK.out.output, by have := f10.size; omega, fun j hj hx => (f10.block j (by omega) (fun hx' => hx (by
      rcases hx' with e | e | e | e
      · exact .inl e
      · exact e.elim
      · exact .inr (.inl e)
      · exact .inr (.inr (by omega))))).trans (hK.out.block j hj hx)⟩
    have hzw := f10.size
    have HF : Hid (Inv l i' p' t' ∧ Src base W2 g (reach l) i' p' t' ∧ BufAt W2 b g size (taken + A.length : Nat) (.slice a1 H'.length cap1) ∧ KeepP (fun j => j = g ∨ j = b ∨ w.heap.size ≤ j) w W2) := ⟨f1, f2, f3, k2⟩
    have hA2 : (A ++ H').length = H.length + (t' - t) ∧ A ++ H' = H ++ ((bytesOf l).1.drop t).take (t' - t) := by
      constructor
      · rw [List.length_append]; omega
      · rw [f7, ← List.append_assoc, l3, List.append_assoc]
        congr 1
        rw [show t' - t = (t1 - t) + (t' - t1) by omega, List.take_add, List.drop_drop, show t + (t1 - t) = t1 by omega]
    have htd := told_le f1
    obtain ⟨A3, hA3⟩ : ∃ A3, A ++ H' = A3 := ⟨_, rfl⟩
    have HA3 : Hid (A ++ H' = A3) := hA3
    have HA3l : Hid (A3.length = A.length + H'.length) := by show _ = _; rw [← hA3, List.length_append]
    have hAl : A.length + H'.length ≤ 16777216 := by have := hA2.1; rw [List.length_append] at this; omega
    rw [hA3] at hA2
    have HA2 : Hid (A3.length = H.length + (t' - t) ∧ A3 = H ++ ((bytesOf l).1.drop t).take (t' - t) ∧ t ≤ t' ∧ i ≤ i') := ⟨hA2.1, hA2.2, by omega, by omega⟩
    have HOUT : Hid (E ≠ 0 ∧ (E = rdE l i' p' ∨ (E = 22 ∧ i1 + 100 ≤ i') ∨ (E = 23 ∧ H'.length = size))) := f11
    have hH16 : H'.length ≤ 16777216 := by omega
    clear f1 f2 f3 f4 f5 f6 f7 f8 f9 f10 f11 k2 hA2 l1 l2 l3 l4 htd hA3
    go_wp2_with (at_builtin; refine append_hasP rfl _ _ rfl w.heap.size (.slice va A.length vc) A rfl HO2.out wr.heap.size _ (.slice a1 H'.length cap1) H' rfl HE2.out (by omega) (by omega) ?_; intro v3 w3 ho3 hg3; rw [HA3.out] at ho3; have hrow : ∀ j, (Value.slice va A.length vc).ownBlock = some j → w.heap.size ≤ j := fun j e => (World.ownsRow.lt HO2.out j e).1; have HB3 : Hid (BufAt w3 b g size (taken + A.length : Nat) (.slice a1 H'.length cap1)) := (hg3.block b (Blk.lt HF.out.2.2.1) (fun e => by have := hrow b e.symm; omega)).trans HF.out.2.2.1; have cb3 : w3.cell? ⟨b, 2, none⟩ = some (.slice a1 H'.length cap1) := Blk.cell HB3.out 2)
    have HS3 : Hid (Src base w3 g (reach l) i' p' t') := Src.kept HF.out.2.1 hg3 (fun k e => by have := hrow k e; exact ⟨by omega, .inr (by omega)⟩)
    have HK3 : Hid (KeepP (fun j => j = g ∨ j = b ∨ w.heap.size ≤ j) w w3) := HF.out.2.2.2.grown hg3 (fun j e => .inr (.inr (hrow j e)))
    obtain ⟨a3, c3, rfl⟩ := owns_slice ho3
    have HO3 : Hid (w3.ownsRow w.heap.size 5 1 (.slice a3 A3.length c3) A3.length (bvs (A3))) := ho3
    have DC : Hid (Calls Try.prog 32 #[.pointer (some ⟨b, 0, none⟩), .int .i64 H'.length] w3 fun e W' => (∃ v, e = .returned v) ∧ ∃ a' cap', BufAt W' b g size (taken + A.length + H'.length : Nat) (.slice a' (H'.length - H'.length) cap') ∧ (H'.length < H'.length → H'.length < cap1 → a' = a1.map (fun x => x.add H'.length) ∧ cap' = cap1 - H'.length) ∧ w3.grownBy W' (some b)) :=
      drop_calls w3 b g size (taken + A.length) a1 H'.length cap1 H'.length HB3.out (Nat.le_refl _) (by omega) (by omega)
    clear ho3 hg3 hrow
    go_wp2_with fail
    refine DC.out.mono ?_
    rintro e W4 ⟨⟨v, rfl⟩, a4, cap4, hb4, _, hg4⟩
    rw [Nat.sub_self] at hb4
    have hAH : taken + A.length + H'.length = taken + A3.length := by have := HA3l.out; omega
    have HB4 : Hid (BufAt W4 b g size (taken + A3.length : Nat) (.slice a4 0 cap4)) := by rw [← hAH]; exact hb4
    have HS4 : Hid (Src base W4 g (reach l) i' p' t') := Src.kept HS3.out hg4 (fun j e => by cases e; exact ⟨by omega, .inr (by omega)⟩)
    have HO4 : Hid (W4.ownsRow w.heap.size 5 1 (.slice a3 A3.length c3) A3.length (bvs (A3))) := own_kept HO3.out hg4 (fun j e => by cases e; omega)
    have HK4 : Hid (KeepP (fun j => j = g ∨ j = b ∨ w.heap.size ≤ j) w W4) := HK3.out.grown hg4 (fun j e => by cases e; exact .inr (.inl rfl))
    clear hb4 hg4 cb3
    by_cases h23 : E = 23
    · have hHs : H'.length = size := by
        rcases HOUT.out with ⟨_, e | e | e⟩
        · exact absurd (e.symm.trans h23) (hrd _ _)
        · omega
        · exact e.2
      have HHs : Hid (H'.length = size) := hHs
      subst h23
      clear hHs
      have HREL : Hid (∃ (A2 Hc2 : List UInt8) (hca2 : Option Addr) (hcc2 i2 p2 t2 : Nat), Hid (W4.ownsRow w.heap.size 5 1 (.slice a3 A3.length c3) A2.length (bvs A2)) ∧ Hid (Inv l i2 p2 t2 ∧ Src base W4 g (reach l) i2 p2 t2 ∧ BufAt W4 b g size (taken + A2.length : Nat) (.slice hca2 Hc2.length hcc2) ∧ Hc2.length ≤ hcc2 ∧ HeldSt W4.heap.size (fun j => j ≠ g ∧ ¬ (fun _ => False) j ∧ j ≠ b ∧ True) W4 (.slice hca2 Hc2.length Hc2.length) Hc2 ∧ HasB W4.heap.size W4 (.slice hca2 Hc2.length Hc2.length) Hc2) ∧ Hid (t ≤ t2 ∧ A2.length + Hc2.length = H.length + (t2 - t) ∧ A2 ++ Hc2 = H ++ ((bytesOf l).1.drop t).take (t2 - t) ∧ Hc2.length ≤ size ∧ i ≤ i2) ∧ Hid (KeepP (fun j => j = g ∨ j = b ∨ w.heap.size ≤ j) w W4)) := by
        obtain ⟨x1, x2, x3, x4⟩ := HA2.out
        exact ⟨A3, [], a4, cap4, i', p', t', HO4, ⟨HF.out.1, HS4.out, HB4.out, Nat.zero_le _, .inl ⟨a4, rfl, fun _ => rfl, fun ad _ j u hu => by simp [bvs] at hu⟩, .inl ⟨rfl, _, _, rfl⟩⟩, ⟨x3, by simpa using x1, by simpa using x2, by simp, x4⟩, HK4⟩
      have HMS : Hid (100000000 - (intOf ((W4.cell? ⟨b, 3, none⟩).getD (.int .i64 0))).toNat < 100000000 - (intOf ((wr.cell? ⟨b, 3, none⟩).getD (.int .i64 0))).toNat) := by
        have m1 : W4.cell? ⟨b, 3, none⟩ = some (.int .i64 (taken + A3.length : Nat)) := Blk.cell HB4.out 3
        have m2 := HHs.out
        have m3 := HA3l.out
        rw [m1, HC3.out]
        show 100000000 - (((taken + A3.length : Nat) : Int)).toNat < 100000000 - (((taken + A.length : Nat) : Int)).toNat
        rw [Int.toNat_natCast, Int.toNat_natCast]
        omega
      go_wp2
      all_goals first
        | exact ⟨HREL.out, HMS.out⟩
        | (go_roundw
           case rel => exact HREL.out
           case measure => exact HMS.out)
        | trace_state
    · have t23 : (E == 23) = false := by simpa using h23
      have HEND : Hid (∀ E', E' = (if E = 21 then 0 else E) → RestEnd base b g w.heap.size size taken l w i t H E' (A3) i' p' t' W4) := fun E' e' => by
        obtain ⟨x1, x2, x3, x4⟩ := HA2.out
        obtain ⟨y1, y2⟩ := HOUT.out
        refine ⟨a4, cap4, E, HF.out.1, HS4.out, HB4.out, x3, x1, x2, x4, HK4.out, y1, ?_, e'⟩
        rcases y2 with e | e | e
        · exact .inl e
        · exact .inr ⟨e.1, by omega⟩
        · exact absurd e.1 h23
      by_cases h21 : E = 21
      · subst h21
        go_wp2
        go_ret2
        exact ⟨0, _, A3, i', p', t', rfl, HO4.out, HEND.out 0 rfl⟩
      · have t21 : (E == 21) = false := by simpa using h21
        have HE' : Hid (E = (if E = 21 then 0 else E)) := by show _ = _; rw [if_neg h21]
        clear h21
        go_wp2
        go_ret2
        exact ⟨E, _, A3, i', p', t', rfl, HO4.out, HEND.out E HE'.out⟩
end Go.Proofs.Ytkpjmcoihbebkaa.CInv
