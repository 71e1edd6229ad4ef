/- What is proved here: the statement ChunkScripts (bytes of every script, whether two are the same, and cutting) holds for any scripts, bytes and places, where the arguments hold at most 1048576 values, with no other condition. -/
import Derived.Test.YtlhjippfgnnnoaaCRead
import Derived.Test.YtlhjippfgnnnoaaCMore
namespace Go.Proofs.Ytlhjippfgnnnoaa.CScripts
open Go.ChangeShapes Go.WideShapes Go.ChangeAt Go.RowKit C

theorem le_sum (l : List (List UInt8 × Bool)) : ∀ x ∈ l, x.1.length ≤ (l.map fun x => x.1.length).sum := by
  induction l with
  | nil => intro x hx; cases hx
  | cons y r ih =>
    intro x hx
    simp only [List.map_cons, List.sum_cons]
    rcases List.mem_cons.1 hx with rfl | hx
    · omega
    · have := ih x hx; omega

/-- 'append(s, x...)' of numbers in memory to a row of one's own, x nil or not. -/
theorem append_ints {w : World} {ops : Array Oper} {rest : List Oper} {o : Oper} {a : Act} {Q : Exit → Act → World → Prop} (hgd : o.guard = none) (s x : Operand) (t : TypeId)
    (ho : o.op = .call { callee := .builtin .append, args := #[s, x], argTypes := #[t, t] }) (base : Nat) (e : TypeId) (i : TypeInfo) (q : IntKind) (bytes : Nat) (ht : Try.prog.underlying t = some (.slice e)) (hi : Try.prog.info? e = some i) (hz : i.zero = some (.int q 0)) (hsize : i.size = 1) (hby : i.bytes = bytes)
    (v : Value) (n : Nat) (xs : List Value) (hs : a.eval s = v) (hown : w.ownsRow base e 1 v n xs) (xv : Value) (zs : List Int) (hx : a.eval x = xv) (hH : HasI q w xv zs) (hn : xv = .slice none 0 0 ∨ ∃ ad len cap, xv = .slice (some ad) len cap)
    (h63 : n + zs.length ≤ maxLen) (hbytes : (n + zs.length) * bytes ≤ 140737488355328) (hbase : base ≤ w.heap.size)
    (h : ∀ v' w', w'.ownsRow base e 1 v' (n + zs.length) (xs ++ zs.map (Value.int q)) → w.grownBy w' v.ownBlock → wpList Try.prog ops Q rest (a.put o.dst v') w') : wpList Try.prog ops Q (o :: rest) a w := by
  rcases hn with rfl | ⟨ad, len, cap, rfl⟩
  · have hz0 : zs = [] := by
      rcases hH with ⟨rfl, _⟩ | ⟨hp, b, off, c, e, _⟩
      · rfl
      · simp at e
    subst hz0
    exact wpList_append_own_none hgd s x t ho base e i 1 ht hi v n xs hs hown hx (h v w (by simpa using hown) (World.grownBy.refl _ _))
  · have hl : len = zs.length ∧ ∀ j u, (zs.map (Value.int q))[j]? = some u → w.cell? (ad.add j) = some u := by
      rcases hH with ⟨rfl, a', c', e⟩ | ⟨hp, b, off, c, e, _, hc⟩
      · simp at e; exact ⟨e.2.1, fun j u hj => by simp at hj⟩
      · obtain ⟨rfl, rfl, rfl⟩ : ad = ⟨b, off, none⟩ ∧ len = zs.length ∧ cap = c := by simpa using e
        refine ⟨rfl, fun j u hj => ?_⟩
        obtain ⟨hj1, hj2⟩ := List.getElem?_eq_some_iff.1 hj
        simp at hj1
        rw [add_none, hc j hj1, ← hj2]
        simp [zAt, hj1]
    obtain ⟨rfl, hnews⟩ := hl
    exact wpList_append_own w hgd s x t ho base e i (.int q 0) 1 bytes ht hi hz hsize hby rfl (by decide) v n xs hs hown ad zs.length cap (zs.map (Value.int q)) hx (by simp) hnews (fun u hu => by simp at hu; obtain ⟨c, _, rfl⟩ := hu; rfl) h63 hbytes hbase (fun v' w' h1 h2 _ => h v' w' h1 h2)
theorem infoInt : (Try.prog.info? 3).map (fun i => (i.zero, i.size, i.bytes)) = some (some (.int .i64 0), 1, 8) := by kernel_rfl
theorem hasI_owns {q : IntKind} {w : World} {base : Nat} {e : TypeId} {v : Value} {zs : List Int} (h : w.ownsRow base e 1 v zs.length (zs.map (Value.int q))) : HasI q w v zs := by
  rcases h.2 with ⟨rfl, h0⟩ | ⟨g, cap, cur, rfl, hb, hg, hcap, _, hsz, ht⟩
  · exact .inl ⟨List.length_eq_zero_iff.1 h0, none, 0, rfl⟩
  · by_cases hp : zs.length = 0
    · have e0 := List.length_eq_zero_iff.1 hp
      subst e0
      exact .inl ⟨rfl, some ⟨g, 0, none⟩, cap, rfl⟩
    refine .inr ⟨by omega, g, 0, cap, rfl, hcap, fun j hj => ?_⟩
    rw [Nat.zero_add, h.cellAt j (by omega)]
    simp [zAt, hj]
theorem hasI_at {q : IntKind} {w : World} {a : Option Addr} {cap : Nat} {zs : List Int} {n : Nat} (hl : HasI q w (.slice a n cap) zs) (k : Nat) (hk : k < zs.length) : ∃ b off, a = some ⟨b, off, none⟩ ∧ w.cell? ⟨b, off + k, none⟩ = some (.int q (zAt zs k)) := by
  rcases hl with ⟨rfl, _⟩ | ⟨_, b, off, cp, he, _, hx⟩
  · simp at hk
  · cases he; exact ⟨b, off, rfl, hx k hk⟩
theorem kept_far {w w' : World} {base : Nat} {e : TypeId} {size : Nat} {v : Value} {n : Nat} {xs : List Value} {row : Option Nat} (h : w.ownsRow base e size v n xs) (hg : w.grownBy w' row) (hr : ∀ k, row = some k → k < base) : w'.ownsRow base e size v n xs :=
  h.kept hg (by
    cases e : v.ownBlock with
    | none => exact .inl rfl
    | some k => exact .inr (fun e' => by have := (h.lt k e).1; have := hr k e'.symm; omega))
theorem below_of {w w' : World} {b : Nat} {row : Option Nat} (hg : w.grownBy w' row) (hb : b ≤ w.heap.size) (hr : ∀ k, row = some k → b ≤ k) : Below b w w' := ⟨hg.os, hg.tape, hg.output, hg.size, fun j hj => hg.block j (by omega) (fun e => by have := hr j e.symm; omega)⟩

set_option maxRecDepth 100000 in
set_option maxHeartbeats 2000000 in
theorem walk (w : World) (av : Value) (la : List (List UInt8 × Bool)) (ha : HasS w av la) (na : la.length + (la.map fun x => x.1.length).sum ≤ 1048576) (bv : Value) (lb : List (List UInt8 × Bool)) (hb : HasS w bv lb) (nb : lb.length + (lb.map fun x => x.1.length).sum ≤ 1048576)
    (dv tv : Value) (f : Bool) (bs : List UInt8) (cs : List Int) (hd : Byt w dv bs) (ht : HasI .i64 w tv cs) (nt : tv = .slice none 0 0 ∨ ∃ ad n c, tv = .slice (some ad) n c) (nc : bs.length + cs.length ≤ 1048576) :
    Calls Try.prog 5 #[av, bv, .agg #[dv, tv, .bool f]] w fun e w' => e = .returned (.bool true) ∧ Below w.heap.size w w' := by
  obtain ⟨da, dc, rfl⟩ := hd.slice
  obtain ⟨ta, tc, rfl⟩ : ∃ a c, tv = .slice a cs.length c := by
    rcases ht with ⟨rfl, a, cap, rfl⟩ | ⟨hp, b, off, cap, rfl, _⟩
    · exact ⟨a, cap, rfl⟩
    · exact ⟨_, cap, rfl⟩
  have HA : Hid (HasS w av la) := ha
  have HB : Hid (HasS w bv lb) := hb
  have HD : Hid (Byt w (.slice da bs.length dc) bs) := hd
  have HT : Hid (HasI .i64 w (.slice ta cs.length tc) cs) := ht
  have NT : Hid ((Value.slice ta cs.length tc) = .slice none 0 0 ∨ ∃ ad n c, (Value.slice ta cs.length tc) = .slice (some ad) n c) := nt
  have HN : Hid ((∀ x ∈ la, x.1.length ≤ 100000000000000) ∧ ∀ x ∈ lb, x.1.length ≤ 100000000000000) := ⟨fun x hx => by have := le_sum la x hx; omega, fun x hx => by have := le_sum lb x hx; omega⟩
  clear ha hb hd ht nt
  go_enter Try.func5, Try.ntmps5
  go_wp2_with fail
  obtain ⟨w0, hw0⟩ : ∃ w0, w.alloc (.cells #[.slice da bs.length dc, .slice ta cs.length tc, .bool f] 48) = w0 := ⟨_, rfl⟩
  have b0 : Below w.heap.size w w0 := by rw [← hw0]; exact (Below.refl _ w).alloc (Nat.le_refl _) _
  have z0 : w0.heap.size = w.heap.size + 1 := by rw [← hw0]; simp
  have YC : Hid (∀ w', Below w0.heap.size w0 w' → w'.cell? ⟨w.heap.size, 1, none⟩ = some (.slice ta cs.length tc) ∧ w'.cell? ⟨w.heap.size, 2, none⟩ = some (.bool f)) := fun w' h => ⟨(h.cell (p := ⟨w.heap.size, 1, none⟩) (by show w.heap.size < w0.heap.size; omega)).trans (by rw [← hw0, cell_new]; rfl), (h.cell (p := ⟨w.heap.size, 2, none⟩) (by show w.heap.size < w0.heap.size; omega)).trans (by rw [← hw0, cell_new]; rfl)⟩
  rw [hw0]
  clear hw0
  refine (steps_calls la av w0 (HA.out.below b0) (by omega) HN.out.1).mono ?_
  rintro e w1 ⟨xv, rfl, hX1, k1⟩
  obtain ⟨xa, xc, rfl⟩ := hX1.slice
  have s1 := k1.size
  have J1 : Below w.heap.size w w1 := b0.trans (k1.mono b0.size)
  go_wp2_with fail
  refine (steps_calls lb bv w1 (HB.out.below J1) (by omega) HN.out.2).mono ?_
  rintro e w2 ⟨yv, rfl, hY2, k2⟩
  obtain ⟨ya, yc, rfl⟩ := hY2.slice
  have s2 := k2.size
  have J2 : Below w.heap.size w w2 := J1.trans (k2.mono J1.size)
  have L2 : Below w0.heap.size w0 w2 := k1.trans (k2.mono s1)
  have X2 : Hid (HasS w2 (.slice xa la.length xc) la) := hasS_owns (hX1.below k2)
  have Y2 : Hid (HasS w2 (.slice ya lb.length yc) lb) := hasS_owns hY2
  have A2 : Hid (HasS w2 av la) := HA.out.below J2
  have B2 : Hid (HasS w2 bv lb) := HB.out.below J2
  have J2h : Hid (Below w.heap.size w w2) := J2
  have L2h : Hid (Below w0.heap.size w0 w2) := L2
  have hbl : (bytesOf la).1.length ≤ 1048576 := by have := bytesOf_le la; omega
  clear hX1 hY2 k1 k2 J1 J2 L2
  go_wp2_with fail
  refine (bytesH_calls la _ w2 X2.out (by omega) (by omega)).mono ?_
  rintro e w3 ⟨pv, rfl, hP3, k3⟩
  have s3 := k3.size
  obtain ⟨pa, pc, rfl⟩ := owns_slice hP3
  go_wp2_with fail
  refine (bytesH_calls la _ w3 (X2.out.below k3) (by omega) (by omega)).mono ?_
  rintro e w4 ⟨qv, rfl, hQ4, k4⟩
  have s4 := k4.size
  obtain ⟨qa, qc, rfl⟩ := owns_slice hQ4
  have K4 : Below w2.heap.size w2 w4 := k3.trans (k4.mono s3)
  go_wp2_with fail
  refine (rbytes_calls la av w4 (A2.out.below K4) (by omega) (by omega)).mono ?_
  rintro e w5 ⟨wv, rfl, hW5, k5⟩
  have s5 := k5.size
  obtain ⟨wa, wc, rfl⟩ := owns_slice hW5
  have K5 : Below w2.heap.size w2 w5 := K4.trans (k5.mono (by omega))
  have P5 : Hid (w5.ownsRow w2.heap.size 5 1 (.slice pa (bytesOf la).1.length pc) (bytesOf la).1.length (bvs (bytesOf la).1)) := owns_below (owns_below hP3 k4) k5
  have PB : Hid (∀ k, (Value.slice pa (bytesOf la).1.length pc).ownBlock = some k → w2.heap.size ≤ k ∧ k < w3.heap.size) := hP3.lt
  have Q5 : Hid (w5.ownsRow w3.heap.size 5 1 (.slice qa (bytesOf la).1.length qc) (bytesOf la).1.length (bvs (bytesOf la).1)) := owns_below hQ4 k5
  have QB : Hid (∀ k, (Value.slice qa (bytesOf la).1.length qc).ownBlock = some k → w3.heap.size ≤ k ∧ k < w4.heap.size) := hQ4.lt
  have W5 : Hid (w5.ownsRow w4.heap.size 5 1 (.slice wa (bytesOf la).1.length wc) (bytesOf la).1.length (bvs (bytesOf la).1)) := hW5
  clear hP3 hQ4 hW5 k3 k4 k5 K4
  generalize hbf : (bytesOf la).2 = bf
  have HBF : Hid ((bytesOf la).2 = bf) := hbf
  clear hbf
  go_wp2_with fail
  refine (alike_calls (bytesOf la).1 (bytesOf la).1 _ _ 0 0 w2.heap.size w5.heap.size w5 (by omega) P5.out (hasB_owns W5.out)).mono ?_
  rintro e w6 ⟨rfl, g6⟩
  rw [show (decide ((0 : Int) = 0) && decide ((bytesOf la).1 = (bytesOf la).1)) = true by simp]
  have K6 : Below w2.heap.size w2 w6 := K5.trans (below_of g6 (by omega) (fun k e => (PB.out k e).1))
  have Q6 : Hid (w6.ownsRow w3.heap.size 5 1 (.slice qa (bytesOf la).1.length qc) (bytesOf la).1.length (bvs (bytesOf la).1)) := kept_far Q5.out g6 (fun k e => (PB.out k e).2)
  have W6 : Hid (w6.ownsRow w4.heap.size 5 1 (.slice wa (bytesOf la).1.length wc) (bytesOf la).1.length (bvs (bytesOf la).1)) := kept_far W5.out g6 (fun k e => by have := (PB.out k e).2; omega)
  have s6 := g6.size
  clear g6 P5 PB Q5 W5 K5
  go_wp2_with fail
  refine (alike_calls (bytesOf la).1 (bytesOf la).1 _ _ 0 0 w3.heap.size w6.heap.size w6 (by omega) Q6.out (hasB_owns W6.out)).mono ?_
  rintro e w7 ⟨rfl, g7⟩
  rw [show (decide ((0 : Int) = 0) && decide ((bytesOf la).1 = (bytesOf la).1)) = true by simp]
  have K7 : Below w2.heap.size w2 w7 := K6.trans (below_of g7 (by omega) (fun k e => by have := (QB.out k e).1; omega))
  clear g7 Q6 W6 QB K6
  go_wp2_with fail
  refine (sameH_calls la lb _ _ w7 (X2.out.below K7) (Y2.out.below K7) (by omega) (by omega) (by omega) (by omega)).mono ?_
  rintro e w8 ⟨rfl, k8⟩
  have K8 : Below w2.heap.size w2 w8 := K7.trans (k8.mono K7.size)
  clear k8 K7
  go_wp2_with fail
  refine (rsame_calls la lb av bv w8 (A2.out.below K8) (B2.out.below K8) (by omega) (by omega) (by omega) (by omega)).mono ?_
  rintro e w9 ⟨rfl, k9⟩
  have K9 : Below w2.heap.size w2 w9 := K8.trans (k9.mono K8.size)
  clear k9 K8
  generalize hdq : decide (bytesOf la = bytesOf lb) = dq
  clear hdq
  go_wp2_with fail
  refine (lsame_calls la la _ av w9 (by omega) (X2.out.below K9) (A2.out.below K9)).mono ?_
  rintro e w10 ⟨rfl, k10⟩
  rw [show decide (la = la) = true from decide_eq_true rfl]
  have K10 : Below w2.heap.size w2 w10 := K9.trans (k10.mono K9.size)
  clear k10 K9
  go_wp2_with fail
  refine (lsame_calls lb lb _ bv w10 (by omega) (Y2.out.below K10) (B2.out.below K10)).mono ?_
  rintro e w11 ⟨rfl, k11⟩
  rw [show decide (lb = lb) = true from decide_eq_true rfl]
  have K11 : Below w2.heap.size w2 w11 := K10.trans (k11.mono K10.size)
  have J11 : Below w.heap.size w w11 := J2h.out.trans (K11.mono J2h.out.size)
  have L11 : Below w0.heap.size w0 w11 := L2h.out.trans (K11.mono L2h.out.size)
  clear k11 K10 K11 X2 Y2 A2 B2
  obtain ⟨i1, hi1, hy0, hy1, hy2⟩ := info_parts infoInt
  have s11 : w0.heap.size ≤ w11.heap.size := L11.size
  go_wp2_with (first
    | (at_builtin; refine append_bytes rfl _ _ rfl w11.heap.size _ _ _ rfl (owns_empty w11 _ 1) (.slice da bs.length dc) bs rfl (HD.out.below (J11.alloc J11.size _)) (by omega) (by simp) ?_; intro ov w12 ho12 hg12; rw [Nat.zero_add, List.nil_append] at ho12; have b12 : Below w11.heap.size w11 w12 := ((Below.refl _ w11).alloc (Nat.le_refl _) _).grown hg12 (by simp) (fun j hj => ((owns_empty w11 5 1).lt j hj).1); have L12 := L11.trans (b12.mono s11); obtain ⟨t1, t2⟩ := YC.out (w12.alloc (.cells #[] 3)) (L12.alloc L12.size _))
    | (at_builtin; refine append_ints rfl _ _ 26 rfl w12.heap.size 3 i1 .i64 8 Try.underlying26 hi1 hy0 hy1 hy2 _ _ _ rfl (owns_empty w12 _ 1) (.slice ta cs.length tc) cs rfl (HT.out.below ((J11.trans (b12.mono J11.size)).alloc (by have := J11.size; have := b12.size; omega) _)) NT.out (by unfold maxLen; omega) (by omega) (by simp) ?_; intro pl w13 ho13 hg13; rw [Nat.zero_add, List.nil_append] at ho13; have b13 : Below w12.heap.size w12 w13 := ((Below.refl _ w12).alloc (Nat.le_refl _) _).grown hg13 (by simp) (fun j hj => ((owns_empty w12 3 1).lt j hj).1); obtain ⟨t3, t4⟩ := YC.out w13 ((L11.trans (b12.mono s11)).trans (b13.mono (by have := b12.size; omega)))))
  have s12 := b12.size
  have s13 := b13.size
  have L13 : Below w0.heap.size w0 w13 := L12.trans (b13.mono L12.size)
  have J13 : Below w.heap.size w w13 := (J11.trans (b12.mono J11.size)).trans (b13.mono (by have := J11.size; omega))
  obtain ⟨oa, oc, rfl⟩ := owns_slice ho12
  obtain ⟨pla, plc, rfl⟩ := owns_slice ho13
  have O13 : Hid (w13.ownsRow w11.heap.size 5 1 (.slice oa bs.length oc) bs.length (bvs bs)) := owns_below ho12 b13
  have OB : Hid (∀ k, (Value.slice oa bs.length oc).ownBlock = some k → w11.heap.size ≤ k ∧ k < w12.heap.size) := ho12.lt
  have PL13 : Hid (HasI .i64 w13 (.slice pla cs.length plc) cs) := hasI_owns ho13
  have J11h : Hid (Below w.heap.size w w11) := J11
  clear ho12 ho13 hg12 hg13 b12 b13 L12 t1 t2 L11 J11
  refine (cut_calls _ _ bs cs w13.heap.size f w13 (by omega) (by omega) (hasB_owns O13.out) PL13.out).mono ?_
  rintro e w14 ⟨lv, rfl, hL14, k14⟩
  have s14 := k14.size
  have L14 : Below w0.heap.size w0 w14 := L13.trans (k14.mono L13.size)
  obtain ⟨t5, t6⟩ := YC.out w14 L14
  have hcn : (cut bs cs f).length = cs.length + 1 := by simp [cut, cutL_length]
  obtain ⟨g, llc, xs0, rfl, hmap, h2, hgb, hxb⟩ := own2_of hL14 (by omega)
  have H14 : Hid (Own2 w13.heap.size g (cut bs cs f).length llc xs0 w14) := h2
  have GB : Hid ((w13.heap.size ≤ g ∧ g < w14.heap.size) ∧ ∀ x ∈ xs0, ∀ k, x.1.ownBlock = some k → w13.heap.size ≤ k ∧ k < w14.heap.size) := ⟨hgb, hxb⟩
  have X0L : Hid (∀ x ∈ xs0, x.2.1.length ≤ 1048576) := fun x hx => by
    have h : x.2 ∈ cut bs cs f := by rw [← hmap]; exact List.mem_map.2 ⟨x, hx, rfl⟩
    have := cut_le bs cs f x.2 h; omega
  clear h2 hgb hxb hmap hcn
  go_wp2_with fail
  refine (cut_calls _ _ bs cs w14.heap.size f w14 (by omega) (by omega) (hasB_owns (owns_below O13.out k14)) (PL13.out.below k14)).mono ?_
  rintro e w15 ⟨mv, rfl, hM15, k15⟩
  have s15 := k15.size
  have L15 : Below w0.heap.size w0 w15 := L14.trans (k15.mono L14.size)
  have K15 : Below w13.heap.size w13 w15 := k14.trans (k15.mono s14)
  have J15 : Below w.heap.size w w15 := J13.trans (K15.mono J13.size)
  obtain ⟨t7, t8⟩ := YC.out w15 L15
  obtain ⟨ma, mc, rfl⟩ := hM15.slice
  clear t5 t6
  go_wp2_with fail
  refine (rcut_calls _ _ bs cs f w15 (by omega) (by omega) (HD.out.below J15) (HT.out.below J15)).mono ?_
  rintro e w16 ⟨cv, rfl, hC16, k16⟩
  have s16 := k16.size
  obtain ⟨ca, cc, rfl⟩ := hC16.slice
  have hcl : (cut bs cs f).length ≤ 2000000 := by simp [cut, cutL_length]; omega
  go_wp2_with fail
  refine (lsame_calls (cut bs cs f) (cut bs cs f) _ _ w16 (by omega) (hasS_owns ((hL14.below k15).below k16)) (hasS_owns hC16)).mono ?_
  rintro e w17 ⟨rfl, k17⟩
  rw [show decide (cut bs cs f = cut bs cs f) = true from decide_eq_true rfl]
  have s17 := k17.size
  have K17 : Below w13.heap.size w13 w17 := K15.trans ((k16.trans (k17.mono s16)).mono (by omega))
  have J17 : Below w.heap.size w w17 := J13.trans (K17.mono J13.size)
  have L17 : Below w0.heap.size w0 w17 := L13.trans (K17.mono L13.size)
  have LL17 : Hid (OwnS w13.heap.size 57 w17 (.slice (some ⟨g, 0, none⟩) (cut bs cs f).length llc) (cut bs cs f)) := ((hL14.below k15).below k16).below k17
  have H17 : Hid (Own2 w13.heap.size g (cut bs cs f).length llc xs0 w17) := ((H14.out.below k15).below k16).below k17
  have MM17 : Hid (OwnS w14.heap.size 57 w17 (.slice ma (cut bs cs f).length mc) (cut bs cs f)) := (hM15.below k16).below k17
  have CC17 : Hid (OwnS w15.heap.size 85 w17 (.slice ca (cut bs cs f).length cc) (cut bs cs f)) := hC16.below k17
  have O17 : Hid (w17.ownsRow w11.heap.size 5 1 (.slice oa bs.length oc) bs.length (bvs bs)) := owns_below O13.out K17
  have PL17 : Hid (HasI .i64 w17 (.slice pla cs.length plc) cs) := PL13.out.below K17
  have T17 : Hid (HasI .i64 w17 (.slice ta cs.length tc) cs) := HT.out.below J17
  have J17h : Hid (Below w.heap.size w w17) := J17
  obtain ⟨t1, t2⟩ := YC.out w17 L17
  have q1 := conv_bytes (hasB_owns O17.out)
  have q2 := conv_bytes (HD.out.below J17).1
  clear t7 t8 hL14 hM15 hC16 k14 k15 k16 k17 O13 PL13 K15 J15 L14 L15 J13 L13 K17 L17 J17
  go_wp2
  clear q1 q2
  go_loopw [21, 130] (fun _ i wr => ∃ k : Nat, k ≤ cs.length ∧ i = .int .i64 k ∧ Below w17.heap.size w17 wr) (fun _ i _ => cs.length - (intOf i).toNat)
  case atStart => exact ⟨0, by omega, rfl, Below.refl _ _⟩
  case round =>
    obtain ⟨k, hk, rfl, hB⟩ := hrel
    have y1 := (hB.cell (p := ⟨w.heap.size, 1, none⟩) (cell_lt t1)).trans t1
    by_cases hlt : k < cs.length
    · obtain ⟨pb, po, rfl, c1⟩ := hasI_at (PL17.out.below hB) k hlt
      obtain ⟨tb, to, rfl, c2⟩ := hasI_at (T17.out.below hB) k hlt
      generalize zAt cs k = z at *
      clear t1 t2
      go_wp2
      go_quiet (fail)
      go_wp2
      all_goals first
        | exact ⟨⟨k + 1, by omega, by go_num, bdrew hB _⟩, by simp [intOf]; omega⟩
        | (go_roundw
           case rel => exact ⟨k + 1, by omega, by go_num, bdrew hB _⟩
           case measure => simp [intOf]; omega)
    · have LL : Hid (OwnS w13.heap.size 57 wr (.slice (some ⟨g, 0, none⟩) (cut bs cs f).length llc) (cut bs cs f)) := LL17.out.below hB
      have MM : Hid (OwnS w14.heap.size 57 wr (.slice ma (cut bs cs f).length mc) (cut bs cs f)) := MM17.out.below hB
      have CC : Hid (OwnS w15.heap.size 85 wr (.slice ca (cut bs cs f).length cc) (cut bs cs f)) := CC17.out.below hB
      have OO : Hid (wr.ownsRow w11.heap.size 5 1 (.slice oa bs.length oc) bs.length (bvs bs)) := owns_below O17.out hB
      have JJ : Hid (Below w.heap.size w wr) := J17h.out.trans (hB.mono J17h.out.size)
      have sB := hB.size
      have H2 : Hid (Own2 w13.heap.size g (cut bs cs f).length llc xs0 wr) := H17.out.below hB
      clear y1 t1 t2 hB LL17 MM17 CC17 O17 PL17 T17 H17 H14 LL
      generalize hn : (cut bs cs f).length = n at *
      have hn2 : n ≤ 2000000 := hcl
      obtain ⟨P, hP⟩ : ∃ P : Nat → Prop, P = fun k => (w13.heap.size ≤ k ∧ k < w14.heap.size) ∨ wr.heap.size ≤ k := ⟨_, rfl⟩
      have PG : Hid (P g) := by rw [hP]; exact .inl GB.out.1
      have PX : Hid (∀ x ∈ xs0, ∀ k, x.1.ownBlock = some k → P k) := fun x hx k e => by rw [hP]; exact .inl (GB.out.2 x hx k e)
      have PN : Hid (∀ k, wr.heap.size ≤ k → P k) := fun k hk => by rw [hP]; exact .inr hk
      have PM : Hid (∀ k, k < wr.heap.size → (k < w13.heap.size ∨ w14.heap.size ≤ k) → ¬ P k) := fun k h1 h2 h3 => by rw [hP] at h3; omega
      clear hP GB
      go_wp2
      generalize hWr : wr = W at *
      clear hWr
      go_loopw [22, 146] (fun _ i wr => ∃ (k : Nat) (xs : List (Value × List UInt8 × Bool)), k ≤ n ∧ i = .int .i64 k ∧ Own2 w13.heap.size g n llc xs wr ∧ KeepP P W wr ∧ Hid ((∀ x ∈ xs, x.2.1.length ≤ 1048576 + 4 * k) ∧ ∀ x ∈ xs, ∀ j, x.1.ownBlock = some j → P j)) (fun _ i _ => n - (intOf i).toNat)
      case atStart => exact ⟨0, xs0, by omega, rfl, H2.out, KeepP.refl _ _, fun x hx => by have := X0L.out x hx; omega, PX.out⟩
      case round =>
        obtain ⟨k, xs, hk2, rfl, hO, hKP, hbd⟩ := hrel
        have sK := hKP.size
        by_cases hlt2 : k < n
        · have hkx : k < xs.length := by have := hO.1; omega
          obtain ⟨da', dc', ys, hv, c0, f0, ho⟩ := hO.get k hkx
          have hlk := hbd.out.1 _ (List.getElem_mem hkx)
          have hxk : Hid (xs[k].1 = .slice da' xs[k].2.1.length dc') := hv
          have HO2 : Hid (Own2 w13.heap.size g n llc xs wr) := hO
          have hgl : g < wr.heap.size := cell_lt c0
          clear hv hO
          generalize hm : xs[k].2.1.length = m at *
          have HMm : Hid (xs[k].2.1.length = m) := hm
          clear hm
          have HAP : Hid (some g ≠ (Value.slice da' m dc').ownBlock) := by
            rcases owns_apart HO2.out.2.1 ho (by decide) with e | e
            · simp [Value.ownBlock] at e
            · exact e
          go_wp2_with (at_builtin; refine append_more rfl _ _ rfl w13.heap.size _ _ _ rfl ho ⟨#[109, 111, 114, 101]⟩ rfl (by decide) (by show m + 4 ≤ _; omega) (by omega) ?_; intro v' w4 zs hown' hgrow hob; obtain ⟨na', nc', rfl⟩ := owns_slice hown'; have e0 : w4.cell? ⟨g, k * 2, none⟩ = some (.slice da' m dc') := hgrow.cell c0 HAP.out; have e1 : w4.frozen? ⟨g, k * 2, none⟩ = false := (World.frozen?_of_block (a := ⟨g, k * 2, none⟩) (hgrow.block g hgl HAP.out)).trans f0)
          have hgr2 : wr.grownBy w4 (xs[k]).1.ownBlock := by rw [hxk.out]; exact hgrow
          have hob2 : (Value.slice na' (m + (⟨#[109, 111, 114, 101]⟩ : ByteArray).size) nc').ownBlock = (xs[k]).1.ownBlock ∨ (Value.slice na' (m + (⟨#[109, 111, 114, 101]⟩ : ByteArray).size) nc').ownBlock = some wr.heap.size := by rw [hxk.out]; exact hob
          have HG := HO2.out.grow k hkx hown' hgr2 hob2 (List.replicate (m + (⟨#[109, 111, 114, 101]⟩ : ByteArray).size) 0) (by simp)
          have HPk : ∀ j, (xs[k]).1.ownBlock = some j → P j := hbd.out.2 _ (List.getElem_mem hkx)
          go_roundw
          case rel => exact ⟨k + 1, _, by omega, by go_num, HG, (hKP.grown hgr2 HPk).setCell g _ _ PG.out, fun x hx => by
              rcases List.mem_or_eq_of_mem_set hx with hx | rfl
              · have := hbd.out.1 x hx; omega
              · show (List.replicate _ _).length ≤ _; rw [List.length_replicate]; show m + 4 ≤ _; omega, fun x hx j e => by
              rcases List.mem_or_eq_of_mem_set hx with hx | rfl
              · exact hbd.out.2 x hx j e
              · rcases hob2 with h | h
                · exact HPk j (h ▸ e)
                · rw [h] at e; cases e; exact PN.out _ sK⟩
          case measure => simp [intOf]; omega
        · obtain rfl : k = n := by omega
          go_wp2_with fail
          refine (spoil_calls P w13.heap.size g k llc _ xs wr hO.1 (by omega) (fun x hx => by have := hbd.out.1 x hx; omega) (.inr ⟨rfl, hO.left⟩) ⟨_, _, rfl⟩ (fun _ => PG.out) hbd.out.2).mono ?_
          rintro e w18 ⟨⟨ev, rfl⟩, k18⟩
          have K18 : KeepP P W w18 := hKP.trans k18
          have M18 : Hid (OwnS w14.heap.size 57 w18 (.slice ma k mc) (cut bs cs f)) := MM.out.keepP K18 (fun j h1 h2 => PM.out j h2 (.inr h1))
          have C18 : Hid (OwnS w15.heap.size 85 w18 (.slice ca k cc) (cut bs cs f)) := CC.out.keepP K18 (fun j h1 h2 => PM.out j h2 (.inr (by omega)))
          have O18 : Hid (w18.ownsRow w11.heap.size 5 1 (.slice oa bs.length oc) bs.length (bvs bs)) := K18.owns OO.out (fun j e => PM.out j (OO.out.lt j e).2 (.inl (by have := (OB.out j e).2; omega)))
          have J18 : Hid (Below w.heap.size w w18) := JJ.out.trans (K18.below JJ.out.size (fun j hj => PM.out j (by have := JJ.out.size; omega) (.inl (by have := J11h.out.size; omega))))
          clear k18 K18 hKP hO hbd
          go_wp2
          go_loopw [23, 164] (fun _ i wr => ∃ t : Nat, t ≤ bs.length ∧ i = .int .i64 t ∧ w18.grownBy wr (Value.slice oa bs.length oc).ownBlock ∧ ∃ zs, wr.ownsRow w11.heap.size 5 1 (.slice oa bs.length oc) bs.length zs) (fun _ i _ => bs.length - (intOf i).toNat)
          case atStart => exact ⟨0, by omega, rfl, World.grownBy.refl _ _, _, O18.out⟩
          case round =>
            obtain ⟨t, ht3, rfl, hgr, zs, hzs⟩ := hrel
            by_cases hlt3 : t < bs.length
            · obtain ⟨go, rfl⟩ : ∃ go, oa = some ⟨go, 0, none⟩ := by
                rcases hzs.2 with ⟨e, _⟩ | ⟨go, _, _, e, _⟩
                · simp at e; omega
                · simp at e; exact ⟨go, e.1⟩
              have hzl : zs.length = bs.length := by have := hzs.1; omega
              obtain ⟨u, hcell⟩ : ∃ u, wr.cell? ⟨go, t, none⟩ = some u := ⟨zs[t]'(by omega), by rw [hzs.cellAt t (by omega), List.getElem?_eq_getElem (by omega)]⟩
              clear hzl
              have hfr := hzs.frozenAt t
              obtain ⟨st1, st2⟩ := hzs.stored t (.int .u8 120)
              go_wp2
              go_roundw
              case rel => exact ⟨t + 1, by omega, by go_num, grown_trans hgr st2, _, st1⟩
              case measure => simp [intOf]; omega
            · have M19 := M18.out.far hgr (fun j e => by have := (OB.out j e).2; omega)
              have C19 := C18.out.far hgr (fun j e => by have := (OB.out j e).2; omega)
              have J19 : Below w.heap.size w wr := J18.out.trans (below_of hgr J18.out.size (fun j e => by have := (OB.out j e).1; have := J11h.out.size; omega))
              have SM : Hid (HasS wr (.slice ma k mc) (cut bs cs f)) := hasS_owns M19
              have SC : Hid (HasS wr (.slice ca k cc) (cut bs cs f)) := hasS_owns C19
              clear M19 C19 hgr hzs M18 C18 O18
              go_wp2_with fail
              refine (lsame_calls (cut bs cs f) (cut bs cs f) _ _ wr (by omega) SM.out SC.out).mono ?_
              rintro e w20 ⟨rfl, k20⟩
              rw [show decide (cut bs cs f = cut bs cs f) = true from decide_eq_true rfl]
              go_wp2_with fail
              refine (awake_calls _).mono ?_
              rintro e w21 ⟨rfl, k21⟩
              go_wp2
              go_ret
              exact ⟨rfl, J19.trans ((k20.trans (k21.mono k20.size)).mono J19.size)⟩

set_option maxRecDepth 100000 in
theorem contract (H : Type) (enc : TypeId × Value → H) (W : World) (base : Nat) (args : Array Value) (ds gs : List (DataW H)) (before : List MemPlace)
    (hval : ∀ (j : Nat) t v, Try.f5.params[j]? = some t → args[j]? = some v → Value.okWide Try.prog W .any base t v)
    (hW : DataW.Whole enc Try.prog Try.f5.params.toList Rows.chunkScriptsSpec.vars false W args.toList ds gs before)  (hk : Rows.uptoSmall H (ds ++ gs) = true) :
    Calls Try.prog 5 args W fun e W' => ∃ v, e = .returned v ∧ Rows.chunkScriptsSpec.post enc Try.prog Try.f5 false true false false W args v W' := by
  have hW' := hW
  have hlt := hW.lt
  obtain ⟨p, q, hA0, hV, rfl, hfz, hnd⟩ := hW
  have hA : DataW.TrodAll enc Try.prog W 0 (fun _ => true) true Try.f5.params.toList args.toList ds p := hA0
  rw [Try.params5] at hA hval
  obtain ⟨v0, vs0, d0, ds0, p0, q0, hargs, rfl, rfl, h0, r0⟩ := trodAll_cons hA
  obtain ⟨v1, vs1, d1, ds1, p1, q1, rfl, rfl, rfl, h1, r1⟩ := trodAll_cons r0
  obtain ⟨v2, vs2, d2, ds2, p2, q2, rfl, rfl, rfl, h2, r2⟩ := trodAll_cons r1
  obtain ⟨rfl, rfl, rfl⟩ := trodAll_nil r2
  obtain rfl : args = #[v0, v1, v2] := by cases args; simp_all
  obtain ⟨rfl, rfl⟩ := trodVars_none hV
  clear hA0
  simp only [List.append_nil] at hW' hlt hk
  have hbulk := of_decide_eq_true hk
  simp only [Rows.uptoBulkAll] at hbulk
  have e0 := okWide_slice Try.underlying25 (hval 0 25 v0 rfl rfl)
  obtain ⟨s0, hs0, l0⟩ := script_of_read e0 h0
  have e1 := okWide_slice Try.underlying25 (hval 1 25 v1 rfl rfl)
  obtain ⟨s1, hs1, l1⟩ := script_of_read e1 h1
  obtain ⟨dv2, av2, f2, b2, c2, rfl, hb2, hc2, hn2, l2⟩ := cuts_of_read2 (hval 2 48 v2 rfl rfl) h2
  refine (walk W v0 s0 hs0 (by omega) v1 s1 hs1 (by omega) dv2 av2 f2 b2 c2 hb2 hc2 hn2 (by omega)).mono fun e W' ⟨he, hb⟩ => ?_
  subst he
  exact ⟨_, rfl, post_below hW' (fun _ _ _ => trodAll_cons_mk (shut_bool Try.underlying4 _) trodAll_mk0) (trodAll_cons_mk (stays (by kernel_rfl) (of_decide_eq_true (by kernel_rfl)) h0 hb (fun x hx => hlt x (by simp [hx]))) (trodAll_cons_mk (stays (by kernel_rfl) (of_decide_eq_true (by kernel_rfl)) h1 hb (fun x hx => hlt x (by simp [hx]))) (trodAll_cons_mk (stays (by kernel_rfl) (of_decide_eq_true (by kernel_rfl)) h2 hb (fun x hx => hlt x (by simp [hx]))) trodAll_mk0))) rfl hb⟩

set_option maxRecDepth 100000 in
theorem laid_met (os : Os) : laidMet Try.prog Rows.chunkScriptsUptoRow.laid ((World.holding Try.prog os ⟨#[], #[], []⟩).forCall (fun _ _ => 0) ⟨#[], #[Value.slice none 0 0, Value.slice none 0 0, Value.agg #[.slice none 0 0, .slice none 0 0, .bool false]], []⟩).memory :=
  laidMet_of_run' 8 (by kernel_rfl) (by kernel_rfl)
set_option maxRecDepth 100000 in
theorem reads (os : Os) {H : Type} (enc : TypeId × Value → H) : ∃ places, DataW.whole enc Try.prog ((World.holding Try.prog os ⟨#[], #[], []⟩).forCall (fun _ _ => 0) ⟨#[], #[Value.slice none 0 0, Value.slice none 0 0, Value.agg #[.slice none 0 0, .slice none 0 0, .bool false]], []⟩).memory Try.f5.params.toList Rows.chunkScriptsSpec.vars false #[Value.slice none 0 0, Value.slice none 0 0, Value.agg #[.slice none 0 0, .slice none 0 0, .bool false]].toList 8 = some ([.nil, .nil, .agg [.nil, .nil, .lit (.bool false)]], [], places) :=
  ⟨[], by kernel_rfl⟩

set_option maxRecDepth 100000 in
theorem lifted (os : Os) (started : os.Started) (H : Type) (enc : TypeId × Value → H) (F : Stop.Interp) :
    ReturnsInHanded {} Try.checked os 5 .any ((Rows.OpenSpec.upto Rows.chunkScriptsSpec).preRow enc Try.prog Try.f5 Rows.chunkScriptsUptoRow.domain false Rows.chunkScriptsUptoRow.laid) (((Rows.OpenSpec.upto Rows.chunkScriptsSpec).at F).post enc Try.prog Try.f5 false true false false) := by
  obtain ⟨places, hx⟩ := reads os enc
  refine returnsInHanded_of_row (C := Try.checked) (s := Rows.OpenSpec.upto Rows.chunkScriptsSpec) own started (by kernel_rfl) Try.func5
    (witness_row_at (enc := enc) (C := Try.checked) false (World.holding Try.prog os ⟨#[], #[], []⟩) #[Value.slice none 0 0, Value.slice none 0 0, Value.agg #[.slice none 0 0, .slice none 0 0, .bool false]] rfl (by kernel_rfl) (by kernel_rfl) (by kernel_rfl)
      (OpenSpec.preRow_of_cond 8 hx (by kernel_rfl) (fun k hk => by cases hk; kernel_rfl) (by kernel_rfl) (laid_met os))) ?_
  intro W base args ds gs before hval hW _ hcond _ hL _ _
  exact contract H enc W base args ds gs before hval hW (hcond _ rfl)

set_option maxRecDepth 100000 in
theorem said : Rows.ChunkScriptsUptoSaid :=
  OpenClaim.holds_of_cond 5 Try.f5 rfl rfl rfl rfl rfl rfl rfl ⟨rfl, rfl, rfl, rfl, rfl⟩ rfl rfl rfl rfl rfl (by kernel_rfl) Try.func5 (by kernel_rfl)
    (of_decide_eq_true (by kernel_rfl)) (by unfold Func.isWrapper; first | (rw [if_pos (by decide +kernel)]; kernel_rfl) | (rw [if_neg (by decide +kernel)]; exact ⟨rfl, rfl⟩))
    (fun os started H enc _ F => by rw [OpenClaim.pre_eq_preRow]; exact lifted os started H enc F)


end Go.Proofs.Ytlhjippfgnnnoaa.CScripts
