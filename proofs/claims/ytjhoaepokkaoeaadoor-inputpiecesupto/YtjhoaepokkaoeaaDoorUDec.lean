/- What is proved here: contracts of a decoder that was made and is not over: New, Feed, End. -/
import Derived.Deep.RegionLaw
import Derived.Laws.CopyOwn
import Derived.Laws.MakeOwn
import Derived.Test.YtjhoaepokkaoeaaDoorDec
import Derived.Test.YtjhoaepokkaoeaaDoorUCuts
import Derived.Test.YtjhoaepokkaoeaaDoorMathU
namespace Go.Proofs.YtjhoaepokkaoeaaDoor.U
open Go.RowKit Go.Shelf

/-- A decoder in memory: whether it is over, and what it holds back. -/
def DecAt (W : World) (d : Nat) (ov : Bool) (held : List UInt8) : Prop :=
  ∃ h0 h1 h2 : Nat, W.heap[d]? = some (.cells [.bool true, .bool ov, .int .u8 h0, .int .u8 h1, .int .u8 h2, .int .i64 held.length].toArray 66 (0, 0)) ∧ held.length ≤ 3 ∧ ∀ j, j < held.length → byteAt held j = [h0, h1, h2].getD j 0
theorem DecAt.kept {W W' : World} {d : Nat} {ov : Bool} {held : List UInt8} (h : DecAt W d ov held) (hb : W'.heap[d]? = W.heap[d]?) : DecAt W' d ov held := by
  obtain ⟨h0, h1, h2, hg, hl, hx⟩ := h
  exact ⟨h0, h1, h2, hb.trans hg, hl, hx⟩
theorem DecAt.lt {W : World} {d : Nat} {ov : Bool} {held : List UInt8} (h : DecAt W d ov held) : d < W.heap.size := by
  obtain ⟨h0, h1, h2, hg, _⟩ := h
  exact lt_of_block hg
theorem cell_heap {W : World} {d : Nat} {c : List Value} {t : TypeId} {f : Nat × Nat} (h : W.heap[d]? = some (.cells c.toArray t f)) (j : Nat) : W.cell? ⟨d, j, none⟩ = c[j]? := by
  simp [World.cell?, h]
theorem frozen_heap {W : World} {d : Nat} {c : Array Value} {t : TypeId} (h : W.heap[d]? = some (.cells c t (0, 0))) (j : Nat) : W.frozen? ⟨d, j, none⟩ = false := by
  simp [World.frozen?, h]
theorem DecAt.count {W : World} {d : Nat} {ov : Bool} {held : List UInt8} (h : DecAt W d ov held) : W.cell? ⟨d, 5, none⟩ = some (.int .i64 held.length) := by
  obtain ⟨h0, h1, h2, hg, _⟩ := h
  rw [cell_heap hg]; rfl

set_option maxRecDepth 100000 in
theorem new_calls (w : World) : Calls Tryd.prog 6 #[] w fun e w' => e = .returned (.pointer (some ⟨w.heap.size, 0, none⟩)) ∧ DecAt w' w.heap.size false [] ∧ Below w.heap.size w w' := by
  go_enter Tryd.func6, Tryd.ntmps6
  go_wp2
  go_ret
  refine ⟨rfl, ⟨0, 0, 0, ?_, by simp, fun j hj => by simp at hj⟩, (Below.refl _ w).alloc (Nat.le_refl _) _⟩
  exact World.alloc_heap_new w _

theorem step_own {P : Program} {w : World} {ops : Array Oper} {o : Oper} {a : Act} {K : Act → World → Prop} {Q : Exit → Act → World → Prop} {E : Prop} (hg : o.guard = none) (s x : Operand) (t : TypeId)
    (ho : o.op = .call { callee := .builtin .append, args := #[s, x], argTypes := #[t, t] })
    (base : Nat) (e : TypeId) (i : TypeInfo) (z : Value) (size bytes : Nat) (ht : P.underlying t = some (.slice e)) (hi : P.info? e = some i) (hz : i.zero = some z)
    (hsize : i.size = size) (hby : i.bytes = bytes) (hzs : z.cells.size = size) (hsz : 0 < size)
    (v : Value) (n : Nat) (xs : List Value) (hs : a.eval s = v) (hown : w.ownsRow base e size v n xs)
    (ad : Addr) (m c : Nat) (news : List Value) (hx : a.eval x = .slice (some ad) m c) (hl : news.length = m * size) (hnews : ∀ j u, news[j]? = some u → w.cell? (ad.add j) = some u) (h1 : ∀ u ∈ news, u.oneCell' = true)
    (h63 : n + m ≤ maxLen) (hbytes : (n + m) * bytes ≤ 140737488355328) (hbase : base ≤ w.heap.size)
    (h : ∀ v' w', w'.ownsRow base e size v' (n + m) (xs ++ news) → w.grownBy w' v.ownBlock → K (a.put o.dst v') w') :
    if Region.wanted o (yielded ops a.tmps) = true then Oper.wp P o a w K Q else E := by
  rw [if_pos (by simp [Region.wanted, hg])]
  exact wp_append_own w s x t ho base e i z size bytes ht hi hz hsize hby hzs hsz v n xs hs hown ad m c news hx hl hnews h1 h63 hbytes hbase (fun v' w' a b _ => h v' w' a b)
theorem bvs_one (bs : List UInt8) : ∀ u ∈ bvs bs, u.oneCell' = true := fun x hx => by simp [bvs] at hx; obtain ⟨c, _, rfl⟩ := hx; rfl

/-- A part of the decoder's array. -/
theorem run_heldTo (d n : Nat) (h : n ≤ 3) (w : World) : (Instr.sliceAt 64 (.pointer (some ⟨d, 2, none⟩)) none (some (.int .i64 (n : Int))) none).run Tryd.prog w = .ok (.slice (some ⟨d, 2, none⟩) n 3) w := by
  have e3 : Tryd.prog.arrayLen 64 = 3 := by kernel_rfl
  rw [run_sliceAt_array_h (P := Tryd.prog) w 64 ⟨d, 2, none⟩ (by kernel_rfl) .i64 (n : Int) (by omega) (by rw [e3]; omega), e3]
  rw [show (sizeOf (Tryd.prog.elem 64)).run Tryd.prog w = .ok 1 w from by kernel_rfl]
  simp [slicedAt, Result.andThen, add_none]
theorem run_heldAll (d : Nat) (w : World) : (Instr.sliceAt 64 (.pointer (some ⟨d, 2, none⟩)) none none none).run Tryd.prog w = .ok (.slice (some ⟨d, 2, none⟩) 3 3) w := by
  have e3 : Tryd.prog.arrayLen 64 = 3 := by kernel_rfl
  rw [run_sliceAt_array_all (P := Tryd.prog) w 64 ⟨d, 2, none⟩ (by kernel_rfl), e3]
  rw [show (sizeOf (Tryd.prog.elem 64)).run Tryd.prog w = .ok 1 w from by kernel_rfl]
  simp [slicedAt, Result.andThen, add_none]

theorem grown_trans {a b c : World} {row : Option Nat} (h : a.grownBy b row) (k : b.grownBy c row) : a.grownBy c row :=
  ⟨k.os.trans h.os, k.tape.trans h.tape, k.output.trans h.output, Nat.le_trans h.size k.size, fun j hj hr => (k.block j (Nat.lt_of_lt_of_le hj h.size) hr).trans (h.block j hj hr)⟩
theorem grown_below {a b : World} {row : Option Nat} (h : Below a.heap.size a b) : a.grownBy b row := ⟨h.os, h.tape, h.output, h.size, fun k hk _ => h.block k hk⟩
theorem grown_set (w : World) (d j : Nat) (v : Value) : w.grownBy (w.setCell ⟨d, j, none⟩ v) (some d) := ⟨rfl, rfl, rfl, by simp [World.setCell], fun k _ hk => Below.heap_setCell _ _ _ k (fun e => hk (by rw [e]))⟩
/-- Copying into a part of a block, as one step of a region that draws its order. -/
theorem step_copy {P : Program} {ops : Array Oper} {o : Oper} {a : Act} {w : World} {K : Act → World → Prop} {Q : Exit → Act → World → Prop} {E : Prop} (hgd : o.guard = none) (d s : Operand) (dT sT : TypeId)
    (ho : o.op = .call { callee := .builtin .copy, args := #[d, s], argTypes := #[dT, sT] }) (elem : TypeId) (hu : P.underlying dT = some (.slice elem)) (hsz : (P.info? elem).map (·.size) = some 1)
    (dp sp : Option Addr) (dLen dCap sLen sCap : Nat) (hd : a.eval d = .slice dp dLen dCap) (hs : a.eval s = .slice sp sLen sCap)
    (g off : Nat) (cur : List Value) (t : TypeId) (hg : w.heap[g]? = some (.cells cur.toArray t (0, 0))) (cs : List Value) (hn : cs.length = Nat.min sLen dLen)
    (hpos : 0 < cs.length → dp = some ⟨g, off, none⟩ ∧ ∃ ad, sp = some ad ∧ ∀ j v, cs[j]? = some v → w.cell? (ad.add j) = some v)
    (hfit : off + cs.length ≤ cur.length) (h1 : ∀ v ∈ cs, v.oneCell' = true)
    (h : ∀ w', Hid (w'.heap[g]? = some (.cells (splice cur off cs).toArray t (0, 0))) → w.grownBy w' (some g) → K (a.put o.dst (goInt cs.length)) w') :
    if Region.wanted o (yielded ops a.tmps) = true then Oper.wp P o a w K Q else E := by
  have hw : Region.wanted o (yielded ops a.tmps) = true := by simp [Region.wanted, hgd]
  rw [if_pos hw]
  by_cases h0 : cs.length = 0
  · obtain rfl : cs = [] := List.eq_nil_of_length_eq_zero h0
    have hrun := run_copy_none (P := P) w dT sT o.type elem dp sp dLen dCap sLen sCap hu hsz (by simpa using hn.symm)
    unfold Oper.wp
    simp [execOp, ho, resolve, invoke, builtin, hd, hs, hrun, Result.andThen]
    exact h w (show _ = _ by simpa [splice] using hg) (World.grownBy.refl _ _)
  · obtain ⟨rfl, ad, rfl, hsrc⟩ := hpos (by omega)
    have hrun := run_copy_row (P := P) w dT sT o.type elem g off dLen dCap ad sLen sCap cur.toArray t cs hu hsz hg hn hsrc (by simpa using hfit) h1
    unfold Oper.wp
    simp [execOp, ho, resolve, invoke, builtin, hd, hs, hrun, Result.andThen]
    exact h _ (show _ = _ by simpa [splice] using setRow_heap w g _ _ t _ hg) ⟨rfl, rfl, rfl, by simp [World.setRow], fun k _ hk => setRow_other w g k _ (fun e => hk (by rw [e]))⟩
theorem set_heap {W : World} {d : Nat} {c : Array Value} {t : TypeId} (h : W.heap[d]? = some (.cells c t (0, 0))) (j : Nat) (v : Value) : (W.setCell ⟨d, j, none⟩ v).heap[d]? = some (.cells (c.setIfInBounds j v) t (0, 0)) := by
  rw [setCell_eq_setRow W d j c t (0, 0) _ h]
  exact setRow_heap W d c _ t (0, 0) h
/-- What a decoder holds behind the copy and the count. -/
theorem dec_stored {W : World} {d : Nat} {h0 h1 h2 : Nat} {m : Int} {H : List UInt8} (hg : W.heap[d]? = some (.cells (splice [Value.bool true, .bool false, .int .u8 h0, .int .u8 h1, .int .u8 h2, .int .i64 m] 2 (bvs H)).toArray 66 (0, 0))) (hl : H.length ≤ 3) :
    DecAt (W.setCell ⟨d, 5, none⟩ (.int .i64 H.length)) d false H := by
  have hs : ∀ c : Array Value, W.heap[d]? = some (.cells c 66 (0, 0)) → (W.setCell ⟨d, 5, none⟩ (.int .i64 H.length)).heap[d]? = some (.cells (c.setIfInBounds 5 (.int .i64 H.length)) 66 (0, 0)) := fun c h => by
    rw [setCell_eq_setRow W d 5 c 66 (0, 0) _ h]
    exact setRow_heap W d c _ 66 (0, 0) h
  have h' := hs _ hg
  match H, hl with
  | [], _ => exact ⟨h0, h1, h2, by rw [h']; simp [splice, bvs], by simp, fun j hj => by simp at hj⟩
  | [x], _ => exact ⟨x.toNat, h1, h2, by rw [h']; simp [splice, bvs], by simp, fun j hj => by obtain rfl : j = 0 := by simpa using hj
                                                                                              simp [byteAt]⟩
  | [x, y], _ => exact ⟨x.toNat, y.toNat, h2, by rw [h']; simp [splice, bvs], by simp, fun j hj => by
      have : j = 0 ∨ j = 1 := by simp at hj; omega
      rcases this with rfl | rfl <;> simp [byteAt]⟩
  | [x, y, z], _ => exact ⟨x.toNat, y.toNat, z.toNat, by rw [h']; simp [splice, bvs], by simp, fun j hj => by
      have : j = 0 ∨ j = 1 ∨ j = 2 := by simp at hj; omega
      rcases this with rfl | rfl | rfl <;> simp [byteAt]⟩

theorem cell_five {W : World} {d : Nat} {a b c e f g : Value} {t : TypeId} {H : List UInt8} (hg : W.heap[d]? = some (.cells (splice [a, b, c, e, f, g] 2 (bvs H)).toArray t (0, 0))) (hl : H.length ≤ 3) : W.cell? ⟨d, 5, none⟩ = some g := by
  rw [cell_heap hg]
  match H, hl with
  | [], _ => simp [splice, bvs]
  | [x], _ => simp [splice, bvs]
  | [x, y], _ => simp [splice, bvs]
  | [x, y, z], _ => simp [splice, bvs]
theorem tabs_grown {w W : World} {d f g : Nat} (hT : Lib.Utf8Tabs f g w) (hg : w.grownBy W (some d)) (h1 : d ≠ f) (h2 : d ≠ g) : Lib.Utf8Tabs f g W :=
  ⟨fun j hj => hg.cell (hT.1 j hj) (by simp; omega), fun j hj => ⟨hg.cell (hT.2 j hj).1 (by simp; omega), hg.cell (hT.2 j hj).2 (by simp; omega)⟩⟩
/-- The first bytes of a row. -/
theorem hasB_take {W : World} {base : Nat} {a : Option Addr} {A : List UInt8} {c k : Nat} (h : W.ownsRow base 5 1 (.slice a A.length c) A.length (bvs A)) (hk : k ≤ A.length) : HasB W.heap.size W (.slice a k c) (A.take k) := by
  have hl : (A.take k).length = k := by simp; omega
  rcases (hasB_owns h).1 with ⟨e, _⟩ | ⟨hp, b, off, cap, e, hcap, hb, hx⟩
  · subst e; obtain rfl : k = 0 := by simpa using hk
    exact .inl ⟨rfl, a, c, rfl⟩
  · simp only [Value.slice.injEq] at e
    obtain ⟨rfl, _, rfl⟩ := e
    by_cases h0 : k = 0
    · subst h0; exact .inl ⟨rfl, _, _, rfl⟩
    · refine .inr ⟨by omega, b, off, c, by rw [hl], by omega, hb, fun j hj => ?_⟩
      rw [hl] at hj
      rw [show byteAt (A.take k) j = byteAt A j from by simp [byteAt, hj]]
      exact hx j (by omega)
/-- The end of a row of bytes. -/
theorem run_from (a : Option Addr) (n cap k m : Nat) (hk : k + m = n) (w : World) : (Instr.slice 22 (.slice a n cap) (some (.int .i64 (k : Int))) none none).run Tryd.prog w = .ok (.slice (if cap = k then a else a.map fun p => p.add k) m (cap - k)) w := by
  rw [run_slice_l (P := Tryd.prog) w 22 a n cap (by kernel_rfl) .i64 (k : Int) (by omega) (by omega)]
  rw [show (sizeOf (Tryd.prog.elem 22)).run Tryd.prog w = .ok 1 w from by kernel_rfl]
  simp only [Result.andThen, sliced, Int.toNat_natCast, Nat.mul_one]
  rw [show n - k = m by omega]
theorem drop_take (A : List UInt8) (k : Nat) : (A.drop k).take (A.length - k) = A.drop k := List.take_of_length_le (by simp)

set_option maxRecDepth 100000 in
set_option maxHeartbeats 600000 in
/-- **Feed of any bytes.** -/
theorem feed_calls (d : Nat) (held c : List UInt8) (cb coff ccap : Nat) (w : World) (hD : DecAt w d false held) (hl : c.length ≤ 8796093022208)
    (hc : ∀ j, j < c.length → w.cell? ⟨cb, coff + j, none⟩ = some (.int .u8 (byteAt c j))) (hT : Lib.Utf8Tabs (Tryd.lays32_ren.g 2) (Tryd.lays32_ren.g 3) w) (hdT : d ≠ Tryd.lays32_ren.g 2 ∧ d ≠ Tryd.lays32_ren.g 3) :
    Calls Tryd.prog 9 #[.pointer (some ⟨d, 0, none⟩), .slice (some ⟨cb, coff, none⟩) c.length ccap] w fun e W' => ∃ v, e = .returned (.tuple #[v, .int .i64 0]) ∧
      W'.ownsRow w.heap.size 21 1 v (runes ((held ++ c).take ((held ++ c).length - tailN (held ++ c)))).length ((runes ((held ++ c).take ((held ++ c).length - tailN (held ++ c)))).map fun r : Nat => Value.int .i32 (r : Int)) ∧
      DecAt W' d false ((held ++ c).drop ((held ++ c).length - tailN (held ++ c))) ∧ w.grownBy W' (some d) := by
  have hdl := hD.lt
  obtain ⟨h0, h1, h2, hg, h3, hh⟩ := hD
  obtain ⟨A, hA⟩ : ∃ A, held ++ c = A := ⟨_, rfl⟩
  rw [hA]
  have HA : Hid (held ++ c = A) := hA
  have HLA : Hid (A.length = held.length + c.length) := by show _ = _; rw [← hA]; simp
  have htl := tail_le A
  obtain ⟨t, ht⟩ : ∃ t, tailN A = t := ⟨_, rfl⟩
  have HTT : Hid (tailN A = t) := ht
  rw [ht] at htl ⊢
  obtain ⟨k, hk⟩ : ∃ k, A.length - t = k := ⟨_, rfl⟩
  have HKK : Hid (A.length = k + t) := by show _ = _; omega
  rw [hk]
  clear hA ht hk
  obtain ⟨i0, hi, hz0, hz1, hz2⟩ := info_parts infoByte
  have cm := (cell_heap hg 0).trans rfl
  have co := (cell_heap hg 1).trans rfl
  have cn := (cell_heap hg 5).trans rfl
  simp only [List.getElem?_cons_zero, List.getElem?_cons_succ] at cm co cn
  have HG : Hid (w.heap[d]? = some (.cells [.bool true, .bool false, .int .u8 h0, .int .u8 h1, .int .u8 h2, .int .i64 held.length].toArray 66 (0, 0))) := hg
  have HH : Hid (∀ j, j < held.length → byteAt held j = [h0, h1, h2].getD j 0) := hh
  have HC : Hid (∀ j, j < c.length → w.cell? ⟨cb, coff + j, none⟩ = some (.int .u8 (byteAt c j))) := hc
  have HT : Hid (Lib.Utf8Tabs (Tryd.lays32_ren.g 2) (Tryd.lays32_ren.g 3) w) := hT
  clear hg hh hc hT
  have hmk : ∀ w, (Instr.makeSlice 22 (.int .i64 0) (.int .i64 ((held.length : Int) + (c.length : Int)))).run Tryd.prog w = .ok (.slice (some ⟨w.heap.size, 0, none⟩) 0 (held.length + c.length)) (w.alloc (.cells (madeCells (Value.int .u8 0).cells (held.length + c.length)) 5)) := fun w => by
    have := run_make (P := Tryd.prog) w 22 5 i0 _ Tryd.underlying22 hi hz0 .i64 .i64 0 ((held.length : Int) + (c.length : Int)) (by omega) (by omega) (by rw [hz2]; omega) (by omega)
    rw [this, hz1, Nat.mul_one, show ((held.length : Int) + (c.length : Int)).toNat = held.length + c.length by omega]
    rfl
  go_enter Tryd.func9, Tryd.ntmps9
  go_wp2_with (go_at_call 32; refine (state_good d _ cm co).mono ?_; rintro e w' ⟨rfl, hx'⟩; obtain rfl : w = w' := hx'.symm)
  clear hmk cm co
  obtain ⟨W1, hW1⟩ : ∃ W1, w.alloc (.cells (madeCells #[.int .u8 0] (held.length + c.length)) 5) = W1 := ⟨_, rfl⟩
  have b1 : Below w.heap.size w W1 := by rw [← hW1]; exact (Below.refl _ w).alloc (Nat.le_refl _) _
  have O1 : Hid (W1.ownsRow w.heap.size 5 1 (.slice (some ⟨w.heap.size, 0, none⟩) 0 (held.length + c.length)) 0 []) := by
    rw [← hW1]
    exact World.ownsRow_made _ _ _ (Nat.le_refl _) (by unfold maxLen; omega) (by simp [madeCells])
  have z1 : W1.heap.size = w.heap.size + 1 := by rw [← hW1]; simp
  have cn1 := (b1.cell (p := ⟨d, 5, none⟩) hdl).trans cn
  have HD1 : Hid (∀ j u, (bvs held)[j]? = some u → W1.cell? ((⟨d, 2, none⟩ : Addr).add j) = some u) := fun j u h => by
    have hj : j < held.length := by have := (List.getElem?_eq_some_iff.1 h).1; simpa [bvs] using this
    rw [bvs_get held j hj, HH.out j hj] at h
    cases h
    rw [add_none, (b1.cell (p := ⟨d, 2 + j, none⟩) hdl), cell_heap HG.out]
    have : j = 0 ∨ j = 1 ∨ j = 2 := by omega
    rcases this with rfl | rfl | rfl <;> rfl
  have HC1 : Hid (∀ j u, (bvs c)[j]? = some u → W1.cell? ((⟨cb, coff, none⟩ : Addr).add j) = some u ∧ cb ≠ w.heap.size) := fun j u h => by
    have hj : j < c.length := by have := (List.getElem?_eq_some_iff.1 h).1; simpa [bvs] using this
    rw [bvs_get c j hj] at h
    cases h
    have hlt := cell_lt (HC.out j hj)
    refine ⟨?_, by simp only at hlt; omega⟩
    rw [add_none, (b1.cell (p := ⟨cb, coff + j, none⟩) hlt)]
    exact HC.out j hj
  rw [hW1]
  clear hW1
  have hs1 := run_heldTo d held.length h3
  go_region_law (first
    | (refine step_own rfl _ _ 22 rfl w.heap.size 5 i0 (.int .u8 0) 1 1 Tryd.underlying22 hi hz0 hz1 hz2 rfl (by decide) (.slice (some ⟨w.heap.size, 0, none⟩) 0 (held.length + c.length)) 0 [] (by first | rfl | simp [Act.eval, Act.put]) O1.out.drew ⟨d, 2, none⟩ held.length 3 (bvs held) (by first | rfl | simp [Act.eval, Act.put]) (by rw [bvs_length]; omega) HD1.out (bvs_one held) (by unfold maxLen; omega) (by omega) (by simp; omega) ?_; intro v1 w3 hown1 hgrow1; rw [Nat.zero_add, List.nil_append] at hown1)
    | (refine step_own rfl _ _ 22 rfl w.heap.size 5 i0 (.int .u8 0) 1 1 Tryd.underlying22 hi hz0 hz1 hz2 rfl (by decide) v1 held.length (bvs held) (by first | rfl | simp [Act.eval, Act.put]) hown1 ⟨cb, coff, none⟩ c.length ccap (bvs c) (by first | rfl | simp [Act.eval, Act.put]) (by rw [bvs_length]; omega) (fun j u h => by rw [add_none]; exact hgrow1.cell (by have := (HC1.out j u h).1; rwa [add_none] at this) (by have := (HC1.out j u h).2; simp [Value.ownBlock]; omega)) (bvs_one c) (by unfold maxLen; omega) (by omega) (by have := hgrow1.size; simp at this ⊢; omega) ?_; intro v2 w4 hown2 hgrow2))
  clear hs1 cn1
  have hc3 : w3.heap.size ≤ w4.heap.size := hgrow2.size
  have b4 : Below w.heap.size w w4 := by
    have b3 : Below w.heap.size w w3 := b1.drew.grown hgrow1 (by show w.heap.size ≤ W1.heap.size; omega) (fun j hj => by simp [Value.ownBlock] at hj; omega)
    exact b3.grown hgrow2 b3.size (fun j hj => (hown1.lt j hj).1)
  have O4 : w4.ownsRow w.heap.size 5 1 v2 A.length (bvs A) := by
    rw [HLA.out, ← HA.out, bvs_append]; exact hown2
  obtain ⟨a2, c2, rfl⟩ := owns_slice O4
  have HO4 : Hid (w4.ownsRow w.heap.size 5 1 (.slice a2 A.length c2) A.length (bvs A)) := O4
  have HB4 : Hid (Below w.heap.size w w4) := b4
  have hAl : (A.length : Int) ≤ 17592186044416 := by have := HLA.out; omega
  clear O4 hown1 hown2 hgrow1 hgrow2 b1 O1 HD1 HC1 hc3 b4
  have hkt : (A.length : Int) - (t : Int) = (k : Int) := by have := HKK.out; omega
  go_wp2_with (go_at_call 33; refine (tail_calls _ A w4.heap.size _ (by omega) (hasB_owns HO4.out).1 (tabs_below HT.out HB4.out)).mono ?_; rintro e w5 ⟨rfl, hb5⟩; rw [HTT.out])
  clear hkt
  have hdw4 : d < w4.heap.size := Nat.lt_of_lt_of_le hdl HB4.out.size
  have HG5 : Hid (w5.heap[d]? = some (.cells [.bool true, .bool false, .int .u8 h0, .int .u8 h1, .int .u8 h2, .int .i64 held.length].toArray 66 (0, 0))) := (hb5.block d hdw4).trans ((HB4.out.block d hdl).trans HG.out)
  have HO5 : Hid (w5.ownsRow w.heap.size 5 1 (.slice a2 A.length c2) A.length (bvs A)) := owns_below HO4.out hb5
  have HB5 : Hid (Below w.heap.size w w5) := HB4.out.trans (hb5.mono HB4.out.size)
  have hs2 := run_heldAll d
  have hs3 := fun w => run_from a2 A.length c2 k t HKK.out.symm w
  have HDL : Hid ((A.drop k).length = t) := by have := HKK.out; show _ = _; simp; omega
  have HCS : Hid (0 < t → ∃ ad, (if c2 = k then a2 else a2.map fun p => p.add k) = some ad ∧ ∀ j v, (bvs (A.drop k))[j]? = some v → w5.cell? (ad.add j) = some v) := fun h0 => by
    have hA := (hasB_owns HO5.out).1
    rcases hA with ⟨e, _⟩ | ⟨hp, b, off, cap, e, hcap, hb, hx⟩
    · rw [e] at HKK; have := HKK.out; simp at this; omega
    · simp only [Value.slice.injEq] at e
      obtain ⟨rfl, _, rfl⟩ := e
      have hkk := HKK.out
      refine ⟨⟨b, off + k, none⟩, by rw [if_neg (by omega), Option.map_some, add_none], fun j v hv => ?_⟩
      have hj : j < (A.drop k).length := by have := (List.getElem?_eq_some_iff.1 hv).1; simpa [bvs] using this
      rw [bvs_get _ j hj, byteAt_drop] at hv
      cases hv
      rw [add_none, Nat.add_assoc]
      exact hx (k + j) (by have := HDL.out; omega)
  clear hb5 HO4 HB4 HG
  generalize (if c2 = k then a2 else a2.map fun p => p.add k) = ap at *
  generalize c2 - k = cp at *
  go_region_law (refine step_copy rfl _ _ 22 22 rfl 5 Tryd.underlying22 (by kernel_rfl) (some ⟨d, 2, none⟩) ap 3 3 t cp (by simp [Act.eval, Act.put]) (by simp [Act.eval, Act.put]) d 2 [.bool true, .bool false, .int .u8 h0, .int .u8 h1, .int .u8 h2, .int .i64 held.length] 66 HG5.out (bvs (A.drop k)) (by rw [bvs_length, HDL.out]; exact (Nat.min_eq_left htl.2).symm) (fun h => ⟨rfl, HCS.out (by rw [bvs_length, HDL.out] at h; exact h)⟩) (by rw [bvs_length, HDL.out]; simp; omega) (bvs_one _) ?_; intro w6 hg6 hgr6; have c6 := cell_five hg6.out (by have := HDL.out; omega); have f6 := frozen_heap hg6.out 5)
  clear hs2 hs3 c6 f6
  have G7 : w5.drew.grownBy (w6.setCell ⟨d, 5, none⟩ (.int .i64 (bvs (A.drop k)).length)) (some d) := grown_trans hgr6 (grown_set _ _ _ _)
  have D7 : DecAt (w6.setCell ⟨d, 5, none⟩ (.int .i64 (bvs (A.drop k)).length)) d false (A.drop k) := by
    rw [bvs_length]
    exact dec_stored hg6.out (by have := HDL.out; omega)
  obtain ⟨W7, hW7⟩ : ∃ W7, w6.setCell ⟨d, 5, none⟩ (.int .i64 (bvs (A.drop k)).length) = W7 := ⟨_, rfl⟩
  rw [hW7] at G7 D7
  have GW : w.grownBy W7 (some d) := grown_trans (grown_below HB5.out.drew) G7
  have O7 : W7.ownsRow w.heap.size 5 1 (.slice a2 A.length c2) A.length (bvs A) := HO5.out.drew.kept G7 (by
    cases e : (Value.slice a2 A.length c2).ownBlock with
    | none => exact .inl rfl
    | some j => exact .inr (fun e' => by have := (HO5.out.lt j e).1; simp at e'; omega))
  have HD7 : Hid (DecAt W7 d false (A.drop k)) := D7
  have HGW : Hid (w.grownBy W7 (some d)) := GW
  have HO7 : Hid (W7.ownsRow w.heap.size 5 1 (.slice a2 A.length c2) A.length (bvs A)) := O7
  have hkA : k ≤ A.length := by have := HKK.out; omega
  have hkc : k ≤ c2 := by
    rcases O7.2 with ⟨e, e0⟩ | ⟨g, cap, cur, e, _, _, hcap, _⟩
    · omega
    · simp only [Value.slice.injEq] at e; omega
  have HLK : Hid ((A.take k).length ≤ 35184372088832) := by show _ ≤ _; simp; omega
  rw [hW7]
  clear hW7 G7 D7 GW O7 hg6 hgr6 HG5 HCS HO5 HB5
  go_wp2_with (go_at_call 21; refine (runes_calls _ _ _ (A.take k) _ HLK.out (hasB_take HO7.out hkA) (tabs_grown HT.out HGW.out hdT.1 hdT.2)).mono ?_; rintro e w8 ⟨v8, rfl, ho8, hb8⟩)
  go_ret2
  refine ⟨v8, rfl, owns_mono ho8 HGW.out.size, HD7.out.kept (hb8.block d HD7.out.lt), grown_trans HGW.out (grown_below hb8)⟩

set_option maxRecDepth 100000 in
set_option maxHeartbeats 1000000 in
/-- **End.** -/
theorem end_calls (d : Nat) (held : List UInt8) (w : World) (hD : DecAt w d false held) (hT : Lib.Utf8Tabs (Tryd.lays32_ren.g 2) (Tryd.lays32_ren.g 3) w) :
    Calls Tryd.prog 15 #[.pointer (some ⟨d, 0, none⟩)] w fun e W' => ∃ v, e = .returned (.tuple #[v, .int .i64 0]) ∧
      W'.ownsRow w.heap.size 21 1 v (runes held).length ((runes held).map fun r : Nat => Value.int .i32 (r : Int)) ∧ DecAt W' d true [] ∧ w.grownBy W' (some d) := by
  have hdl := hD.lt
  obtain ⟨h0, h1, h2, hg, h3, hh⟩ := hD
  have cm := (cell_heap hg 0).trans rfl
  have co := (cell_heap hg 1).trans rfl
  have cn := (cell_heap hg 5).trans rfl
  simp only [List.getElem?_cons_zero, List.getElem?_cons_succ] at cm co cn
  have HG : Hid (w.heap[d]? = some (.cells [.bool true, .bool false, .int .u8 h0, .int .u8 h1, .int .u8 h2, .int .i64 held.length].toArray 66 (0, 0))) := hg
  have HB : Hid (∀ W, (∀ j, j < held.length → W.cell? ⟨d, 2 + j, none⟩ = w.cell? ⟨d, 2 + j, none⟩) → d < W.heap.size → HasB W.heap.size W (.slice (some ⟨d, 2, none⟩) held.length 3) held) := fun W hW hdW => by
    by_cases e0 : held.length = 0
    · have e := List.length_eq_zero_iff.1 e0
      subst e; exact .inl ⟨rfl, _, _, rfl⟩
    · refine .inr ⟨by omega, d, 2, 3, rfl, h3, hdW, fun j hj => ?_⟩
      rw [hW j hj, cell_heap HG.out, hh j hj]
      have : j = 0 ∨ j = 1 ∨ j = 2 := by omega
      rcases this with rfl | rfl | rfl <;> rfl
  have HT : Hid (Lib.Utf8Tabs (Tryd.lays32_ren.g 2) (Tryd.lays32_ren.g 3) w) := hT
  clear hg hT hh
  have hs1 := run_heldTo d held.length h3
  go_enter Tryd.func15, Tryd.ntmps15
  go_wp2_with (go_at_call 32; refine (state_good d _ cm co).mono ?_; rintro e w' ⟨rfl, hx'⟩; obtain rfl : w = w' := hx'.symm)
  have RC : Hid (Calls Tryd.prog 21 #[.slice (some ⟨d, 2, none⟩) held.length 3] w.drew fun e W' => ∃ v, e = .returned v ∧ W'.ownsRow w.heap.size 21 1 v (runes held).length ((runes held).map fun r : Nat => Value.int .i32 (r : Int)) ∧ Below w.heap.size w W') :=
    (runes_calls _ _ _ held w.drew (by omega) (HB.out w.drew (fun j hj => rfl) hdl) (tabs_below HT.out (Below.refl w.heap.size w).drew)).mono fun e W' ⟨v, h1, h2, h3⟩ => ⟨v, h1, h2, (Below.refl w.heap.size w).drew.trans h3⟩
  go_region_with (go_at_call 21; refine RC.out.mono ?_; rintro e w1 ⟨v1, rfl, ho1, hb1⟩)
  have hg1 : w1.heap[d]? = some (.cells [.bool true, .bool false, .int .u8 h0, .int .u8 h1, .int .u8 h2, .int .i64 held.length].toArray 66 (0, 0)) := (hb1.block d hdl).trans HG.out
  have k1 := (cell_heap hg1 1).trans rfl
  have k5 := (cell_heap hg1 5).trans rfl
  simp only [List.getElem?_cons_zero, List.getElem?_cons_succ] at k1 k5
  have f1 := frozen_heap hg1 1
  have f5 := frozen_heap hg1 5
  have HO1 : Hid _ := ho1
  have HB1 : Hid _ := hb1
  have HG1 : Hid _ := hg1
  clear ho1 hb1 hg1 hs1 cm co cn RC
  go_wp2
  go_ret2
  have g2 : w.grownBy ((w1.setCell ⟨d, 1, none⟩ (.bool true)).setCell ⟨d, 5, none⟩ (.int .i64 0)) (some d) := grown_trans (grown_below HB1.out) (grown_trans (grown_set _ _ _ _) (grown_set _ _ _ _))
  have g1 : w1.grownBy ((w1.setCell ⟨d, 1, none⟩ (.bool true)).setCell ⟨d, 5, none⟩ (.int .i64 0)) (some d) := grown_trans (grown_set _ _ _ _) (grown_set _ _ _ _)
  refine ⟨v1, rfl, World.ownsRow.kept HO1.out g1 ?_, ⟨h0, h1, h2, ?_, by simp, fun j hj => by simp at hj⟩, g2⟩
  · cases e : v1.ownBlock with
    | none => exact .inl rfl
    | some j => exact .inr (fun e' => by have := (World.ownsRow.lt HO1.out j e).1; simp at e'; omega)
  · rw [set_heap (set_heap HG1.out 1 (.bool true)) 5 (.int .i64 0)]
    simp
end Go.Proofs.YtjhoaepokkaoeaaDoor.U
