/- What is proved here: contracts of a stream of package input that was made and is not over: New, Feed, End. -/
import Derived.Deep.RegionLaw
import Derived.Laws.CopyOwn
import Derived.Laws.MakeOwn
import Derived.Test.YtjhoaepokkaoeaaDoorUDec
import Derived.Test.YtjhoaepokkaoeaaDoorShelf4
import Derived.Test.YtjhoaepokkaoeaaDoorIStream
import Derived.Test.YtjhoaepokkaoeaaDoorMathW
namespace Go.Proofs.YtjhoaepokkaoeaaDoor.U
open Go.RowKit Go.Shelf

theorem bytesOf_map (B : List UInt8) : Lib.bytesOf (B.map fun x => (x.toNat : Int)) = B := by
  induction B with
  | nil => rfl
  | cons x B ih => simp [Lib.bytesOf] at ih ⊢; simpa using ih
theorem trimV (p : Option Addr) (k c : Nat) (B : List UInt8) (hB : B.length = k) (hp : 0 < k → ∃ b o, p = some ⟨b, o, none⟩) : Lib.trimSuffixV p k c (B.map fun x => (x.toNat : Int)) [13] = .slice p (cutC B) c := by
  have hb := bytesOf_map B
  by_cases h0 : 0 < k
  · obtain ⟨b, o, rfl⟩ := hp h0
    show Lib.bytesTrimSuffix b o k c _ [13] = _
    unfold Lib.bytesTrimSuffix Lib.sliceTo Lib.hasSuffix cutC
    rw [hb, show Lib.bytesOf [13] = [13] from rfl]
    split <;> simp [hB]
  · obtain rfl : B = [] := List.eq_nil_of_length_eq_zero (by omega)
    obtain rfl : k = 0 := by omega
    unfold Lib.trimSuffixV
    split
    · rfl
    · rfl

/-- A stream in memory. -/
def StrAt (W : World) (d : Nat) (ov : Bool) (y l c : Nat) (held : List UInt8) : Prop :=
  ∃ h0 h1 h2 h3 : Nat, W.heap[d]? = some (.cells [.int .i64 y, .int .i64 l, .int .i64 c, .bool true, .bool ov, .int .u8 h0, .int .u8 h1, .int .u8 h2, .int .u8 h3, .int .i64 held.length].toArray 83 (0, 0)) ∧ held.length ≤ 4 ∧ ∀ j, j < held.length → byteAt held j = [h0, h1, h2, h3].getD j 0
theorem StrAt.kept {W W' : World} {d : Nat} {ov : Bool} {y l c : Nat} {held : List UInt8} (h : StrAt W d ov y l c held) (hb : W'.heap[d]? = W.heap[d]?) : StrAt W' d ov y l c held := by
  obtain ⟨h0, h1, h2, h3, hg, hl, hx⟩ := h
  exact ⟨h0, h1, h2, h3, hb.trans hg, hl, hx⟩
theorem StrAt.lt {W : World} {d : Nat} {ov : Bool} {y l c : Nat} {held : List UInt8} (h : StrAt W d ov y l c held) : d < W.heap.size := by
  obtain ⟨h0, h1, h2, h3, hg, _⟩ := h
  exact lt_of_block hg
theorem StrAt.spot {W : World} {d : Nat} {ov : Bool} {y l c : Nat} {held : List UInt8} (h : StrAt W d ov y l c held) : SpotAt W d y l c ∧ ∀ u v, W.cell? ⟨d, u, none⟩ = some v → v.ownBlock = none := by
  obtain ⟨h0, h1, h2, h3, hg, _⟩ := h
  refine ⟨⟨(cell_heap hg 0).trans rfl, (cell_heap hg 1).trans rfl, (cell_heap hg 2).trans rfl, fun k => frozen_heap hg k⟩, fun u v hv => ?_⟩
  rw [cell_heap hg] at hv
  have hm := List.mem_of_getElem? hv
  simp only [List.mem_cons, List.not_mem_nil, or_false] at hm
  rcases hm with rfl | rfl | rfl | rfl | rfl | rfl | rfl | rfl | rfl | rfl <;> rfl
theorem StrAt.read {W W' : World} {d : Nat} {ov : Bool} {y l c y' l' c' : Nat} {held : List UInt8} (h : StrAt W d ov y l c held) (hs : SpotK W W' d y' l' c') : StrAt W' d ov y' l' c' held := by
  obtain ⟨h0, h1, h2, h3, hg, hl, hx⟩ := h
  obtain ⟨cs', hc, hz⟩ := hs.blk _ _ hg
  have e : ∀ j, W'.cell? ⟨d, j, none⟩ = cs'[j]? := fun j => by simp [World.cell?, hc]
  refine ⟨h0, h1, h2, h3, ?_, hl, hx⟩
  rw [hc]
  have q : cs' = [Value.int .i64 y', .int .i64 l', .int .i64 c', .bool true, .bool ov, .int .u8 h0, .int .u8 h1, .int .u8 h2, .int .u8 h3, .int .i64 held.length].toArray := by
    apply Array.ext_getElem?
    intro j
    match j with
    | 0 => exact ((e 0).symm.trans hs.at_.c0).trans (by simp)
    | 1 => exact ((e 1).symm.trans hs.at_.c1).trans (by simp)
    | 2 => exact ((e 2).symm.trans hs.at_.c2).trans (by simp)
    | j + 3 => exact ((e (j + 3)).symm.trans ((hs.rest (j + 3) (by omega)).trans (cell_heap hg (j + 3)))).trans (by simp)
  rw [q]

set_option maxRecDepth 100000 in
theorem snew_calls (w : World) : Calls Tryd.prog 22 #[] w fun e w' => ∃ d, e = .returned (.pointer (some ⟨d, 0, none⟩)) ∧ StrAt w' d false 0 1 1 [] ∧ w.heap.size ≤ d ∧ Below w.heap.size w w' := by
  go_enter Tryd.func22, Tryd.ntmps22
  go_wp2_with (go_at_call 41; refine (beginning_calls _).mono ?_; rintro e w1 ⟨rfl, hb1⟩)
  go_ret
  have s1 := hb1.size
  refine ⟨_, rfl, ⟨0, 0, 0, 0, World.alloc_heap_new w1 _, by simp, fun j hj => by simp at hj⟩, s1, hb1.alloc s1 _⟩

/-- A part of the stream's array. -/
theorem run_sheldTo (d n : Nat) (h : n ≤ 4) (w : World) : (Instr.sliceAt 81 (.pointer (some ⟨d, 5, none⟩)) none (some (.int .i64 (n : Int))) none).run Tryd.prog w = .ok (.slice (some ⟨d, 5, none⟩) n 4) w := by
  have e3 : Tryd.prog.arrayLen 81 = 4 := by kernel_rfl
  rw [run_sliceAt_array_h (P := Tryd.prog) w 81 ⟨d, 5, none⟩ (by kernel_rfl) .i64 (n : Int) (by omega) (by rw [e3]; omega), e3]
  rw [show (sizeOf (Tryd.prog.elem 81)).run Tryd.prog w = .ok 1 w from by kernel_rfl]
  simp [slicedAt, Result.andThen, add_none]
theorem run_sheldAll (d : Nat) (w : World) : (Instr.sliceAt 81 (.pointer (some ⟨d, 5, none⟩)) none none none).run Tryd.prog w = .ok (.slice (some ⟨d, 5, none⟩) 4 4) w := by
  have e3 : Tryd.prog.arrayLen 81 = 4 := by kernel_rfl
  rw [run_sliceAt_array_all (P := Tryd.prog) w 81 ⟨d, 5, none⟩ (by kernel_rfl), e3]
  rw [show (sizeOf (Tryd.prog.elem 81)).run Tryd.prog w = .ok 1 w from by kernel_rfl]
  simp [slicedAt, Result.andThen, add_none]

/-- What a stream holds behind the copy and the count. -/
theorem str_stored {W : World} {d y l c : Nat} {h0 h1 h2 h3 : Nat} {m : Int} {H : List UInt8} (hg : W.heap[d]? = some (.cells (splice [Value.int .i64 y, .int .i64 l, .int .i64 c, .bool true, .bool false, .int .u8 h0, .int .u8 h1, .int .u8 h2, .int .u8 h3, .int .i64 m] 5 (bvs H)).toArray 83 (0, 0))) (hl : H.length ≤ 4) :
    StrAt (W.setCell ⟨d, 9, none⟩ (.int .i64 H.length)) d false y l c H := by
  have h' := set_heap hg 9 (.int .i64 H.length)
  match H, hl with
  | [], _ => exact ⟨h0, h1, h2, h3, by rw [h']; simp [splice, bvs], by simp, fun j hj => by simp at hj⟩
  | [x], _ => exact ⟨x.toNat, h1, h2, h3, by rw [h']; simp [splice, bvs], by simp, fun j hj => by obtain rfl : j = 0 := by simpa using hj
                                                                                                  simp [byteAt]⟩
  | [x, y], _ => exact ⟨x.toNat, y.toNat, h2, h3, by rw [h']; simp [splice, bvs], by simp, fun j hj => by
      have : j = 0 ∨ j = 1 := by simp at hj; omega
      rcases this with rfl | rfl <;> simp [byteAt]⟩
  | [x, y, z], _ => exact ⟨x.toNat, y.toNat, z.toNat, h3, by rw [h']; simp [splice, bvs], by simp, fun j hj => by
      have : j = 0 ∨ j = 1 ∨ j = 2 := by simp at hj; omega
      rcases this with rfl | rfl | rfl <;> simp [byteAt]⟩
  | [x, y, z, u], _ => exact ⟨x.toNat, y.toNat, z.toNat, u.toNat, by rw [h']; simp [splice, bvs], by simp, fun j hj => by
      have : j = 0 ∨ j = 1 ∨ j = 2 ∨ j = 3 := by simp at hj; omega
      rcases this with rfl | rfl | rfl | rfl <;> simp [byteAt]⟩
theorem cell_nine {W : World} {d : Nat} {v0 v1 v2 v3 v4 v5 v6 v7 v8 v9 : Value} {t : TypeId} {H : List UInt8} (hg : W.heap[d]? = some (.cells (splice [v0, v1, v2, v3, v4, v5, v6, v7, v8, v9] 5 (bvs H)).toArray t (0, 0))) (hl : H.length ≤ 4) : W.cell? ⟨d, 9, none⟩ = some v9 := by
  rw [cell_heap hg]
  match H, hl with
  | [], _ => simp [splice, bvs]
  | [x], _ => simp [splice, bvs]
  | [x, y], _ => simp [splice, bvs]
  | [x, y, z], _ => simp [splice, bvs]
  | [x, y, z, u], _ => simp [splice, bvs]

/-- A CR taken off a row's end. -/
theorem trim_calls (p : Option Addr) (k c b2 o2 c2 : Nat) (B : List UInt8) (w : World) (hB : B.length = k) (hk : k ≤ 9223372036854775807) (hkc : k ≤ c) (hH : HasB w.heap.size w (.slice p k c) B) (h2 : w.cell? ⟨b2, o2, none⟩ = some (.int .u8 13)) :
    Calls Tryd.prog 44 #[.slice p k c, .slice (some ⟨b2, o2, none⟩) 1 c2] w fun e w' => e = .returned (.slice p (cutC B) c) ∧ w' = w := by
  have hA : 0 < k → ∃ b o, p = some ⟨b, o, none⟩ ∧ ∀ i, i < k → w.cell? ⟨b, o + i, none⟩ = some (.int .u8 ((B.map fun x => (x.toNat : Int)).getD i 0)) := fun h0 => by
    rcases hH with ⟨e, _⟩ | ⟨_, b, off, cap, e, _, _, hx⟩
    · rw [e] at hB; simp at hB; omega
    · simp only [Value.slice.injEq] at e
      refine ⟨b, off, e.1, fun i hi => ?_⟩
      rw [hx i (by omega)]
      simp [byteAt, List.getD, show i < B.length by omega]
  have h13 : ∀ i, i < 1 → w.cell? ⟨b2, o2 + i, none⟩ = some (.int .u8 (([13] : List Int).getD i 0)) := fun i hi => by
    obtain rfl : i = 0 := by omega
    exact h2
  have hh := Any.bytes_TrimSuffix_all Tryd.blays140 p (some ⟨b2, o2, none⟩) k c 1 c2 (B.map fun x => (x.toNat : Int)) [13] w (by simpa using hB) rfl hkc hk (fun h0 => hA h0) (fun _ => ⟨b2, o2, rfl, h13⟩)
  rw [trimV p k c B hB (fun h0 => by obtain ⟨b, o, e, _⟩ := hA h0; exact ⟨b, o, e⟩)] at hh
  exact hh

set_option maxRecDepth 100000 in
set_option maxHeartbeats 600000 in
/-- **Feed of any bytes.** -/
theorem sfeed_calls (d y l c : Nat) (held b : List UInt8) (cb coff ccap : Nat) (w : World) (hD : StrAt w d false y l c held) (hl : b.length ≤ 1099511627776) (hy : y ≤ 1152921504606846976) (hll : l ≤ 1152921504606846976) (hcl : 1 ≤ c ∧ c ≤ 1152921504606846976)
    (hc : ∀ j, j < b.length → w.cell? ⟨cb, coff + j, none⟩ = some (.int .u8 (byteAt b j))) (hT : Lib.Utf8Tabs (Tryd.lays32_ren.g 2) (Tryd.lays32_ren.g 3) w) (hdT : Tryd.lays32_ren.g 2 < d ∧ Tryd.lays32_ren.g 3 < d) :
    Calls Tryd.prog 24 #[.pointer (some ⟨d, 0, none⟩), .slice (some ⟨cb, coff, none⟩) b.length ccap] w fun e W' => ∃ v, e = .returned (.tuple #[v, .int .i64 0]) ∧
      W'.ownsRow w.heap.size 62 4 v (readN y l c (toks ((held ++ b).take (cutI (held ++ b))))).out.length ((readN y l c (toks ((held ++ b).take (cutI (held ++ b))))).out.flatMap cvs) ∧
      StrAt W' d false (y + cutI (held ++ b)) (readN y l c (toks ((held ++ b).take (cutI (held ++ b))))).l (readN y l c (toks ((held ++ b).take (cutI (held ++ b))))).c ((held ++ b).drop (cutI (held ++ b))) ∧ w.grownBy W' (some d) := by
  have hdl := hD.lt
  obtain ⟨h0, h1, h2, h3, hg, h4, hh⟩ := hD
  obtain ⟨A, hA⟩ : ∃ A, held ++ b = A := ⟨_, rfl⟩
  rw [hA]
  have HA : Hid (held ++ b = A) := hA
  have HLA : Hid (A.length = held.length + b.length) := by show _ = _; rw [← hA]; simp
  have htl := tail_le A
  obtain ⟨k, hk⟩ : ∃ k, A.length - tailN A = k := ⟨_, rfl⟩
  obtain ⟨t, ht⟩ : ∃ t, tailN A = t := ⟨_, rfl⟩
  have HTT : Hid (tailN A = t) := ht
  have HKK : Hid (A.length = k + t) := by show _ = _; omega
  obtain ⟨q, hq⟩ : ∃ q, cutI A = q := ⟨_, rfl⟩
  have HQ : Hid (cutC (A.take k) = q) := by show _ = _; rw [← hq, cutI, hk]
  have hqk : q ≤ k ∧ k ≤ q + 1 := by
    have e := HQ.out
    have a1 := cutC_le (A.take k)
    have a2 := cutC_ge (A.take k)
    have a3 : (A.take k).length = k := by simp; omega
    omega
  obtain ⟨x, hx⟩ : ∃ x, A.length - q = x := ⟨_, rfl⟩
  have HXX : Hid (A.length = q + x) := by show _ = _; have := hqk.1; omega
  have hx4 : x ≤ 4 := by have := hqk.2; omega
  rw [hq]
  rw [ht] at htl hk
  clear hA ht hk hq hx hqk
  obtain ⟨i0, hi, hz0, hz1, hz2⟩ := info_parts infoByte
  have cm := (cell_heap hg 3).trans rfl
  have co := (cell_heap hg 4).trans rfl
  have cn := (cell_heap hg 9).trans rfl
  simp only [List.getElem?_cons_zero, List.getElem?_cons_succ] at cm co cn
  have HG : Hid (w.heap[d]? = some (.cells [.int .i64 y, .int .i64 l, .int .i64 c, .bool true, .bool false, .int .u8 h0, .int .u8 h1, .int .u8 h2, .int .u8 h3, .int .i64 held.length].toArray 83 (0, 0))) := hg
  have HH : Hid (∀ j, j < held.length → byteAt held j = [h0, h1, h2, h3].getD j 0) := hh
  have HC : Hid (∀ j, j < b.length → w.cell? ⟨cb, coff + j, none⟩ = some (.int .u8 (byteAt b j))) := hc
  have HT : Hid (Lib.Utf8Tabs (Tryd.lays32_ren.g 2) (Tryd.lays32_ren.g 3) w) := hT
  have HY : Hid (y ≤ 1152921504606846976 ∧ l ≤ 1152921504606846976 ∧ 1 ≤ c ∧ c ≤ 1152921504606846976) := ⟨hy, hll, hcl⟩
  clear hg hh hc hT hy hll hcl
  have hmk : ∀ w, (Instr.makeSlice 22 (.int .i64 0) (.int .i64 ((held.length : Int) + (b.length : Int)))).run Tryd.prog w = .ok (.slice (some ⟨w.heap.size, 0, none⟩) 0 (held.length + b.length)) (w.alloc (.cells (madeCells (Value.int .u8 0).cells (held.length + b.length)) 5)) := fun w => by
    have := run_make (P := Tryd.prog) w 22 5 i0 _ Tryd.underlying22 hi hz0 .i64 .i64 0 ((held.length : Int) + (b.length : Int)) (by omega) (by omega) (by rw [hz2]; omega) (by omega)
    rw [this, hz1, Nat.mul_one, show ((held.length : Int) + (b.length : Int)).toNat = held.length + b.length by omega]
    rfl
  go_enter Tryd.func24, Tryd.ntmps24
  go_wp2_with (go_at_call 43; refine (sstate_good d _ cm co).mono ?_; rintro e w' ⟨rfl, hx'⟩; obtain rfl : w = w' := hx'.symm)
  clear hmk cm co
  obtain ⟨W1, hW1⟩ : ∃ W1, w.alloc (.cells (madeCells #[.int .u8 0] (held.length + b.length)) 5) = W1 := ⟨_, rfl⟩
  have b1 : Below w.heap.size w W1 := by rw [← hW1]; exact (Below.refl _ w).alloc (Nat.le_refl _) _
  have O1 : Hid (W1.ownsRow w.heap.size 5 1 (.slice (some ⟨w.heap.size, 0, none⟩) 0 (held.length + b.length)) 0 []) := by
    rw [← hW1]
    exact World.ownsRow_made _ _ _ (Nat.le_refl _) (by unfold maxLen; omega) (by simp [madeCells])
  have z1 : W1.heap.size = w.heap.size + 1 := by rw [← hW1]; simp
  have cn1 := (b1.cell (p := ⟨d, 9, none⟩) hdl).trans cn
  have HD1 : Hid (∀ j u, (bvs held)[j]? = some u → W1.cell? ((⟨d, 5, none⟩ : Addr).add j) = some u) := fun j u h => by
    have hj : j < held.length := by have := (List.getElem?_eq_some_iff.1 h).1; simpa [bvs] using this
    rw [bvs_get held j hj, HH.out j hj] at h
    cases h
    rw [add_none, (b1.cell (p := ⟨d, 5 + j, none⟩) hdl), cell_heap HG.out]
    have : j = 0 ∨ j = 1 ∨ j = 2 ∨ j = 3 := by omega
    rcases this with rfl | rfl | rfl | rfl <;> rfl
  have HC1 : Hid (∀ j u, (bvs b)[j]? = some u → W1.cell? ((⟨cb, coff, none⟩ : Addr).add j) = some u ∧ cb ≠ w.heap.size) := fun j u h => by
    have hj : j < b.length := by have := (List.getElem?_eq_some_iff.1 h).1; simpa [bvs] using this
    rw [bvs_get b j hj] at h
    cases h
    have hlt := cell_lt (HC.out j hj)
    refine ⟨?_, by simp only at hlt; omega⟩
    rw [add_none, (b1.cell (p := ⟨cb, coff + j, none⟩) hlt)]
    exact HC.out j hj
  rw [hW1]
  clear hW1
  have hs1 := run_sheldTo d held.length h4
  go_region_law (first
    | (refine step_own rfl _ _ 22 rfl w.heap.size 5 i0 (.int .u8 0) 1 1 Tryd.underlying22 hi hz0 hz1 hz2 rfl (by decide) (.slice (some ⟨w.heap.size, 0, none⟩) 0 (held.length + b.length)) 0 [] (by first | rfl | simp [Act.eval, Act.put]) O1.out.drew ⟨d, 5, none⟩ held.length 4 (bvs held) (by first | rfl | simp [Act.eval, Act.put]) (by rw [bvs_length]; omega) HD1.out (bvs_one held) (by unfold maxLen; omega) (by omega) (by simp; omega) ?_; intro v1 w3 hown1 hgrow1; rw [Nat.zero_add, List.nil_append] at hown1)
    | (refine step_own rfl _ _ 22 rfl w.heap.size 5 i0 (.int .u8 0) 1 1 Tryd.underlying22 hi hz0 hz1 hz2 rfl (by decide) v1 held.length (bvs held) (by first | rfl | simp [Act.eval, Act.put]) hown1 ⟨cb, coff, none⟩ b.length ccap (bvs b) (by first | rfl | simp [Act.eval, Act.put]) (by rw [bvs_length]; omega) (fun j u h => by rw [add_none]; exact hgrow1.cell (by have := (HC1.out j u h).1; rwa [add_none] at this) (by have := (HC1.out j u h).2; simp [Value.ownBlock]; omega)) (bvs_one b) (by unfold maxLen; omega) (by omega) (by have := hgrow1.size; simp at this ⊢; omega) ?_; intro v2 w4 hown2 hgrow2))
  clear hs1 cn1
  have hc3 : w3.heap.size ≤ w4.heap.size := hgrow2.size
  have b4 : Below w.heap.size w w4 := by
    have b3 : Below w.heap.size w w3 := b1.drew.grown hgrow1 (by show w.heap.size ≤ W1.heap.size; omega) (fun j hj => by simp [Value.ownBlock] at hj; omega)
    exact b3.grown hgrow2 b3.size (fun j hj => (hown1.lt j hj).1)
  have O4 : w4.ownsRow w.heap.size 5 1 v2 A.length (bvs A) := by
    rw [HLA.out, ← HA.out, bvs_append]; exact hown2
  obtain ⟨a2, c2, rfl⟩ := owns_slice O4
  have HO4 : Hid (w4.ownsRow w.heap.size 5 1 (.slice a2 A.length c2) A.length (bvs A)) := O4
  have HB4 : Hid (Below w.heap.size w w4) := b4
  have hAl : (A.length : Int) ≤ 17592186044416 := by have := HLA.out; omega
  clear O4 hown1 hown2 hgrow1 hgrow2 b1 O1 HD1 HC1 hc3 b4
  have hkt : (A.length : Int) - (t : Int) = (k : Int) := by have := HKK.out; omega
  have hkA : k ≤ A.length := by have := HKK.out; omega
  have hkc : k ≤ c2 := by
    rcases HO4.out.2 with ⟨e, e0⟩ | ⟨g, cap, cur, e, _, _, hcap, _⟩
    · omega
    · simp only [Value.slice.injEq] at e; omega
  go_wp2_with (go_at_call 33; refine (tail_calls _ A w4.heap.size _ (by omega) (hasB_owns HO4.out).1 (tabs_below HT.out HB4.out)).mono ?_; rintro e w5 ⟨rfl, hb5⟩; rw [HTT.out])
  clear hkt
  obtain ⟨W5, hW5⟩ : ∃ W5, w5.alloc (.cells #[.int .u8 13] 5) = W5 := ⟨_, rfl⟩
  have b5 : Below w5.heap.size w5 W5 := by rw [← hW5]; exact (Below.refl _ w5).alloc (Nat.le_refl _) _
  have c13 : W5.cell? ⟨w5.heap.size, 0, none⟩ = some (.int .u8 13) := by rw [← hW5, cell_fresh]; rfl
  have hb5' : Below w4.heap.size w4 W5 := hb5.trans (b5.mono hb5.size)
  have hdw4 : d < w4.heap.size := Nat.lt_of_lt_of_le hdl HB4.out.size
  have HG5 : Hid (W5.heap[d]? = some (.cells [.int .i64 y, .int .i64 l, .int .i64 c, .bool true, .bool false, .int .u8 h0, .int .u8 h1, .int .u8 h2, .int .u8 h3, .int .i64 held.length].toArray 83 (0, 0))) := (hb5'.block d hdw4).trans ((HB4.out.block d hdl).trans HG.out)
  have HO5 : Hid (W5.ownsRow w.heap.size 5 1 (.slice a2 A.length c2) A.length (bvs A)) := owns_below HO4.out hb5'
  have HB5 : Hid (Below w.heap.size w W5) := HB4.out.trans (hb5'.mono HB4.out.size)
  rw [hW5]
  clear hW5
  refine (trim_calls a2 k c2 w5.heap.size 0 1 (A.take k) W5 (by simp; omega) (by omega) hkc (hasB_take HO5.out hkA) c13).mono ?_
  rintro e w6 ⟨rfl, rfl⟩
  rw [HQ.out]
  clear c13 b5 hb5 hb5'
  go_wp2_with fail
  have hs2 := run_sheldAll d
  have hs3 := fun w => run_from a2 A.length c2 q x HXX.out.symm w
  have HDL : Hid ((A.drop q).length = x) := by have := HXX.out; show _ = _; simp; omega
  have HCS : Hid (0 < x → ∃ ad, (if c2 = q then a2 else a2.map fun p => p.add q) = some ad ∧ ∀ j v, (bvs (A.drop q))[j]? = some v → w6.cell? (ad.add j) = some v) := fun h0 => by
    have hA := (hasB_owns HO5.out).1
    rcases hA with ⟨e, _⟩ | ⟨hp, b, off, cap, e, hcap, hb, hx⟩
    · rw [e] at HXX; have := HXX.out; simp at this; omega
    · simp only [Value.slice.injEq] at e
      obtain ⟨rfl, _, rfl⟩ := e
      have hkk := HXX.out
      refine ⟨⟨b, off + q, none⟩, by rw [if_neg (by omega), Option.map_some, add_none], fun j v hv => ?_⟩
      have hj : j < (A.drop q).length := by have := (List.getElem?_eq_some_iff.1 hv).1; simpa [bvs] using this
      rw [bvs_get _ j hj, byteAt_drop] at hv
      cases hv
      rw [add_none, Nat.add_assoc]
      exact hx (q + j) (by have := HDL.out; omega)
  clear HO4 HB4 HG
  generalize (if c2 = q then a2 else a2.map fun p => p.add q) = ap at *
  generalize c2 - q = cp at *
  go_region_law (refine step_copy rfl _ _ 22 22 rfl 5 Tryd.underlying22 (by kernel_rfl) (some ⟨d, 5, none⟩) ap 4 4 x cp (by simp [Act.eval, Act.put]) (by simp [Act.eval, Act.put]) d 5 [.int .i64 y, .int .i64 l, .int .i64 c, .bool true, .bool false, .int .u8 h0, .int .u8 h1, .int .u8 h2, .int .u8 h3, .int .i64 held.length] 83 HG5.out (bvs (A.drop q)) (by rw [bvs_length, HDL.out]; exact (Nat.min_eq_left hx4).symm) (fun h => ⟨rfl, HCS.out (by rw [bvs_length, HDL.out] at h; exact h)⟩) (by rw [bvs_length, HDL.out]; simp; omega) (bvs_one _) ?_; intro w7 hg7 hgr7; have c7 := cell_nine hg7.out (by have := HDL.out; omega); have f7 := frozen_heap hg7.out 9)
  clear hs2 hs3 c7 f7
  have G8 : w6.drew.grownBy (w7.setCell ⟨d, 9, none⟩ (.int .i64 (bvs (A.drop q)).length)) (some d) := grown_trans hgr7 (grown_set _ _ _ _)
  have D8 : StrAt (w7.setCell ⟨d, 9, none⟩ (.int .i64 (bvs (A.drop q)).length)) d false y l c (A.drop q) := by
    rw [bvs_length]
    exact str_stored hg7.out (by have := HDL.out; omega)
  obtain ⟨W8, hW8⟩ : ∃ W8, w7.setCell ⟨d, 9, none⟩ (.int .i64 (bvs (A.drop q)).length) = W8 := ⟨_, rfl⟩
  rw [hW8] at G8 D8
  have GW : w.grownBy W8 (some d) := grown_trans (grown_below HB5.out.drew) G8
  have O8 : W8.ownsRow w.heap.size 5 1 (.slice a2 A.length c2) A.length (bvs A) := HO5.out.drew.kept G8 (by
    cases e : (Value.slice a2 A.length c2).ownBlock with
    | none => exact .inl rfl
    | some j => exact .inr (fun e' => by have := (HO5.out.lt j e).1; simp at e'; omega))
  have HD8 : Hid (StrAt W8 d false y l c (A.drop q)) := D8
  have HGW : Hid (w.grownBy W8 (some d)) := GW
  have HO8 : Hid (W8.ownsRow w.heap.size 5 1 (.slice a2 A.length c2) A.length (bvs A)) := O8
  have hqA : q ≤ A.length := by have := HXX.out; omega
  have HLK : Hid ((A.take q).length ≤ 2199023255552) := by show _ ≤ _; have := HLA.out; simp; omega
  have HLQ : Hid ((A.take q).length = q) := by show _ = _; simp; omega
  rw [hW8]
  clear hW8 G8 D8 GW O8 hg7 hgr7 HG5 HCS HO5 HB5
  go_wp2_with (go_at_call 45; refine (read_calls d d y l c _ (A.take q) W8 HLK.out HY.out.1 HY.out.2.1 HY.out.2.2 (hasB_take HO8.out hqA) HD8.out.spot.1 HD8.out.spot.2 (Nat.le_refl _) (tabs_grown HT.out HGW.out (by omega) (by omega)) hdT).mono ?_; rintro e w9 ⟨v9, rfl, ho9, hs9, hg9⟩; rw [HLQ.out] at hs9; have HS9 : Hid (SpotK W8 w9 d ((y + q : Nat) : Int) ((readN y l c (toks (A.take q))).l : Int) ((readN y l c (toks (A.take q))).c : Int)) := hs9; have HO9 : Hid (w9.ownsRow W8.heap.size 62 4 v9 (readN y l c (toks (A.take q))).out.length ((readN y l c (toks (A.take q))).out.flatMap cvs)) := ho9; have HG9 : Hid (W8.grownBy w9 (some d)) := hg9; clear hs9 ho9 hg9)
  go_ret2
  exact ⟨v9, rfl, owns_mono HO9.out HGW.out.size, HD8.out.read HS9.out, grown_trans HGW.out HG9.out⟩

set_option maxRecDepth 100000 in
set_option maxHeartbeats 1000000 in
/-- **End.** -/
theorem send_calls (d y l c : Nat) (held : List UInt8) (w : World) (hD : StrAt w d false y l c held) (hy : y ≤ 1152921504606846976) (hll : l ≤ 1152921504606846976) (hcl : 1 ≤ c ∧ c ≤ 1152921504606846976)
    (hT : Lib.Utf8Tabs (Tryd.lays32_ren.g 2) (Tryd.lays32_ren.g 3) w) (hdT : Tryd.lays32_ren.g 2 < d ∧ Tryd.lays32_ren.g 3 < d) :
    Calls Tryd.prog 29 #[.pointer (some ⟨d, 0, none⟩)] w fun e W' => ∃ v, e = .returned (.tuple #[v, .int .i64 0]) ∧
      W'.ownsRow w.heap.size 62 4 v (readN y l c (toks held)).out.length ((readN y l c (toks held)).out.flatMap cvs) ∧ StrAt W' d true (y + held.length) (readN y l c (toks held)).l (readN y l c (toks held)).c [] ∧ w.grownBy W' (some d) := by
  have hdl := hD.lt
  have HD : Hid (StrAt w.drew d false y l c held) := hD.kept rfl
  obtain ⟨h0, h1, h2, h3, hg, h4, hh⟩ := hD
  have cm := (cell_heap hg 3).trans rfl
  have co := (cell_heap hg 4).trans rfl
  have cn := (cell_heap hg 9).trans rfl
  simp only [List.getElem?_cons_zero, List.getElem?_cons_succ] at cm co cn
  have HB : HasB w.drew.heap.size w.drew (.slice (some ⟨d, 5, none⟩) held.length 4) held := by
    by_cases e0 : held.length = 0
    · have e := List.length_eq_zero_iff.1 e0
      subst e; exact .inl ⟨rfl, _, _, rfl⟩
    · refine .inr ⟨by omega, d, 5, 4, rfl, h4, hdl, fun j hj => ?_⟩
      show w.cell? _ = _
      rw [cell_heap hg, hh j hj]
      have : j = 0 ∨ j = 1 ∨ j = 2 ∨ j = 3 := by omega
      rcases this with rfl | rfl | rfl | rfl <;> rfl
  have RC : Hid (Calls Tryd.prog 45 #[.pointer (some ⟨d, 0, none⟩), .slice (some ⟨d, 5, none⟩) held.length 4] w.drew fun e W' => ∃ u, e = .returned u ∧ Hid (W'.ownsRow w.heap.size 62 4 u (readN y l c (toks held)).out.length ((readN y l c (toks held)).out.flatMap cvs) ∧ StrAt W' d false (y + held.length) (readN y l c (toks held)).l (readN y l c (toks held)).c held ∧ w.grownBy W' (some d))) :=
    (read_calls d d y l c _ held w.drew (by omega) hy hll hcl HB HD.out.spot.1 HD.out.spot.2 (Nat.le_refl _) (tabs_below hT (Below.refl w.heap.size w).drew) hdT).mono fun e W' ⟨v, h1, h2, h3, h4⟩ => ⟨v, h1, h2, HD.out.read h3, grown_trans (grown_below (Below.refl _ w).drew) h4⟩
  clear hg hT hh HB HD hy hll hcl
  have hs1 := run_sheldTo d held.length h4
  go_enter Tryd.func29, Tryd.ntmps29
  go_wp2_with (go_at_call 43; refine (sstate_good d _ cm co).mono ?_; rintro e w' ⟨rfl, hx'⟩; obtain rfl : w = w' := hx'.symm)
  go_region_with (go_at_call 45; refine RC.out.mono ?_; rintro e w1 ⟨v1, rfl, hx1⟩)
  obtain ⟨ho1, hS1, hgr1⟩ := hx1.out
  obtain ⟨g0, g1, g2, g3, hg1, _, _⟩ := hS1
  have k1 := (cell_heap hg1 4).trans rfl
  have k5 := (cell_heap hg1 9).trans rfl
  simp only [List.getElem?_cons_zero, List.getElem?_cons_succ] at k1 k5
  have f1 := frozen_heap hg1 4
  have f5 := frozen_heap hg1 9
  have HO1 : Hid (w1.ownsRow w.heap.size 62 4 v1 (readN y l c (toks held)).out.length ((readN y l c (toks held)).out.flatMap cvs)) := ho1
  have HB1 : Hid (w.grownBy w1 (some d)) := hgr1
  have HG1 : Hid (w1.heap[d]? = some (.cells [.int .i64 ((y + held.length : Nat) : Int), .int .i64 ((readN y l c (toks held)).l : Int), .int .i64 ((readN y l c (toks held)).c : Int), .bool true, .bool false, .int .u8 g0, .int .u8 g1, .int .u8 g2, .int .u8 g3, .int .i64 held.length].toArray 83 (0, 0))) := hg1
  clear ho1 hgr1 hg1 hs1 cm co cn RC hx1
  go_wp2
  go_ret2
  have g5 : w1.grownBy ((w1.setCell ⟨d, 4, none⟩ (.bool true)).setCell ⟨d, 9, none⟩ (.int .i64 0)) (some d) := grown_trans (grown_set _ _ _ _) (grown_set _ _ _ _)
  refine ⟨v1, rfl, World.ownsRow.kept HO1.out g5 ?_, ⟨g0, g1, g2, g3, ?_, by simp, fun j hj => by simp at hj⟩, grown_trans HB1.out g5⟩
  · cases e : v1.ownBlock with
    | none => exact .inl rfl
    | some j => exact .inr (fun e' => by have := (World.ownsRow.lt HO1.out j e).1; simp at e'; omega)
  · rw [set_heap (set_heap HG1.out 4 (.bool true)) 9 (.int .i64 0)]
    simp
end Go.Proofs.YtjhoaepokkaoeaaDoor.U
