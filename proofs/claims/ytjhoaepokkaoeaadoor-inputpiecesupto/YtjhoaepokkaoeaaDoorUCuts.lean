/- What is proved here: the contracts of sieveref01's Copy and Cuts: bytes in pieces, each in memory of its own. -/
import Derived.Laws.MakeOwn
import Derived.Laws.OwnMore
import Derived.Test.YtjhoaepokkaoeaaDoorRef
import Derived.Test.YtjhoaepokkaoeaaDoorClone
namespace Go.Proofs.YtjhoaepokkaoeaaDoor.U
open Go.RowKit Go.Shelf

theorem owns_mono {W : World} {base base' : Nat} {e : TypeId} {size : Nat} {v : Value} {n : Nat} {xs : List Value} (h : W.ownsRow base e size v n xs) (hb : base' ≤ base) : W.ownsRow base' e size v n xs := by
  refine ⟨h.1, ?_⟩
  rcases h.2 with h | ⟨g, cap, cur, e1, e2, e3⟩
  · exact .inl h
  · exact .inr ⟨g, cap, cur, e1, by omega, e3⟩
/-- Rows of two types lie in two blocks. -/
theorem owns_apart {W : World} {base base' : Nat} {e e' : TypeId} {size size' : Nat} {v v' : Value} {n n' : Nat} {xs xs' : List Value} (h : W.ownsRow base e size v n xs) (h' : W.ownsRow base' e' size' v' n' xs') (hne : e ≠ e') :
    v.ownBlock = none ∨ v.ownBlock ≠ v'.ownBlock := by
  rcases h.2 with ⟨rfl, _⟩ | ⟨g, cap, cur, rfl, _, hg, _⟩
  · exact .inl rfl
  · right
    rcases h'.2 with ⟨rfl, _⟩ | ⟨g', cap', cur', rfl, _, hg', _⟩
    · simp [Value.ownBlock]
    · intro e
      simp [Value.ownBlock] at e
      subst e
      rw [hg] at hg'
      simp at hg'
      exact hne hg'.2
theorem below_alloc_cell {w : World} (o : Obj) {p : Addr} (h : p.block < w.heap.size) : (w.alloc o).cell? p = w.cell? p := ((Below.refl _ w).alloc (Nat.le_refl _) o).cell h

/-- The row while bytes are copied: the first k are there. -/
def copyRow (bs : List UInt8) (k : Nat) : List Value := bvs (bs.take k) ++ List.replicate (bs.length - k) (.int .u8 0)
theorem copyRow_zero (bs : List UInt8) : copyRow bs 0 = List.replicate bs.length (.int .u8 0) := by simp [copyRow, bvs]
theorem copyRow_all (bs : List UInt8) : copyRow bs bs.length = bvs bs := by simp [copyRow]
theorem copyRow_length (bs : List UInt8) (k : Nat) (h : k ≤ bs.length) : (copyRow bs k).length = bs.length := by simp [copyRow, bvs]; omega
theorem copyRow_set (bs : List UInt8) (k : Nat) (h : k < bs.length) : (copyRow bs k).set k (.int .u8 (byteAt bs k)) = copyRow bs (k + 1) := by
  apply List.ext_getElem
  · simp [copyRow, bvs]; omega
  · intro j h1 h2
    by_cases e : j = k
    · subst e
      simp only [List.getElem_set_self]
      simp [copyRow, bvs, List.getElem_append, List.getElem_take, byteAt, h]
      intro hh
      omega
    · rw [List.getElem_set_ne (fun e' => e e'.symm)]
      simp only [copyRow, bvs, List.getElem_append]
      by_cases hj : j < k
      · have a1 : j < ((bs.take k).map fun c => Value.int .u8 (c.toNat : Int)).length := by simp; omega
        have a2 : j < ((bs.take (k + 1)).map fun c => Value.int .u8 (c.toNat : Int)).length := by simp; omega
        rw [dif_pos a1, dif_pos a2]
        simp
      · have a1 : ¬ j < ((bs.take k).map fun c => Value.int .u8 (c.toNat : Int)).length := by simp; omega
        have a2 : ¬ j < ((bs.take (k + 1)).map fun c => Value.int .u8 (c.toNat : Int)).length := by simp; omega
        rw [dif_neg a1, dif_neg a2]
        simp

set_option maxRecDepth 100000 in
set_option maxHeartbeats 1000000 in
theorem copy_walk (bs : List UInt8) (a : Option Addr) (b off cap : Nat) (w : World) (ha : 0 < bs.length → a = some ⟨b, off, none⟩) (hl : (bs.length : Int) ≤ 70368744177664)
    (hc : ∀ j, j < bs.length → w.cell? ⟨b, off + j, none⟩ = some (.int .u8 (byteAt bs j))) :
    Calls Tryd.prog 31 #[.slice a bs.length cap] w fun e W' => e = .returned (.slice (some ⟨w.heap.size, 0, none⟩) bs.length bs.length) ∧ W'.ownsRow w.heap.size 5 1 (.slice (some ⟨w.heap.size, 0, none⟩) bs.length bs.length) bs.length (bvs bs) ∧ Below w.heap.size w W' := by
  obtain ⟨i0, hi, hz0, hz1, hz2⟩ := info_parts infoByte
  obtain ⟨W2, hrun, hrow, hgr⟩ := run_make_full (P := Tryd.prog) w w.heap.size 22 5 i0 (.int .u8 0) 1 Tryd.underlying22 hi hz0 hz1 .i64 .i64 bs.length (by rw [hz2]; omega) (by unfold maxLen; omega) (Nat.le_refl _)
  have HR2 : Hid (W2.ownsRow w.heap.size 5 1 (.slice (some ⟨w.heap.size, 0, none⟩) bs.length bs.length) bs.length (copyRow bs 0)) := by
    rw [copyRow_zero]
    rw [Nat.mul_one, show (Value.int .u8 0).cells = #[.int .u8 0] from rfl, toList_madeCells_one] at hrow
    exact hrow
  have HB2 : Hid (Below w.heap.size w W2) := (Below.refl _ w).grown hgr (Nat.le_refl _) (fun j hj => by cases hj)
  have HC : Hid (∀ j, j < bs.length → w.cell? ⟨b, off + j, none⟩ = some (.int .u8 (byteAt bs j))) := hc
  have HA : Hid (0 < bs.length → a = some ⟨b, off, none⟩) := ha
  clear hc ha hrow hgr
  go_enter Tryd.func31, Tryd.ntmps31
  go_wp2
  clear hrun
  go_loopw [4, 5, 11] (fun _ _ i wr => ∃ k : Nat, k ≤ bs.length ∧ i = .int .i64 k ∧ Hid (wr.ownsRow w.heap.size 5 1 (.slice (some ⟨w.heap.size, 0, none⟩) bs.length bs.length) bs.length (copyRow bs k)) ∧ Hid (Below w.heap.size w wr)) (fun _ _ i _ => bs.length - (intOf i).toNat)
  case atStart => exact ⟨0, by omega, rfl, HR2, HB2⟩
  case round =>
    obtain ⟨k, hk, rfl, hR, hB⟩ := hrel
    by_cases hlt : k < bs.length
    · have ea := HA.out (by omega)
      subst ea
      have c1 := (hB.out.cell (p := ⟨b, off + k, none⟩) (cell_lt (HC.out k hlt))).trans (HC.out k hlt)
      have hlen := copyRow_length bs k hk
      have c2 : wr.cell? ⟨w.heap.size, k, none⟩ = some ((copyRow bs k)[k]'(by omega)) := by rw [World.ownsRow.cellAt hR.out k (by omega)]; exact List.getElem?_eq_getElem _
      have f2 := World.ownsRow.frozenAt hR.out k
      have HST : Hid _ := World.ownsRow.stored hR.out k (.int .u8 (byteAt bs k))
      have HSE : Hid ((copyRow bs k).set k (.int .u8 (byteAt bs k)) = copyRow bs (k + 1)) := copyRow_set bs k hlt
      have HBS : Hid (Below w.heap.size w (wr.setCell ⟨w.heap.size, k, none⟩ (.int .u8 (byteAt bs k)))) := hB.out.setCell (p := ⟨w.heap.size, k, none⟩) (Nat.le_refl _) _
      generalize (copyRow bs k)[k]'(by omega) = old at c2
      clear hlen
      go_wp2
      go_roundw
      case rel => exact ⟨k + 1, by omega, by go_num, by rw [← HSE.out]; exact HST.out.1, HBS⟩
      case measure => simp [intOf]; omega
    · obtain rfl : k = bs.length := by omega
      go_wp2
      go_ret
      exact ⟨rfl, by rw [← copyRow_all]; exact hR.out, hB.out⟩
/-- **Copy of any bytes.** -/
theorem copy_calls (v : Value) (bs : List UInt8) (n₀ : Nat) (w : World) (hl : bs.length ≤ 70368744177664) (hH : HasB n₀ w v bs) :
    Calls Tryd.prog 31 #[v] w fun e W' => e = .returned (.slice (some ⟨w.heap.size, 0, none⟩) bs.length bs.length) ∧ W'.ownsRow w.heap.size 5 1 (.slice (some ⟨w.heap.size, 0, none⟩) bs.length bs.length) bs.length (bvs bs) ∧ Below w.heap.size w W' := by
  rcases hH with ⟨rfl, a, cap, rfl⟩ | ⟨h0, b, off, cap, rfl, hcap, _, hx⟩
  · exact copy_walk [] a 0 0 cap w (fun h => by simp at h) (by simp) (fun j hj => by simp at hj)
  · exact copy_walk bs _ b off cap w (fun _ => rfl) (by omega) hx

/-- Where the k-th cut ends. -/
def cutAt (n : Nat) (cs : List Int) : Nat → Nat
  | 0 => 0
  | k + 1 => (min (max (zAt cs k) (cutAt n cs k)) n).toNat
theorem cutAt_le (n : Nat) (cs : List Int) (k : Nat) : cutAt n cs k ≤ n := by
  cases k with
  | zero => exact Nat.zero_le _
  | succ k => simp only [cutAt]; omega
theorem cutAt_mono (n : Nat) (cs : List Int) (k : Nat) : cutAt n cs k ≤ cutAt n cs (k + 1) := by
  have := cutAt_le n cs k
  simp only [cutAt]; omega
/-- The k-th piece of what is cut. -/
def cutS (bs : List UInt8) (cs : List Int) (k : Nat) : List UInt8 := (bs.drop (cutAt bs.length cs k)).take (cutAt bs.length cs (k + 1) - cutAt bs.length cs k)
/-- The first k pieces. -/
def cutL (bs : List UInt8) (cs : List Int) (k : Nat) : List (List UInt8) := (List.range k).map fun i => cutS bs cs i
theorem cutL_length (bs : List UInt8) (cs : List Int) (k : Nat) : (cutL bs cs k).length = k := by simp [cutL]
theorem cutL_succ (bs : List UInt8) (cs : List Int) (k : Nat) : cutL bs cs (k + 1) = cutL bs cs k ++ [cutS bs cs k] := by simp [cutL, List.range_succ]
/-- **What Cuts answers.** -/
def cuts (bs : List UInt8) (cs : List Int) : List (List UInt8) := cutL bs cs cs.length ++ [bs.drop (cutAt bs.length cs cs.length)]
theorem cuts_length (bs : List UInt8) (cs : List Int) : (cuts bs cs).length = cs.length + 1 := by simp [cuts, cutL_length]
theorem cutS_length (bs : List UInt8) (cs : List Int) (k : Nat) : (cutS bs cs k).length = cutAt bs.length cs (k + 1) - cutAt bs.length cs k := by
  have := cutAt_le bs.length cs (k + 1)
  have := cutAt_mono bs.length cs k
  simp [cutS]; omega
/-- The first k pieces are the bytes up to the k-th cut. -/
theorem cutL_flat (bs : List UInt8) (cs : List Int) : ∀ k, (cutL bs cs k).flatten = bs.take (cutAt bs.length cs k)
  | 0 => by simp [cutL, cutAt]
  | k + 1 => by
    have h1 := cutAt_mono bs.length cs k
    rw [cutL_succ, List.flatten_append, cutL_flat bs cs k]
    simp only [List.flatten_cons, List.flatten_nil, List.append_nil, cutS]
    rw [show bs.take (cutAt bs.length cs (k + 1)) = bs.take (cutAt bs.length cs k + (cutAt bs.length cs (k + 1) - cutAt bs.length cs k)) by congr 1; omega, List.take_add]
theorem cuts_flat (bs : List UInt8) (cs : List Int) : (cuts bs cs).flatten = bs := by
  unfold cuts
  rw [List.flatten_append, cutL_flat]
  simp

/-- Pieces in memory of their own: their row, and each one's bytes. -/
def OwnC (base : Nat) (w : World) (r : Value) (l : List (List UInt8)) : Prop :=
  ∃ xs : List (Value × List UInt8), xs.map Prod.snd = l ∧ w.ownsRow base 22 1 r l.length (xs.map Prod.fst) ∧ ∀ x ∈ xs, w.ownsRow base 5 1 x.1 x.2.length (bvs x.2)
theorem OwnC.below {base : Nat} {A B : World} {r : Value} {l : List (List UInt8)} (h : OwnC base A r l) (hb : Below A.heap.size A B) : OwnC base B r l := by
  obtain ⟨xs, h1, h2, h3⟩ := h
  exact ⟨xs, h1, owns_below h2 hb, fun x hx => owns_below (h3 x hx) hb⟩
theorem OwnC.snoc {base : Nat} {w w' : World} {r r' d : Value} {l : List (List UInt8)} {xs : List (Value × List UInt8)} {bs : List UInt8}
    (h1 : xs.map Prod.snd = l) (h2 : w.ownsRow base 22 1 r l.length (xs.map Prod.fst)) (h3 : ∀ x ∈ xs, w.ownsRow base 5 1 x.1 x.2.length (bvs x.2))
    (hd : w.ownsRow base 5 1 d bs.length (bvs bs)) (hr : w'.ownsRow base 22 1 r' (l.length + 1) (xs.map Prod.fst ++ [d])) (hg : w.grownBy w' r.ownBlock) : OwnC base w' r' (l ++ [bs]) := by
  refine ⟨xs ++ [(d, bs)], by simp [h1], by simpa using hr, fun x hx => ?_⟩
  rcases List.mem_append.1 hx with hx | hx
  · exact (h3 x hx).kept hg (owns_apart (h3 x hx) h2 (by decide))
  · simp at hx; subst hx
    exact hd.kept hg (owns_apart hd h2 (by decide))
/-- One of the pieces. -/
theorem OwnC.at {base : Nat} {w : World} {r : Value} {l : List (List UInt8)} (h : OwnC base w r l) (k : Nat) (hk : k < l.length) : ∃ g cap a len c, r = .slice (some ⟨g, 0, none⟩) l.length cap ∧ l.length ≤ cap ∧ g < w.heap.size ∧ w.cell? ⟨g, k, none⟩ = some (.slice a len c) ∧ len = l[k].length ∧ HasB w.heap.size w (.slice a len c) l[k] := by
  obtain ⟨xs, h1, h2, h3⟩ := h
  have hl : xs.length = l.length := by rw [← h1]; simp
  rcases h2.2 with ⟨rfl, e0⟩ | ⟨g, cap, cur, rfl, hb, hg, hcap, _⟩
  · omega
  · have hx : (xs.map Prod.snd)[k]'(by simp; omega) = l[k] := by simp [h1]
    simp only [List.getElem_map] at hx
    have hm := h3 xs[k] (List.getElem_mem _)
    obtain ⟨a, c, e⟩ := owns_slice hm
    refine ⟨g, cap, a, xs[k].2.length, c, rfl, hcap, lt_of_block hg, ?_, by rw [hx], ?_⟩
    · rw [h2.cellAt k (by omega), List.getElem?_map, List.getElem?_eq_getElem (by omega), Option.map_some, e]
    · rw [← hx, ← e]; exact (hasB_owns hm).1

theorem infoBytes : (Tryd.prog.info? 22).map (fun i => (i.zero, i.size, i.bytes)) = some (some (.slice none 0 0), 1, 24) := by kernel_rfl
/-- A part of bytes in memory, as slicing answers it. -/
theorem part_pos {n₀ : Nat} {w : World} {a : Option Addr} {b off cap : Nat} {bs : List UInt8} (ha : 0 < bs.length → a = some ⟨b, off, none⟩) (hb : 0 < bs.length → b < n₀) (hcap : bs.length ≤ cap) (hx : ∀ j, j < bs.length → w.cell? ⟨b, off + j, none⟩ = some (.int .u8 (byteAt bs j)))
    (lo hi m : Nat) (h1 : lo ≤ hi) (h2 : hi ≤ bs.length) (hm : m = hi - lo) : HasB n₀ w (.slice (a.map fun p => p.add lo) m (cap - lo)) ((bs.drop lo).take (hi - lo)) := by
  have hlen : ((bs.drop lo).take (hi - lo)).length = hi - lo := by simp; omega
  subst hm
  by_cases h0 : hi - lo = 0
  · refine .inl ⟨List.length_eq_zero_iff.1 (by omega), _, _, by rw [h0]⟩
  · have h := ha (by omega)
    subst h
    refine .inr ⟨by omega, b, off + lo, cap - lo, by rw [hlen, Option.map_some, add_none], by omega, hb (by omega), fun j hj => ?_⟩
    rw [hlen] at hj
    have e : byteAt ((bs.drop lo).take (hi - lo)) j = byteAt bs (lo + j) := by simp [byteAt, hj]
    rw [e, Nat.add_assoc]
    exact hx (lo + j) (by omega)
theorem part_if {n₀ : Nat} {w : World} {a : Option Addr} {b off cap : Nat} {bs : List UInt8} (ha : 0 < bs.length → a = some ⟨b, off, none⟩) (hb : 0 < bs.length → b < n₀) (hcap : bs.length ≤ cap) (hx : ∀ j, j < bs.length → w.cell? ⟨b, off + j, none⟩ = some (.int .u8 (byteAt bs j)))
    (lo hi m : Nat) (h1 : lo ≤ hi) (h2 : hi ≤ bs.length) (hm : m = hi - lo) : HasB n₀ w (.slice (if cap = lo then a else a.map fun p => p.add lo) m (cap - lo)) ((bs.drop lo).take (hi - lo)) := by
  by_cases h : cap = lo
  · rw [if_pos h]
    refine .inl ⟨List.length_eq_zero_iff.1 (by simp; omega), _, _, by rw [show m = 0 by omega]⟩
  · rw [if_neg h]
    exact part_pos ha hb hcap hx lo hi m h1 h2 hm
theorem cell_one (W : World) (a : Value) (t : TypeId) : ∀ j u, [a][j]? = some u → (W.alloc (.cells #[a] t)).cell? ((⟨W.heap.size, 0, none⟩ : Addr).add j) = some u := cell_one_at W a t _ rfl

set_option maxRecDepth 100000 in
set_option maxHeartbeats 2000000 in
theorem cuts_walk (bs : List UInt8) (cs : List Int) (a a' : Option Addr) (b off cap b' off' cap' : Nat) (w : World) (hl : (bs.length : Int) ≤ 70368744177664) (hm : (cs.length : Int) ≤ 1000000000000)
    (ha : 0 < bs.length → a = some ⟨b, off, none⟩) (hcap : (bs.length : Int) ≤ cap) (hbs : ∀ j, j < bs.length → w.cell? ⟨b, off + j, none⟩ = some (.int .u8 (byteAt bs j)))
    (ha' : 0 < cs.length → a' = some ⟨b', off', none⟩) (hcs : ∀ j, j < cs.length → w.cell? ⟨b', off' + j, none⟩ = some (.int .i64 (zAt cs j))) :
    Calls Tryd.prog 7 #[.slice a bs.length cap, .slice a' cs.length cap'] w fun e W' => ∃ v, e = .returned v ∧ OwnC w.heap.size W' v (cuts bs cs) ∧ Below w.heap.size w W' := by
  obtain ⟨i0, hi, hz0, hz1, hz2⟩ := info_parts infoBytes
  have HX : Hid (∀ j, j < bs.length → w.cell? ⟨b, off + j, none⟩ = some (.int .u8 (byteAt bs j))) := hbs
  have HC : Hid (∀ j, j < cs.length → w.cell? ⟨b', off' + j, none⟩ = some (.int .i64 (zAt cs j))) := hcs
  have HA : Hid (0 < bs.length → a = some ⟨b, off, none⟩) := ha
  have HA' : Hid (0 < cs.length → a' = some ⟨b', off', none⟩) := ha'
  clear hbs hcs ha ha'
  go_enter Tryd.func7, Tryd.ntmps7
  go_wp2
  go_loopw [5, 6, 8, 11] (fun v f _ i wr => ∃ k : Nat, k ≤ cs.length ∧ i = .int .i64 k ∧ f = .int .i64 (cutAt bs.length cs k) ∧ OwnC w.heap.size wr v (cutL bs cs k) ∧ Below w.heap.size w wr) (fun _ _ _ i _ => cs.length - (intOf i).toNat)
  case atStart => exact ⟨0, by omega, rfl, rfl, ⟨[], rfl, World.ownsRow_nil _ _ _ _, (fun x hx => by cases hx)⟩, Below.refl _ _⟩
  case round =>
    obtain ⟨k, hk, rfl, rfl, hS, hB⟩ := hrel
    obtain ⟨xs, x1, x2, x3⟩ := hS
    have s1 := hB.size
    have HXS : Hid (∀ x ∈ xs, wr.ownsRow w.heap.size 5 1 x.1 x.2.length (bvs x.2)) := x3
    rw [cutL_length] at x2
    have HX2 : Hid (wr.ownsRow w.heap.size 22 1 u5 k (xs.map Prod.fst)) := x2
    clear x3 x2
    by_cases hlt : k < cs.length
    · have e' := HA'.out (by omega)
      subst e'
      have hc1 : wr.cell? ⟨b', off' + k, none⟩ = some (.int .i64 (zAt cs k)) := (hB.cell (p := ⟨b', off' + k, none⟩) (cell_lt (HC.out k hlt))).trans (HC.out k hlt)
      have hle := cutAt_le bs.length cs k
      have hle1 := cutAt_le bs.length cs (k + 1)
      have hmo := cutAt_mono bs.length cs k
      have HL : Hid ((cutS bs cs k).length = cutAt bs.length cs (k + 1) - cutAt bs.length cs k) := cutS_length bs cs k
      have hmm : (cutAt bs.length cs (k + 1) : Int) = min (max (zAt cs k) (cutAt bs.length cs k)) (bs.length : Int) := by simp only [cutAt]; omega
      have hq : (zAt cs k < (cutAt bs.length cs k : Int) ∧ cutAt bs.length cs (k + 1) = cutAt bs.length cs k) ∨ (¬ zAt cs k < (cutAt bs.length cs k : Int) ∧ (bs.length : Int) < zAt cs k ∧ cutAt bs.length cs (k + 1) = bs.length) ∨ (¬ zAt cs k < (cutAt bs.length cs k : Int) ∧ ¬ (bs.length : Int) < zAt cs k ∧ (cutAt bs.length cs (k + 1) : Int) = zAt cs k) := by omega
      have HB : Hid (Below w.heap.size w wr) := hB
      clear hmm hB
      rcases hq with ⟨q1, q3⟩ | ⟨q1, q2, q3⟩ | ⟨q1, q2, q3⟩
      all_goals
        have Q3 : Hid _ := q3
        clear q3
        go_wp2_with (first
          | (go_at_call 31; refine (copy_calls _ (cutS bs cs k) w.heap.size _ (by have := HL.out; omega) (by have := HL.out; have := Q3.out; exact part_if (cap := cap) HA.out (fun h => cell_lt (HX.out 0 h)) (by omega) (fun j hj => (HB.out.cell (p := ⟨b, off + j, none⟩) (cell_lt (HX.out j hj))).trans (HX.out j hj)) _ _ _ hmo hle1 (by omega))).mono ?_; rintro e w1 ⟨rfl, ho, hb1⟩; have HO : Hid _ := ho; have HB1 : Hid _ := hb1; clear ho hb1)
          | (at_builtin; refine wpList_append_own _ rfl _ _ 27 rfl w.heap.size 22 i0 (.slice none 0 0) 1 24 Tryd.underlying27 hi hz0 hz1 hz2 rfl (by decide) _ _ _ rfl ((owns_below HX2.out HB1.out).alloc _) ⟨w1.heap.size, 0, none⟩ 1 1 [.slice (some ⟨wr.heap.size, 0, none⟩) (cutS bs cs k).length (cutS bs cs k).length] rfl rfl (cell_one _ _ _) (by simp [Value.oneCell']) (by unfold maxLen; omega) (by omega) (by have := HB1.out.size; simp; omega) ?_; intro v' w4 hown' hgrow _))
        have z1 := HB1.out.size
        have q3 := Q3.out
        go_roundw
        case rel =>
          have H : OwnC w.heap.size w4 v' (cutL bs cs (k + 1)) ∧ Below w.heap.size w w4 := by
            rw [cutL_succ]
            exact ⟨OwnC.snoc x1 (by rw [cutL_length]; exact (owns_below HX2.out HB1.out).alloc _) (fun x hx => ((owns_below (HXS.out x hx) HB1.out).alloc _)) ((owns_mono HO.out s1).alloc _) (by rw [cutL_length]; exact hown') hgrow, ((HB.out.trans (HB1.out.mono s1)).alloc (by omega) _).grown hgrow (by simp; omega) (fun j hj => (HX2.out.lt j hj).1)⟩
          first
            | exact ⟨k + 1, by omega, by go_num, by congr 1; omega, H⟩
            | exact ⟨_, _, _, _, ⟨k + 1, by omega, by go_num, by congr 1; omega, H⟩, rfl, rfl, rfl, rfl⟩
        case measure => simp [intOf]; omega
    · obtain rfl : k = cs.length := by omega
      have hle := cutAt_le bs.length cs cs.length
      have HB : Hid (Below w.heap.size w wr) := hB
      clear hB
      obtain ⟨dl, hdl⟩ : ∃ dl, bs.drop (cutAt bs.length cs cs.length) = dl := ⟨_, rfl⟩
      have hlen : dl.length = bs.length - cutAt bs.length cs cs.length := by rw [← hdl]; simp
      have HP : Hid (∀ m, m = bs.length - cutAt bs.length cs cs.length → HasB w.heap.size wr (.slice (if cap = cutAt bs.length cs cs.length then a else a.map fun p => p.add (cutAt bs.length cs cs.length)) m (cap - cutAt bs.length cs cs.length)) dl) := fun m hm => by
        have h := part_if (n₀ := w.heap.size) (w := wr) (cap := cap) HA.out (fun h => cell_lt (HX.out 0 h)) (by omega) (fun j hj => (HB.out.cell (p := ⟨b, off + j, none⟩) (cell_lt (HX.out j hj))).trans (HX.out j hj)) (cutAt bs.length cs cs.length) bs.length m hle (Nat.le_refl _) hm
        rwa [List.take_of_length_le (by simp), hdl] at h
      have HLN : Hid (dl.length = bs.length - cutAt bs.length cs cs.length) := hlen
      have HDL : Hid (bs.drop (cutAt bs.length cs cs.length) = dl) := hdl
      clear hlen hdl
      go_wp2_with (first
        | (go_at_call 31; refine (copy_calls _ dl w.heap.size _ (by have := HLN.out; omega) (HP.out _ (by omega))).mono ?_; rintro e w1 ⟨rfl, ho, hb1⟩; have HO : Hid _ := ho; have HB1 : Hid _ := hb1; clear ho hb1)
        | (at_builtin; refine wpList_append_own _ rfl _ _ 27 rfl w.heap.size 22 i0 (.slice none 0 0) 1 24 Tryd.underlying27 hi hz0 hz1 hz2 rfl (by decide) _ _ _ rfl ((owns_below HX2.out HB1.out).alloc _) ⟨w1.heap.size, 0, none⟩ 1 1 [.slice (some ⟨wr.heap.size, 0, none⟩) dl.length dl.length] rfl rfl (cell_one _ _ _) (by simp [Value.oneCell']) (by unfold maxLen; omega) (by omega) (by have := HB1.out.size; simp; omega) ?_; intro v' w4 hown' hgrow _))
      all_goals
        have z1 := HB1.out.size
        go_ret
        exact ⟨_, rfl, by
          unfold cuts
          rw [HDL.out]
          exact OwnC.snoc x1 (by rw [cutL_length]; exact (owns_below HX2.out HB1.out).alloc _) (fun x hx => ((owns_below (HXS.out x hx) HB1.out).alloc _)) ((owns_mono HO.out s1).alloc _) (by rw [cutL_length]; exact hown') hgrow, ((HB.out.trans (HB1.out.mono s1)).alloc (by omega) _).grown hgrow (by simp; omega) (fun j hj => (HX2.out.lt j hj).1)⟩
/-- **Cuts of any bytes at any places.** -/
theorem cuts_calls (v v' : Value) (bs : List UInt8) (cs : List Int) (n₀ : Nat) (w : World) (hl : bs.length ≤ 70368744177664) (hm : cs.length ≤ 1000000000000) (hb : HasB n₀ w v bs) (hc : HasI .i64 w v' cs) :
    Calls Tryd.prog 7 #[v, v'] w fun e W' => ∃ v, e = .returned v ∧ OwnC w.heap.size W' v (cuts bs cs) ∧ Below w.heap.size w W' := by
  have B : ∃ a b off cap, v = .slice a bs.length cap ∧ (bs.length : Int) ≤ cap ∧ (0 < bs.length → a = some ⟨b, off, none⟩) ∧ ∀ j, j < bs.length → w.cell? ⟨b, off + j, none⟩ = some (.int .u8 (byteAt bs j)) := by
    rcases hb with ⟨rfl, a, cap, rfl⟩ | ⟨hp, b, off, cap, rfl, hcap, _, hx⟩
    · exact ⟨a, 0, 0, cap, rfl, by simp, fun h => by simp at h, fun j hj => by simp at hj⟩
    · exact ⟨_, b, off, cap, rfl, by omega, fun _ => rfl, hx⟩
  have C : ∃ a b off cap, v' = .slice a cs.length cap ∧ (0 < cs.length → a = some ⟨b, off, none⟩) ∧ ∀ j, j < cs.length → w.cell? ⟨b, off + j, none⟩ = some (.int .i64 (zAt cs j)) := by
    rcases hc with ⟨rfl, a, cap, rfl⟩ | ⟨hp, b, off, cap, rfl, hcap, hx⟩
    · exact ⟨a, 0, 0, cap, rfl, fun h => by simp at h, fun j hj => by simp at hj⟩
    · exact ⟨_, b, off, cap, rfl, fun _ => rfl, hx⟩
  obtain ⟨a, b, off, cap, rfl, h1, h2, h3⟩ := B
  obtain ⟨a', b', off', cap', rfl, g2, g3⟩ := C
  exact cuts_walk bs cs a a' b off cap b' off' cap' w (by omega) (by omega) h2 h1 h3 g2 g3
end Go.Proofs.YtjhoaepokkaoeaaDoor.U
