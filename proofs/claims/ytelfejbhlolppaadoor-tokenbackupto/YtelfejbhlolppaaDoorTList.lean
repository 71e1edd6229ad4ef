/- What is proved here: the contract of List of token. -/
import Derived.Test.YtelfejbhlolppaaDoorTToks
import Derived.Test.YtelfejbhlolppaaDoorTLine2
namespace Go.Proofs.YtelfejbhlolppaaDoor.T
open Go.RowKit N

theorem Bld.below {B b : Nat} {l : List UInt8} {w w' : World} (h : Bld B b l w) (hb : Below w.heap.size w w') : Bld B b l w' := by
  rcases h with h | h
  · obtain ⟨hB, v, hk, hown, hne⟩ := h
    exact .inl ⟨hB, v, (hb.block b (C.lt_of_block hk)).trans hk, hown.kept (C.grownBy_of_below hb) (by cases v.ownBlock <;> simp), hne⟩
  · obtain ⟨hB, v, hk, hown, hne⟩ := h
    exact .inr ⟨hB, v, (hb.block b (C.lt_of_block hk)).trans hk, hown.kept (C.grownBy_of_below hb) (by cases v.ownBlock <;> simp), hne⟩

def okL (L : TL) : Bool := L.all fun x => checkB x.1 x.2
def linesB (L : TL) : List UInt8 := L.flatMap fun x => lineB x.1 x.2 ++ [10]
def listB (L : TL) : List UInt8 := match okL L with | true => linesB L | false => []
theorem linesB_len (L : TL) : (linesB L).length ≤ 13 * bulkL L := by
  unfold linesB bulkL
  induction L with
  | nil => simp
  | cons x r ih =>
    have h1 := lineB_len x.1 x.2
    simp only [List.flatMap_cons, List.length_append, List.map_cons, List.sum_cons, List.length_cons, List.length_nil]
    unfold sizeT at h1
    have : 13 * bulkT x = 13 * (x.1.name.size + x.1.text.size + (x.2.length + sumA x.2) + 1) := rfl
    omega
theorem linesB_succ (L : TL) (k : Nat) (h : k < L.length) : linesB (L.take (k + 1)) = linesB (L.take k) ++ lineB L[k].1 L[k].2 ++ [10] := by
  unfold linesB
  rw [List.take_succ_eq_append_getElem h, List.flatMap_append]; simp

set_option maxRecDepth 100000 in
set_option maxHeartbeats 4000000 in
/-- **List of any tokens.** -/
theorem list_calls (L : TL) (v : Value) (w : World) (hW : Words w) (hH : HasT w v L) (hbk : bulkL L ≤ 1048576) :
    Calls Tryd.prog 22 #[v] w fun e w' => e = .returned (.tuple #[.string ⟨(listB L).toArray⟩, .int .i64 (okZ (okL L))]) ∧ Below w.heap.size w w' := by
  obtain ⟨va, vc, rfl⟩ := hH.slice
  have HS : Hid (HasT w (.slice va L.length vc) L) := hH
  have HW : Hid (Words w) := hW
  have hLn := bulkL_len L
  have hll : (L.length : Int) ≤ 1048576 := by omega
  have HLB : Hid (listB L = match okL L with | true => linesB L | false => []) := rfl
  clear hH hW
  obtain ⟨W0, hW0⟩ : ∃ W0, w.alloc (.cells #[.pointer none, .slice none 0 0] 62) = W0 := ⟨_, rfl⟩
  have b0 : Below w.heap.size w W0 := by rw [← hW0]; exact (Below.refl _ w).alloc (Nat.le_refl _) _
  have h0 : Bld w.heap.size w.heap.size [] W0 := by rw [← hW0]; exact Bld.new w
  have HB0 : Hid (Below w.heap.size w W0) := b0
  have H0 : Hid (Bld w.heap.size w.heap.size (linesB (L.take 0)) W0) := by show Bld _ _ _ _; simpa [linesB] using h0
  clear b0 h0
  go_enter Tryd.func22, Tryd.ntmps22
  go_wp2
  go_loopw [6, 7, 10] (fun _ _ i wr => ∃ k : Nat, k ≤ L.length ∧ i = .int .i64 k ∧ Hid (Bld w.heap.size w.heap.size (linesB (L.take k)) wr) ∧ Hid (Below w.heap.size w wr) ∧ Hid ((L.take k).all (fun x => checkB x.1 x.2) = true)) (fun _ _ i _ => L.length - (intOf i).toNat)
  case atStart => exact ⟨0, by omega, rfl, H0, HB0, by simp [Hid]⟩
  case round =>
    obtain ⟨k, hk, rfl, hb, hbe, hal⟩ := hrel
    have hzr := hbe.out.size
    by_cases hlt : k < L.length
    · obtain ⟨tb, off, rfl, av, d0, d1, d2, d3, d4, d5, d6, d7, hA⟩ := HS.out.at k hlt
      have hbt := bulkL_at L k hlt
      have hbs := bulkL_succ L k hlt
      have hbk2 := bulkL_take L (k + 1)
      have hln := linesB_len (L.take k)
      have hsx := linesB_succ L k hlt
      have HALL : Hid (checkB L[k].1 L[k].2 = true → (L.take (k + 1)).all (fun x => checkB x.1 x.2) = true) := fun h => by
        rw [List.take_succ_eq_append_getElem hlt, List.all_append, hal.out]; simp [h]
      have HNOT : Hid (checkB L[k].1 L[k].2 = false → okL L = false) := fun h => List.all_eq_false.2 ⟨L[k], List.getElem_mem _, by simp [h]⟩
      rcases hx : L[k] with ⟨t, l⟩
      rw [hx] at d0 d1 d2 d4 d5 d6 d7 hA hbt hbs hsx HALL HNOT
      simp only at d0 d1 d2 d4 d5 d6 d7 hA hbt hbs hsx HALL HNOT
      clear hx
      obtain ⟨aa, ac, rfl⟩ := hA.slice
      unfold bulkT at hbt hbs
      simp only at hbt hbs
      obtain ⟨sa, st, sz⟩ := sizes_of hbk (t := t) (l := l) hbt
      obtain ⟨Lk, hLk⟩ : ∃ Lk, linesB (L.take k) = Lk := ⟨_, rfl⟩
      rw [hLk] at hb hln hsx
      have hroom : Lk.length + sizeT t l ≤ 140737488355328 := by omega
      have hroom1 : Lk.length + sizeT t l + 1 ≤ 140737488355328 := by omega
      have hlen2 := lineB_len t l
      have HSX : Hid (linesB (L.take (k + 1)) = Lk ++ lineB t l ++ [10]) := hsx
      have HA : Hid (HasA w (.slice aa l.length ac) l) := hA
      have HSA : Hid (SizesA l) := sa
      have HST : Hid t.Sizes := st
      have HKD : Hid (checkB t l = true → 0 ≤ t.kind ∧ t.kind ≤ 4) := check_kind
      have e0 := (hbe.out.cell (p := ⟨tb, off + k * 8, none⟩) (C.cell_lt d0)).trans d0
      have e1 := (hbe.out.cell (p := ⟨tb, off + k * 8 + 1, none⟩) (C.cell_lt d1)).trans d1
      have e2 := (hbe.out.cell (p := ⟨tb, off + k * 8 + 2, none⟩) (C.cell_lt d2)).trans d2
      have e3 := (hbe.out.cell (p := ⟨tb, off + k * 8 + 3, none⟩) (C.cell_lt d3)).trans d3
      have e4 := (hbe.out.cell (p := ⟨tb, off + k * 8 + 4, none⟩) (C.cell_lt d4)).trans d4
      have e5 := (hbe.out.cell (p := ⟨tb, off + k * 8 + 5, none⟩) (C.cell_lt d5)).trans d5
      have e6 := (hbe.out.cell (p := ⟨tb, off + k * 8 + 6, none⟩) (C.cell_lt d6)).trans d6
      have e7 := (hbe.out.cell (p := ⟨tb, off + k * 8 + 7, none⟩) (C.cell_lt d7)).trans d7
      clear d0 d1 d2 d3 d4 d5 d6 d7 hbt hbs hbk2 hln hsx hLk hA sa st
      obtain ⟨W1, hW1⟩ : ∃ W1, wr.alloc (.cells #[.int .i64 t.kind, .string t.name, .string t.text, (.slice aa l.length ac), .bool t.self, .int .i64 t.p0, .int .i64 t.p1, .int .i64 t.p2] 28) = W1 := ⟨_, rfl⟩
      have hT1 : W1.heap[wr.heap.size]? = some (.cells #[.int .i64 t.kind, .string t.name, .string t.text, (.slice aa l.length ac), .bool t.self, .int .i64 t.p0, .int .i64 t.p1, .int .i64 t.p2] 28 (0, 0)) := by rw [← hW1]; exact new_at _ _ _
      have hz1 : wr.heap.size < W1.heap.size := by rw [← hW1]; simp
      have b1 : Below wr.heap.size wr W1 := by rw [← hW1]; exact (Below.refl _ wr).alloc (Nat.le_refl _) _
      have h1 : Bld w.heap.size w.heap.size Lk W1 := by rw [← hW1]; exact hb.out.alloc _
      have hbe1 : Below w.heap.size w W1 := hbe.out.trans (b1.mono hzr)
      have C1 : Hid (Calls Tryd.prog 10 #[.agg #[.int .i64 t.kind, .string t.name, .string t.text, (.slice aa l.length ac), .bool t.self, .int .i64 t.p0, .int .i64 t.p1, .int .i64 t.p2]] W1 fun e w' => e = .returned (.int .i64 (okZ (checkB t l))) ∧ Below W1.heap.size W1 w') := check_calls t l (.slice aa l.length ac) W1 (HA.out.below hbe1) HSA.out HST.out
      have HBE1 : Hid (Below w.heap.size w W1) := hbe1
      have HT1 : Hid (W1.heap[wr.heap.size]? = some (.cells #[.int .i64 t.kind, .string t.name, .string t.text, (.slice aa l.length ac), .bool t.self, .int .i64 t.p0, .int .i64 t.p1, .int .i64 t.p2] 28 (0, 0))) := hT1
      have H1 : Hid (Bld w.heap.size w.heap.size Lk W1) := h1
      have z0 : W1.cell? ⟨wr.heap.size, 0, none⟩ = some (.int .i64 t.kind) := cell_at hT1
      have z1 : W1.cell? ⟨wr.heap.size, 1, none⟩ = some (.string t.name) := cell_at hT1
      have z2 : W1.cell? ⟨wr.heap.size, 2, none⟩ = some (.string t.text) := cell_at hT1
      have z3 : W1.cell? ⟨wr.heap.size, 3, none⟩ = some (.slice aa l.length ac) := cell_at hT1
      have z4 : W1.cell? ⟨wr.heap.size, 4, none⟩ = some (.bool t.self) := cell_at hT1
      have z5 : W1.cell? ⟨wr.heap.size, 5, none⟩ = some (.int .i64 t.p0) := cell_at hT1
      have z6 : W1.cell? ⟨wr.heap.size, 6, none⟩ = some (.int .i64 t.p1) := cell_at hT1
      have z7 : W1.cell? ⟨wr.heap.size, 7, none⟩ = some (.int .i64 t.p2) := cell_at hT1
      clear hT1 b1 h1 hbe1
      cases hc : checkB t l with
      | false =>
        have HO := HNOT.out hc
        have HO' : Hid (okL L = false) := HO
        clear HO
        rw [hc] at C1
        go_wp2_with (go_at_call 10; refine C1.out.mono ?_; rintro e w2 ⟨rfl, hb2⟩; rw [show okZ false = 70 from rfl])
        all_goals go_ret2
        all_goals exact ⟨by rw [HLB.out, HO'.out]; rfl, HBE1.out.trans (hb2.mono HBE1.out.size)⟩
      | true =>
        have hkd := HKD.out hc
        have HAL : Hid ((L.take (k + 1)).all (fun x => checkB x.1 x.2) = true) := HALL.out hc
        rw [hc] at C1
        go_wp2_with fail
        refine C1.out.mono ?_
        rintro e w2 ⟨rfl, hb2⟩
        rw [show okZ true = 0 from rfl]
        have hT2 := (hb2.block wr.heap.size hz1).trans HT1.out
        have hbe2 : Below w.heap.size w w2 := HBE1.out.trans (hb2.mono HBE1.out.size)
        have h2 : Bld w.heap.size w.heap.size Lk w2 := H1.out.below hb2
        have hz2 := hb2.size
        have C2 : Hid (Calls Tryd.prog 35 #[.pointer (some ⟨w.heap.size, 0, none⟩), .agg #[.int .i64 t.kind, .string t.name, .string t.text, (.slice aa l.length ac), .bool t.self, .int .i64 t.p0, .int .i64 t.p1, .int .i64 t.p2]] w2 fun e w' => e = .returned (.tuple #[]) ∧ Bld w.heap.size w.heap.size (Lk ++ lineB t l) w' ∧ Below w.heap.size w2 w' ∧ Kept w.heap.size w2 w') :=
          write_calls w w.heap.size Lk t l (.slice aa l.length ac) w2 hbe2 HW.out HA.out h2 hkd HSA.out.1 hroom
        have HBE2 : Hid (Below w.heap.size w w2) := hbe2
        clear z0 z1 z2 z3 z4 z5 z6 z7 h2 hbe2 hb2 C1
        have z0 : w2.cell? ⟨wr.heap.size, 0, none⟩ = some (.int .i64 t.kind) := cell_at hT2
        have z1 : w2.cell? ⟨wr.heap.size, 1, none⟩ = some (.string t.name) := cell_at hT2
        have z2 : w2.cell? ⟨wr.heap.size, 2, none⟩ = some (.string t.text) := cell_at hT2
        have z3 : w2.cell? ⟨wr.heap.size, 3, none⟩ = some (.slice aa l.length ac) := cell_at hT2
        have z4 : w2.cell? ⟨wr.heap.size, 4, none⟩ = some (.bool t.self) := cell_at hT2
        have z5 : w2.cell? ⟨wr.heap.size, 5, none⟩ = some (.int .i64 t.p0) := cell_at hT2
        have z6 : w2.cell? ⟨wr.heap.size, 6, none⟩ = some (.int .i64 t.p1) := cell_at hT2
        have z7 : w2.cell? ⟨wr.heap.size, 7, none⟩ = some (.int .i64 t.p2) := cell_at hT2
        clear hT2
        go_wp2_with fail
        refine C2.out.mono ?_
        rintro e w3 ⟨rfl, h3, b3, k3⟩
        have hz3 := b3.size
        have hbe3 : Below w.heap.size w w3 := HBE2.out.trans b3
        clear z0 z1 z2 z3 z4 z5 z6 z7 k3 b3 C2
        go_wp2_with fail
        refine (writeByte_calls w.heap.size w.heap.size _ 10 _ rfl w3 h3 (by simp only [List.length_append]; omega) (by omega)).mono ?_
        rintro e w4 ⟨rfl, h4, b4, k4⟩
        have H4 : Hid (Bld w.heap.size w.heap.size (linesB (L.take (k + 1))) w4) := by rw [HSX.out]; exact h4
        have HB4 : Hid (Below w.heap.size w w4) := hbe3.trans b4
        clear h3 h4 b4 k4 hbe3
        go_wp2
        go_roundw
        case rel => exact ⟨k + 1, by omega, by go_num, H4, HB4, HAL⟩
        case measure => simp [intOf]; omega
    · obtain rfl : k = L.length := by omega
      rw [List.take_length] at hb hal
      have HO : Hid (okL L = true) := hal.out
      go_wp2_with (go_at_call 36; refine (string_calls w.heap.size w.heap.size _ wr hb.out hzr).mono ?_; rintro e w2 ⟨rfl, h2, b2, k2⟩)
      go_ret2
      exact ⟨by rw [HLB.out, HO.out]; rfl, hbe.out.trans b2⟩
end Go.Proofs.YtelfejbhlolppaaDoor.T
