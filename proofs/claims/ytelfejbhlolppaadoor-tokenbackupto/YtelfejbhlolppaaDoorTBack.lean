/- What is proved here: the statement TokenBack (lines that are printed are read again, tokens print the same just if they are equal, merged tokens stay as they are) holds for any tokens, where the arguments hold at most 1048576 values together, with no other condition but what the card says of the table of words. -/
import Derived.Test.YtelfejbhlolppaaDoorCards
import Derived.Test.YtelfejbhlolppaaDoorTie
import Derived.Test.YtelfejbhlolppaaDoorBun8
import Derived.Test.YtelfejbhlolppaaDoorTSameL
import Derived.Test.YtelfejbhlolppaaDoorTRMerge
import Derived.Test.YtelfejbhlolppaaDoorTShelfM
import Derived.Test.YtelfejbhlolppaaDoorTBackM
namespace Go.Proofs.YtelfejbhlolppaaDoor.TBack
open Go.ChangeShapes Go.WideShapes Go.ChangeAt Go.RowKit T N

/-- The tokens that may be. -/
def ckL (L : TL) : TL := L.filter fun x => checkB x.1 x.2
theorem ckL_yes (L : TL) (k : Nat) (h : k < L.length) (hc : checkB L[k].1 L[k].2 = true) : ckL (L.take (k + 1)) = ckL (L.take k) ++ [L[k]] := by
  unfold ckL
  rw [List.take_succ_eq_append_getElem h, List.filter_append]
  simp [hc]
theorem ckL_no (L : TL) (k : Nat) (h : k < L.length) (hc : checkB L[k].1 L[k].2 = false) : ckL (L.take (k + 1)) = ckL (L.take k) := by
  unfold ckL
  rw [List.take_succ_eq_append_getElem h, List.filter_append]
  simp [hc]
theorem ckL_ok (L : TL) : okL (ckL L) = true := by
  unfold okL ckL
  rw [List.all_eq_true]
  intro x hx
  exact (List.mem_filter.1 hx).2
theorem ckL_len (L : TL) : (ckL L).length ≤ L.length := List.length_filter_le _ _
theorem ckL_bulk (L : TL) : bulkL (ckL L) ≤ bulkL L := by
  unfold ckL bulkL
  induction L with
  | nil => simp
  | cons x r ih =>
    rw [List.filter_cons]
    split
    · simp only [List.map_cons, List.sum_cons]; omega
    · simp only [List.map_cons, List.sum_cons]; omega
theorem bulk_clr (L : TL) : bulkL (L.map clr) = bulkL L := by
  unfold bulkL
  rw [List.map_map]
  rfl
theorem bulk_snoc (M : TL) (x : T.Tok × AL) : bulkL (M ++ [x]) = bulkL M + bulkT x := by unfold bulkL; simp
theorem bulk_refM (L : TL) : bulkL (refM L) ≤ bulkL L := by
  refine snoc_ind (P := fun L => bulkL (refM L) ≤ bulkL L) (by simp [refM]) (fun R x ih => ?_) L
  rw [refM_snoc, bulk_snoc]
  unfold stepM
  split
  · rw [bulk_snoc]; omega
  · split
    · omega
    · split
      · rename_i y hy
        split
        · have h1 : refM R = (refM R).dropLast ++ [y] := by
            have hne : refM R ≠ [] := fun h => by rw [h] at hy; simp at hy
            have h2 := List.dropLast_concat_getLast hne
            rw [List.getLast?_eq_some_getLast hne] at hy
            simp only [Option.some.injEq] at hy
            rw [hy] at h2; exact h2.symm
          rw [h1, bulk_snoc] at ih
          rw [bulk_snoc]
          simp only [bulkT, addText, ByteArray.size_append] at ih ⊢
          omega
        · rw [bulk_snoc]; omega
      · rw [bulk_snoc]; omega

set_option maxRecDepth 100000 in
set_option maxHeartbeats 8000000 in
theorem walk (w : World) (hW : Words w) (hm : MaxOk w) (v : Value) (L : TL) (hH : HasT w v L) (hbk : bulkL L ≤ 1048576) (ta : T.Tok) (la : AL) (av : Value) (hA : HasA w av la) (hza : ta.name.size + ta.text.size + (la.length + sumA la) + 1 ≤ 1048576) (tb : T.Tok) (lb : AL) (bv : Value) (hB : HasA w bv lb) (hzb : tb.name.size + tb.text.size + (lb.length + sumA lb) + 1 ≤ 1048576) :
    Calls Tryd.prog 8 #[v, ta.val av, tb.val bv] w fun e w' => e = .returned (.bool true) ∧ Below w.heap.size w w' := by
  obtain ⟨va, vc, rfl⟩ := hH.slice
  have HS : Hid (HasT w (.slice va L.length vc) L) := hH
  have HW : Hid (Words w) := hW
  have HM : Hid (MaxOk w) := hm
  have hLn := bulkL_len L
  have hll : (L.length : Int) ≤ 1048576 := by omega
  obtain ⟨sa1, sa2, sa3⟩ := sizes_of (Nat.le_refl _) hza
  obtain ⟨sb1, sb2, sb3⟩ := sizes_of (Nat.le_refl _) hzb
  have hla := sa1.1
  have HPA : Hid (∀ W, Below w.heap.size w W → Calls Tryd.prog 20 #[ta.val av] W fun e w' => e = .returned (.tuple #[.string ⟨(printB ta la).toArray⟩, .int .i64 (okZ (checkB ta la))]) ∧ Below W.heap.size W w') := fun W hb => print_calls ta la av W (HW.out.below hb) (hA.below hb) sa1 sa2 (by omega)
  have HPB : Hid (∀ W, Below w.heap.size w W → Calls Tryd.prog 20 #[tb.val bv] W fun e w' => e = .returned (.tuple #[.string ⟨(printB tb lb).toArray⟩, .int .i64 (okZ (checkB tb lb))]) ∧ Below W.heap.size W w') := fun W hb => print_calls tb lb bv W (HW.out.below hb) (hB.below hb) sb1 sb2 (by omega)
  have HEQ : Hid (∀ W, Below w.heap.size w W → Calls Tryd.prog 12 #[ta.val av, tb.val bv] W fun e w' => e = .returned (.bool (eqTok ta la tb lb)) ∧ Below W.heap.size W w') := fun W hb => tequal_calls ta tb la lb av bv W (hA.below hb) (hB.below hb) hla
  obtain ⟨i0, hi, hz0, hz1, hz2⟩ := info_parts infoTok
  have HI : Hid (Tryd.prog.info? 28 = some i0 ∧ i0.zero = some (.agg #[.int .i64 0, .string ⟨#[]⟩, .string ⟨#[]⟩, .slice none 0 0, .bool false, .int .i64 0, .int .i64 0, .int .i64 0]) ∧ i0.size = 8 ∧ i0.bytes = 96) := ⟨hi, hz0, hz1, hz2⟩
  clear hi hz0 hz1 hz2
  unfold T.Tok.val at HPA HPB HEQ ⊢
  obtain ⟨aa, ac, rfl⟩ := hA.slice
  obtain ⟨ba, bc, rfl⟩ := hB.slice
  clear hH hA hB hza hzb sa1 sa2 sa3 sb1 sb2 sb3 hW hm
  go_enter Tryd.func8, Tryd.ntmps8
  go_wp2_with fail
  obtain ⟨W0, hW0⟩ : ∃ W0, w.alloc (.cells #[.int .i64 ta.kind, .string ta.name, .string ta.text, .slice aa la.length ac, .bool ta.self, .int .i64 ta.p0, .int .i64 ta.p1, .int .i64 ta.p2] 28) = W0 := ⟨_, rfl⟩
  have hz0 : W0.heap.size = w.heap.size + 1 := by rw [← hW0]; simp
  have b0 : Below w.heap.size w W0 := by rw [← hW0]; exact (Below.refl _ w).alloc (Nat.le_refl _) _
  have t0 : W0.heap[w.heap.size]? = some (.cells #[.int .i64 ta.kind, .string ta.name, .string ta.text, .slice aa la.length ac, .bool ta.self, .int .i64 ta.p0, .int .i64 ta.p1, .int .i64 ta.p2] 28 (0, 0)) := by rw [← hW0]; exact new_at _ _ _
  rw [hW0]
  obtain ⟨W1, hW1⟩ : ∃ W1, W0.alloc (.cells #[.int .i64 tb.kind, .string tb.name, .string tb.text, .slice ba lb.length bc, .bool tb.self, .int .i64 tb.p0, .int .i64 tb.p1, .int .i64 tb.p2] 28) = W1 := ⟨_, rfl⟩
  have hz1 : W1.heap.size = w.heap.size + 2 := by rw [← hW1]; simp; omega
  have b1 : Below W0.heap.size W0 W1 := by rw [← hW1]; exact (Below.refl _ W0).alloc (Nat.le_refl _) _
  have HTA : Hid (W1.heap[w.heap.size]? = some (.cells #[.int .i64 ta.kind, .string ta.name, .string ta.text, .slice aa la.length ac, .bool ta.self, .int .i64 ta.p0, .int .i64 ta.p1, .int .i64 ta.p2] 28 (0, 0))) := (b1.block w.heap.size (by omega)).trans t0
  have HTB : Hid (W1.heap[w.heap.size + 1]? = some (.cells #[.int .i64 tb.kind, .string tb.name, .string tb.text, .slice ba lb.length bc, .bool tb.self, .int .i64 tb.p0, .int .i64 tb.p1, .int .i64 tb.p2] 28 (0, 0))) := by rw [← hz0, ← hW1]; exact new_at _ _ _
  have HB1 : Hid (Below w.heap.size w W1) := b0.trans (b1.mono b0.size)
  rw [hW1]
  clear hW0 hW1 b0 b1 t0 hz0
  go_loopw [7, 9, 22] (fun v7 _ i wr => ∃ k : Nat, k ≤ L.length ∧ i = .int .i64 k ∧ Hid (OwnR W1.heap.size (fun a l => HasA w a l) wr v7 (ckL (L.take k))) ∧ Hid (Below W1.heap.size W1 wr)) (fun _ _ i _ => L.length - (intOf i).toNat)
  case atStart => exact ⟨0, by omega, rfl, ⟨[], rfl, World.ownsRow_nil _ _ _ _, fun x hx => by cases hx⟩, Below.refl _ _⟩
  case round =>
    obtain ⟨k, hk, rfl, hO, hB⟩ := hrel
    have hzr := hB.out.size
    by_cases hlt : k < L.length
    · obtain ⟨tb', off, rfl, xv, d0, d1, d2, d3, d4, d5, d6, d7, hA⟩ := HS.out.at k hlt
      have HBw : Hid (Below w.heap.size w wr) := HB1.out.trans (hB.out.mono HB1.out.size)
      have hbt := bulkL_at L k hlt
      have hyes := ckL_yes L k hlt
      have hno := ckL_no L k hlt
      have hrl := ckL_len (L.take k)
      rw [List.length_take] at hrl
      rcases hx : L[k] with ⟨t, l⟩
      rw [hx] at d0 d1 d2 d4 d5 d6 d7 hA hbt hyes hno
      simp only at d0 d1 d2 d4 d5 d6 d7 hA hyes hno
      unfold bulkT at hbt
      simp only at hbt
      clear hx
      obtain ⟨xa, xc, rfl⟩ := hA.slice
      have e0 := (HBw.out.cell (p := ⟨tb', off + k * 8, none⟩) (C.cell_lt d0)).trans d0
      have e1 := (HBw.out.cell (p := ⟨tb', off + k * 8 + 1, none⟩) (C.cell_lt d1)).trans d1
      have e2 := (HBw.out.cell (p := ⟨tb', off + k * 8 + 2, none⟩) (C.cell_lt d2)).trans d2
      have e3 := (HBw.out.cell (p := ⟨tb', off + k * 8 + 3, none⟩) (C.cell_lt d3)).trans d3
      have e4 := (HBw.out.cell (p := ⟨tb', off + k * 8 + 4, none⟩) (C.cell_lt d4)).trans d4
      have e5 := (HBw.out.cell (p := ⟨tb', off + k * 8 + 5, none⟩) (C.cell_lt d5)).trans d5
      have e6 := (HBw.out.cell (p := ⟨tb', off + k * 8 + 6, none⟩) (C.cell_lt d6)).trans d6
      have e7 := (HBw.out.cell (p := ⟨tb', off + k * 8 + 7, none⟩) (C.cell_lt d7)).trans d7
      obtain ⟨M, hMe⟩ : ∃ M, ckL (L.take k) = M := ⟨_, rfl⟩
      rw [hMe] at hO hyes hno hrl
      clear hMe d0 d1 d2 d3 d4 d5 d6 d7
      obtain ⟨xs, x1, x2, x3⟩ := hO.out
      obtain ⟨va3, vc3, rfl⟩ := C.owns_slice x2
      obtain ⟨W2, hW2⟩ : ∃ W2, wr.alloc (.cells #[.int .i64 t.kind, .string t.name, .string t.text, .slice xa l.length xc, .bool t.self, .int .i64 t.p0, .int .i64 t.p1, .int .i64 t.p2] 28) = W2 := ⟨_, rfl⟩
      have hT2 : W2.heap[wr.heap.size]? = some (.cells #[.int .i64 t.kind, .string t.name, .string t.text, .slice xa l.length xc, .bool t.self, .int .i64 t.p0, .int .i64 t.p1, .int .i64 t.p2] 28 (0, 0)) := by rw [← hW2]; exact new_at _ _ _
      have b2 : Below wr.heap.size wr W2 := by rw [← hW2]; exact (Below.refl _ wr).alloc (Nat.le_refl _) _
      have hz2 : W2.heap.size = wr.heap.size + 1 := by rw [← hW2]; simp
      have HB2 : Hid (Below W1.heap.size W1 W2) := hB.out.trans (b2.mono hzr)
      have HX2 : Hid (W2.ownsRow W1.heap.size 28 8 (.slice va3 M.length vc3) M.length (xs.flatMap fun x => tvs x.2.1 x.1)) := C.owns_below x2 b2
      have HX : Hid (xs.map Prod.snd = M ∧ ∀ x ∈ xs, HasA w x.1 x.2.2) := ⟨x1, x3⟩
      have HA2 : Hid (HasA w (.slice xa l.length xc) l) := hA
      have hsz : SizesA l ∧ t.Sizes ∧ sizeT t l ≤ 100000000 := sizes_of (n := 1048576) (Nat.le_refl _) (by omega)
      have CK : Hid (Calls Tryd.prog 10 #[.agg #[.int .i64 t.kind, .string t.name, .string t.text, .slice xa l.length xc, .bool t.self, .int .i64 t.p0, .int .i64 t.p1, .int .i64 t.p2]] W2 fun e w' => e = .returned (.int .i64 (okZ (checkB t l))) ∧ Below W2.heap.size W2 w') := check_calls t l (.slice xa l.length xc) W2 (hA.below (HBw.out.trans (b2.mono HBw.out.size))) hsz.1 hsz.2.1
      have u0 : W2.cell? ⟨wr.heap.size, 0, none⟩ = some (.int .i64 t.kind) := cell_at hT2
      have u1 : W2.cell? ⟨wr.heap.size, 1, none⟩ = some (.string t.name) := cell_at hT2
      have u2 : W2.cell? ⟨wr.heap.size, 2, none⟩ = some (.string t.text) := cell_at hT2
      have u3 : W2.cell? ⟨wr.heap.size, 3, none⟩ = some (.slice xa l.length xc) := cell_at hT2
      have u4 : W2.cell? ⟨wr.heap.size, 4, none⟩ = some (.bool t.self) := cell_at hT2
      have u5 : W2.cell? ⟨wr.heap.size, 5, none⟩ = some (.int .i64 t.p0) := cell_at hT2
      have u6 : W2.cell? ⟨wr.heap.size, 6, none⟩ = some (.int .i64 t.p1) := cell_at hT2
      have u7 : W2.cell? ⟨wr.heap.size, 7, none⟩ = some (.int .i64 t.p2) := cell_at hT2
      have HT2 : Hid (W2.heap[wr.heap.size]? = some (.cells #[.int .i64 t.kind, .string t.name, .string t.text, .slice xa l.length xc, .bool t.self, .int .i64 t.p0, .int .i64 t.p1, .int .i64 t.p2] 28 (0, 0))) := hT2
      clear x1 x2 x3 b2 hT2 hsz hA hbt
      cases hc : checkB t l with
      | false =>
        rw [hc, show okZ false = 70 from rfl] at CK
        have HE : Hid (ckL (L.take (k + 1)) = M) := hno hc
        have HO2 : Hid (OwnR W1.heap.size (fun a l => HasA w a l) W2 (.slice va3 M.length vc3) M) := ⟨xs, HX.out.1, HX2.out, HX.out.2⟩
        clear hc hyes hno
        go_wp2_with fail
        refine CK.out.mono ?_
        rintro e w3 ⟨rfl, hb3⟩
        have HO3 : Hid (OwnR W1.heap.size (fun a l => HasA w a l) w3 (.slice va3 M.length vc3) (ckL (L.take (k + 1)))) := by
          rw [HE.out]; exact ⟨xs, HX.out.1, C.owns_below HX2.out hb3, HX.out.2⟩
        have HB3 : Hid (Below W1.heap.size W1 w3) := HB2.out.trans (hb3.mono HB2.out.size)
        clear hb3 u0 u1 u2 u3 u4 u5 u6 u7 e0 e1 e2 e3 e4 e5 e6 e7
        go_wp2
        all_goals first
          | exact ⟨⟨k + 1, by omega, by go_num, HO3, HB3⟩, by simp [intOf]; omega⟩
          | (go_roundw
             case rel => exact ⟨k + 1, by omega, by go_num, HO3, HB3⟩
             case measure => simp [intOf]; omega)
          | trace_state
      | true =>
        rw [hc, show okZ true = 0 from rfl] at CK
        have HE : Hid (ckL (L.take (k + 1)) = M ++ [(t, l)]) := hyes hc
        clear hc hyes hno
        go_wp2_with fail
        refine CK.out.mono ?_
        rintro e w3 ⟨rfl, hb3⟩
        have hT3 := (hb3.block wr.heap.size (by omega)).trans HT2.out
        have s3 := hb3.size
        have HX3 : Hid (w3.ownsRow W1.heap.size 28 8 (.slice va3 M.length vc3) M.length (xs.flatMap fun x => tvs x.2.1 x.1)) := C.owns_below HX2.out hb3
        have HB3 : Hid (Below W1.heap.size W1 w3) := HB2.out.trans (hb3.mono HB2.out.size)
        clear hb3 u0 u1 u2 u3 u4 u5 u6 u7 e0 e1 e2 e3 e4 e5 e6 e7
        have u0 : w3.cell? ⟨wr.heap.size, 0, none⟩ = some (.int .i64 t.kind) := cell_at hT3
        have u1 : w3.cell? ⟨wr.heap.size, 1, none⟩ = some (.string t.name) := cell_at hT3
        have u2 : w3.cell? ⟨wr.heap.size, 2, none⟩ = some (.string t.text) := cell_at hT3
        have u3 : w3.cell? ⟨wr.heap.size, 3, none⟩ = some (.slice xa l.length xc) := cell_at hT3
        have u4 : w3.cell? ⟨wr.heap.size, 4, none⟩ = some (.bool t.self) := cell_at hT3
        have u5 : w3.cell? ⟨wr.heap.size, 5, none⟩ = some (.int .i64 t.p0) := cell_at hT3
        have u6 : w3.cell? ⟨wr.heap.size, 6, none⟩ = some (.int .i64 t.p1) := cell_at hT3
        have u7 : w3.cell? ⟨wr.heap.size, 7, none⟩ = some (.int .i64 t.p2) := cell_at hT3
        clear hT3
        go_wp2_with (at_builtin; refine wpList_append_own _ rfl _ _ 38 rfl W1.heap.size 28 i0 (.agg #[.int .i64 0, .string ⟨#[]⟩, .string ⟨#[]⟩, .slice none 0 0, .bool false, .int .i64 0, .int .i64 0, .int .i64 0]) 8 96 Tryd.underlying38 HI.out.1 HI.out.2.1 HI.out.2.2.1 HI.out.2.2.2 rfl (by decide) _ _ _ rfl (World.ownsRow.alloc HX3.out _) ⟨w3.heap.size, 0, none⟩ 1 1 (tvs t (.slice xa l.length xc)) rfl rfl (cells_eight _ t _ _ _ (by simp)) (tvs_one _ _ _ _) (by unfold maxLen; omega) (by omega) (by simp; omega) ?_; intro v6 w6 ho6 hg6 _; obtain ⟨a6, c6, rfl⟩ := C.owns_slice ho6)
        have HO6 : Hid (OwnR W1.heap.size (fun a l => HasA w a l) w6 (.slice a6 (M.length + 1) c6) (ckL (L.take (k + 1)))) := by
          rw [HE.out]
          exact OwnR.snoc HX.out.1 HX.out.2 HA2.out ho6
        have HB6 : Hid (Below W1.heap.size W1 w6) := (HB3.out.alloc HB3.out.size _).grown hg6 (by simp; omega) (fun k e => (HX3.out.lt k e).1)
        clear ho6 hg6
        all_goals first
          | exact ⟨⟨k + 1, by omega, by go_num, HO6, HB6⟩, by simp [intOf]; omega⟩
          | (go_roundw
             case rel => exact ⟨k + 1, by omega, by go_num, HO6, HB6⟩
             case measure => simp [intOf]; omega)
          | trace_state
    · obtain rfl : k = L.length := by omega
      rw [List.take_length] at hO
      obtain ⟨R, hRe⟩ : ∃ R, ckL L = R := ⟨_, rfl⟩
      have HOK : Hid (okL R = true) := by rw [← hRe]; exact ckL_ok L
      have hbR : bulkL R ≤ 1048576 := by rw [← hRe]; exact Nat.le_trans (ckL_bulk L) hbk
      have hRl : R.length ≤ L.length := by rw [← hRe]; exact ckL_len L
      rw [hRe] at hO
      clear hRe
      have HBw : Hid (Below w.heap.size w wr) := HB1.out.trans (hB.out.mono HB1.out.size)
      obtain ⟨ra, rc, rfl⟩ : ∃ a c, u7 = .slice a R.length c := by obtain ⟨xs, x1, x2, x3⟩ := hO.out; exact C.owns_slice x2
      have HRT : Hid (HasT wr (.slice ra R.length rc) R) := hO.out.has (fun a l h => h.below HBw.out)
      have LC := list_calls R _ wr (HW.out.below HBw.out) HRT.out hbR
      obtain ⟨X, hX⟩ : ∃ X : ByteArray, (⟨(linesB R).toArray⟩ : ByteArray) = X := ⟨_, rfl⟩
      have hXd : X.data.toList = linesB R := by rw [← hX]
      have hXz : X.size ≤ 100000000 := by rw [← size_data, hXd]; have := linesB_len R; omega
      rw [HOK.out, show okZ true = 0 from rfl, show listB R = linesB R by unfold listB; rw [HOK.out], hX] at LC
      have HLC : Hid (Calls Tryd.prog 22 #[.slice ra R.length rc] wr fun e w' => e = .returned (.tuple #[.string X, .int .i64 0]) ∧ Below wr.heap.size wr w') := LC
      have HPP : Hid (parseP (X.size + 1) 1 [] X.data.toList = (some (R.map clr), 0)) := by
        show _ = _
        rw [hXd, ← size_data, hXd]; exact parse_list R HOK.out
      have HPC : Hid (∀ W, Below w.heap.size w W → Calls Tryd.prog 23 #[.string X] W fun e w' => ∃ v, e = .returned (.tuple #[v, .int .i64 0, .int .i64 0]) ∧ OwnT W.heap.size w' v (R.map clr) ∧ Below W.heap.size W w') := fun W hb => (parse_calls X W (HW.out.below hb) (HM.out.below hb) hXz).mono fun e w' h => by
        rw [HPP.out] at h
        rcases h with ⟨L', v, h1, h2⟩ | ⟨n', h1, _⟩
        · cases h1; exact ⟨v, h2⟩
        · cases h1
      clear LC hX hXd hXz
      go_wp2_with fail
      refine HLC.out.mono ?_
      rintro e w2 ⟨rfl, hb2⟩
      have HB2 : Hid (Below wr.heap.size wr w2) := hb2
      have HBw2 : Hid (Below w.heap.size w w2) := HBw.out.trans (hb2.mono HBw.out.size)
      clear hb2
      go_wp2_with fail
      refine (HPC.out w2 HBw2.out).mono ?_
      rintro e w3 ⟨kv, rfl, ho3, hb3⟩
      obtain ⟨ka, kc, rfl⟩ := ho3.slice
      rw [List.length_map] at ho3 ⊢
      have HKT : Hid (HasT w3 (.slice ka R.length kc) (R.map clr)) := ho3.has
      have HB23 : Hid (Below wr.heap.size wr w3) := HB2.out.trans (hb3.mono HB2.out.size)
      have HB13 : Hid (Below W1.heap.size W1 w3) := hB.out.trans (HB23.out.mono hB.out.size)
      have HRT3 : Hid (HasT w3 (.slice ra R.length rc) R) := HRT.out.below HB23.out
      clear ho3 hb3 hB hO
      go_wp2_with fail
      go_loopw [15, 64] (fun _ i wr => ∃ k : Nat, k ≤ R.length ∧ i = .int .i64 k ∧ Hid (Below w3.heap.size w3 wr)) (fun _ i _ => R.length - (intOf i).toNat)
      case atStart => exact ⟨0, by omega, rfl, Below.refl _ _⟩
      case round =>
        obtain ⟨k, hk, rfl, hB⟩ := hrel
        have hzr := hB.out.size
        by_cases hlt : k < R.length
        · obtain ⟨tb', off, rfl, xv, d0, d1, d2, d3, d4, d5, d6, d7, hA⟩ := (HKT.out.below hB.out).at k (by rw [List.length_map]; exact hlt)
          obtain ⟨tb2, off', rfl, xv', e0, e1, e2, e3, e4, e5, e6, e7, hA'⟩ := (HRT3.out.below hB.out).at k hlt
          rw [List.getElem_map] at d0 d1 d2 d4 d5 d6 d7 hA
          have hbt := bulkL_at R k hlt
          rcases hx : R[k] with ⟨t, l⟩
          rw [hx] at d0 d1 d2 d4 d5 d6 d7 hA e0 e1 e2 e4 e5 e6 e7 hA' hbt
          simp only [clr] at d0 d1 d2 d4 d5 d6 d7 hA e0 e1 e2 e4 e5 e6 e7 hA'
          unfold bulkT at hbt
          simp only at hbt
          clear hx
          have hl : (l.length : Int) ≤ 1000000000000 := by omega
          have EC : Hid (∀ W, Below wr.heap.size wr W → Calls Tryd.prog 12 #[(clr (t, l)).1.val xv, t.val xv'] W fun e w' => e = .returned (.bool true) ∧ Below W.heap.size W w') := fun W hb => by
            have h := tequal_calls (clr (t, l)).1 t l l xv xv' W (hA.below hb) (hA'.below hb) hl
            rw [show eqTok (clr (t, l)).1 l t l = true from eq_clr (t, l)] at h; exact h
          unfold T.Tok.val clr at EC
          obtain ⟨xa, xc, rfl⟩ := hA.slice
          obtain ⟨xa', xc', rfl⟩ := hA'.slice
          have D : ∀ d os, Below wr.heap.size wr (Go.Sort.grow (redrawn wr d) os) := fun d os => below_regrown wr d os
          have x0 : ∀ d os, (Go.Sort.grow (redrawn wr d) os).cell? ⟨tb', off + k * 8, none⟩ = some (.int .i64 t.kind) := fun d os => cell_regrown d0 d os
          have x1 : ∀ d os, (Go.Sort.grow (redrawn wr d) os).cell? ⟨tb', off + k * 8 + 1, none⟩ = some (.string t.name) := fun d os => cell_regrown d1 d os
          have x2 : ∀ d os, (Go.Sort.grow (redrawn wr d) os).cell? ⟨tb', off + k * 8 + 2, none⟩ = some (.string t.text) := fun d os => cell_regrown d2 d os
          have x3 : ∀ d os, (Go.Sort.grow (redrawn wr d) os).cell? ⟨tb', off + k * 8 + 3, none⟩ = some (.slice xa l.length xc) := fun d os => cell_regrown d3 d os
          have x4 : ∀ d os, (Go.Sort.grow (redrawn wr d) os).cell? ⟨tb', off + k * 8 + 4, none⟩ = some (.bool t.self) := fun d os => cell_regrown d4 d os
          have x5 : ∀ d os, (Go.Sort.grow (redrawn wr d) os).cell? ⟨tb', off + k * 8 + 5, none⟩ = some (.int .i64 0) := fun d os => cell_regrown d5 d os
          have x6 : ∀ d os, (Go.Sort.grow (redrawn wr d) os).cell? ⟨tb', off + k * 8 + 6, none⟩ = some (.int .i64 0) := fun d os => cell_regrown d6 d os
          have x7 : ∀ d os, (Go.Sort.grow (redrawn wr d) os).cell? ⟨tb', off + k * 8 + 7, none⟩ = some (.int .i64 0) := fun d os => cell_regrown d7 d os
          have y0 : ∀ d os, (Go.Sort.grow (redrawn wr d) os).cell? ⟨tb2, off' + k * 8, none⟩ = some (.int .i64 t.kind) := fun d os => cell_regrown e0 d os
          have y1 : ∀ d os, (Go.Sort.grow (redrawn wr d) os).cell? ⟨tb2, off' + k * 8 + 1, none⟩ = some (.string t.name) := fun d os => cell_regrown e1 d os
          have y2 : ∀ d os, (Go.Sort.grow (redrawn wr d) os).cell? ⟨tb2, off' + k * 8 + 2, none⟩ = some (.string t.text) := fun d os => cell_regrown e2 d os
          have y3 : ∀ d os, (Go.Sort.grow (redrawn wr d) os).cell? ⟨tb2, off' + k * 8 + 3, none⟩ = some (.slice xa' l.length xc') := fun d os => cell_regrown e3 d os
          have y4 : ∀ d os, (Go.Sort.grow (redrawn wr d) os).cell? ⟨tb2, off' + k * 8 + 4, none⟩ = some (.bool t.self) := fun d os => cell_regrown e4 d os
          have y5 : ∀ d os, (Go.Sort.grow (redrawn wr d) os).cell? ⟨tb2, off' + k * 8 + 5, none⟩ = some (.int .i64 t.p0) := fun d os => cell_regrown e5 d os
          have y6 : ∀ d os, (Go.Sort.grow (redrawn wr d) os).cell? ⟨tb2, off' + k * 8 + 6, none⟩ = some (.int .i64 t.p1) := fun d os => cell_regrown e6 d os
          have y7 : ∀ d os, (Go.Sort.grow (redrawn wr d) os).cell? ⟨tb2, off' + k * 8 + 7, none⟩ = some (.int .i64 t.p2) := fun d os => cell_regrown e7 d os
          have q : ∀ d os, Calls Tryd.prog 12 #[.agg #[.int .i64 t.kind, .string t.name, .string t.text, .slice xa l.length xc, .bool t.self, .int .i64 0, .int .i64 0, .int .i64 0], .agg #[.int .i64 t.kind, .string t.name, .string t.text, .slice xa' l.length xc', .bool t.self, .int .i64 t.p0, .int .i64 t.p1, .int .i64 t.p2]] (Go.Sort.grow (redrawn wr d) os) fun e w'' => e = .returned (.bool true) ∧ ∃ p : Regrown, w'' = Go.Sort.grow (redrawn wr p.d) p.os := fun d os => Calls.regrown_of (EC.out _ (D d os))
          have mixed : Tryd.prog.follows .mixedOrders = true := by kernel_rfl
          clear hA hA' hbt
          go_wp2_with fail
          refine wp_region_quiet_below mixed (by kernel_rfl) ?_
          repeat (go_big_quiet_step (with_reducible exact q _ _))
          refine wpQuiet_nil ?_
          intro _ hw'
          obtain ⟨⟨dq, osq⟩, hw''⟩ := hw'
          have hb2 : Below wr.heap.size wr (Go.Sort.grow (redrawn wr dq) osq) := D dq osq
          rw [← hw''] at hb2
          clear hw'' q D mixed x0 x1 x2 x3 x4 x5 x6 x7 y0 y1 y2 y3 y4 y5 y6 y7 d0 d1 d2 d3 d4 d5 d6 d7 e0 e1 e2 e3 e4 e5 e6 e7
          have HBk : Hid (Below w3.heap.size w3 _) := hB.out.trans (hb2.mono hzr)
          clear hb2
          go_wp2
          all_goals first
            | exact ⟨⟨k + 1, by omega, by go_num, HBk⟩, by simp [intOf]; omega⟩
            | (go_roundw
               case rel => exact ⟨k + 1, by omega, by go_num, HBk⟩
               case measure => simp [intOf]; omega)
            | trace_state
        · obtain rfl : k = R.length := by omega
          have HB1k : Hid (Below W1.heap.size W1 wr) := HB13.out.trans (hB.out.mono HB13.out.size)
          have HBwk : Hid (Below w.heap.size w wr) := HB1.out.trans (HB1k.out.mono HB1.out.size)
          have hbm : bulkL (refM L) ≤ 1048576 := Nat.le_trans (bulk_refM L) hbk
          clear HKT HRT3 HPC HLC HPP HRT
          go_wp2_with fail
          refine (merge_calls L _ wr (HS.out.below HBwk.out) hbk).mono ?_
          rintro e w4 ⟨mv, rfl, ho4, hb4⟩
          have HO4 : Hid (OwnT wr.heap.size w4 mv (refM L)) := ho4
          obtain ⟨ma, mc, rfl⟩ := ho4.slice
          have HB14 : Hid (Below W1.heap.size W1 w4) := HB1k.out.trans (hb4.mono HB1k.out.size)
          clear ho4 hb4
          go_wp2_with fail
          refine (merge_calls (refM L) _ w4 HO4.out.has hbm).mono ?_
          rintro e w5 ⟨nv, rfl, ho5, hb5⟩
          rw [refM_again] at ho5
          have HO5 : Hid (OwnT w4.heap.size w5 nv (refM L)) := ho5
          obtain ⟨na, nc, rfl⟩ := ho5.slice
          have HM5 : Hid (HasT w5 (.slice ma (refM L).length mc) (refM L)) := HO4.out.has.below hb5
          have HB15 : Hid (Below W1.heap.size W1 w5) := HB14.out.trans (hb5.mono HB14.out.size)
          clear ho5 hb5
          go_wp2_with fail
          refine (samel_calls (refM L) _ _ w5 _ HO5.out.has HM5.out hbm).mono ?_
          rintro e w6 ⟨rfl, hb6⟩
          have HB16 : Hid (Below W1.heap.size W1 w6) := HB15.out.trans (hb6.mono HB15.out.size)
          have HBw6 : Hid (Below w.heap.size w w6) := HB1.out.trans (HB16.out.mono HB1.out.size)
          clear hb6 HO4 HO5 HM5
          have hta := (HB16.out.block w.heap.size (by omega)).trans HTA.out
          have z0 : w6.cell? ⟨w.heap.size, 0, none⟩ = some (.int .i64 ta.kind) := cell_at hta
          have z1 : w6.cell? ⟨w.heap.size, 1, none⟩ = some (.string ta.name) := cell_at hta
          have z2 : w6.cell? ⟨w.heap.size, 2, none⟩ = some (.string ta.text) := cell_at hta
          have z3 : w6.cell? ⟨w.heap.size, 3, none⟩ = some (.slice aa la.length ac) := cell_at hta
          have z4 : w6.cell? ⟨w.heap.size, 4, none⟩ = some (.bool ta.self) := cell_at hta
          have z5 : w6.cell? ⟨w.heap.size, 5, none⟩ = some (.int .i64 ta.p0) := cell_at hta
          have z6 : w6.cell? ⟨w.heap.size, 6, none⟩ = some (.int .i64 ta.p1) := cell_at hta
          have z7 : w6.cell? ⟨w.heap.size, 7, none⟩ = some (.int .i64 ta.p2) := cell_at hta
          clear hta
          obtain ⟨PX, hPX⟩ : ∃ PX : ByteArray, (⟨(printB ta la).toArray⟩ : ByteArray) = PX := ⟨_, rfl⟩
          obtain ⟨PY, hPY⟩ : ∃ PY : ByteArray, (⟨(printB tb lb).toArray⟩ : ByteArray) = PY := ⟨_, rfl⟩
          obtain ⟨ca, hca⟩ : ∃ c, checkB ta la = c := ⟨_, rfl⟩
          obtain ⟨cb, hcb⟩ : ∃ c, checkB tb lb = c := ⟨_, rfl⟩
          obtain ⟨eq, heq⟩ : ∃ e, eqTok ta la tb lb = e := ⟨_, rfl⟩
          have HXY : Hid (ca = true → cb = true → (PX.toList == PY.toList) = eq) := fun h1 h2 => by
            have h := line_eq ta la tb lb (hca.trans h1) (hcb.trans h2)
            rw [heq] at h
            rw [← h, ← hPX, ← hPY, Lib.toList_data, Lib.toList_data]
            unfold printB
            rw [hca, hcb, h1, h2]
            rw [Bool.eq_iff_iff]; simp
          rw [hPX, hca] at HPA
          rw [hPY, hcb] at HPB
          rw [heq] at HEQ
          clear hPX hPY hca hcb heq
          go_wp2_with fail
          refine (HPA.out w6 HBw6.out).mono ?_
          rintro e w7 ⟨rfl, hb7⟩
          have HB17 : Hid (Below W1.heap.size W1 w7) := HB16.out.trans (hb7.mono HB16.out.size)
          have HBw7 : Hid (Below w.heap.size w w7) := HB1.out.trans (HB17.out.mono HB1.out.size)
          clear hb7 z0 z1 z2 z3 z4 z5 z6 z7
          have htb := (HB17.out.block (w.heap.size + 1) (by omega)).trans HTB.out
          have z0 : w7.cell? ⟨w.heap.size + 1, 0, none⟩ = some (.int .i64 tb.kind) := cell_at htb
          have z1 : w7.cell? ⟨w.heap.size + 1, 1, none⟩ = some (.string tb.name) := cell_at htb
          have z2 : w7.cell? ⟨w.heap.size + 1, 2, none⟩ = some (.string tb.text) := cell_at htb
          have z3 : w7.cell? ⟨w.heap.size + 1, 3, none⟩ = some (.slice ba lb.length bc) := cell_at htb
          have z4 : w7.cell? ⟨w.heap.size + 1, 4, none⟩ = some (.bool tb.self) := cell_at htb
          have z5 : w7.cell? ⟨w.heap.size + 1, 5, none⟩ = some (.int .i64 tb.p0) := cell_at htb
          have z6 : w7.cell? ⟨w.heap.size + 1, 6, none⟩ = some (.int .i64 tb.p1) := cell_at htb
          have z7 : w7.cell? ⟨w.heap.size + 1, 7, none⟩ = some (.int .i64 tb.p2) := cell_at htb
          clear htb
          go_wp2_with fail
          refine (HPB.out w7 HBw7.out).mono ?_
          rintro e w8 ⟨rfl, hb8⟩
          have HB18 : Hid (Below W1.heap.size W1 w8) := HB17.out.trans (hb8.mono HB17.out.size)
          have HBw8 : Hid (Below w.heap.size w w8) := HB1.out.trans (HB18.out.mono HB1.out.size)
          clear hb8 z0 z1 z2 z3 z4 z5 z6 z7
          have hta := (HB18.out.block w.heap.size (by omega)).trans HTA.out
          have htb := (HB18.out.block (w.heap.size + 1) (by omega)).trans HTB.out
          have z0 : w8.cell? ⟨w.heap.size, 0, none⟩ = some (.int .i64 ta.kind) := cell_at hta
          have z1 : w8.cell? ⟨w.heap.size, 1, none⟩ = some (.string ta.name) := cell_at hta
          have z2 : w8.cell? ⟨w.heap.size, 2, none⟩ = some (.string ta.text) := cell_at hta
          have z3 : w8.cell? ⟨w.heap.size, 3, none⟩ = some (.slice aa la.length ac) := cell_at hta
          have z4 : w8.cell? ⟨w.heap.size, 4, none⟩ = some (.bool ta.self) := cell_at hta
          have z5 : w8.cell? ⟨w.heap.size, 5, none⟩ = some (.int .i64 ta.p0) := cell_at hta
          have z6 : w8.cell? ⟨w.heap.size, 6, none⟩ = some (.int .i64 ta.p1) := cell_at hta
          have z7 : w8.cell? ⟨w.heap.size, 7, none⟩ = some (.int .i64 ta.p2) := cell_at hta
          have y0 : w8.cell? ⟨w.heap.size + 1, 0, none⟩ = some (.int .i64 tb.kind) := cell_at htb
          have y1 : w8.cell? ⟨w.heap.size + 1, 1, none⟩ = some (.string tb.name) := cell_at htb
          have y2 : w8.cell? ⟨w.heap.size + 1, 2, none⟩ = some (.string tb.text) := cell_at htb
          have y3 : w8.cell? ⟨w.heap.size + 1, 3, none⟩ = some (.slice ba lb.length bc) := cell_at htb
          have y4 : w8.cell? ⟨w.heap.size + 1, 4, none⟩ = some (.bool tb.self) := cell_at htb
          have y5 : w8.cell? ⟨w.heap.size + 1, 5, none⟩ = some (.int .i64 tb.p0) := cell_at htb
          have y6 : w8.cell? ⟨w.heap.size + 1, 6, none⟩ = some (.int .i64 tb.p1) := cell_at htb
          have y7 : w8.cell? ⟨w.heap.size + 1, 7, none⟩ = some (.int .i64 tb.p2) := cell_at htb
          clear hta htb
          have hee : (eq == eq) = true := by simp
          cases ca with
          | false =>
            rw [show okZ false = 70 from rfl]
            go_wp2_with fail
            refine (lives_calls w8 (HW.out.below HBw8.out)).mono ?_
            rintro e w10 ⟨rfl, hb10⟩
            have HB10 : Hid (Below w.heap.size w w10) := HBw8.out.trans (hb10.mono HBw8.out.size)
            clear hb10
            go_wp2
            all_goals go_ret
            all_goals exact ⟨rfl, HB10.out⟩
          | true =>
            cases cb with
            | false =>
              rw [show okZ false = 70 from rfl, show okZ true = 0 from rfl]
              go_wp2_with fail
              refine (lives_calls w8 (HW.out.below HBw8.out)).mono ?_
              rintro e w10 ⟨rfl, hb10⟩
              have HB10 : Hid (Below w.heap.size w w10) := HBw8.out.trans (hb10.mono HBw8.out.size)
              clear hb10
              go_wp2
              all_goals go_ret
              all_goals exact ⟨rfl, HB10.out⟩
            | true =>
              have hxy := HXY.out rfl rfl
              rw [show okZ true = 0 from rfl]
              go_wp2_with fail
              refine (HEQ.out w8 HBw8.out).mono ?_
              rintro e w9 ⟨rfl, hb9⟩
              have HBw9 : Hid (Below w.heap.size w w9) := HBw8.out.trans (hb9.mono HBw8.out.size)
              clear hb9
              go_wp2_with fail
              refine (lives_calls w9 (HW.out.below HBw9.out)).mono ?_
              rintro e w10 ⟨rfl, hb10⟩
              have HB10 : Hid (Below w.heap.size w w10) := HBw9.out.trans (hb10.mono HBw9.out.size)
              clear hb10
              go_wp2
              all_goals go_ret
              all_goals exact ⟨rfl, HB10.out⟩

set_option maxRecDepth 100000 in
theorem contract (H : Type) (enc : TypeId × Value → H) (W : World) (base : Nat) (args : Array Value) (ds gs : List (DataW H)) (before : List MemPlace)
    (hval : ∀ (j : Nat) t v, Tryd.f8.params[j]? = some t → args[j]? = some v → Value.okWide Tryd.prog W .any base t v)
    (hW : DataW.Whole enc Tryd.prog Tryd.f8.params.toList Rows.tokenBackSpec.vars false W args.toList ds gs before) (hL : laidMetH Tryd.prog Rows.tokenBackUptoRow.laid W)(hsh : W.ShapedOpen Tryd.prog) (hk : Rows.uptoSmall H (ds ++ gs) = true) :
    Calls Tryd.prog 8 args W fun e W' => ∃ v, e = .returned v ∧ Rows.tokenBackSpec.post enc Tryd.prog Tryd.f8 false true false false W args v W' := by
  have hW' := hW
  have hlt := hW.lt
  obtain ⟨p, q, hA0, hV, rfl, hfz, hnd⟩ := hW
  have hA : DataW.TrodAll enc Tryd.prog W 0 (fun _ => true) true Tryd.f8.params.toList args.toList ds p := hA0
  rw [Tryd.params8] at hA hval
  obtain ⟨v0, vs0, d0, ds0, p0, q0, hargs, rfl, rfl, h0, r0⟩ := trodAll_cons hA
  obtain ⟨v1, vs1, d1, ds1, p1, q1, rfl, rfl, rfl, h1, r1⟩ := trodAll_cons r0
  obtain ⟨v2, vs2, d2, ds2, p2, q2, rfl, rfl, rfl, h2, r2⟩ := trodAll_cons r1
  obtain ⟨rfl, rfl, rfl⟩ := trodAll_nil r2
  obtain rfl : args = #[v0, v1, v2] := by cases args; simp_all
  obtain ⟨rfl, rfl⟩ := trodVars_none hV
  clear hA0
  simp only [List.append_nil] at hW' hlt hk
  have hbulk := of_decide_eq_true hk
  simp only [Rows.uptoBulkAll] at hbulk
  have e0 := okWide_slice Tryd.underlying38 (hval 0 38 v0 rfl rfl)
  obtain ⟨L0, hL0, l0⟩ := T.toks_of_read e0 h0
  obtain ⟨t1, L1, a1, rfl, ha1, l1⟩ := T.tok_of_read (hval 1 28 v1 rfl rfl) h1
  obtain ⟨t2, L2, a2, rfl, ha2, l2⟩ := T.tok_of_read (hval 2 28 v2 rfl rfl) h2
  refine (walk W (tabs_of_laid hL) (Tryd.laysM145.s1_3 W hsh) v0 L0 hL0 (by omega) t1 L1 a1 ha1 (by omega) t2 L2 a2 ha2 (by omega)).mono fun e W' ⟨he, hb⟩ => ?_
  subst he
  exact ⟨_, rfl, post_below hW' (fun _ _ _ => trodAll_cons_mk (shut_bool Tryd.underlying4 _) trodAll_mk0) (trodAll_cons_mk (stays (by kernel_rfl) (of_decide_eq_true (by kernel_rfl)) h0 hb (fun x hx => hlt x (by simp [hx]))) (trodAll_cons_mk (stays (by kernel_rfl) (of_decide_eq_true (by kernel_rfl)) h1 hb (fun x hx => hlt x (by simp [hx]))) (trodAll_cons_mk (stays (by kernel_rfl) (of_decide_eq_true (by kernel_rfl)) h2 hb (fun x hx => hlt x (by simp [hx]))) trodAll_mk0))) rfl hb⟩

set_option maxRecDepth 100000 in
theorem laid_met (os : Os) : laidMet Tryd.prog Rows.tokenBackUptoRow.laid ((withTabs (World.holding Tryd.prog os ⟨#[], #[], []⟩)).forCall (fun _ _ => 0) ⟨#[], #[Value.slice none 0 0, Value.agg #[.int .i64 0, .string ⟨#[]⟩, .string ⟨#[]⟩, .slice none 0 0, .bool false, .int .i64 0, .int .i64 0, .int .i64 0], Value.agg #[.int .i64 0, .string ⟨#[]⟩, .string ⟨#[]⟩, .slice none 0 0, .bool false, .int .i64 0, .int .i64 0, .int .i64 0]], []⟩).memory :=
  laidMet_of_run' 8 (by kernel_rfl) (by kernel_rfl)
set_option maxRecDepth 100000 in
theorem reads (os : Os) {H : Type} (enc : TypeId × Value → H) : ∃ places, DataW.whole enc Tryd.prog ((withTabs (World.holding Tryd.prog os ⟨#[], #[], []⟩)).forCall (fun _ _ => 0) ⟨#[], #[Value.slice none 0 0, Value.agg #[.int .i64 0, .string ⟨#[]⟩, .string ⟨#[]⟩, .slice none 0 0, .bool false, .int .i64 0, .int .i64 0, .int .i64 0], Value.agg #[.int .i64 0, .string ⟨#[]⟩, .string ⟨#[]⟩, .slice none 0 0, .bool false, .int .i64 0, .int .i64 0, .int .i64 0]], []⟩).memory Tryd.f8.params.toList Rows.tokenBackSpec.vars false #[Value.slice none 0 0, Value.agg #[.int .i64 0, .string ⟨#[]⟩, .string ⟨#[]⟩, .slice none 0 0, .bool false, .int .i64 0, .int .i64 0, .int .i64 0], Value.agg #[.int .i64 0, .string ⟨#[]⟩, .string ⟨#[]⟩, .slice none 0 0, .bool false, .int .i64 0, .int .i64 0, .int .i64 0]].toList 8 = some ([.nil, .agg [.lit (.int .i64 0), .lit (.string []), .lit (.string []), .nil, .lit (.bool false), .agg [.lit (.int .i64 0), .lit (.int .i64 0), .lit (.int .i64 0)]], .agg [.lit (.int .i64 0), .lit (.string []), .lit (.string []), .nil, .lit (.bool false), .agg [.lit (.int .i64 0), .lit (.int .i64 0), .lit (.int .i64 0)]]], [], places) :=
  ⟨[], by kernel_rfl⟩

set_option maxRecDepth 100000 in
theorem lifted (os : Os) (started : os.Started) (H : Type) (enc : TypeId × Value → H) (F : Stop.Interp) :
    ReturnsInHanded {} Tryd.checked os 8 .any ((Rows.OpenSpec.upto Rows.tokenBackSpec).preRow enc Tryd.prog Tryd.f8 Rows.tokenBackUptoRow.domain false Rows.tokenBackUptoRow.laid) (((Rows.OpenSpec.upto Rows.tokenBackSpec).at F).post enc Tryd.prog Tryd.f8 false true false false) := by
  obtain ⟨places, hx⟩ := reads os enc
  refine returnsInHanded_of_row (C := Tryd.checked) (s := Rows.OpenSpec.upto Rows.tokenBackSpec) own started (by kernel_rfl) Tryd.func8
    (witness_row_at (enc := enc) (C := Tryd.checked) false (withTabs (World.holding Tryd.prog os ⟨#[], #[], []⟩)) #[Value.slice none 0 0, Value.agg #[.int .i64 0, .string ⟨#[]⟩, .string ⟨#[]⟩, .slice none 0 0, .bool false, .int .i64 0, .int .i64 0, .int .i64 0], Value.agg #[.int .i64 0, .string ⟨#[]⟩, .string ⟨#[]⟩, .slice none 0 0, .bool false, .int .i64 0, .int .i64 0, .int .i64 0]] rfl (by kernel_rfl) (by kernel_rfl) (by kernel_rfl)
      (OpenSpec.preRow_of_cond 8 hx (by kernel_rfl) (fun k hk => by cases hk; kernel_rfl) (by kernel_rfl) (laid_met os))) ?_
  intro W base args ds gs before hval hW _ hcond _ hL hsh _
  exact contract H enc W base args ds gs before hval hW hL hsh (hcond _ rfl)

set_option maxRecDepth 100000 in
theorem said : Rows.TokenBackUptoSaid :=
  OpenClaim.holds_of_cond 8 Tryd.f8 rfl rfl rfl rfl rfl rfl rfl ⟨rfl, rfl, rfl, rfl, rfl⟩ rfl rfl rfl rfl rfl (by kernel_rfl) Tryd.func8 (by kernel_rfl)
    (of_decide_eq_true (by kernel_rfl)) (by unfold Func.isWrapper; first | (rw [if_pos (by decide +kernel)]; kernel_rfl) | (rw [if_neg (by decide +kernel)]; exact ⟨rfl, rfl⟩))
    (fun os started H enc _ F => by rw [OpenClaim.pre_eq_preRow]; exact lifted os started H enc F)

theorem plain (f : FuncId) (fn : Func) (hf : Tryd.pinned.checked.prog.funcNamed "sieve/sievelaw07.TokenBack" = some f) (hfn : Tryd.pinned.checked.prog.funcs[f]? = some fn) :
    false = Tryd.pinned.checked.prog.looks [] ∧ ∀ (j : Nat) t, fn.params[j]? = some t → Tryd.pinned.checked.prog.wantsStandIn t = false := by
  obtain rfl : f = 8 := Option.some.inj ((show Tryd.prog.funcNamed "sieve/sievelaw07.TokenBack" = some 8 by kernel_rfl).symm.trans hf) |>.symm
  obtain rfl : fn = Tryd.f8 := (Option.some.inj (Tryd.func8.symm.trans hfn)).symm
  refine ⟨by kernel_rfl, fun j t ht => ?_⟩
  rw [Tryd.params8] at ht
  have hm := Array.mem_of_getElem? ht
  simp only [List.mem_toArray, List.mem_cons, List.not_mem_nil, or_false] at hm
  rcases hm with rfl | rfl | rfl
  · exact (show Tryd.prog.wantsStandIn 38 = false by kernel_rfl)
  · exact (show Tryd.prog.wantsStandIn 28 = false by kernel_rfl)
  · exact (show Tryd.prog.wantsStandIn 28 = false by kernel_rfl)

theorem card : Rows.TokenBackUptoCardSaid :=
  Claim7.holds_tied_plain_at .later [] _ _ _ _ said (fun _ h => by cases h) (by kernel_rfl) (fun _ h => by cases h) tokenBackUpto_row_tie rfl ⟨rfl, rfl⟩ (by kernel_rfl) rfl plain (by kernel_rfl)

end Go.Proofs.YtelfejbhlolppaaDoor.TBack
