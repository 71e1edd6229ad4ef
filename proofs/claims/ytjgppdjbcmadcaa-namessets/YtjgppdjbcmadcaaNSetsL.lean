/- What is proved here: the statement NamesSets (every name in every set, the lists, one by one, left anywhere) holds for any name, any numbers, with no condition. -/
import Derived.RangeFuncNested
import Derived.RangeFuncBound
import Derived.RangeFuncCalls
import Derived.Test.YtjgppdjbcmadcaaNFrame
import Derived.Test.YtjgppdjbcmadcaaNRKnown
import Derived.Test.YtjgppdjbcmadcaaNAllI
namespace Go.Proofs.Ytjgppdjbcmadcaa.NSetsL
open Go.ChangeShapes Go.WideShapes Go.ChangeAt Go.RowKit Go.Shelf N C
attribute [local go_sem] Oper.semAt_some

theorem some_checked : ((List.range 16).all fun k => decide (0 < (SW k).length ∧ (SW k).length ≤ 1000)) = true := by decide +kernel
theorem list_some (z : Int) (h : 0 ≤ z ∧ z < 16) : 0 < (fields (txtZ z).data.toList).length ∧ (fields (txtZ z).data.toList).length ≤ 1000 := by
  have h1 := of_decide_eq_true (List.all_eq_true.1 some_checked z.toNat (List.mem_range.2 (by omega)))
  unfold txtZ
  rw [if_pos h]
  exact h1
theorem list_none (z : Int) (h : ¬ (0 ≤ z ∧ z < 16)) : fields (txtZ z).data.toList = [] := by
  unfold txtZ
  rw [if_neg h, show (⟨#[]⟩ : ByteArray).data.toList = [] from rfl]
  simp [fields, fieldsFrom]

theorem grown_trans {a b c : World} {row : Option Nat} (h : a.grownBy b row) (k : b.grownBy c row) : a.grownBy c row :=
  ⟨k.os.trans h.os, k.tape.trans h.tape, k.output.trans h.output, Nat.le_trans h.size k.size, fun j hj hr => (k.block j (Nat.lt_of_lt_of_le hj h.size) hr).trans (h.block j hj hr)⟩
theorem same_ff (F : List (List UInt8)) (v v' : Value) (w : World) (hn : (F.length : Int) ≤ 1000000000000) (h : HasT w v F) (h' : HasT w v' F) : Calls Try.prog 8 #[v, v'] w fun e w' => e = .returned (.bool true) ∧ Below w.heap.size w w' := by
  have h1 := same_calls F F v v' w hn hn h h'
  rw [decide_eq_true rfl] at h1
  exact h1

/-- A round keeps every block of cells but one. -/
def KpN (NB : Nat) (A B : World) : Prop := ∀ k o, A.heap[k]? = some o → o.isCells = true → k ≠ NB → B.heap[k]? = some o
theorem KpN.refl (NB : Nat) (A : World) : KpN NB A A := fun _ _ h _ _ => h
theorem KpN.trans {NB : Nat} {A B C : World} (h : KpN NB A B) (k : KpN NB B C) : KpN NB A C := fun j o hj hc hn => k j o (h j o hj hc hn) hc hn
theorem KpN.book {NB n₀ : Nat} (W : World) (l : Nat) (o o' : Obj) (_ : n₀ ≤ l) (h : W.heap[l]? = some o) (hc : o.isCells = false) (_ : o.isWalk = false) : KpN NB W (W.putObj l o') := fun k ok hk hkc _ => by
  have : k ≠ l := by rintro rfl; rw [hk] at h; cases h; rw [hkc] at hc; cases hc
  rw [World.putObj_heap_other this]; exact hk
theorem KpN.set (W : World) (NB : Nat) (v : Value) : KpN NB W (W.setCell ⟨NB, 0, none⟩ v) := fun k _ hk _ hn => (Below.heap_setCell _ _ _ k hn).trans hk
theorem KpN.of_below {NB : Nat} {A B : World} (h : Below A.heap.size A B) : KpN NB A B := fun k _ hk _ _ => (h.block k (lt_of_block hk)).trans hk
theorem block_of_cell {W : World} {p : Addr} {v : Value} (h : W.cell? p = some v) : ∃ o, W.heap[p.block]? = some o ∧ o.isCells = true := by
  unfold World.cell? at h
  split at h
  · rename_i c e f hb; exact ⟨_, hb, rfl⟩
  · cases h
theorem KpN.cell {NB : Nat} {A B : World} (h : KpN NB A B) {p : Addr} {v : Value} (hc : A.cell? p = some v) (hn : p.block ≠ NB) : B.cell? p = some v := by
  obtain ⟨o, ho, hi⟩ := block_of_cell hc
  rw [World.cell?_of_block (w := A) ((h _ o ho hi hn).trans ho.symm)]; exact hc
theorem KpN.frozen {NB : Nat} {A B : World} (h : KpN NB A B) {p : Addr} {v : Value} (hc : A.cell? p = some v) (hf : A.frozen? p = false) (hn : p.block ≠ NB) : B.frozen? p = false := by
  obtain ⟨o, ho, hi⟩ := block_of_cell hc
  have e := (h _ o ho hi hn).trans ho.symm
  unfold World.frozen? at hf ⊢
  rw [e]; exact hf
theorem KpN.own {β : Type} (NB B : Nat) (w₀ : World) : OwnFrom B (fun (_ : β) W => KpN NB w₀ W) := fun _ W W' row hs hg hr k o hk hc hn => by
  have h1 := hs k o hk hc hn
  refine (hg.block k (lt_of_block h1) (fun e => ?_)).trans h1
  obtain ⟨_, o', ho', hi⟩ := hr k e.symm
  rw [h1] at ho'; cases ho'; rw [hc] at hi; cases hi
theorem prefix_on {α : Type} {pre T : List α} {x : α} (h : pre <+: T) (hx : T[pre.length]? = some x) : pre ++ [x] <+: T := by
  obtain ⟨r, rfl⟩ := h
  cases r with
  | nil => simp at hx
  | cons y r => simp at hx; subst hx; exact ⟨r, by simp⟩
theorem prefix_not {α : Type} {pre T : List α} {x : α} (hx : T[pre.length]? ≠ some x) : ¬ (pre ++ [x] <+: T) := by
  rintro ⟨r, rfl⟩
  exact hx (by simp)
theorem numTo_get (L : List (List UInt8)) (j : Nat) (h : j < L.length) : (numTo L L.length)[j]? = some (j, L[j]) := by simp [numTo, h, List.getD]
theorem numTo_none (L : List (List UInt8)) (j : Nat) (h : L.length ≤ j) (x : Nat × List UInt8) : (numTo L L.length)[j]? ≠ some x := by simp [numTo, h]

set_option maxRecDepth 100000 in
set_option maxHeartbeats 8000000 in
theorem walk (w : World) (hm : MaxOk w) (s : ByteArray) (hs : s.size ≤ 9223372036854775807) (z : Int) (_wz : (Lit.int .i64 z).wf = true) (x : Int) (_wx : (Lit.int .i64 x).wf = true) :
    Calls Try.prog 3 #[.string s, .int .i64 z, .int .i64 x] w fun e w' => e = .returned (.bool true) ∧ Below w.heap.size w w' := by
  have HM : Hid (MaxOk w) := hm
  clear hm
  refine (callsIn_wide (n := 5)).1 ?_
  refine callsIn_of_wp_marks Try.func3 rfl trivial ?_ rfl
  simp only [Try.ntmps3, List.size_toArray, List.length_cons, List.length_nil, Nat.reduceAdd, Nat.reduceSub, Array.replicate_succ, Array.replicate_zero, List.push_toArray, List.append_toArray, List.nil_append, List.cons_append]
  gi_wp2_with fail
  obtain ⟨W0, hW0⟩ : ∃ W0, (w.alloc (.cells #[.int .i64 x] 3)).alloc (.cells #[.bool false] 4) = W0 := ⟨_, rfl⟩
  have b0 : Below w.heap.size w W0 := by rw [← hW0]; exact ((Below.refl _ w).alloc (Nat.le_refl _) _).alloc (by simp) _
  have z0 : W0.heap.size = w.heap.size + 2 := by rw [← hW0]; simp
  have cS : W0.cell? ⟨w.heap.size, 0, none⟩ = some (.int .i64 x) := by rw [← hW0]; simp
  have cR : W0.cell? ⟨w.heap.size + 1, 0, none⟩ = some (.bool false) := by rw [← hW0]; simp
  have fR : W0.frozen? ⟨w.heap.size + 1, 0, none⟩ = false := by rw [← hW0]; simp
  rw [hW0]
  clear hW0
  obtain ⟨F, hF⟩ : ∃ F, fields (txtZ z).data.toList = F := ⟨_, rfl⟩
  have HLC : Hid (∀ w, Calls Try.prog 4 #[.int .i64 z] w fun e w' => ∃ v c, e = .returned (.tuple #[v, .int .i64 c]) ∧ OwnT w.heap.size w' v F ∧ (c = if F.length = 0 then 41 else 0) ∧ Below w.heap.size w w') := by rw [← hF]; exact list_calls z
  have HRL : Hid (∀ w, Calls Try.prog 7 #[.int .i64 z] w fun e w' => ∃ v, e = .returned v ∧ OwnT w.heap.size w' v F ∧ Below w.heap.size w w') := by rw [← hF]; exact rlist_calls z
  have HAL : Hid (∀ w, Calls Try.prog 9 #[.int .i64 z] w fun e w' => ∃ B v, e = .returned (.func (.func 25) #[] #[.pointer (some ⟨B, 0, none⟩)]) ∧ w'.cell? ⟨B, 0, none⟩ = some v ∧ w.heap.size ≤ B ∧ OwnT w.heap.size w' v F ∧ Below w.heap.size w w') := by rw [← hF]; exact nall_calls z
  have HIN : Hid (0 ≤ z ∧ z < 16 → 0 < F.length) := by rw [← hF]; exact fun h => (list_some z h).1
  have HNO : Hid (¬ (0 ≤ z ∧ z < 16) → F = []) := by rw [← hF]; exact list_none z
  have hFl : F.length ≤ 1000 := by
    by_cases h : 0 ≤ z ∧ z < 16
    · rw [← hF]; exact (list_some z h).2
    · rw [HNO.out h]; simp
  clear hF
  refine ⟨trivial, (callsIn_wide.2 (HLC.out W0)).mono ?_⟩
  rintro e W1 ⟨v1, c1, rfl, hO1, hc1, hB1⟩
  have HC1 : Hid (c1 = if F.length = 0 then 41 else 0) := hc1
  clear hc1
  obtain ⟨a1, k1, rfl⟩ := owns_slice hO1
  gi_wp2_with fail
  refine ⟨trivial, (callsIn_wide.2 (HLC.out W1)).mono ?_⟩
  rintro e W2 ⟨v2, c2, rfl, hO2, hc2, hB2⟩
  have HC2 : Hid (c2 = if F.length = 0 then 41 else 0) := hc2
  clear hc2
  obtain ⟨a2, k2, rfl⟩ := owns_slice hO2
  gi_wp2_with fail
  refine ⟨trivial, (callsIn_wide.2 (in_calls s z W2 hs (HM.out.below ((b0.trans (hB1.mono b0.size)).trans (hB2.mono (Nat.le_trans b0.size hB1.size)))))).mono ?_⟩
  rintro e W2' ⟨rfl, hx2⟩
  have hx2' := hx2.symm
  subst hx2'
  clear hx2
  gi_wp2_with fail
  refine ⟨trivial, (callsIn_wide.2 (rin_calls s z W2)).mono ?_⟩
  rintro e W3 ⟨rfl, hB3⟩
  generalize inZ z s.data.toList = bi at *
  have s0 := b0.size
  have s1 := hB1.size
  have s2 := hB2.size
  have s3 := hB3.size
  have b3 : Below w.heap.size w W3 := ((b0.trans (hB1.mono s0)).trans (hB2.mono (by omega))).trans (hB3.mono (by omega))
  have b03 : Below W0.heap.size W0 W3 := (hB1.trans (hB2.mono s1)).trans (hB3.mono (by omega))
  have O1 : OwnT W0.heap.size W3 (.slice a1 F.length k1) F := owns_below (owns_below hO1 hB2) hB3
  have O2 : OwnT W1.heap.size W3 (.slice a2 F.length k2) F := owns_below hO2 hB3
  have l1 : ∀ k, (Value.slice a1 F.length k1).ownBlock = some k → W0.heap.size ≤ k ∧ k < W1.heap.size := hO1.lt
  have cS3 := (b03.cell (p := ⟨w.heap.size, 0, none⟩) (by show w.heap.size < _; omega)).trans cS
  have cR3 := (b03.cell (p := ⟨w.heap.size + 1, 0, none⟩) (by show w.heap.size + 1 < _; omega)).trans cR
  have fR3 := (b03.frozen (p := ⟨w.heap.size + 1, 0, none⟩) (by show w.heap.size + 1 < _; omega)).trans fR
  clear hO1 hO2 hB1 hB2 hB3 cS cR fR b0 b03
  have HO1 : Hid (OwnT W0.heap.size W3 (.slice a1 F.length k1) F) := O1
  have HO2 : Hid (OwnT W1.heap.size W3 (.slice a2 F.length k2) F) := O2
  have HL1 : Hid (∀ k, (Value.slice a1 F.length k1).ownBlock = some k → W0.heap.size ≤ k ∧ k < W1.heap.size) := l1
  clear O1 O2 l1
  by_cases hz : 0 ≤ z ∧ z < 16
  · have h0F := HIN.out hz
    obtain rfl : c1 = 0 := by rw [HC1.out, if_neg (by omega)]
    obtain rfl : c2 = 0 := by rw [HC2.out, if_neg (by omega)]
    obtain ⟨hz0, hz1⟩ := hz
    gi_wp2_with fail
    refine ⟨trivial, (callsIn_wide.2 (HRL.out _)).mono ?_⟩
    rintro e W4 ⟨v4, rfl, hO4, hB4⟩
    obtain ⟨a4, k4, rfl⟩ := owns_slice hO4
    have cW4 : W4.cell? ⟨W3.heap.size, 0, none⟩ = some (.slice none 0 0) := (hB4.cell (p := ⟨W3.heap.size, 0, none⟩) (by simp)).trans (by simp)
    have fW4 : W4.frozen? ⟨W3.heap.size, 0, none⟩ = false := (hB4.frozen (p := ⟨W3.heap.size, 0, none⟩) (by simp)).trans (by simp)
    gi_wp2_with fail
    have b4 : Below w.heap.size w W4 := (b3.alloc (by omega) _).trans (hB4.mono (by simp; omega))
    have b34 : Below W3.heap.size W3 W4 := ((Below.refl _ W3).alloc (Nat.le_refl _) _).trans (hB4.mono (by simp))
    have s4 : W3.heap.size < W4.heap.size := by have := hB4.size; simp at this; omega
    have hgw : W4.grownBy (W4.setCell ⟨W3.heap.size, 0, none⟩ (.slice a4 F.length k4)) (some W3.heap.size) := ⟨rfl, rfl, rfl, by simp [World.setCell], fun j _ hj => Below.heap_setCell _ _ _ j (fun e => hj (by rw [e]))⟩
    have O1' : OwnT W0.heap.size (W4.setCell ⟨W3.heap.size, 0, none⟩ (.slice a4 F.length k4)) (.slice a1 F.length k1) F := World.ownsRow.kept (owns_below HO1.out b34) hgw (.inr (fun e => by have := (HO1.out.lt _ e).2; omega))
    have O2' : OwnT W1.heap.size (W4.setCell ⟨W3.heap.size, 0, none⟩ (.slice a4 F.length k4)) (.slice a2 F.length k2) F := World.ownsRow.kept (owns_below HO2.out b34) hgw (.inr (fun e => by have := (HO2.out.lt _ e).2; omega))
    have OW' : OwnT (W3.heap.size + 1) (W4.setCell ⟨W3.heap.size, 0, none⟩ (.slice a4 F.length k4)) (.slice a4 F.length k4) F := World.ownsRow.kept (by have h := hO4; rw [World.size_alloc] at h; exact h) hgw (.inr (fun e => by have := (hO4.lt _ e).1; simp at this; omega))
    have cW' : (W4.setCell ⟨W3.heap.size, 0, none⟩ (.slice a4 F.length k4)).cell? ⟨W3.heap.size, 0, none⟩ = some (.slice a4 F.length k4) := cs_same cW4
    have bX' : Below w.heap.size w (W4.setCell ⟨W3.heap.size, 0, none⟩ (.slice a4 F.length k4)) := b4.setCell (p := ⟨W3.heap.size, 0, none⟩) (by show w.heap.size ≤ W3.heap.size; omega) _
    have cS' : (W4.setCell ⟨W3.heap.size, 0, none⟩ (.slice a4 F.length k4)).cell? ⟨w.heap.size, 0, none⟩ = some (.int .i64 x) := by rw [cs_other (fun e => by injection e with e; omega)]; exact (b34.cell (p := ⟨w.heap.size, 0, none⟩) (by show w.heap.size < _; omega)).trans cS3
    have cR' : (W4.setCell ⟨W3.heap.size, 0, none⟩ (.slice a4 F.length k4)).cell? ⟨w.heap.size + 1, 0, none⟩ = some (.bool false) := by rw [cs_other (fun e => by injection e with e; omega)]; exact (b34.cell (p := ⟨w.heap.size + 1, 0, none⟩) (by show w.heap.size + 1 < _; omega)).trans cR3
    have fR' : (W4.setCell ⟨W3.heap.size, 0, none⟩ (.slice a4 F.length k4)).frozen? ⟨w.heap.size + 1, 0, none⟩ = false := by rw [World.frozen?_setCell]; exact (b34.frozen (p := ⟨w.heap.size + 1, 0, none⟩) (by show w.heap.size + 1 < _; omega)).trans fR3
    have zX : W3.heap.size < (W4.setCell ⟨W3.heap.size, 0, none⟩ (.slice a4 F.length k4)).heap.size := by rw [World.size_setCell]; exact s4
    clear hO4 hB4 cW4 fW4 b4 b34 hgw
    generalize W4.setCell ⟨W3.heap.size, 0, none⟩ (.slice a4 F.length k4) = W5 at *
    refine ⟨trivial, (callsIn_wide.2 (same_ff F _ _ W5 (by omega) (HasT.of O1') (HasT.of OW'))).mono ?_⟩
    rintro e X ⟨rfl, hB6⟩
    have bX : Below w.heap.size w X := bX'.trans (hB6.mono bX'.size)
    have O1 : OwnT W0.heap.size X (.slice a1 F.length k1) F := owns_below O1' hB6
    have O2 : OwnT W1.heap.size X (.slice a2 F.length k2) F := owns_below O2' hB6
    have OW : OwnT (W3.heap.size + 1) X (.slice a4 F.length k4) F := owns_below OW' hB6
    have cW := (hB6.cell (p := ⟨W3.heap.size, 0, none⟩) zX).trans cW'
    have cS := (hB6.cell (p := ⟨w.heap.size, 0, none⟩) (by show w.heap.size < _; omega)).trans cS'
    have cR := (hB6.cell (p := ⟨w.heap.size + 1, 0, none⟩) (by show w.heap.size + 1 < _; omega)).trans cR'
    have fR := (hB6.frozen (p := ⟨w.heap.size + 1, 0, none⟩) (by show w.heap.size + 1 < _; omega)).trans fR'
    have zX6 : W3.heap.size < X.heap.size := Nat.lt_of_lt_of_le zX hB6.size
    clear O1' O2' OW' cW' bX' cS' cR' fR' zX hB6 cS3 cR3 fR3 HO1 HO2
    have HO1 : Hid (OwnT W0.heap.size X (.slice a1 F.length k1) F) := O1
    have HO2 : Hid (OwnT W1.heap.size X (.slice a2 F.length k2) F) := O2
    have HOW : Hid (OwnT (W3.heap.size + 1) X (.slice a4 F.length k4) F) := OW
    have HBX : Hid (Below w.heap.size w X) := bX
    clear O1 O2 OW bX
    gi_wp2_with fail
    gi_loopw [13, 69] (fun _ i wr => ∃ k : Nat, k ≤ F.length ∧ i = .int .i64 k ∧ Hid (∃ ys, wr.ownsRow W0.heap.size 9 1 (.slice a1 F.length k1) F.length ys) ∧ Hid (X.grownBy wr (Value.slice a1 F.length k1).ownBlock)) (fun _ i _ => F.length - (intOf i).toNat)
    case atStart => exact ⟨0, by omega, rfl, ⟨_, HO1.out⟩, World.grownBy.refl _ _⟩
    case round =>
      obtain ⟨k, hk, rfl, hR, hG⟩ := hrel
      by_cases hlt : k < F.length
      · obtain ⟨ys, hys⟩ := hR.out
        obtain ⟨g, rfl⟩ : ∃ g, a1 = some ⟨g, 0, none⟩ := by
          rcases hys.2 with ⟨e, _⟩ | ⟨g, cap', cur, e, _⟩
          · simp only [Value.slice.injEq] at e; omega
          · simp only [Value.slice.injEq] at e; exact ⟨g, e.1⟩
        have hyl : k < ys.length := by rw [hys.1]; omega
        have hc : wr.cell? ⟨g, k, none⟩ = some ys[k] := by rw [World.ownsRow.cellAt hys k (by omega)]; simp [hyl]
        have hf := World.ownsRow.frozenAt hys k
        have HST : Hid ((∃ ys, (wr.setCell ⟨g, k, none⟩ (.string ⟨#[115, 112, 111, 105, 108, 116]⟩)).ownsRow W0.heap.size 9 1 (.slice (some ⟨g, 0, none⟩) F.length k1) F.length ys) ∧ X.grownBy (wr.setCell ⟨g, k, none⟩ (.string ⟨#[115, 112, 111, 105, 108, 116]⟩)) (Value.slice (some ⟨g, 0, none⟩) F.length k1).ownBlock) := ⟨⟨_, (World.ownsRow.stored hys k _).1⟩, grown_trans hG.out (World.ownsRow.stored hys k _).2⟩
        clear hys
        gi_wp2
        go_roundw
        case rel => exact ⟨k + 1, by omega, by go_num, HST.out.1, HST.out.2⟩
        case measure => simp [intOf]; omega
      · obtain rfl : k = F.length := by omega
        have hnb : ∀ j, (j < W0.heap.size ∨ W1.heap.size ≤ j) → some j ≠ (Value.slice a1 F.length k1).ownBlock := fun j hj e => by have := HL1.out j e.symm; omega
        have cell' : ∀ j u, (j < W0.heap.size ∨ W1.heap.size ≤ j) → X.cell? ⟨j, 0, none⟩ = some u → wr.cell? ⟨j, 0, none⟩ = some u := fun j u hj h => (World.cell?_of_block (w := X) (a := ⟨j, 0, none⟩) (hG.out.block j (cell_lt h) (hnb j hj))).trans h
        have cW2 := cell' W3.heap.size _ (.inr (by omega)) cW
        have cS2 := cell' w.heap.size _ (.inl (by omega)) cS
        have cR2 := cell' (w.heap.size + 1) _ (.inl (by omega)) cR
        have fR2 : wr.frozen? ⟨w.heap.size + 1, 0, none⟩ = false := by
          have e := hG.out.block (w.heap.size + 1) (cell_lt cR) (hnb (w.heap.size + 1) (.inl (by omega)))
          have h := fR
          unfold World.frozen? at h ⊢
          rw [show wr.heap[(⟨w.heap.size + 1, 0, none⟩ : Addr).block]? = X.heap[(⟨w.heap.size + 1, 0, none⟩ : Addr).block]? from e]
          exact h
        have O2r : OwnT W1.heap.size wr (.slice a2 F.length k2) F := World.ownsRow.kept HO2.out hG.out (by cases e : (Value.slice a2 F.length k2).ownBlock with | none => exact .inl rfl | some j => exact .inr (hnb j (.inr (HO2.out.lt j e).1)))
        have OWr : OwnT (W3.heap.size + 1) wr (.slice a4 F.length k4) F := World.ownsRow.kept HOW.out hG.out (by cases e : (Value.slice a4 F.length k4).ownBlock with | none => exact .inl rfl | some j => exact .inr (hnb j (.inr (by have := (HOW.out.lt j e).1; omega))))
        have bR : Below w.heap.size w wr := HBX.out.grown hG.out HBX.out.size (fun j hj => by have := (HL1.out j hj).1; omega)
        clear hnb cell'
        gi_wp2_with fail
        refine ⟨trivial, (callsIn_wide.2 (same_ff F _ _ wr (by omega) (HasT.of O2r) (HasT.of OWr))).mono ?_⟩
        rintro e Y ⟨rfl, hBY⟩
        gi_wp2_with fail
        have sR := bR.size
        have sY := hBY.size
        have hcl : W3.heap.size < wr.heap.size := cell_lt cW2
        have cWY := (hBY.cell (p := ⟨W3.heap.size, 0, none⟩) hcl).trans cW2
        have cSY := (hBY.cell (p := ⟨w.heap.size, 0, none⟩) (by show w.heap.size < _; omega)).trans cS2
        have cRY := (hBY.cell (p := ⟨w.heap.size + 1, 0, none⟩) (by show w.heap.size + 1 < _; omega)).trans cR2
        have fRY : Y.frozen? ⟨w.heap.size + 1, 0, none⟩ = false := (hBY.frozen (p := ⟨w.heap.size + 1, 0, none⟩) (by show w.heap.size + 1 < _; omega)).trans fR2
        have bY : Below w.heap.size w Y := bR.trans (hBY.mono sR)
        have OWY : OwnT (W3.heap.size + 1) Y (.slice a4 F.length k4) F := owns_below OWr hBY
        have HOY : Hid (OwnT (W3.heap.size + 1) Y (.slice a4 F.length k4) F) := OWY
        clear O2r OWr bR hBY cW2 cS2 cR2 fR2 hR hG HO1 HO2 HOW HBX cW cS cR fR OWY
        refine wpIn_loop_rounds 3 ?_
        rw [roundsIn_succ]
        gi_wp2_with fail
        refine ⟨trivial, (callsIn_wide.2 (HAL.out _)).mono ?_⟩
        rintro e V ⟨B, v, rfl, hcB, hBge, hOv, hBV⟩
        gi_wp2_with fail
        have sV := hBV.size
        simp only [World.size_alloc] at hBge hOv sV
        have kV : KpN (Y.heap.size + 1) Y V := (KpN.of_below (((Below.refl _ Y).alloc (Nat.le_refl _) _).alloc (by simp) _)).trans (KpN.of_below hBV)
        have bV : Below w.heap.size w V := ((bY.alloc bY.size _).alloc (by have := bY.size; simp; omega) _).trans (hBV.mono (by have := bY.size; simp; omega))
        have cO : V.cell? ⟨Y.heap.size, 0, none⟩ = some (.int .i64 0) := (hBV.cell (p := ⟨Y.heap.size, 0, none⟩) (by simp; omega)).trans (by simp)
        have bN : Boxed V (Y.heap.size + 1) 3 (.int .i64 0) := (hBV.block (Y.heap.size + 1) (by simp)).trans (by have := Boxed.new (Y.alloc (.cells #[.int .i64 0] 3)) 3 (.int .i64 0); rwa [World.size_alloc] at this)
        have hlY := cell_lt cWY
        simp only at hlY
        clear hBV
        refine wpIn_rangeFunc_ownG rfl (by omega) (gf := 25) (lb := #[.pointer (some ⟨B, 0, none⟩)]) rfl trivial (enters_of Try.func25 (by kernel_rfl) rfl)
          (all_stops _ (by omega) B v F (by omega) (KpN (Y.heap.size + 1)) V (HasT.of hOv) hcB (fun b cap e A B' hk j u hu => KpN.cell hk hu (by show b ≠ Y.heap.size + 1; have := (hOv.lt b (by rw [e]; rfl)).1; omega)))
          KpN.trans (fun W l o o' h1 h2 h3 h4 => KpN.book W l o o' h1 h2 h3 h4) (Below.refl _ _) (fun _ => rfl)
          (fun (pre : List (Nat × List UInt8)) W => (pre <+: numTo F F.length) ∧ Boxed W (Y.heap.size + 1) 3 (.int .i64 (pre.length : Int)) ∧ KpN (Y.heap.size + 1) V W ∧ Below (Y.heap.size + 1) V W)
          (fun c (pre : List (Nat × List UInt8)) W => ¬ (pre <+: numTo F F.length) ∨ c = .exit 4 ∧ Boxed W (Y.heap.size + 1) 3 (.int .i64 x) ∧ KpN (Y.heap.size + 1) V W ∧ Below (Y.heap.size + 1) V W)
          (OwnFrom.and (ownFrom_pure _ _) (OwnFrom.and (Own.from (boxed_own _ _ _) _) (OwnFrom.and (KpN.own _ _ _) (ownFrom_below (by omega) (by omega)))))
          (fun c s A A' row hs hg hr => hs.elim .inl (fun hs => .inr ⟨hs.1, Own.from (boxed_own (β := Unit) _ _ (fun _ => .int .i64 x)) V.heap.size () A A' row hs.2.1 hg hr, KpN.own (β := Unit) _ V.heap.size _ () A A' row hs.2.2.1 hg hr, ownFrom_below (β := Unit) (B := V.heap.size) (by omega) (by omega) () A A' row hs.2.2.2 hg hr⟩))
          ⟨List.nil_prefix, bN, KpN.refl _ _, Below.refl _ _⟩ ?a1 ?assign ?body ?done ?stop
        case assign =>
          intro l y W K hK
          gi_wp2
          exact hK
        case body =>
          rintro l pre y W ⟨hpre, hbx, hkW, hBW⟩ hlN
          have cN := hbx.cell
          have fN := hbx.frozen
          have cL' := (kV.trans hkW).cell cWY (by show W3.heap.size ≠ Y.heap.size + 1; omega)
          have cO' := hkW.cell cO (by show Y.heap.size ≠ Y.heap.size + 1; omega)
          have cS' := (kV.trans hkW).cell cSY (by show w.heap.size ≠ Y.heap.size + 1; omega)
          have cR' := (kV.trans hkW).cell cRY (by show w.heap.size + 1 ≠ Y.heap.size + 1; omega)
          have fR' := (kV.trans hkW).frozen cRY fRY (by show w.heap.size + 1 ≠ Y.heap.size + 1; omega)
          have hpl := pre.length
          by_cases hn : pre.length < F.length
          · have hget := numTo_get F pre.length hn
            obtain ⟨gl, e0, hgb, hgl, hgc⟩ := (HasT.of HOY.out).at (by omega)
            have r1 := (kV.trans hkW).cell (hgc pre.length hn) (by show gl ≠ Y.heap.size + 1; omega)
            subst e0
            by_cases e1 : y.1 = pre.length
            · have t1 : ((y.1 : Int) != (pre.length : Int)) = false := by simp [e1]
              by_cases e2 : y.2 = F[pre.length]
              · have hon : Hid (pre ++ [y] <+: numTo F F.length) := prefix_on hpre (by rw [hget, ← e2, ← e1])
                have hset := hbx.set (.int .i64 ((pre.length : Int) + 1))
                have hbl : Below (Y.heap.size + 1) V (W.setCell ⟨Y.heap.size + 1, 0, none⟩ (.int .i64 ((pre.length : Int) + 1))) := hBW.setCell (p := ⟨Y.heap.size + 1, 0, none⟩) (Nat.le_refl _) _
                have hkp : KpN (Y.heap.size + 1) V (W.setCell ⟨Y.heap.size + 1, 0, none⟩ (.int .i64 ((pre.length : Int) + 1))) := hkW.trans (KpN.set _ _ _)
                rw [← e2] at r1
                generalize (⟨y.2.toArray⟩ : ByteArray) = f at *
                have hf : (f.toList == f.toList) = true := by simp
                clear hget e1 e2 hgc
                by_cases hx : (pre.length : Int) + 1 = x
                · have hx' : ((pre.length : Int) + 1 == x) = true := by simpa using hx
                  have HX1 : Hid ((pre.length : Int) + 1 = x) := hx
                  clear hx
                  gi_wp2
                  exact ⟨(KeepsOthers.setCell _ _ _).from _, .inr ⟨rfl, by rw [← HX1.out]; exact hset, hkp, hbl⟩⟩
                · have hx' : ((pre.length : Int) + 1 == x) = false := by simpa using hx
                  clear hx
                  gi_wp2
                  exact ⟨(KeepsOthers.setCell _ _ _).from _, KpN.set _ _ _, hon.out, by simpa using hset, hkp, hbl⟩
              · have hno : Hid (¬ (pre ++ [y] <+: numTo F F.length)) := prefix_not (by rw [hget]; intro h; cases h; exact e2 rfl)
                have hf : ((⟨y.2.toArray⟩ : ByteArray).toList == (⟨F[pre.length].toArray⟩ : ByteArray).toList) = false := by rw [toList_mk, toList_mk, beq_eq_false_iff_ne]; exact e2
                generalize (⟨y.2.toArray⟩ : ByteArray) = f at *
                generalize (⟨F[pre.length].toArray⟩ : ByteArray) = g at *
                clear hget e1 e2 hgc
                gi_wp2
                exact ⟨(KeepsOthers.setCell _ _ _).from _, .inl hno.out⟩
            · have t1 : ((y.1 : Int) != (pre.length : Int)) = true := by simp; omega
              have hno : Hid (¬ (pre ++ [y] <+: numTo F F.length)) := prefix_not (by rw [hget]; intro h; cases h; exact e1 rfl)
              clear hget e1 hgc
              gi_wp2
              exact ⟨(KeepsOthers.setCell _ _ _).from _, .inl hno.out⟩
          · exact absurd hlN hn
        case done =>
          rintro D ys W hD rfl ⟨_, hbx, hkW, hBW⟩ hK
          have cN := hbx.cell
          rw [numTo_length] at cN
          have hmm : ((F.length : Int) != (F.length : Int)) = false := by simp
          have cL' := (kV.trans hkW).cell cWY (by show W3.heap.size ≠ Y.heap.size + 1; omega)
          have cO' := hkW.cell cO (by show Y.heap.size ≠ Y.heap.size + 1; omega)
          have cS' := (kV.trans hkW).cell cSY (by show w.heap.size ≠ Y.heap.size + 1; omega)
          have hDW := lt_of_block hK
          have sW := hBW.size
          have HK : Hid (W.heap[D]? = some (.deferred (some []))) := hK
          clear hK
          gi_wp2_with fail
          rw [roundsIn_succ]
          gi_wp2_with fail
          refine ⟨trivial, (callsIn_wide.2 (HAL.out _)).mono ?_⟩
          rintro e V2 ⟨B2, v2, rfl, hcB2, hBge2, hOv2, hBV2⟩
          gi_wp2_with fail
          have sV2 := hBV2.size
          simp only [World.size_alloc] at hBge2 hOv2 sV2
          have kV2 : KpN (W.heap.size + 1) W V2 := (KpN.of_below (((Below.refl _ W).alloc (Nat.le_refl _) _).alloc (by simp) _)).trans (KpN.of_below hBV2)
          have bW : Below w.heap.size w W := bV.trans (hBW.mono (by omega))
          have bV2 : Below w.heap.size w V2 := ((bW.alloc bW.size _).alloc (by have := bW.size; simp; omega) _).trans (hBV2.mono (by have := bW.size; simp; omega))
          have cO2 : V2.cell? ⟨W.heap.size, 0, none⟩ = some (.int .i64 1) := (hBV2.cell (p := ⟨W.heap.size, 0, none⟩) (by simp; omega)).trans (by simp)
          have bN2 : Boxed V2 (W.heap.size + 1) 3 (.int .i64 0) := (hBV2.block (W.heap.size + 1) (by simp)).trans (by have := Boxed.new (W.alloc (.cells #[.int .i64 1] 3)) 3 (.int .i64 0); rwa [World.size_alloc] at this)
          have hK2 : V2.heap[D]? = some (.deferred (some [])) := (hBV2.block D (by simp; omega)).trans (((((Below.refl _ W).alloc (Nat.le_refl _) _).alloc (by simp) _).block D hDW).trans HK.out)
          have cW2 := kV2.cell cL' (by show W3.heap.size ≠ W.heap.size + 1; omega)
          have cR2 := kV2.cell ((kV.trans hkW).cell cRY (by show w.heap.size + 1 ≠ Y.heap.size + 1; omega)) (by show w.heap.size + 1 ≠ W.heap.size + 1; omega)
          have fR2 := kV2.frozen ((kV.trans hkW).cell cRY (by show w.heap.size + 1 ≠ Y.heap.size + 1; omega)) ((kV.trans hkW).frozen cRY fRY (by show w.heap.size + 1 ≠ Y.heap.size + 1; omega)) (by show w.heap.size + 1 ≠ W.heap.size + 1; omega)
          have cS2 := kV2.cell cS' (by show w.heap.size ≠ W.heap.size + 1; omega)
          have HR2 : Hid (0 < F.length → ∃ gl, a4 = some ⟨gl, 0, none⟩ ∧ gl < Y.heap.size ∧ ∀ j (h : j < F.length), V2.cell? ⟨gl, j, none⟩ = some (.string ⟨F[j].toArray⟩)) := fun h0 => by
            obtain ⟨gl, e0, hgb, _, hgc⟩ := (HasT.of HOY.out).at h0
            exact ⟨gl, e0, hgb, fun j hj => kV2.cell ((kV.trans hkW).cell (hgc j hj) (by show gl ≠ Y.heap.size + 1; omega)) (by show gl ≠ W.heap.size + 1; omega)⟩
          clear hBV2
          refine wpIn_rangeFunc_ownG rfl (by omega) (gf := 25) (lb := #[.pointer (some ⟨B2, 0, none⟩)]) rfl trivial (enters_of Try.func25 (by kernel_rfl) rfl)
            (all_stops _ (by omega) B2 v2 F (by omega) (KpN (W.heap.size + 1)) V2 (HasT.of hOv2) hcB2 (fun b cap e A B' hk j u hu => KpN.cell hk hu (by show b ≠ W.heap.size + 1; have := (hOv2.lt b (by rw [e]; rfl)).1; omega)))
            KpN.trans (fun W l o o' h1 h2 h3 h4 => KpN.book W l o o' h1 h2 h3 h4) (Below.refl _ _) (fun _ => rfl)
            (fun (pre : List (Nat × List UInt8)) U => (pre <+: numTo F F.length) ∧ Boxed U (W.heap.size + 1) 3 (.int .i64 (pre.length : Int)) ∧ KpN (W.heap.size + 1) V2 U ∧ Below (W.heap.size + 1) V2 U ∧ U.heap[D]? = some (.deferred (some [])))
            (fun _ (pre : List (Nat × List UInt8)) _ => ¬ (pre <+: numTo F F.length))
            (OwnFrom.and (ownFrom_pure _ _) (OwnFrom.and (Own.from (boxed_own _ _ _) _) (OwnFrom.and (KpN.own _ _ _) (OwnFrom.and (ownFrom_below (by omega) (by omega)) (fun _ A A' row hs hg hr => (hg.block D (lt_of_block hs) (fun e => by have := (hr D e.symm).1; omega)).trans hs)))))
            (fun _ => ownFrom_pure _ _)
            ⟨List.nil_prefix, bN2, KpN.refl _ _, Below.refl _ _, hK2⟩ ?a2_3 ?assign2_3 ?body2_3 ?done2_3 ?stop2_3
          case assign2_3 =>
            intro l y W K hK
            gi_wp2
            exact hK
          case body2_3 =>
            rintro l pre y U ⟨hpre, hbx2, hkU, hBU, hKU⟩ hlN
            have cN := hbx2.cell
            have fN := hbx2.frozen
            have cL' := hkU.cell cW2 (by show W3.heap.size ≠ W.heap.size + 1; omega)
            have cO' := hkU.cell cO2 (by show W.heap.size ≠ W.heap.size + 1; omega)
            have cR' := hkU.cell cR2 (by show w.heap.size + 1 ≠ W.heap.size + 1; omega)
            have fR' := hkU.frozen cR2 fR2 (by show w.heap.size + 1 ≠ W.heap.size + 1; omega)
            have HKU : Hid (U.heap[D]? = some (.deferred (some []))) := hKU
            clear hKU
            obtain ⟨gl, e0, hgb, hgc⟩ := HR2.out (by omega)
            have hget := numTo_get F pre.length hlN
            have r1 := hkU.cell (hgc pre.length hlN) (by show gl ≠ W.heap.size + 1; omega)
            subst e0
            by_cases e1 : y.1 = pre.length
            · have t1 : ((y.1 : Int) != (pre.length : Int)) = false := by simp [e1]
              by_cases e2 : y.2 = F[pre.length]
              · have hon : Hid (pre ++ [y] <+: numTo F F.length) := prefix_on hpre (by rw [hget, ← e2, ← e1])
                have hset := hbx2.set (.int .i64 ((pre.length : Int) + 1))
                have hbl : Below (W.heap.size + 1) V2 (U.setCell ⟨W.heap.size + 1, 0, none⟩ (.int .i64 ((pre.length : Int) + 1))) := hBU.setCell (p := ⟨W.heap.size + 1, 0, none⟩) (Nat.le_refl _) _
                have hkp : KpN (W.heap.size + 1) V2 (U.setCell ⟨W.heap.size + 1, 0, none⟩ (.int .i64 ((pre.length : Int) + 1))) := hkU.trans (KpN.set _ _ _)
                rw [← e2] at r1
                generalize (⟨y.2.toArray⟩ : ByteArray) = f at *
                have hf : (f.toList == f.toList) = true := by simp
                clear hget e1 e2 hgc HR2
                gi_wp2
                exact ⟨(KeepsOthers.setCell _ _ _).from _, KpN.set _ _ _, hon.out, by simpa using hset, hkp, hbl, (Below.heap_setCell _ _ _ D (by show D ≠ W.heap.size + 1; omega)).trans HKU.out⟩
              · have hno : Hid (¬ (pre ++ [y] <+: numTo F F.length)) := prefix_not (by rw [hget]; intro h; cases h; exact e2 rfl)
                have hf : ((⟨y.2.toArray⟩ : ByteArray).toList == (⟨F[pre.length].toArray⟩ : ByteArray).toList) = false := by rw [toList_mk, toList_mk, beq_eq_false_iff_ne]; exact e2
                generalize (⟨y.2.toArray⟩ : ByteArray) = f at *
                generalize (⟨F[pre.length].toArray⟩ : ByteArray) = g at *
                clear hget e1 e2 hgc HR2
                gi_wp2
                exact ⟨(KeepsOthers.setCell _ _ _).from _, hno.out⟩
            · have t1 : ((y.1 : Int) != (pre.length : Int)) = true := by simp; omega
              have hno : Hid (¬ (pre ++ [y] <+: numTo F F.length)) := prefix_not (by rw [hget]; intro h; cases h; exact e1 rfl)
              clear hget e1 hgc HR2
              gi_wp2
              exact ⟨(KeepsOthers.setCell _ _ _).from _, hno.out⟩
          case stop2_3 =>
            rintro D2 c pre U hD2 hSp hIx hK3
            exact absurd hSp hIx
          case done2_3 =>
            rintro D2 ys U hD2 rfl ⟨_, hbx2, hkU, hBU, hKU⟩ hK3
            have cN := hbx2.cell
            rw [numTo_length] at cN
            have hmm2 : ((F.length : Int) != (F.length : Int)) = false := by simp
            have cL3 := hkU.cell cW2 (by show W3.heap.size ≠ W.heap.size + 1; omega)
            have cO3 := hkU.cell cO2 (by show W.heap.size ≠ W.heap.size + 1; omega)
            have cR3 := hkU.cell cR2 (by show w.heap.size + 1 ≠ W.heap.size + 1; omega)
            have fR3 := hkU.frozen cR2 fR2 (by show w.heap.size + 1 ≠ W.heap.size + 1; omega)
            have cS3 := hkU.cell cS2 (by show w.heap.size ≠ W.heap.size + 1; omega)
            have hDU := lt_of_block hKU
            have hDU2 := lt_of_block hK3
            have HKU : Hid (U.heap[D]? = some (.deferred (some []))) := hKU
            have HKU2 : Hid (U.heap[D2]? = some (.deferred (some []))) := hK3
            have sU := hBU.size
            have bU : Below w.heap.size w U := bV2.trans (hBU.mono (by omega))
            clear hKU hK3 HR2 hkU hBU
            gi_wp2_with fail
            rw [roundsIn_succ]
            gi_wp2_with fail
            have bU1 : Below w.heap.size w (U.alloc (.cells #[.int .i64 2] 3)) := bU.alloc bU.size _
            refine ⟨trivial, (callsIn_wide.2 (awake_calls _ (HM.out.below bU1))).mono ?_⟩
            rintro e w6 ⟨rfl, hb6⟩
            have J6 : Below U.heap.size U w6 := ((Below.refl _ U).alloc (Nat.le_refl _) _).trans (hb6.mono (by simp))
            have cR6 := (J6.cell (p := ⟨w.heap.size + 1, 0, none⟩) (cell_lt cR3)).trans cR3
            have fR6 := (J6.frozen (p := ⟨w.heap.size + 1, 0, none⟩) (cell_lt cR3)).trans fR3
            have hKa := (J6.block D hDU).trans HKU.out
            have hKb := (J6.block D2 hDU2).trans HKU2.out
            have hW6 : Below w.heap.size w w6 := bU.trans (J6.mono bU.size)
            have hDne : D ≠ D2 := by omega
            clear hb6 J6 bU1
            gi_wp2
            have hKb' : (w6.setCell ⟨w.heap.size + 1, 0, none⟩ (.bool true)).heap[D2]? = some (.deferred (some [])) := (Below.heap_setCell _ _ _ D2 (by show D2 ≠ w.heap.size + 1; omega)).trans hKb
            have hKa' : ((w6.setCell ⟨w.heap.size + 1, 0, none⟩ (.bool true)).putObj D2 (.deferred none)).heap[D]? = some (.deferred (some [])) := (World.putObj_heap_other hDne).trans ((Below.heap_setCell _ _ _ D (by show D ≠ w.heap.size + 1; omega)).trans hKa)
            refine ⟨by simp, .inl ⟨_, _, rfl, run_takeDeferred hKb', ?_⟩⟩
            refine ⟨by simp, .inl ⟨_, _, rfl, run_takeDeferred hKa', ?_⟩⟩
            have hc9 : (((w6.setCell ⟨w.heap.size + 1, 0, none⟩ (.bool true)).putObj D2 (.deferred none)).putObj D (.deferred none)).cell? ⟨w.heap.size + 1, 0, none⟩ = some (.bool true) := by
              rw [World.cell?_of_block (w := (w6.setCell ⟨w.heap.size + 1, 0, none⟩ (.bool true)).putObj D2 (.deferred none)) (a := ⟨w.heap.size + 1, 0, none⟩) (World.putObj_heap_other (by show w.heap.size + 1 ≠ D; omega)), World.cell?_of_block (w := w6.setCell ⟨w.heap.size + 1, 0, none⟩ (.bool true)) (a := ⟨w.heap.size + 1, 0, none⟩) (World.putObj_heap_other (by show w.heap.size + 1 ≠ D2; omega))]
              exact cs_same cR6
            refine ⟨.bool true, by simp [results, Try.f3, go_sem, hc9], rfl, ?_⟩
            have z1 := lt_of_block hKb'
            have z2 := lt_of_block hKa'
            exact (((hW6.setCell (p := ⟨w.heap.size + 1, 0, none⟩) (by simp) _).grown (grownBy_putObj' _ D2 _) (by omega) (fun k e => by cases e; omega)).grown (grownBy_putObj' _ D _) (by omega) (fun k e => by cases e; omega))
        case stop =>
          rintro D c pre W hD hSp hIx hK
          obtain ⟨rfl, hbx, hkW, hBW⟩ := hIx.resolve_left (fun h => h hSp)
          have cN := hbx.cell
          have hxx : (x != x) = false := by simp
          by_cases hmx : x = (F.length : Int)
          · have hmm : (x != (F.length : Int)) = false := by simp [hmx]
            clear hmx
            have cL' := (kV.trans hkW).cell cWY (by show W3.heap.size ≠ Y.heap.size + 1; omega)
            have cO' := hkW.cell cO (by show Y.heap.size ≠ Y.heap.size + 1; omega)
            have cS' := (kV.trans hkW).cell cSY (by show w.heap.size ≠ Y.heap.size + 1; omega)
            have hDW := lt_of_block hK
            have sW := hBW.size
            have HK : Hid (W.heap[D]? = some (.deferred (some []))) := hK
            clear hK
            gi_wp2_with fail
            rw [roundsIn_succ]
            gi_wp2_with fail
            refine ⟨trivial, (callsIn_wide.2 (HAL.out _)).mono ?_⟩
            rintro e V2 ⟨B2, v2, rfl, hcB2, hBge2, hOv2, hBV2⟩
            gi_wp2_with fail
            have sV2 := hBV2.size
            simp only [World.size_alloc] at hBge2 hOv2 sV2
            have kV2 : KpN (W.heap.size + 1) W V2 := (KpN.of_below (((Below.refl _ W).alloc (Nat.le_refl _) _).alloc (by simp) _)).trans (KpN.of_below hBV2)
            have bW : Below w.heap.size w W := bV.trans (hBW.mono (by omega))
            have bV2 : Below w.heap.size w V2 := ((bW.alloc bW.size _).alloc (by have := bW.size; simp; omega) _).trans (hBV2.mono (by have := bW.size; simp; omega))
            have cO2 : V2.cell? ⟨W.heap.size, 0, none⟩ = some (.int .i64 1) := (hBV2.cell (p := ⟨W.heap.size, 0, none⟩) (by simp; omega)).trans (by simp)
            have bN2 : Boxed V2 (W.heap.size + 1) 3 (.int .i64 0) := (hBV2.block (W.heap.size + 1) (by simp)).trans (by have := Boxed.new (W.alloc (.cells #[.int .i64 1] 3)) 3 (.int .i64 0); rwa [World.size_alloc] at this)
            have hK2 : V2.heap[D]? = some (.deferred (some [])) := (hBV2.block D (by simp; omega)).trans (((((Below.refl _ W).alloc (Nat.le_refl _) _).alloc (by simp) _).block D hDW).trans HK.out)
            have cW2 := kV2.cell cL' (by show W3.heap.size ≠ W.heap.size + 1; omega)
            have cR2 := kV2.cell ((kV.trans hkW).cell cRY (by show w.heap.size + 1 ≠ Y.heap.size + 1; omega)) (by show w.heap.size + 1 ≠ W.heap.size + 1; omega)
            have fR2 := kV2.frozen ((kV.trans hkW).cell cRY (by show w.heap.size + 1 ≠ Y.heap.size + 1; omega)) ((kV.trans hkW).frozen cRY fRY (by show w.heap.size + 1 ≠ Y.heap.size + 1; omega)) (by show w.heap.size + 1 ≠ W.heap.size + 1; omega)
            have cS2 := kV2.cell cS' (by show w.heap.size ≠ W.heap.size + 1; omega)
            have HR2 : Hid (0 < F.length → ∃ gl, a4 = some ⟨gl, 0, none⟩ ∧ gl < Y.heap.size ∧ ∀ j (h : j < F.length), V2.cell? ⟨gl, j, none⟩ = some (.string ⟨F[j].toArray⟩)) := fun h0 => by
              obtain ⟨gl, e0, hgb, _, hgc⟩ := (HasT.of HOY.out).at h0
              exact ⟨gl, e0, hgb, fun j hj => kV2.cell ((kV.trans hkW).cell (hgc j hj) (by show gl ≠ Y.heap.size + 1; omega)) (by show gl ≠ W.heap.size + 1; omega)⟩
            clear hBV2
            refine wpIn_rangeFunc_ownG rfl (by omega) (gf := 25) (lb := #[.pointer (some ⟨B2, 0, none⟩)]) rfl trivial (enters_of Try.func25 (by kernel_rfl) rfl)
              (all_stops _ (by omega) B2 v2 F (by omega) (KpN (W.heap.size + 1)) V2 (HasT.of hOv2) hcB2 (fun b cap e A B' hk j u hu => KpN.cell hk hu (by show b ≠ W.heap.size + 1; have := (hOv2.lt b (by rw [e]; rfl)).1; omega)))
              KpN.trans (fun W l o o' h1 h2 h3 h4 => KpN.book W l o o' h1 h2 h3 h4) (Below.refl _ _) (fun _ => rfl)
              (fun (pre : List (Nat × List UInt8)) U => (pre <+: numTo F F.length) ∧ Boxed U (W.heap.size + 1) 3 (.int .i64 (pre.length : Int)) ∧ KpN (W.heap.size + 1) V2 U ∧ Below (W.heap.size + 1) V2 U ∧ U.heap[D]? = some (.deferred (some [])))
              (fun _ (pre : List (Nat × List UInt8)) _ => ¬ (pre <+: numTo F F.length))
              (OwnFrom.and (ownFrom_pure _ _) (OwnFrom.and (Own.from (boxed_own _ _ _) _) (OwnFrom.and (KpN.own _ _ _) (OwnFrom.and (ownFrom_below (by omega) (by omega)) (fun _ A A' row hs hg hr => (hg.block D (lt_of_block hs) (fun e => by have := (hr D e.symm).1; omega)).trans hs)))))
              (fun _ => ownFrom_pure _ _)
              ⟨List.nil_prefix, bN2, KpN.refl _ _, Below.refl _ _, hK2⟩ ?a2_1 ?assign2_1 ?body2_1 ?done2_1 ?stop2_1
            case assign2_1 =>
              intro l y W K hK
              gi_wp2
              exact hK
            case body2_1 =>
              rintro l pre y U ⟨hpre, hbx2, hkU, hBU, hKU⟩ hlN
              have cN := hbx2.cell
              have fN := hbx2.frozen
              have cL' := hkU.cell cW2 (by show W3.heap.size ≠ W.heap.size + 1; omega)
              have cO' := hkU.cell cO2 (by show W.heap.size ≠ W.heap.size + 1; omega)
              have cR' := hkU.cell cR2 (by show w.heap.size + 1 ≠ W.heap.size + 1; omega)
              have fR' := hkU.frozen cR2 fR2 (by show w.heap.size + 1 ≠ W.heap.size + 1; omega)
              have HKU : Hid (U.heap[D]? = some (.deferred (some []))) := hKU
              clear hKU
              obtain ⟨gl, e0, hgb, hgc⟩ := HR2.out (by omega)
              have hget := numTo_get F pre.length hlN
              have r1 := hkU.cell (hgc pre.length hlN) (by show gl ≠ W.heap.size + 1; omega)
              subst e0
              by_cases e1 : y.1 = pre.length
              · have t1 : ((y.1 : Int) != (pre.length : Int)) = false := by simp [e1]
                by_cases e2 : y.2 = F[pre.length]
                · have hon : Hid (pre ++ [y] <+: numTo F F.length) := prefix_on hpre (by rw [hget, ← e2, ← e1])
                  have hset := hbx2.set (.int .i64 ((pre.length : Int) + 1))
                  have hbl : Below (W.heap.size + 1) V2 (U.setCell ⟨W.heap.size + 1, 0, none⟩ (.int .i64 ((pre.length : Int) + 1))) := hBU.setCell (p := ⟨W.heap.size + 1, 0, none⟩) (Nat.le_refl _) _
                  have hkp : KpN (W.heap.size + 1) V2 (U.setCell ⟨W.heap.size + 1, 0, none⟩ (.int .i64 ((pre.length : Int) + 1))) := hkU.trans (KpN.set _ _ _)
                  rw [← e2] at r1
                  generalize (⟨y.2.toArray⟩ : ByteArray) = f at *
                  have hf : (f.toList == f.toList) = true := by simp
                  clear hget e1 e2 hgc HR2
                  gi_wp2
                  exact ⟨(KeepsOthers.setCell _ _ _).from _, KpN.set _ _ _, hon.out, by simpa using hset, hkp, hbl, (Below.heap_setCell _ _ _ D (by show D ≠ W.heap.size + 1; omega)).trans HKU.out⟩
                · have hno : Hid (¬ (pre ++ [y] <+: numTo F F.length)) := prefix_not (by rw [hget]; intro h; cases h; exact e2 rfl)
                  have hf : ((⟨y.2.toArray⟩ : ByteArray).toList == (⟨F[pre.length].toArray⟩ : ByteArray).toList) = false := by rw [toList_mk, toList_mk, beq_eq_false_iff_ne]; exact e2
                  generalize (⟨y.2.toArray⟩ : ByteArray) = f at *
                  generalize (⟨F[pre.length].toArray⟩ : ByteArray) = g at *
                  clear hget e1 e2 hgc HR2
                  gi_wp2
                  exact ⟨(KeepsOthers.setCell _ _ _).from _, hno.out⟩
              · have t1 : ((y.1 : Int) != (pre.length : Int)) = true := by simp; omega
                have hno : Hid (¬ (pre ++ [y] <+: numTo F F.length)) := prefix_not (by rw [hget]; intro h; cases h; exact e1 rfl)
                clear hget e1 hgc HR2
                gi_wp2
                exact ⟨(KeepsOthers.setCell _ _ _).from _, hno.out⟩
            case stop2_1 =>
              rintro D2 c pre U hD2 hSp hIx hK3
              exact absurd hSp hIx
            case done2_1 =>
              rintro D2 ys U hD2 rfl ⟨_, hbx2, hkU, hBU, hKU⟩ hK3
              have cN := hbx2.cell
              rw [numTo_length] at cN
              have hmm2 : ((F.length : Int) != (F.length : Int)) = false := by simp
              have cL3 := hkU.cell cW2 (by show W3.heap.size ≠ W.heap.size + 1; omega)
              have cO3 := hkU.cell cO2 (by show W.heap.size ≠ W.heap.size + 1; omega)
              have cR3 := hkU.cell cR2 (by show w.heap.size + 1 ≠ W.heap.size + 1; omega)
              have fR3 := hkU.frozen cR2 fR2 (by show w.heap.size + 1 ≠ W.heap.size + 1; omega)
              have cS3 := hkU.cell cS2 (by show w.heap.size ≠ W.heap.size + 1; omega)
              have hDU := lt_of_block hKU
              have hDU2 := lt_of_block hK3
              have HKU : Hid (U.heap[D]? = some (.deferred (some []))) := hKU
              have HKU2 : Hid (U.heap[D2]? = some (.deferred (some []))) := hK3
              have sU := hBU.size
              have bU : Below w.heap.size w U := bV2.trans (hBU.mono (by omega))
              clear hKU hK3 HR2 hkU hBU
              gi_wp2_with fail
              rw [roundsIn_succ]
              gi_wp2_with fail
              have bU1 : Below w.heap.size w (U.alloc (.cells #[.int .i64 2] 3)) := bU.alloc bU.size _
              refine ⟨trivial, (callsIn_wide.2 (awake_calls _ (HM.out.below bU1))).mono ?_⟩
              rintro e w6 ⟨rfl, hb6⟩
              have J6 : Below U.heap.size U w6 := ((Below.refl _ U).alloc (Nat.le_refl _) _).trans (hb6.mono (by simp))
              have cR6 := (J6.cell (p := ⟨w.heap.size + 1, 0, none⟩) (cell_lt cR3)).trans cR3
              have fR6 := (J6.frozen (p := ⟨w.heap.size + 1, 0, none⟩) (cell_lt cR3)).trans fR3
              have hKa := (J6.block D hDU).trans HKU.out
              have hKb := (J6.block D2 hDU2).trans HKU2.out
              have hW6 : Below w.heap.size w w6 := bU.trans (J6.mono bU.size)
              have hDne : D ≠ D2 := by omega
              clear hb6 J6 bU1
              gi_wp2
              have hKb' : (w6.setCell ⟨w.heap.size + 1, 0, none⟩ (.bool true)).heap[D2]? = some (.deferred (some [])) := (Below.heap_setCell _ _ _ D2 (by show D2 ≠ w.heap.size + 1; omega)).trans hKb
              have hKa' : ((w6.setCell ⟨w.heap.size + 1, 0, none⟩ (.bool true)).putObj D2 (.deferred none)).heap[D]? = some (.deferred (some [])) := (World.putObj_heap_other hDne).trans ((Below.heap_setCell _ _ _ D (by show D ≠ w.heap.size + 1; omega)).trans hKa)
              refine ⟨by simp, .inl ⟨_, _, rfl, run_takeDeferred hKb', ?_⟩⟩
              refine ⟨by simp, .inl ⟨_, _, rfl, run_takeDeferred hKa', ?_⟩⟩
              have hc9 : (((w6.setCell ⟨w.heap.size + 1, 0, none⟩ (.bool true)).putObj D2 (.deferred none)).putObj D (.deferred none)).cell? ⟨w.heap.size + 1, 0, none⟩ = some (.bool true) := by
                rw [World.cell?_of_block (w := (w6.setCell ⟨w.heap.size + 1, 0, none⟩ (.bool true)).putObj D2 (.deferred none)) (a := ⟨w.heap.size + 1, 0, none⟩) (World.putObj_heap_other (by show w.heap.size + 1 ≠ D; omega)), World.cell?_of_block (w := w6.setCell ⟨w.heap.size + 1, 0, none⟩ (.bool true)) (a := ⟨w.heap.size + 1, 0, none⟩) (World.putObj_heap_other (by show w.heap.size + 1 ≠ D2; omega))]
                exact cs_same cR6
              refine ⟨.bool true, by simp [results, Try.f3, go_sem, hc9], rfl, ?_⟩
              have z1 := lt_of_block hKb'
              have z2 := lt_of_block hKa'
              exact (((hW6.setCell (p := ⟨w.heap.size + 1, 0, none⟩) (by simp) _).grown (grownBy_putObj' _ D2 _) (by omega) (fun k e => by cases e; omega)).grown (grownBy_putObj' _ D _) (by omega) (fun k e => by cases e; omega))
          · have hmm : (x != (F.length : Int)) = true := by simp [hmx]
            clear hmx
            have cL' := (kV.trans hkW).cell cWY (by show W3.heap.size ≠ Y.heap.size + 1; omega)
            have cO' := hkW.cell cO (by show Y.heap.size ≠ Y.heap.size + 1; omega)
            have cS' := (kV.trans hkW).cell cSY (by show w.heap.size ≠ Y.heap.size + 1; omega)
            have hDW := lt_of_block hK
            have sW := hBW.size
            have HK : Hid (W.heap[D]? = some (.deferred (some []))) := hK
            clear hK
            gi_wp2_with fail
            rw [roundsIn_succ]
            gi_wp2_with fail
            refine ⟨trivial, (callsIn_wide.2 (HAL.out _)).mono ?_⟩
            rintro e V2 ⟨B2, v2, rfl, hcB2, hBge2, hOv2, hBV2⟩
            gi_wp2_with fail
            have sV2 := hBV2.size
            simp only [World.size_alloc] at hBge2 hOv2 sV2
            have kV2 : KpN (W.heap.size + 1) W V2 := (KpN.of_below (((Below.refl _ W).alloc (Nat.le_refl _) _).alloc (by simp) _)).trans (KpN.of_below hBV2)
            have bW : Below w.heap.size w W := bV.trans (hBW.mono (by omega))
            have bV2 : Below w.heap.size w V2 := ((bW.alloc bW.size _).alloc (by have := bW.size; simp; omega) _).trans (hBV2.mono (by have := bW.size; simp; omega))
            have cO2 : V2.cell? ⟨W.heap.size, 0, none⟩ = some (.int .i64 1) := (hBV2.cell (p := ⟨W.heap.size, 0, none⟩) (by simp; omega)).trans (by simp)
            have bN2 : Boxed V2 (W.heap.size + 1) 3 (.int .i64 0) := (hBV2.block (W.heap.size + 1) (by simp)).trans (by have := Boxed.new (W.alloc (.cells #[.int .i64 1] 3)) 3 (.int .i64 0); rwa [World.size_alloc] at this)
            have hK2 : V2.heap[D]? = some (.deferred (some [])) := (hBV2.block D (by simp; omega)).trans (((((Below.refl _ W).alloc (Nat.le_refl _) _).alloc (by simp) _).block D hDW).trans HK.out)
            have cW2 := kV2.cell cL' (by show W3.heap.size ≠ W.heap.size + 1; omega)
            have cR2 := kV2.cell ((kV.trans hkW).cell cRY (by show w.heap.size + 1 ≠ Y.heap.size + 1; omega)) (by show w.heap.size + 1 ≠ W.heap.size + 1; omega)
            have fR2 := kV2.frozen ((kV.trans hkW).cell cRY (by show w.heap.size + 1 ≠ Y.heap.size + 1; omega)) ((kV.trans hkW).frozen cRY fRY (by show w.heap.size + 1 ≠ Y.heap.size + 1; omega)) (by show w.heap.size + 1 ≠ W.heap.size + 1; omega)
            have cS2 := kV2.cell cS' (by show w.heap.size ≠ W.heap.size + 1; omega)
            have HR2 : Hid (0 < F.length → ∃ gl, a4 = some ⟨gl, 0, none⟩ ∧ gl < Y.heap.size ∧ ∀ j (h : j < F.length), V2.cell? ⟨gl, j, none⟩ = some (.string ⟨F[j].toArray⟩)) := fun h0 => by
              obtain ⟨gl, e0, hgb, _, hgc⟩ := (HasT.of HOY.out).at h0
              exact ⟨gl, e0, hgb, fun j hj => kV2.cell ((kV.trans hkW).cell (hgc j hj) (by show gl ≠ Y.heap.size + 1; omega)) (by show gl ≠ W.heap.size + 1; omega)⟩
            clear hBV2
            refine wpIn_rangeFunc_ownG rfl (by omega) (gf := 25) (lb := #[.pointer (some ⟨B2, 0, none⟩)]) rfl trivial (enters_of Try.func25 (by kernel_rfl) rfl)
              (all_stops _ (by omega) B2 v2 F (by omega) (KpN (W.heap.size + 1)) V2 (HasT.of hOv2) hcB2 (fun b cap e A B' hk j u hu => KpN.cell hk hu (by show b ≠ W.heap.size + 1; have := (hOv2.lt b (by rw [e]; rfl)).1; omega)))
              KpN.trans (fun W l o o' h1 h2 h3 h4 => KpN.book W l o o' h1 h2 h3 h4) (Below.refl _ _) (fun _ => rfl)
              (fun (pre : List (Nat × List UInt8)) U => (pre <+: numTo F F.length) ∧ Boxed U (W.heap.size + 1) 3 (.int .i64 (pre.length : Int)) ∧ KpN (W.heap.size + 1) V2 U ∧ Below (W.heap.size + 1) V2 U ∧ U.heap[D]? = some (.deferred (some [])))
              (fun _ (pre : List (Nat × List UInt8)) _ => ¬ (pre <+: numTo F F.length))
              (OwnFrom.and (ownFrom_pure _ _) (OwnFrom.and (Own.from (boxed_own _ _ _) _) (OwnFrom.and (KpN.own _ _ _) (OwnFrom.and (ownFrom_below (by omega) (by omega)) (fun _ A A' row hs hg hr => (hg.block D (lt_of_block hs) (fun e => by have := (hr D e.symm).1; omega)).trans hs)))))
              (fun _ => ownFrom_pure _ _)
              ⟨List.nil_prefix, bN2, KpN.refl _ _, Below.refl _ _, hK2⟩ ?a2_2 ?assign2_2 ?body2_2 ?done2_2 ?stop2_2
            case assign2_2 =>
              intro l y W K hK
              gi_wp2
              exact hK
            case body2_2 =>
              rintro l pre y U ⟨hpre, hbx2, hkU, hBU, hKU⟩ hlN
              have cN := hbx2.cell
              have fN := hbx2.frozen
              have cL' := hkU.cell cW2 (by show W3.heap.size ≠ W.heap.size + 1; omega)
              have cO' := hkU.cell cO2 (by show W.heap.size ≠ W.heap.size + 1; omega)
              have cR' := hkU.cell cR2 (by show w.heap.size + 1 ≠ W.heap.size + 1; omega)
              have fR' := hkU.frozen cR2 fR2 (by show w.heap.size + 1 ≠ W.heap.size + 1; omega)
              have HKU : Hid (U.heap[D]? = some (.deferred (some []))) := hKU
              clear hKU
              obtain ⟨gl, e0, hgb, hgc⟩ := HR2.out (by omega)
              have hget := numTo_get F pre.length hlN
              have r1 := hkU.cell (hgc pre.length hlN) (by show gl ≠ W.heap.size + 1; omega)
              subst e0
              by_cases e1 : y.1 = pre.length
              · have t1 : ((y.1 : Int) != (pre.length : Int)) = false := by simp [e1]
                by_cases e2 : y.2 = F[pre.length]
                · have hon : Hid (pre ++ [y] <+: numTo F F.length) := prefix_on hpre (by rw [hget, ← e2, ← e1])
                  have hset := hbx2.set (.int .i64 ((pre.length : Int) + 1))
                  have hbl : Below (W.heap.size + 1) V2 (U.setCell ⟨W.heap.size + 1, 0, none⟩ (.int .i64 ((pre.length : Int) + 1))) := hBU.setCell (p := ⟨W.heap.size + 1, 0, none⟩) (Nat.le_refl _) _
                  have hkp : KpN (W.heap.size + 1) V2 (U.setCell ⟨W.heap.size + 1, 0, none⟩ (.int .i64 ((pre.length : Int) + 1))) := hkU.trans (KpN.set _ _ _)
                  rw [← e2] at r1
                  generalize (⟨y.2.toArray⟩ : ByteArray) = f at *
                  have hf : (f.toList == f.toList) = true := by simp
                  clear hget e1 e2 hgc HR2
                  gi_wp2
                  exact ⟨(KeepsOthers.setCell _ _ _).from _, KpN.set _ _ _, hon.out, by simpa using hset, hkp, hbl, (Below.heap_setCell _ _ _ D (by show D ≠ W.heap.size + 1; omega)).trans HKU.out⟩
                · have hno : Hid (¬ (pre ++ [y] <+: numTo F F.length)) := prefix_not (by rw [hget]; intro h; cases h; exact e2 rfl)
                  have hf : ((⟨y.2.toArray⟩ : ByteArray).toList == (⟨F[pre.length].toArray⟩ : ByteArray).toList) = false := by rw [toList_mk, toList_mk, beq_eq_false_iff_ne]; exact e2
                  generalize (⟨y.2.toArray⟩ : ByteArray) = f at *
                  generalize (⟨F[pre.length].toArray⟩ : ByteArray) = g at *
                  clear hget e1 e2 hgc HR2
                  gi_wp2
                  exact ⟨(KeepsOthers.setCell _ _ _).from _, hno.out⟩
              · have t1 : ((y.1 : Int) != (pre.length : Int)) = true := by simp; omega
                have hno : Hid (¬ (pre ++ [y] <+: numTo F F.length)) := prefix_not (by rw [hget]; intro h; cases h; exact e1 rfl)
                clear hget e1 hgc HR2
                gi_wp2
                exact ⟨(KeepsOthers.setCell _ _ _).from _, hno.out⟩
            case stop2_2 =>
              rintro D2 c pre U hD2 hSp hIx hK3
              exact absurd hSp hIx
            case done2_2 =>
              rintro D2 ys U hD2 rfl ⟨_, hbx2, hkU, hBU, hKU⟩ hK3
              have cN := hbx2.cell
              rw [numTo_length] at cN
              have hmm2 : ((F.length : Int) != (F.length : Int)) = false := by simp
              have cL3 := hkU.cell cW2 (by show W3.heap.size ≠ W.heap.size + 1; omega)
              have cO3 := hkU.cell cO2 (by show W.heap.size ≠ W.heap.size + 1; omega)
              have cR3 := hkU.cell cR2 (by show w.heap.size + 1 ≠ W.heap.size + 1; omega)
              have fR3 := hkU.frozen cR2 fR2 (by show w.heap.size + 1 ≠ W.heap.size + 1; omega)
              have cS3 := hkU.cell cS2 (by show w.heap.size ≠ W.heap.size + 1; omega)
              have hDU := lt_of_block hKU
              have hDU2 := lt_of_block hK3
              have HKU : Hid (U.heap[D]? = some (.deferred (some []))) := hKU
              have HKU2 : Hid (U.heap[D2]? = some (.deferred (some []))) := hK3
              have sU := hBU.size
              have bU : Below w.heap.size w U := bV2.trans (hBU.mono (by omega))
              clear hKU hK3 HR2 hkU hBU
              gi_wp2_with fail
              rw [roundsIn_succ]
              gi_wp2_with fail
              have bU1 : Below w.heap.size w (U.alloc (.cells #[.int .i64 2] 3)) := bU.alloc bU.size _
              refine ⟨trivial, (callsIn_wide.2 (awake_calls _ (HM.out.below bU1))).mono ?_⟩
              rintro e w6 ⟨rfl, hb6⟩
              have J6 : Below U.heap.size U w6 := ((Below.refl _ U).alloc (Nat.le_refl _) _).trans (hb6.mono (by simp))
              have cR6 := (J6.cell (p := ⟨w.heap.size + 1, 0, none⟩) (cell_lt cR3)).trans cR3
              have fR6 := (J6.frozen (p := ⟨w.heap.size + 1, 0, none⟩) (cell_lt cR3)).trans fR3
              have hKa := (J6.block D hDU).trans HKU.out
              have hKb := (J6.block D2 hDU2).trans HKU2.out
              have hW6 : Below w.heap.size w w6 := bU.trans (J6.mono bU.size)
              have hDne : D ≠ D2 := by omega
              clear hb6 J6 bU1
              gi_wp2
              have hKb' : (w6.setCell ⟨w.heap.size + 1, 0, none⟩ (.bool true)).heap[D2]? = some (.deferred (some [])) := (Below.heap_setCell _ _ _ D2 (by show D2 ≠ w.heap.size + 1; omega)).trans hKb
              have hKa' : ((w6.setCell ⟨w.heap.size + 1, 0, none⟩ (.bool true)).putObj D2 (.deferred none)).heap[D]? = some (.deferred (some [])) := (World.putObj_heap_other hDne).trans ((Below.heap_setCell _ _ _ D (by show D ≠ w.heap.size + 1; omega)).trans hKa)
              refine ⟨by simp, .inl ⟨_, _, rfl, run_takeDeferred hKb', ?_⟩⟩
              refine ⟨by simp, .inl ⟨_, _, rfl, run_takeDeferred hKa', ?_⟩⟩
              have hc9 : (((w6.setCell ⟨w.heap.size + 1, 0, none⟩ (.bool true)).putObj D2 (.deferred none)).putObj D (.deferred none)).cell? ⟨w.heap.size + 1, 0, none⟩ = some (.bool true) := by
                rw [World.cell?_of_block (w := (w6.setCell ⟨w.heap.size + 1, 0, none⟩ (.bool true)).putObj D2 (.deferred none)) (a := ⟨w.heap.size + 1, 0, none⟩) (World.putObj_heap_other (by show w.heap.size + 1 ≠ D; omega)), World.cell?_of_block (w := w6.setCell ⟨w.heap.size + 1, 0, none⟩ (.bool true)) (a := ⟨w.heap.size + 1, 0, none⟩) (World.putObj_heap_other (by show w.heap.size + 1 ≠ D2; omega))]
                exact cs_same cR6
              refine ⟨.bool true, by simp [results, Try.f3, go_sem, hc9], rfl, ?_⟩
              have z1 := lt_of_block hKb'
              have z2 := lt_of_block hKa'
              exact (((hW6.setCell (p := ⟨w.heap.size + 1, 0, none⟩) (by simp) _).grown (grownBy_putObj' _ D2 _) (by omega) (fun k e => by cases e; omega)).grown (grownBy_putObj' _ D _) (by omega) (fun k e => by cases e; omega))
  · have hl0 : F.length = 0 := by rw [HNO.out hz]; rfl
    obtain rfl : c1 = 41 := by rw [HC1.out, if_pos hl0]
    obtain rfl : c2 = 41 := by rw [HC2.out, if_pos hl0]
    have HL0 : Hid (F.length = 0) := hl0
    have hne : ((F.length : Int) != 0) = false := by rw [hl0]; rfl
    obtain ⟨a4, ha4⟩ : ∃ a4 : Option Addr, a4 = none := ⟨_, rfl⟩
    obtain ⟨k4, hk4⟩ : ∃ k4 : Nat, k4 = 0 := ⟨_, rfl⟩
    obtain ⟨X, hX⟩ : ∃ X, W3.alloc (.cells #[.slice none 0 0] 23) = X := ⟨_, rfl⟩
    have zX : X.heap.size = W3.heap.size + 1 := by rw [← hX]; simp
    have b3X : Below W3.heap.size W3 X := by rw [← hX]; exact (Below.refl _ W3).alloc (Nat.le_refl _) _
    have HBX : Hid (Below w.heap.size w X) := b3.trans (b3X.mono (by omega))
    have cW : X.cell? ⟨W3.heap.size, 0, none⟩ = some (.slice a4 F.length k4) := by rw [← hX, ha4, hk4, hl0]; simp
    have cS := (b3X.cell (p := ⟨w.heap.size, 0, none⟩) (by show w.heap.size < _; omega)).trans cS3
    have cR := (b3X.cell (p := ⟨w.heap.size + 1, 0, none⟩) (by show w.heap.size + 1 < _; omega)).trans cR3
    have fR := (b3X.frozen (p := ⟨w.heap.size + 1, 0, none⟩) (by show w.heap.size + 1 < _; omega)).trans fR3
    have O1 : OwnT W0.heap.size X (.slice a1 F.length k1) F := owns_below HO1.out b3X
    have O2 : OwnT W1.heap.size X (.slice a2 F.length k2) F := owns_below HO2.out b3X
    have OW : OwnT (W3.heap.size + 1) X (.slice a4 F.length k4) F := by rw [ha4, hk4, HNO.out hz]; exact World.ownsRow_nil _ _ _ _
    have zX6 : W3.heap.size < X.heap.size := by omega
    clear HO1 HO2 cS3 cR3 fR3 hl0 ha4 hk4 b3X
    have HO1 : Hid (OwnT W0.heap.size X (.slice a1 F.length k1) F) := O1
    have HO2 : Hid (OwnT W1.heap.size X (.slice a2 F.length k2) F) := O2
    have HOW : Hid (OwnT (W3.heap.size + 1) X (.slice a4 F.length k4) F) := OW
    clear O1 O2 OW
    by_cases hz0 : z < 0
    · clear hz
      gi_wp2_with fail
      clear hX
      gi_loopw [13, 69] (fun _ i wr => ∃ k : Nat, k ≤ F.length ∧ i = .int .i64 k ∧ Hid (∃ ys, wr.ownsRow W0.heap.size 9 1 (.slice a1 F.length k1) F.length ys) ∧ Hid (X.grownBy wr (Value.slice a1 F.length k1).ownBlock)) (fun _ i _ => F.length - (intOf i).toNat)
      case atStart => exact ⟨0, by omega, rfl, ⟨_, HO1.out⟩, World.grownBy.refl _ _⟩
      case round =>
        obtain ⟨k, hk, rfl, hR, hG⟩ := hrel
        by_cases hlt : k < F.length
        · obtain ⟨ys, hys⟩ := hR.out
          obtain ⟨g, rfl⟩ : ∃ g, a1 = some ⟨g, 0, none⟩ := by
            rcases hys.2 with ⟨e, _⟩ | ⟨g, cap', cur, e, _⟩
            · simp only [Value.slice.injEq] at e; omega
            · simp only [Value.slice.injEq] at e; exact ⟨g, e.1⟩
          have hyl : k < ys.length := by rw [hys.1]; omega
          have hc : wr.cell? ⟨g, k, none⟩ = some ys[k] := by rw [World.ownsRow.cellAt hys k (by omega)]; simp [hyl]
          have hf := World.ownsRow.frozenAt hys k
          have HST : Hid ((∃ ys, (wr.setCell ⟨g, k, none⟩ (.string ⟨#[115, 112, 111, 105, 108, 116]⟩)).ownsRow W0.heap.size 9 1 (.slice (some ⟨g, 0, none⟩) F.length k1) F.length ys) ∧ X.grownBy (wr.setCell ⟨g, k, none⟩ (.string ⟨#[115, 112, 111, 105, 108, 116]⟩)) (Value.slice (some ⟨g, 0, none⟩) F.length k1).ownBlock) := ⟨⟨_, (World.ownsRow.stored hys k _).1⟩, grown_trans hG.out (World.ownsRow.stored hys k _).2⟩
          clear hys
          gi_wp2
          go_roundw
          case rel => exact ⟨k + 1, by omega, by go_num, HST.out.1, HST.out.2⟩
          case measure => simp [intOf]; omega
        · obtain rfl : k = F.length := by omega
          have hnb : ∀ j, (j < W0.heap.size ∨ W1.heap.size ≤ j) → some j ≠ (Value.slice a1 F.length k1).ownBlock := fun j hj e => by have := HL1.out j e.symm; omega
          have cell' : ∀ j u, (j < W0.heap.size ∨ W1.heap.size ≤ j) → X.cell? ⟨j, 0, none⟩ = some u → wr.cell? ⟨j, 0, none⟩ = some u := fun j u hj h => (World.cell?_of_block (w := X) (a := ⟨j, 0, none⟩) (hG.out.block j (cell_lt h) (hnb j hj))).trans h
          have cW2 := cell' W3.heap.size _ (.inr (by omega)) cW
          have cS2 := cell' w.heap.size _ (.inl (by omega)) cS
          have cR2 := cell' (w.heap.size + 1) _ (.inl (by omega)) cR
          have fR2 : wr.frozen? ⟨w.heap.size + 1, 0, none⟩ = false := by
            have e := hG.out.block (w.heap.size + 1) (cell_lt cR) (hnb (w.heap.size + 1) (.inl (by omega)))
            have h := fR
            unfold World.frozen? at h ⊢
            rw [show wr.heap[(⟨w.heap.size + 1, 0, none⟩ : Addr).block]? = X.heap[(⟨w.heap.size + 1, 0, none⟩ : Addr).block]? from e]
            exact h
          have O2r : OwnT W1.heap.size wr (.slice a2 F.length k2) F := World.ownsRow.kept HO2.out hG.out (by cases e : (Value.slice a2 F.length k2).ownBlock with | none => exact .inl rfl | some j => exact .inr (hnb j (.inr (HO2.out.lt j e).1)))
          have OWr : OwnT (W3.heap.size + 1) wr (.slice a4 F.length k4) F := World.ownsRow.kept HOW.out hG.out (by cases e : (Value.slice a4 F.length k4).ownBlock with | none => exact .inl rfl | some j => exact .inr (hnb j (.inr (by have := (HOW.out.lt j e).1; omega))))
          have bR : Below w.heap.size w wr := HBX.out.grown hG.out HBX.out.size (fun j hj => by have := (HL1.out j hj).1; omega)
          clear hnb cell'
          gi_wp2_with fail
          refine ⟨trivial, (callsIn_wide.2 (same_ff F _ _ wr (by omega) (HasT.of O2r) (HasT.of OWr))).mono ?_⟩
          rintro e Y ⟨rfl, hBY⟩
          gi_wp2_with fail
          have sR := bR.size
          have sY := hBY.size
          have hcl : W3.heap.size < wr.heap.size := cell_lt cW2
          have cWY := (hBY.cell (p := ⟨W3.heap.size, 0, none⟩) hcl).trans cW2
          have cSY := (hBY.cell (p := ⟨w.heap.size, 0, none⟩) (by show w.heap.size < _; omega)).trans cS2
          have cRY := (hBY.cell (p := ⟨w.heap.size + 1, 0, none⟩) (by show w.heap.size + 1 < _; omega)).trans cR2
          have fRY : Y.frozen? ⟨w.heap.size + 1, 0, none⟩ = false := (hBY.frozen (p := ⟨w.heap.size + 1, 0, none⟩) (by show w.heap.size + 1 < _; omega)).trans fR2
          have bY : Below w.heap.size w Y := bR.trans (hBY.mono sR)
          have OWY : OwnT (W3.heap.size + 1) Y (.slice a4 F.length k4) F := owns_below OWr hBY
          have HOY : Hid (OwnT (W3.heap.size + 1) Y (.slice a4 F.length k4) F) := OWY
          clear O2r OWr bR hBY cW2 cS2 cR2 fR2 hR hG HO1 HO2 HOW HBX cW cS cR fR OWY
          refine wpIn_loop_rounds 3 ?_
          rw [roundsIn_succ]
          gi_wp2_with fail
          refine ⟨trivial, (callsIn_wide.2 (HAL.out _)).mono ?_⟩
          rintro e V ⟨B, v, rfl, hcB, hBge, hOv, hBV⟩
          gi_wp2_with fail
          have sV := hBV.size
          simp only [World.size_alloc] at hBge hOv sV
          have kV : KpN (Y.heap.size + 1) Y V := (KpN.of_below (((Below.refl _ Y).alloc (Nat.le_refl _) _).alloc (by simp) _)).trans (KpN.of_below hBV)
          have bV : Below w.heap.size w V := ((bY.alloc bY.size _).alloc (by have := bY.size; simp; omega) _).trans (hBV.mono (by have := bY.size; simp; omega))
          have cO : V.cell? ⟨Y.heap.size, 0, none⟩ = some (.int .i64 0) := (hBV.cell (p := ⟨Y.heap.size, 0, none⟩) (by simp; omega)).trans (by simp)
          have bN : Boxed V (Y.heap.size + 1) 3 (.int .i64 0) := (hBV.block (Y.heap.size + 1) (by simp)).trans (by have := Boxed.new (Y.alloc (.cells #[.int .i64 0] 3)) 3 (.int .i64 0); rwa [World.size_alloc] at this)
          have hlY := cell_lt cWY
          simp only at hlY
          clear hBV
          refine wpIn_rangeFunc_ownG rfl (by omega) (gf := 25) (lb := #[.pointer (some ⟨B, 0, none⟩)]) rfl trivial (enters_of Try.func25 (by kernel_rfl) rfl)
            (all_stops _ (by omega) B v F (by omega) (KpN (Y.heap.size + 1)) V (HasT.of hOv) hcB (fun b cap e A B' hk j u hu => KpN.cell hk hu (by show b ≠ Y.heap.size + 1; have := (hOv.lt b (by rw [e]; rfl)).1; omega)))
            KpN.trans (fun W l o o' h1 h2 h3 h4 => KpN.book W l o o' h1 h2 h3 h4) (Below.refl _ _) (fun _ => rfl)
            (fun (pre : List (Nat × List UInt8)) W => (pre <+: numTo F F.length) ∧ Boxed W (Y.heap.size + 1) 3 (.int .i64 (pre.length : Int)) ∧ KpN (Y.heap.size + 1) V W ∧ Below (Y.heap.size + 1) V W)
            (fun c (pre : List (Nat × List UInt8)) W => ¬ (pre <+: numTo F F.length) ∨ c = .exit 4 ∧ Boxed W (Y.heap.size + 1) 3 (.int .i64 x) ∧ KpN (Y.heap.size + 1) V W ∧ Below (Y.heap.size + 1) V W)
            (OwnFrom.and (ownFrom_pure _ _) (OwnFrom.and (Own.from (boxed_own _ _ _) _) (OwnFrom.and (KpN.own _ _ _) (ownFrom_below (by omega) (by omega)))))
            (fun c s A A' row hs hg hr => hs.elim .inl (fun hs => .inr ⟨hs.1, Own.from (boxed_own (β := Unit) _ _ (fun _ => .int .i64 x)) V.heap.size () A A' row hs.2.1 hg hr, KpN.own (β := Unit) _ V.heap.size _ () A A' row hs.2.2.1 hg hr, ownFrom_below (β := Unit) (B := V.heap.size) (by omega) (by omega) () A A' row hs.2.2.2 hg hr⟩))
            ⟨List.nil_prefix, bN, KpN.refl _ _, Below.refl _ _⟩ ?a1_c1 ?assign_c1 ?body_c1 ?done_c1 ?stop_c1
          case assign_c1 =>
            intro l y W K hK
            gi_wp2
            exact hK
          case body_c1 =>
            rintro l pre y W ⟨hpre, hbx, hkW, hBW⟩ hlN
            have cN := hbx.cell
            have fN := hbx.frozen
            have cL' := (kV.trans hkW).cell cWY (by show W3.heap.size ≠ Y.heap.size + 1; omega)
            have cO' := hkW.cell cO (by show Y.heap.size ≠ Y.heap.size + 1; omega)
            have cS' := (kV.trans hkW).cell cSY (by show w.heap.size ≠ Y.heap.size + 1; omega)
            have cR' := (kV.trans hkW).cell cRY (by show w.heap.size + 1 ≠ Y.heap.size + 1; omega)
            have fR' := (kV.trans hkW).frozen cRY fRY (by show w.heap.size + 1 ≠ Y.heap.size + 1; omega)
            have hpl := pre.length
            by_cases hn : pre.length < F.length
            · have hget := numTo_get F pre.length hn
              obtain ⟨gl, e0, hgb, hgl, hgc⟩ := (HasT.of HOY.out).at (by omega)
              have r1 := (kV.trans hkW).cell (hgc pre.length hn) (by show gl ≠ Y.heap.size + 1; omega)
              subst e0
              by_cases e1 : y.1 = pre.length
              · have t1 : ((y.1 : Int) != (pre.length : Int)) = false := by simp [e1]
                by_cases e2 : y.2 = F[pre.length]
                · have hon : Hid (pre ++ [y] <+: numTo F F.length) := prefix_on hpre (by rw [hget, ← e2, ← e1])
                  have hset := hbx.set (.int .i64 ((pre.length : Int) + 1))
                  have hbl : Below (Y.heap.size + 1) V (W.setCell ⟨Y.heap.size + 1, 0, none⟩ (.int .i64 ((pre.length : Int) + 1))) := hBW.setCell (p := ⟨Y.heap.size + 1, 0, none⟩) (Nat.le_refl _) _
                  have hkp : KpN (Y.heap.size + 1) V (W.setCell ⟨Y.heap.size + 1, 0, none⟩ (.int .i64 ((pre.length : Int) + 1))) := hkW.trans (KpN.set _ _ _)
                  rw [← e2] at r1
                  generalize (⟨y.2.toArray⟩ : ByteArray) = f at *
                  have hf : (f.toList == f.toList) = true := by simp
                  clear hget e1 e2 hgc
                  by_cases hx : (pre.length : Int) + 1 = x
                  · have hx' : ((pre.length : Int) + 1 == x) = true := by simpa using hx
                    have HX1 : Hid ((pre.length : Int) + 1 = x) := hx
                    clear hx
                    gi_wp2
                    exact ⟨(KeepsOthers.setCell _ _ _).from _, .inr ⟨rfl, by rw [← HX1.out]; exact hset, hkp, hbl⟩⟩
                  · have hx' : ((pre.length : Int) + 1 == x) = false := by simpa using hx
                    clear hx
                    gi_wp2
                    exact ⟨(KeepsOthers.setCell _ _ _).from _, KpN.set _ _ _, hon.out, by simpa using hset, hkp, hbl⟩
                · have hno : Hid (¬ (pre ++ [y] <+: numTo F F.length)) := prefix_not (by rw [hget]; intro h; cases h; exact e2 rfl)
                  have hf : ((⟨y.2.toArray⟩ : ByteArray).toList == (⟨F[pre.length].toArray⟩ : ByteArray).toList) = false := by rw [toList_mk, toList_mk, beq_eq_false_iff_ne]; exact e2
                  generalize (⟨y.2.toArray⟩ : ByteArray) = f at *
                  generalize (⟨F[pre.length].toArray⟩ : ByteArray) = g at *
                  clear hget e1 e2 hgc
                  gi_wp2
                  exact ⟨(KeepsOthers.setCell _ _ _).from _, .inl hno.out⟩
              · have t1 : ((y.1 : Int) != (pre.length : Int)) = true := by simp; omega
                have hno : Hid (¬ (pre ++ [y] <+: numTo F F.length)) := prefix_not (by rw [hget]; intro h; cases h; exact e1 rfl)
                clear hget e1 hgc
                gi_wp2
                exact ⟨(KeepsOthers.setCell _ _ _).from _, .inl hno.out⟩
            · exact absurd hlN hn
          case done_c1 =>
            rintro D ys W hD rfl ⟨_, hbx, hkW, hBW⟩ hK
            have cN := hbx.cell
            rw [numTo_length] at cN
            have hmm : ((F.length : Int) != (F.length : Int)) = false := by simp
            have cL' := (kV.trans hkW).cell cWY (by show W3.heap.size ≠ Y.heap.size + 1; omega)
            have cO' := hkW.cell cO (by show Y.heap.size ≠ Y.heap.size + 1; omega)
            have cS' := (kV.trans hkW).cell cSY (by show w.heap.size ≠ Y.heap.size + 1; omega)
            have hDW := lt_of_block hK
            have sW := hBW.size
            have HK : Hid (W.heap[D]? = some (.deferred (some []))) := hK
            clear hK
            gi_wp2_with fail
            rw [roundsIn_succ]
            gi_wp2_with fail
            refine ⟨trivial, (callsIn_wide.2 (HAL.out _)).mono ?_⟩
            rintro e V2 ⟨B2, v2, rfl, hcB2, hBge2, hOv2, hBV2⟩
            gi_wp2_with fail
            have sV2 := hBV2.size
            simp only [World.size_alloc] at hBge2 hOv2 sV2
            have kV2 : KpN (W.heap.size + 1) W V2 := (KpN.of_below (((Below.refl _ W).alloc (Nat.le_refl _) _).alloc (by simp) _)).trans (KpN.of_below hBV2)
            have bW : Below w.heap.size w W := bV.trans (hBW.mono (by omega))
            have bV2 : Below w.heap.size w V2 := ((bW.alloc bW.size _).alloc (by have := bW.size; simp; omega) _).trans (hBV2.mono (by have := bW.size; simp; omega))
            have cO2 : V2.cell? ⟨W.heap.size, 0, none⟩ = some (.int .i64 1) := (hBV2.cell (p := ⟨W.heap.size, 0, none⟩) (by simp; omega)).trans (by simp)
            have bN2 : Boxed V2 (W.heap.size + 1) 3 (.int .i64 0) := (hBV2.block (W.heap.size + 1) (by simp)).trans (by have := Boxed.new (W.alloc (.cells #[.int .i64 1] 3)) 3 (.int .i64 0); rwa [World.size_alloc] at this)
            have hK2 : V2.heap[D]? = some (.deferred (some [])) := (hBV2.block D (by simp; omega)).trans (((((Below.refl _ W).alloc (Nat.le_refl _) _).alloc (by simp) _).block D hDW).trans HK.out)
            have cW2 := kV2.cell cL' (by show W3.heap.size ≠ W.heap.size + 1; omega)
            have cR2 := kV2.cell ((kV.trans hkW).cell cRY (by show w.heap.size + 1 ≠ Y.heap.size + 1; omega)) (by show w.heap.size + 1 ≠ W.heap.size + 1; omega)
            have fR2 := kV2.frozen ((kV.trans hkW).cell cRY (by show w.heap.size + 1 ≠ Y.heap.size + 1; omega)) ((kV.trans hkW).frozen cRY fRY (by show w.heap.size + 1 ≠ Y.heap.size + 1; omega)) (by show w.heap.size + 1 ≠ W.heap.size + 1; omega)
            have cS2 := kV2.cell cS' (by show w.heap.size ≠ W.heap.size + 1; omega)
            have HR2 : Hid (0 < F.length → ∃ gl, a4 = some ⟨gl, 0, none⟩ ∧ gl < Y.heap.size ∧ ∀ j (h : j < F.length), V2.cell? ⟨gl, j, none⟩ = some (.string ⟨F[j].toArray⟩)) := fun h0 => by
              obtain ⟨gl, e0, hgb, _, hgc⟩ := (HasT.of HOY.out).at h0
              exact ⟨gl, e0, hgb, fun j hj => kV2.cell ((kV.trans hkW).cell (hgc j hj) (by show gl ≠ Y.heap.size + 1; omega)) (by show gl ≠ W.heap.size + 1; omega)⟩
            clear hBV2
            refine wpIn_rangeFunc_ownG rfl (by omega) (gf := 25) (lb := #[.pointer (some ⟨B2, 0, none⟩)]) rfl trivial (enters_of Try.func25 (by kernel_rfl) rfl)
              (all_stops _ (by omega) B2 v2 F (by omega) (KpN (W.heap.size + 1)) V2 (HasT.of hOv2) hcB2 (fun b cap e A B' hk j u hu => KpN.cell hk hu (by show b ≠ W.heap.size + 1; have := (hOv2.lt b (by rw [e]; rfl)).1; omega)))
              KpN.trans (fun W l o o' h1 h2 h3 h4 => KpN.book W l o o' h1 h2 h3 h4) (Below.refl _ _) (fun _ => rfl)
              (fun (pre : List (Nat × List UInt8)) U => (pre <+: numTo F F.length) ∧ Boxed U (W.heap.size + 1) 3 (.int .i64 (pre.length : Int)) ∧ KpN (W.heap.size + 1) V2 U ∧ Below (W.heap.size + 1) V2 U ∧ U.heap[D]? = some (.deferred (some [])))
              (fun _ (pre : List (Nat × List UInt8)) _ => ¬ (pre <+: numTo F F.length))
              (OwnFrom.and (ownFrom_pure _ _) (OwnFrom.and (Own.from (boxed_own _ _ _) _) (OwnFrom.and (KpN.own _ _ _) (OwnFrom.and (ownFrom_below (by omega) (by omega)) (fun _ A A' row hs hg hr => (hg.block D (lt_of_block hs) (fun e => by have := (hr D e.symm).1; omega)).trans hs)))))
              (fun _ => ownFrom_pure _ _)
              ⟨List.nil_prefix, bN2, KpN.refl _ _, Below.refl _ _, hK2⟩ ?a2_3_c1 ?assign2_3_c1 ?body2_3_c1 ?done2_3_c1 ?stop2_3_c1
            case assign2_3_c1 =>
              intro l y W K hK
              gi_wp2
              exact hK
            case body2_3_c1 =>
              rintro l pre y U ⟨hpre, hbx2, hkU, hBU, hKU⟩ hlN
              have cN := hbx2.cell
              have fN := hbx2.frozen
              have cL' := hkU.cell cW2 (by show W3.heap.size ≠ W.heap.size + 1; omega)
              have cO' := hkU.cell cO2 (by show W.heap.size ≠ W.heap.size + 1; omega)
              have cR' := hkU.cell cR2 (by show w.heap.size + 1 ≠ W.heap.size + 1; omega)
              have fR' := hkU.frozen cR2 fR2 (by show w.heap.size + 1 ≠ W.heap.size + 1; omega)
              have HKU : Hid (U.heap[D]? = some (.deferred (some []))) := hKU
              clear hKU
              obtain ⟨gl, e0, hgb, hgc⟩ := HR2.out (by omega)
              have hget := numTo_get F pre.length hlN
              have r1 := hkU.cell (hgc pre.length hlN) (by show gl ≠ W.heap.size + 1; omega)
              subst e0
              by_cases e1 : y.1 = pre.length
              · have t1 : ((y.1 : Int) != (pre.length : Int)) = false := by simp [e1]
                by_cases e2 : y.2 = F[pre.length]
                · have hon : Hid (pre ++ [y] <+: numTo F F.length) := prefix_on hpre (by rw [hget, ← e2, ← e1])
                  have hset := hbx2.set (.int .i64 ((pre.length : Int) + 1))
                  have hbl : Below (W.heap.size + 1) V2 (U.setCell ⟨W.heap.size + 1, 0, none⟩ (.int .i64 ((pre.length : Int) + 1))) := hBU.setCell (p := ⟨W.heap.size + 1, 0, none⟩) (Nat.le_refl _) _
                  have hkp : KpN (W.heap.size + 1) V2 (U.setCell ⟨W.heap.size + 1, 0, none⟩ (.int .i64 ((pre.length : Int) + 1))) := hkU.trans (KpN.set _ _ _)
                  rw [← e2] at r1
                  generalize (⟨y.2.toArray⟩ : ByteArray) = f at *
                  have hf : (f.toList == f.toList) = true := by simp
                  clear hget e1 e2 hgc HR2
                  gi_wp2
                  exact ⟨(KeepsOthers.setCell _ _ _).from _, KpN.set _ _ _, hon.out, by simpa using hset, hkp, hbl, (Below.heap_setCell _ _ _ D (by show D ≠ W.heap.size + 1; omega)).trans HKU.out⟩
                · have hno : Hid (¬ (pre ++ [y] <+: numTo F F.length)) := prefix_not (by rw [hget]; intro h; cases h; exact e2 rfl)
                  have hf : ((⟨y.2.toArray⟩ : ByteArray).toList == (⟨F[pre.length].toArray⟩ : ByteArray).toList) = false := by rw [toList_mk, toList_mk, beq_eq_false_iff_ne]; exact e2
                  generalize (⟨y.2.toArray⟩ : ByteArray) = f at *
                  generalize (⟨F[pre.length].toArray⟩ : ByteArray) = g at *
                  clear hget e1 e2 hgc HR2
                  gi_wp2
                  exact ⟨(KeepsOthers.setCell _ _ _).from _, hno.out⟩
              · have t1 : ((y.1 : Int) != (pre.length : Int)) = true := by simp; omega
                have hno : Hid (¬ (pre ++ [y] <+: numTo F F.length)) := prefix_not (by rw [hget]; intro h; cases h; exact e1 rfl)
                clear hget e1 hgc HR2
                gi_wp2
                exact ⟨(KeepsOthers.setCell _ _ _).from _, hno.out⟩
            case stop2_3_c1 =>
              rintro D2 c pre U hD2 hSp hIx hK3
              exact absurd hSp hIx
            case done2_3_c1 =>
              rintro D2 ys U hD2 rfl ⟨_, hbx2, hkU, hBU, hKU⟩ hK3
              have cN := hbx2.cell
              rw [numTo_length] at cN
              have hmm2 : ((F.length : Int) != (F.length : Int)) = false := by simp
              have cL3 := hkU.cell cW2 (by show W3.heap.size ≠ W.heap.size + 1; omega)
              have cO3 := hkU.cell cO2 (by show W.heap.size ≠ W.heap.size + 1; omega)
              have cR3 := hkU.cell cR2 (by show w.heap.size + 1 ≠ W.heap.size + 1; omega)
              have fR3 := hkU.frozen cR2 fR2 (by show w.heap.size + 1 ≠ W.heap.size + 1; omega)
              have cS3 := hkU.cell cS2 (by show w.heap.size ≠ W.heap.size + 1; omega)
              have hDU := lt_of_block hKU
              have hDU2 := lt_of_block hK3
              have HKU : Hid (U.heap[D]? = some (.deferred (some []))) := hKU
              have HKU2 : Hid (U.heap[D2]? = some (.deferred (some []))) := hK3
              have sU := hBU.size
              have bU : Below w.heap.size w U := bV2.trans (hBU.mono (by omega))
              clear hKU hK3 HR2 hkU hBU
              gi_wp2_with fail
              rw [roundsIn_succ]
              gi_wp2_with fail
              have bU1 : Below w.heap.size w (U.alloc (.cells #[.int .i64 2] 3)) := bU.alloc bU.size _
              refine ⟨trivial, (callsIn_wide.2 (awake_calls _ (HM.out.below bU1))).mono ?_⟩
              rintro e w6 ⟨rfl, hb6⟩
              have J6 : Below U.heap.size U w6 := ((Below.refl _ U).alloc (Nat.le_refl _) _).trans (hb6.mono (by simp))
              have cR6 := (J6.cell (p := ⟨w.heap.size + 1, 0, none⟩) (cell_lt cR3)).trans cR3
              have fR6 := (J6.frozen (p := ⟨w.heap.size + 1, 0, none⟩) (cell_lt cR3)).trans fR3
              have hKa := (J6.block D hDU).trans HKU.out
              have hKb := (J6.block D2 hDU2).trans HKU2.out
              have hW6 : Below w.heap.size w w6 := bU.trans (J6.mono bU.size)
              have hDne : D ≠ D2 := by omega
              clear hb6 J6 bU1
              gi_wp2
              have hKb' : (w6.setCell ⟨w.heap.size + 1, 0, none⟩ (.bool true)).heap[D2]? = some (.deferred (some [])) := (Below.heap_setCell _ _ _ D2 (by show D2 ≠ w.heap.size + 1; omega)).trans hKb
              have hKa' : ((w6.setCell ⟨w.heap.size + 1, 0, none⟩ (.bool true)).putObj D2 (.deferred none)).heap[D]? = some (.deferred (some [])) := (World.putObj_heap_other hDne).trans ((Below.heap_setCell _ _ _ D (by show D ≠ w.heap.size + 1; omega)).trans hKa)
              refine ⟨by simp, .inl ⟨_, _, rfl, run_takeDeferred hKb', ?_⟩⟩
              refine ⟨by simp, .inl ⟨_, _, rfl, run_takeDeferred hKa', ?_⟩⟩
              have hc9 : (((w6.setCell ⟨w.heap.size + 1, 0, none⟩ (.bool true)).putObj D2 (.deferred none)).putObj D (.deferred none)).cell? ⟨w.heap.size + 1, 0, none⟩ = some (.bool true) := by
                rw [World.cell?_of_block (w := (w6.setCell ⟨w.heap.size + 1, 0, none⟩ (.bool true)).putObj D2 (.deferred none)) (a := ⟨w.heap.size + 1, 0, none⟩) (World.putObj_heap_other (by show w.heap.size + 1 ≠ D; omega)), World.cell?_of_block (w := w6.setCell ⟨w.heap.size + 1, 0, none⟩ (.bool true)) (a := ⟨w.heap.size + 1, 0, none⟩) (World.putObj_heap_other (by show w.heap.size + 1 ≠ D2; omega))]
                exact cs_same cR6
              refine ⟨.bool true, by simp [results, Try.f3, go_sem, hc9], rfl, ?_⟩
              have z1 := lt_of_block hKb'
              have z2 := lt_of_block hKa'
              exact (((hW6.setCell (p := ⟨w.heap.size + 1, 0, none⟩) (by simp) _).grown (grownBy_putObj' _ D2 _) (by omega) (fun k e => by cases e; omega)).grown (grownBy_putObj' _ D _) (by omega) (fun k e => by cases e; omega))
          case stop_c1 =>
            rintro D c pre W hD hSp hIx hK
            obtain ⟨rfl, hbx, hkW, hBW⟩ := hIx.resolve_left (fun h => h hSp)
            have cN := hbx.cell
            have hxx : (x != x) = false := by simp
            by_cases hmx : x = (F.length : Int)
            · have hmm : (x != (F.length : Int)) = false := by simp [hmx]
              clear hmx
              have cL' := (kV.trans hkW).cell cWY (by show W3.heap.size ≠ Y.heap.size + 1; omega)
              have cO' := hkW.cell cO (by show Y.heap.size ≠ Y.heap.size + 1; omega)
              have cS' := (kV.trans hkW).cell cSY (by show w.heap.size ≠ Y.heap.size + 1; omega)
              have hDW := lt_of_block hK
              have sW := hBW.size
              have HK : Hid (W.heap[D]? = some (.deferred (some []))) := hK
              clear hK
              gi_wp2_with fail
              rw [roundsIn_succ]
              gi_wp2_with fail
              refine ⟨trivial, (callsIn_wide.2 (HAL.out _)).mono ?_⟩
              rintro e V2 ⟨B2, v2, rfl, hcB2, hBge2, hOv2, hBV2⟩
              gi_wp2_with fail
              have sV2 := hBV2.size
              simp only [World.size_alloc] at hBge2 hOv2 sV2
              have kV2 : KpN (W.heap.size + 1) W V2 := (KpN.of_below (((Below.refl _ W).alloc (Nat.le_refl _) _).alloc (by simp) _)).trans (KpN.of_below hBV2)
              have bW : Below w.heap.size w W := bV.trans (hBW.mono (by omega))
              have bV2 : Below w.heap.size w V2 := ((bW.alloc bW.size _).alloc (by have := bW.size; simp; omega) _).trans (hBV2.mono (by have := bW.size; simp; omega))
              have cO2 : V2.cell? ⟨W.heap.size, 0, none⟩ = some (.int .i64 1) := (hBV2.cell (p := ⟨W.heap.size, 0, none⟩) (by simp; omega)).trans (by simp)
              have bN2 : Boxed V2 (W.heap.size + 1) 3 (.int .i64 0) := (hBV2.block (W.heap.size + 1) (by simp)).trans (by have := Boxed.new (W.alloc (.cells #[.int .i64 1] 3)) 3 (.int .i64 0); rwa [World.size_alloc] at this)
              have hK2 : V2.heap[D]? = some (.deferred (some [])) := (hBV2.block D (by simp; omega)).trans (((((Below.refl _ W).alloc (Nat.le_refl _) _).alloc (by simp) _).block D hDW).trans HK.out)
              have cW2 := kV2.cell cL' (by show W3.heap.size ≠ W.heap.size + 1; omega)
              have cR2 := kV2.cell ((kV.trans hkW).cell cRY (by show w.heap.size + 1 ≠ Y.heap.size + 1; omega)) (by show w.heap.size + 1 ≠ W.heap.size + 1; omega)
              have fR2 := kV2.frozen ((kV.trans hkW).cell cRY (by show w.heap.size + 1 ≠ Y.heap.size + 1; omega)) ((kV.trans hkW).frozen cRY fRY (by show w.heap.size + 1 ≠ Y.heap.size + 1; omega)) (by show w.heap.size + 1 ≠ W.heap.size + 1; omega)
              have cS2 := kV2.cell cS' (by show w.heap.size ≠ W.heap.size + 1; omega)
              have HR2 : Hid (0 < F.length → ∃ gl, a4 = some ⟨gl, 0, none⟩ ∧ gl < Y.heap.size ∧ ∀ j (h : j < F.length), V2.cell? ⟨gl, j, none⟩ = some (.string ⟨F[j].toArray⟩)) := fun h0 => by
                obtain ⟨gl, e0, hgb, _, hgc⟩ := (HasT.of HOY.out).at h0
                exact ⟨gl, e0, hgb, fun j hj => kV2.cell ((kV.trans hkW).cell (hgc j hj) (by show gl ≠ Y.heap.size + 1; omega)) (by show gl ≠ W.heap.size + 1; omega)⟩
              clear hBV2
              refine wpIn_rangeFunc_ownG rfl (by omega) (gf := 25) (lb := #[.pointer (some ⟨B2, 0, none⟩)]) rfl trivial (enters_of Try.func25 (by kernel_rfl) rfl)
                (all_stops _ (by omega) B2 v2 F (by omega) (KpN (W.heap.size + 1)) V2 (HasT.of hOv2) hcB2 (fun b cap e A B' hk j u hu => KpN.cell hk hu (by show b ≠ W.heap.size + 1; have := (hOv2.lt b (by rw [e]; rfl)).1; omega)))
                KpN.trans (fun W l o o' h1 h2 h3 h4 => KpN.book W l o o' h1 h2 h3 h4) (Below.refl _ _) (fun _ => rfl)
                (fun (pre : List (Nat × List UInt8)) U => (pre <+: numTo F F.length) ∧ Boxed U (W.heap.size + 1) 3 (.int .i64 (pre.length : Int)) ∧ KpN (W.heap.size + 1) V2 U ∧ Below (W.heap.size + 1) V2 U ∧ U.heap[D]? = some (.deferred (some [])))
                (fun _ (pre : List (Nat × List UInt8)) _ => ¬ (pre <+: numTo F F.length))
                (OwnFrom.and (ownFrom_pure _ _) (OwnFrom.and (Own.from (boxed_own _ _ _) _) (OwnFrom.and (KpN.own _ _ _) (OwnFrom.and (ownFrom_below (by omega) (by omega)) (fun _ A A' row hs hg hr => (hg.block D (lt_of_block hs) (fun e => by have := (hr D e.symm).1; omega)).trans hs)))))
                (fun _ => ownFrom_pure _ _)
                ⟨List.nil_prefix, bN2, KpN.refl _ _, Below.refl _ _, hK2⟩ ?a2_1_c1 ?assign2_1_c1 ?body2_1_c1 ?done2_1_c1 ?stop2_1_c1
              case assign2_1_c1 =>
                intro l y W K hK
                gi_wp2
                exact hK
              case body2_1_c1 =>
                rintro l pre y U ⟨hpre, hbx2, hkU, hBU, hKU⟩ hlN
                have cN := hbx2.cell
                have fN := hbx2.frozen
                have cL' := hkU.cell cW2 (by show W3.heap.size ≠ W.heap.size + 1; omega)
                have cO' := hkU.cell cO2 (by show W.heap.size ≠ W.heap.size + 1; omega)
                have cR' := hkU.cell cR2 (by show w.heap.size + 1 ≠ W.heap.size + 1; omega)
                have fR' := hkU.frozen cR2 fR2 (by show w.heap.size + 1 ≠ W.heap.size + 1; omega)
                have HKU : Hid (U.heap[D]? = some (.deferred (some []))) := hKU
                clear hKU
                obtain ⟨gl, e0, hgb, hgc⟩ := HR2.out (by omega)
                have hget := numTo_get F pre.length hlN
                have r1 := hkU.cell (hgc pre.length hlN) (by show gl ≠ W.heap.size + 1; omega)
                subst e0
                by_cases e1 : y.1 = pre.length
                · have t1 : ((y.1 : Int) != (pre.length : Int)) = false := by simp [e1]
                  by_cases e2 : y.2 = F[pre.length]
                  · have hon : Hid (pre ++ [y] <+: numTo F F.length) := prefix_on hpre (by rw [hget, ← e2, ← e1])
                    have hset := hbx2.set (.int .i64 ((pre.length : Int) + 1))
                    have hbl : Below (W.heap.size + 1) V2 (U.setCell ⟨W.heap.size + 1, 0, none⟩ (.int .i64 ((pre.length : Int) + 1))) := hBU.setCell (p := ⟨W.heap.size + 1, 0, none⟩) (Nat.le_refl _) _
                    have hkp : KpN (W.heap.size + 1) V2 (U.setCell ⟨W.heap.size + 1, 0, none⟩ (.int .i64 ((pre.length : Int) + 1))) := hkU.trans (KpN.set _ _ _)
                    rw [← e2] at r1
                    generalize (⟨y.2.toArray⟩ : ByteArray) = f at *
                    have hf : (f.toList == f.toList) = true := by simp
                    clear hget e1 e2 hgc HR2
                    gi_wp2
                    exact ⟨(KeepsOthers.setCell _ _ _).from _, KpN.set _ _ _, hon.out, by simpa using hset, hkp, hbl, (Below.heap_setCell _ _ _ D (by show D ≠ W.heap.size + 1; omega)).trans HKU.out⟩
                  · have hno : Hid (¬ (pre ++ [y] <+: numTo F F.length)) := prefix_not (by rw [hget]; intro h; cases h; exact e2 rfl)
                    have hf : ((⟨y.2.toArray⟩ : ByteArray).toList == (⟨F[pre.length].toArray⟩ : ByteArray).toList) = false := by rw [toList_mk, toList_mk, beq_eq_false_iff_ne]; exact e2
                    generalize (⟨y.2.toArray⟩ : ByteArray) = f at *
                    generalize (⟨F[pre.length].toArray⟩ : ByteArray) = g at *
                    clear hget e1 e2 hgc HR2
                    gi_wp2
                    exact ⟨(KeepsOthers.setCell _ _ _).from _, hno.out⟩
                · have t1 : ((y.1 : Int) != (pre.length : Int)) = true := by simp; omega
                  have hno : Hid (¬ (pre ++ [y] <+: numTo F F.length)) := prefix_not (by rw [hget]; intro h; cases h; exact e1 rfl)
                  clear hget e1 hgc HR2
                  gi_wp2
                  exact ⟨(KeepsOthers.setCell _ _ _).from _, hno.out⟩
              case stop2_1_c1 =>
                rintro D2 c pre U hD2 hSp hIx hK3
                exact absurd hSp hIx
              case done2_1_c1 =>
                rintro D2 ys U hD2 rfl ⟨_, hbx2, hkU, hBU, hKU⟩ hK3
                have cN := hbx2.cell
                rw [numTo_length] at cN
                have hmm2 : ((F.length : Int) != (F.length : Int)) = false := by simp
                have cL3 := hkU.cell cW2 (by show W3.heap.size ≠ W.heap.size + 1; omega)
                have cO3 := hkU.cell cO2 (by show W.heap.size ≠ W.heap.size + 1; omega)
                have cR3 := hkU.cell cR2 (by show w.heap.size + 1 ≠ W.heap.size + 1; omega)
                have fR3 := hkU.frozen cR2 fR2 (by show w.heap.size + 1 ≠ W.heap.size + 1; omega)
                have cS3 := hkU.cell cS2 (by show w.heap.size ≠ W.heap.size + 1; omega)
                have hDU := lt_of_block hKU
                have hDU2 := lt_of_block hK3
                have HKU : Hid (U.heap[D]? = some (.deferred (some []))) := hKU
                have HKU2 : Hid (U.heap[D2]? = some (.deferred (some []))) := hK3
                have sU := hBU.size
                have bU : Below w.heap.size w U := bV2.trans (hBU.mono (by omega))
                clear hKU hK3 HR2 hkU hBU
                gi_wp2_with fail
                rw [roundsIn_succ]
                gi_wp2_with fail
                have bU1 : Below w.heap.size w (U.alloc (.cells #[.int .i64 2] 3)) := bU.alloc bU.size _
                refine ⟨trivial, (callsIn_wide.2 (awake_calls _ (HM.out.below bU1))).mono ?_⟩
                rintro e w6 ⟨rfl, hb6⟩
                have J6 : Below U.heap.size U w6 := ((Below.refl _ U).alloc (Nat.le_refl _) _).trans (hb6.mono (by simp))
                have cR6 := (J6.cell (p := ⟨w.heap.size + 1, 0, none⟩) (cell_lt cR3)).trans cR3
                have fR6 := (J6.frozen (p := ⟨w.heap.size + 1, 0, none⟩) (cell_lt cR3)).trans fR3
                have hKa := (J6.block D hDU).trans HKU.out
                have hKb := (J6.block D2 hDU2).trans HKU2.out
                have hW6 : Below w.heap.size w w6 := bU.trans (J6.mono bU.size)
                have hDne : D ≠ D2 := by omega
                clear hb6 J6 bU1
                gi_wp2
                have hKb' : (w6.setCell ⟨w.heap.size + 1, 0, none⟩ (.bool true)).heap[D2]? = some (.deferred (some [])) := (Below.heap_setCell _ _ _ D2 (by show D2 ≠ w.heap.size + 1; omega)).trans hKb
                have hKa' : ((w6.setCell ⟨w.heap.size + 1, 0, none⟩ (.bool true)).putObj D2 (.deferred none)).heap[D]? = some (.deferred (some [])) := (World.putObj_heap_other hDne).trans ((Below.heap_setCell _ _ _ D (by show D ≠ w.heap.size + 1; omega)).trans hKa)
                refine ⟨by simp, .inl ⟨_, _, rfl, run_takeDeferred hKb', ?_⟩⟩
                refine ⟨by simp, .inl ⟨_, _, rfl, run_takeDeferred hKa', ?_⟩⟩
                have hc9 : (((w6.setCell ⟨w.heap.size + 1, 0, none⟩ (.bool true)).putObj D2 (.deferred none)).putObj D (.deferred none)).cell? ⟨w.heap.size + 1, 0, none⟩ = some (.bool true) := by
                  rw [World.cell?_of_block (w := (w6.setCell ⟨w.heap.size + 1, 0, none⟩ (.bool true)).putObj D2 (.deferred none)) (a := ⟨w.heap.size + 1, 0, none⟩) (World.putObj_heap_other (by show w.heap.size + 1 ≠ D; omega)), World.cell?_of_block (w := w6.setCell ⟨w.heap.size + 1, 0, none⟩ (.bool true)) (a := ⟨w.heap.size + 1, 0, none⟩) (World.putObj_heap_other (by show w.heap.size + 1 ≠ D2; omega))]
                  exact cs_same cR6
                refine ⟨.bool true, by simp [results, Try.f3, go_sem, hc9], rfl, ?_⟩
                have z1 := lt_of_block hKb'
                have z2 := lt_of_block hKa'
                exact (((hW6.setCell (p := ⟨w.heap.size + 1, 0, none⟩) (by simp) _).grown (grownBy_putObj' _ D2 _) (by omega) (fun k e => by cases e; omega)).grown (grownBy_putObj' _ D _) (by omega) (fun k e => by cases e; omega))
            · have hmm : (x != (F.length : Int)) = true := by simp [hmx]
              clear hmx
              have cL' := (kV.trans hkW).cell cWY (by show W3.heap.size ≠ Y.heap.size + 1; omega)
              have cO' := hkW.cell cO (by show Y.heap.size ≠ Y.heap.size + 1; omega)
              have cS' := (kV.trans hkW).cell cSY (by show w.heap.size ≠ Y.heap.size + 1; omega)
              have hDW := lt_of_block hK
              have sW := hBW.size
              have HK : Hid (W.heap[D]? = some (.deferred (some []))) := hK
              clear hK
              gi_wp2_with fail
              rw [roundsIn_succ]
              gi_wp2_with fail
              refine ⟨trivial, (callsIn_wide.2 (HAL.out _)).mono ?_⟩
              rintro e V2 ⟨B2, v2, rfl, hcB2, hBge2, hOv2, hBV2⟩
              gi_wp2_with fail
              have sV2 := hBV2.size
              simp only [World.size_alloc] at hBge2 hOv2 sV2
              have kV2 : KpN (W.heap.size + 1) W V2 := (KpN.of_below (((Below.refl _ W).alloc (Nat.le_refl _) _).alloc (by simp) _)).trans (KpN.of_below hBV2)
              have bW : Below w.heap.size w W := bV.trans (hBW.mono (by omega))
              have bV2 : Below w.heap.size w V2 := ((bW.alloc bW.size _).alloc (by have := bW.size; simp; omega) _).trans (hBV2.mono (by have := bW.size; simp; omega))
              have cO2 : V2.cell? ⟨W.heap.size, 0, none⟩ = some (.int .i64 1) := (hBV2.cell (p := ⟨W.heap.size, 0, none⟩) (by simp; omega)).trans (by simp)
              have bN2 : Boxed V2 (W.heap.size + 1) 3 (.int .i64 0) := (hBV2.block (W.heap.size + 1) (by simp)).trans (by have := Boxed.new (W.alloc (.cells #[.int .i64 1] 3)) 3 (.int .i64 0); rwa [World.size_alloc] at this)
              have hK2 : V2.heap[D]? = some (.deferred (some [])) := (hBV2.block D (by simp; omega)).trans (((((Below.refl _ W).alloc (Nat.le_refl _) _).alloc (by simp) _).block D hDW).trans HK.out)
              have cW2 := kV2.cell cL' (by show W3.heap.size ≠ W.heap.size + 1; omega)
              have cR2 := kV2.cell ((kV.trans hkW).cell cRY (by show w.heap.size + 1 ≠ Y.heap.size + 1; omega)) (by show w.heap.size + 1 ≠ W.heap.size + 1; omega)
              have fR2 := kV2.frozen ((kV.trans hkW).cell cRY (by show w.heap.size + 1 ≠ Y.heap.size + 1; omega)) ((kV.trans hkW).frozen cRY fRY (by show w.heap.size + 1 ≠ Y.heap.size + 1; omega)) (by show w.heap.size + 1 ≠ W.heap.size + 1; omega)
              have cS2 := kV2.cell cS' (by show w.heap.size ≠ W.heap.size + 1; omega)
              have HR2 : Hid (0 < F.length → ∃ gl, a4 = some ⟨gl, 0, none⟩ ∧ gl < Y.heap.size ∧ ∀ j (h : j < F.length), V2.cell? ⟨gl, j, none⟩ = some (.string ⟨F[j].toArray⟩)) := fun h0 => by
                obtain ⟨gl, e0, hgb, _, hgc⟩ := (HasT.of HOY.out).at h0
                exact ⟨gl, e0, hgb, fun j hj => kV2.cell ((kV.trans hkW).cell (hgc j hj) (by show gl ≠ Y.heap.size + 1; omega)) (by show gl ≠ W.heap.size + 1; omega)⟩
              clear hBV2
              refine wpIn_rangeFunc_ownG rfl (by omega) (gf := 25) (lb := #[.pointer (some ⟨B2, 0, none⟩)]) rfl trivial (enters_of Try.func25 (by kernel_rfl) rfl)
                (all_stops _ (by omega) B2 v2 F (by omega) (KpN (W.heap.size + 1)) V2 (HasT.of hOv2) hcB2 (fun b cap e A B' hk j u hu => KpN.cell hk hu (by show b ≠ W.heap.size + 1; have := (hOv2.lt b (by rw [e]; rfl)).1; omega)))
                KpN.trans (fun W l o o' h1 h2 h3 h4 => KpN.book W l o o' h1 h2 h3 h4) (Below.refl _ _) (fun _ => rfl)
                (fun (pre : List (Nat × List UInt8)) U => (pre <+: numTo F F.length) ∧ Boxed U (W.heap.size + 1) 3 (.int .i64 (pre.length : Int)) ∧ KpN (W.heap.size + 1) V2 U ∧ Below (W.heap.size + 1) V2 U ∧ U.heap[D]? = some (.deferred (some [])))
                (fun _ (pre : List (Nat × List UInt8)) _ => ¬ (pre <+: numTo F F.length))
                (OwnFrom.and (ownFrom_pure _ _) (OwnFrom.and (Own.from (boxed_own _ _ _) _) (OwnFrom.and (KpN.own _ _ _) (OwnFrom.and (ownFrom_below (by omega) (by omega)) (fun _ A A' row hs hg hr => (hg.block D (lt_of_block hs) (fun e => by have := (hr D e.symm).1; omega)).trans hs)))))
                (fun _ => ownFrom_pure _ _)
                ⟨List.nil_prefix, bN2, KpN.refl _ _, Below.refl _ _, hK2⟩ ?a2_2_c1 ?assign2_2_c1 ?body2_2_c1 ?done2_2_c1 ?stop2_2_c1
              case assign2_2_c1 =>
                intro l y W K hK
                gi_wp2
                exact hK
              case body2_2_c1 =>
                rintro l pre y U ⟨hpre, hbx2, hkU, hBU, hKU⟩ hlN
                have cN := hbx2.cell
                have fN := hbx2.frozen
                have cL' := hkU.cell cW2 (by show W3.heap.size ≠ W.heap.size + 1; omega)
                have cO' := hkU.cell cO2 (by show W.heap.size ≠ W.heap.size + 1; omega)
                have cR' := hkU.cell cR2 (by show w.heap.size + 1 ≠ W.heap.size + 1; omega)
                have fR' := hkU.frozen cR2 fR2 (by show w.heap.size + 1 ≠ W.heap.size + 1; omega)
                have HKU : Hid (U.heap[D]? = some (.deferred (some []))) := hKU
                clear hKU
                obtain ⟨gl, e0, hgb, hgc⟩ := HR2.out (by omega)
                have hget := numTo_get F pre.length hlN
                have r1 := hkU.cell (hgc pre.length hlN) (by show gl ≠ W.heap.size + 1; omega)
                subst e0
                by_cases e1 : y.1 = pre.length
                · have t1 : ((y.1 : Int) != (pre.length : Int)) = false := by simp [e1]
                  by_cases e2 : y.2 = F[pre.length]
                  · have hon : Hid (pre ++ [y] <+: numTo F F.length) := prefix_on hpre (by rw [hget, ← e2, ← e1])
                    have hset := hbx2.set (.int .i64 ((pre.length : Int) + 1))
                    have hbl : Below (W.heap.size + 1) V2 (U.setCell ⟨W.heap.size + 1, 0, none⟩ (.int .i64 ((pre.length : Int) + 1))) := hBU.setCell (p := ⟨W.heap.size + 1, 0, none⟩) (Nat.le_refl _) _
                    have hkp : KpN (W.heap.size + 1) V2 (U.setCell ⟨W.heap.size + 1, 0, none⟩ (.int .i64 ((pre.length : Int) + 1))) := hkU.trans (KpN.set _ _ _)
                    rw [← e2] at r1
                    generalize (⟨y.2.toArray⟩ : ByteArray) = f at *
                    have hf : (f.toList == f.toList) = true := by simp
                    clear hget e1 e2 hgc HR2
                    gi_wp2
                    exact ⟨(KeepsOthers.setCell _ _ _).from _, KpN.set _ _ _, hon.out, by simpa using hset, hkp, hbl, (Below.heap_setCell _ _ _ D (by show D ≠ W.heap.size + 1; omega)).trans HKU.out⟩
                  · have hno : Hid (¬ (pre ++ [y] <+: numTo F F.length)) := prefix_not (by rw [hget]; intro h; cases h; exact e2 rfl)
                    have hf : ((⟨y.2.toArray⟩ : ByteArray).toList == (⟨F[pre.length].toArray⟩ : ByteArray).toList) = false := by rw [toList_mk, toList_mk, beq_eq_false_iff_ne]; exact e2
                    generalize (⟨y.2.toArray⟩ : ByteArray) = f at *
                    generalize (⟨F[pre.length].toArray⟩ : ByteArray) = g at *
                    clear hget e1 e2 hgc HR2
                    gi_wp2
                    exact ⟨(KeepsOthers.setCell _ _ _).from _, hno.out⟩
                · have t1 : ((y.1 : Int) != (pre.length : Int)) = true := by simp; omega
                  have hno : Hid (¬ (pre ++ [y] <+: numTo F F.length)) := prefix_not (by rw [hget]; intro h; cases h; exact e1 rfl)
                  clear hget e1 hgc HR2
                  gi_wp2
                  exact ⟨(KeepsOthers.setCell _ _ _).from _, hno.out⟩
              case stop2_2_c1 =>
                rintro D2 c pre U hD2 hSp hIx hK3
                exact absurd hSp hIx
              case done2_2_c1 =>
                rintro D2 ys U hD2 rfl ⟨_, hbx2, hkU, hBU, hKU⟩ hK3
                have cN := hbx2.cell
                rw [numTo_length] at cN
                have hmm2 : ((F.length : Int) != (F.length : Int)) = false := by simp
                have cL3 := hkU.cell cW2 (by show W3.heap.size ≠ W.heap.size + 1; omega)
                have cO3 := hkU.cell cO2 (by show W.heap.size ≠ W.heap.size + 1; omega)
                have cR3 := hkU.cell cR2 (by show w.heap.size + 1 ≠ W.heap.size + 1; omega)
                have fR3 := hkU.frozen cR2 fR2 (by show w.heap.size + 1 ≠ W.heap.size + 1; omega)
                have cS3 := hkU.cell cS2 (by show w.heap.size ≠ W.heap.size + 1; omega)
                have hDU := lt_of_block hKU
                have hDU2 := lt_of_block hK3
                have HKU : Hid (U.heap[D]? = some (.deferred (some []))) := hKU
                have HKU2 : Hid (U.heap[D2]? = some (.deferred (some []))) := hK3
                have sU := hBU.size
                have bU : Below w.heap.size w U := bV2.trans (hBU.mono (by omega))
                clear hKU hK3 HR2 hkU hBU
                gi_wp2_with fail
                rw [roundsIn_succ]
                gi_wp2_with fail
                have bU1 : Below w.heap.size w (U.alloc (.cells #[.int .i64 2] 3)) := bU.alloc bU.size _
                refine ⟨trivial, (callsIn_wide.2 (awake_calls _ (HM.out.below bU1))).mono ?_⟩
                rintro e w6 ⟨rfl, hb6⟩
                have J6 : Below U.heap.size U w6 := ((Below.refl _ U).alloc (Nat.le_refl _) _).trans (hb6.mono (by simp))
                have cR6 := (J6.cell (p := ⟨w.heap.size + 1, 0, none⟩) (cell_lt cR3)).trans cR3
                have fR6 := (J6.frozen (p := ⟨w.heap.size + 1, 0, none⟩) (cell_lt cR3)).trans fR3
                have hKa := (J6.block D hDU).trans HKU.out
                have hKb := (J6.block D2 hDU2).trans HKU2.out
                have hW6 : Below w.heap.size w w6 := bU.trans (J6.mono bU.size)
                have hDne : D ≠ D2 := by omega
                clear hb6 J6 bU1
                gi_wp2
                have hKb' : (w6.setCell ⟨w.heap.size + 1, 0, none⟩ (.bool true)).heap[D2]? = some (.deferred (some [])) := (Below.heap_setCell _ _ _ D2 (by show D2 ≠ w.heap.size + 1; omega)).trans hKb
                have hKa' : ((w6.setCell ⟨w.heap.size + 1, 0, none⟩ (.bool true)).putObj D2 (.deferred none)).heap[D]? = some (.deferred (some [])) := (World.putObj_heap_other hDne).trans ((Below.heap_setCell _ _ _ D (by show D ≠ w.heap.size + 1; omega)).trans hKa)
                refine ⟨by simp, .inl ⟨_, _, rfl, run_takeDeferred hKb', ?_⟩⟩
                refine ⟨by simp, .inl ⟨_, _, rfl, run_takeDeferred hKa', ?_⟩⟩
                have hc9 : (((w6.setCell ⟨w.heap.size + 1, 0, none⟩ (.bool true)).putObj D2 (.deferred none)).putObj D (.deferred none)).cell? ⟨w.heap.size + 1, 0, none⟩ = some (.bool true) := by
                  rw [World.cell?_of_block (w := (w6.setCell ⟨w.heap.size + 1, 0, none⟩ (.bool true)).putObj D2 (.deferred none)) (a := ⟨w.heap.size + 1, 0, none⟩) (World.putObj_heap_other (by show w.heap.size + 1 ≠ D; omega)), World.cell?_of_block (w := w6.setCell ⟨w.heap.size + 1, 0, none⟩ (.bool true)) (a := ⟨w.heap.size + 1, 0, none⟩) (World.putObj_heap_other (by show w.heap.size + 1 ≠ D2; omega))]
                  exact cs_same cR6
                refine ⟨.bool true, by simp [results, Try.f3, go_sem, hc9], rfl, ?_⟩
                have z1 := lt_of_block hKb'
                have z2 := lt_of_block hKa'
                exact (((hW6.setCell (p := ⟨w.heap.size + 1, 0, none⟩) (by simp) _).grown (grownBy_putObj' _ D2 _) (by omega) (fun k e => by cases e; omega)).grown (grownBy_putObj' _ D _) (by omega) (fun k e => by cases e; omega))
    · have hz16 : 16 ≤ z := by omega
      clear hz
      gi_wp2_with fail
      clear hX
      gi_loopw [13, 69] (fun _ i wr => ∃ k : Nat, k ≤ F.length ∧ i = .int .i64 k ∧ Hid (∃ ys, wr.ownsRow W0.heap.size 9 1 (.slice a1 F.length k1) F.length ys) ∧ Hid (X.grownBy wr (Value.slice a1 F.length k1).ownBlock)) (fun _ i _ => F.length - (intOf i).toNat)
      case atStart => exact ⟨0, by omega, rfl, ⟨_, HO1.out⟩, World.grownBy.refl _ _⟩
      case round =>
        obtain ⟨k, hk, rfl, hR, hG⟩ := hrel
        by_cases hlt : k < F.length
        · obtain ⟨ys, hys⟩ := hR.out
          obtain ⟨g, rfl⟩ : ∃ g, a1 = some ⟨g, 0, none⟩ := by
            rcases hys.2 with ⟨e, _⟩ | ⟨g, cap', cur, e, _⟩
            · simp only [Value.slice.injEq] at e; omega
            · simp only [Value.slice.injEq] at e; exact ⟨g, e.1⟩
          have hyl : k < ys.length := by rw [hys.1]; omega
          have hc : wr.cell? ⟨g, k, none⟩ = some ys[k] := by rw [World.ownsRow.cellAt hys k (by omega)]; simp [hyl]
          have hf := World.ownsRow.frozenAt hys k
          have HST : Hid ((∃ ys, (wr.setCell ⟨g, k, none⟩ (.string ⟨#[115, 112, 111, 105, 108, 116]⟩)).ownsRow W0.heap.size 9 1 (.slice (some ⟨g, 0, none⟩) F.length k1) F.length ys) ∧ X.grownBy (wr.setCell ⟨g, k, none⟩ (.string ⟨#[115, 112, 111, 105, 108, 116]⟩)) (Value.slice (some ⟨g, 0, none⟩) F.length k1).ownBlock) := ⟨⟨_, (World.ownsRow.stored hys k _).1⟩, grown_trans hG.out (World.ownsRow.stored hys k _).2⟩
          clear hys
          gi_wp2
          go_roundw
          case rel => exact ⟨k + 1, by omega, by go_num, HST.out.1, HST.out.2⟩
          case measure => simp [intOf]; omega
        · obtain rfl : k = F.length := by omega
          have hnb : ∀ j, (j < W0.heap.size ∨ W1.heap.size ≤ j) → some j ≠ (Value.slice a1 F.length k1).ownBlock := fun j hj e => by have := HL1.out j e.symm; omega
          have cell' : ∀ j u, (j < W0.heap.size ∨ W1.heap.size ≤ j) → X.cell? ⟨j, 0, none⟩ = some u → wr.cell? ⟨j, 0, none⟩ = some u := fun j u hj h => (World.cell?_of_block (w := X) (a := ⟨j, 0, none⟩) (hG.out.block j (cell_lt h) (hnb j hj))).trans h
          have cW2 := cell' W3.heap.size _ (.inr (by omega)) cW
          have cS2 := cell' w.heap.size _ (.inl (by omega)) cS
          have cR2 := cell' (w.heap.size + 1) _ (.inl (by omega)) cR
          have fR2 : wr.frozen? ⟨w.heap.size + 1, 0, none⟩ = false := by
            have e := hG.out.block (w.heap.size + 1) (cell_lt cR) (hnb (w.heap.size + 1) (.inl (by omega)))
            have h := fR
            unfold World.frozen? at h ⊢
            rw [show wr.heap[(⟨w.heap.size + 1, 0, none⟩ : Addr).block]? = X.heap[(⟨w.heap.size + 1, 0, none⟩ : Addr).block]? from e]
            exact h
          have O2r : OwnT W1.heap.size wr (.slice a2 F.length k2) F := World.ownsRow.kept HO2.out hG.out (by cases e : (Value.slice a2 F.length k2).ownBlock with | none => exact .inl rfl | some j => exact .inr (hnb j (.inr (HO2.out.lt j e).1)))
          have OWr : OwnT (W3.heap.size + 1) wr (.slice a4 F.length k4) F := World.ownsRow.kept HOW.out hG.out (by cases e : (Value.slice a4 F.length k4).ownBlock with | none => exact .inl rfl | some j => exact .inr (hnb j (.inr (by have := (HOW.out.lt j e).1; omega))))
          have bR : Below w.heap.size w wr := HBX.out.grown hG.out HBX.out.size (fun j hj => by have := (HL1.out j hj).1; omega)
          clear hnb cell'
          gi_wp2_with fail
          refine ⟨trivial, (callsIn_wide.2 (same_ff F _ _ wr (by omega) (HasT.of O2r) (HasT.of OWr))).mono ?_⟩
          rintro e Y ⟨rfl, hBY⟩
          gi_wp2_with fail
          have sR := bR.size
          have sY := hBY.size
          have hcl : W3.heap.size < wr.heap.size := cell_lt cW2
          have cWY := (hBY.cell (p := ⟨W3.heap.size, 0, none⟩) hcl).trans cW2
          have cSY := (hBY.cell (p := ⟨w.heap.size, 0, none⟩) (by show w.heap.size < _; omega)).trans cS2
          have cRY := (hBY.cell (p := ⟨w.heap.size + 1, 0, none⟩) (by show w.heap.size + 1 < _; omega)).trans cR2
          have fRY : Y.frozen? ⟨w.heap.size + 1, 0, none⟩ = false := (hBY.frozen (p := ⟨w.heap.size + 1, 0, none⟩) (by show w.heap.size + 1 < _; omega)).trans fR2
          have bY : Below w.heap.size w Y := bR.trans (hBY.mono sR)
          have OWY : OwnT (W3.heap.size + 1) Y (.slice a4 F.length k4) F := owns_below OWr hBY
          have HOY : Hid (OwnT (W3.heap.size + 1) Y (.slice a4 F.length k4) F) := OWY
          clear O2r OWr bR hBY cW2 cS2 cR2 fR2 hR hG HO1 HO2 HOW HBX cW cS cR fR OWY
          refine wpIn_loop_rounds 3 ?_
          rw [roundsIn_succ]
          gi_wp2_with fail
          refine ⟨trivial, (callsIn_wide.2 (HAL.out _)).mono ?_⟩
          rintro e V ⟨B, v, rfl, hcB, hBge, hOv, hBV⟩
          gi_wp2_with fail
          have sV := hBV.size
          simp only [World.size_alloc] at hBge hOv sV
          have kV : KpN (Y.heap.size + 1) Y V := (KpN.of_below (((Below.refl _ Y).alloc (Nat.le_refl _) _).alloc (by simp) _)).trans (KpN.of_below hBV)
          have bV : Below w.heap.size w V := ((bY.alloc bY.size _).alloc (by have := bY.size; simp; omega) _).trans (hBV.mono (by have := bY.size; simp; omega))
          have cO : V.cell? ⟨Y.heap.size, 0, none⟩ = some (.int .i64 0) := (hBV.cell (p := ⟨Y.heap.size, 0, none⟩) (by simp; omega)).trans (by simp)
          have bN : Boxed V (Y.heap.size + 1) 3 (.int .i64 0) := (hBV.block (Y.heap.size + 1) (by simp)).trans (by have := Boxed.new (Y.alloc (.cells #[.int .i64 0] 3)) 3 (.int .i64 0); rwa [World.size_alloc] at this)
          have hlY := cell_lt cWY
          simp only at hlY
          clear hBV
          refine wpIn_rangeFunc_ownG rfl (by omega) (gf := 25) (lb := #[.pointer (some ⟨B, 0, none⟩)]) rfl trivial (enters_of Try.func25 (by kernel_rfl) rfl)
            (all_stops _ (by omega) B v F (by omega) (KpN (Y.heap.size + 1)) V (HasT.of hOv) hcB (fun b cap e A B' hk j u hu => KpN.cell hk hu (by show b ≠ Y.heap.size + 1; have := (hOv.lt b (by rw [e]; rfl)).1; omega)))
            KpN.trans (fun W l o o' h1 h2 h3 h4 => KpN.book W l o o' h1 h2 h3 h4) (Below.refl _ _) (fun _ => rfl)
            (fun (pre : List (Nat × List UInt8)) W => (pre <+: numTo F F.length) ∧ Boxed W (Y.heap.size + 1) 3 (.int .i64 (pre.length : Int)) ∧ KpN (Y.heap.size + 1) V W ∧ Below (Y.heap.size + 1) V W)
            (fun c (pre : List (Nat × List UInt8)) W => ¬ (pre <+: numTo F F.length) ∨ c = .exit 4 ∧ Boxed W (Y.heap.size + 1) 3 (.int .i64 x) ∧ KpN (Y.heap.size + 1) V W ∧ Below (Y.heap.size + 1) V W)
            (OwnFrom.and (ownFrom_pure _ _) (OwnFrom.and (Own.from (boxed_own _ _ _) _) (OwnFrom.and (KpN.own _ _ _) (ownFrom_below (by omega) (by omega)))))
            (fun c s A A' row hs hg hr => hs.elim .inl (fun hs => .inr ⟨hs.1, Own.from (boxed_own (β := Unit) _ _ (fun _ => .int .i64 x)) V.heap.size () A A' row hs.2.1 hg hr, KpN.own (β := Unit) _ V.heap.size _ () A A' row hs.2.2.1 hg hr, ownFrom_below (β := Unit) (B := V.heap.size) (by omega) (by omega) () A A' row hs.2.2.2 hg hr⟩))
            ⟨List.nil_prefix, bN, KpN.refl _ _, Below.refl _ _⟩ ?a1_c2 ?assign_c2 ?body_c2 ?done_c2 ?stop_c2
          case assign_c2 =>
            intro l y W K hK
            gi_wp2
            exact hK
          case body_c2 =>
            rintro l pre y W ⟨hpre, hbx, hkW, hBW⟩ hlN
            have cN := hbx.cell
            have fN := hbx.frozen
            have cL' := (kV.trans hkW).cell cWY (by show W3.heap.size ≠ Y.heap.size + 1; omega)
            have cO' := hkW.cell cO (by show Y.heap.size ≠ Y.heap.size + 1; omega)
            have cS' := (kV.trans hkW).cell cSY (by show w.heap.size ≠ Y.heap.size + 1; omega)
            have cR' := (kV.trans hkW).cell cRY (by show w.heap.size + 1 ≠ Y.heap.size + 1; omega)
            have fR' := (kV.trans hkW).frozen cRY fRY (by show w.heap.size + 1 ≠ Y.heap.size + 1; omega)
            have hpl := pre.length
            by_cases hn : pre.length < F.length
            · have hget := numTo_get F pre.length hn
              obtain ⟨gl, e0, hgb, hgl, hgc⟩ := (HasT.of HOY.out).at (by omega)
              have r1 := (kV.trans hkW).cell (hgc pre.length hn) (by show gl ≠ Y.heap.size + 1; omega)
              subst e0
              by_cases e1 : y.1 = pre.length
              · have t1 : ((y.1 : Int) != (pre.length : Int)) = false := by simp [e1]
                by_cases e2 : y.2 = F[pre.length]
                · have hon : Hid (pre ++ [y] <+: numTo F F.length) := prefix_on hpre (by rw [hget, ← e2, ← e1])
                  have hset := hbx.set (.int .i64 ((pre.length : Int) + 1))
                  have hbl : Below (Y.heap.size + 1) V (W.setCell ⟨Y.heap.size + 1, 0, none⟩ (.int .i64 ((pre.length : Int) + 1))) := hBW.setCell (p := ⟨Y.heap.size + 1, 0, none⟩) (Nat.le_refl _) _
                  have hkp : KpN (Y.heap.size + 1) V (W.setCell ⟨Y.heap.size + 1, 0, none⟩ (.int .i64 ((pre.length : Int) + 1))) := hkW.trans (KpN.set _ _ _)
                  rw [← e2] at r1
                  generalize (⟨y.2.toArray⟩ : ByteArray) = f at *
                  have hf : (f.toList == f.toList) = true := by simp
                  clear hget e1 e2 hgc
                  by_cases hx : (pre.length : Int) + 1 = x
                  · have hx' : ((pre.length : Int) + 1 == x) = true := by simpa using hx
                    have HX1 : Hid ((pre.length : Int) + 1 = x) := hx
                    clear hx
                    gi_wp2
                    exact ⟨(KeepsOthers.setCell _ _ _).from _, .inr ⟨rfl, by rw [← HX1.out]; exact hset, hkp, hbl⟩⟩
                  · have hx' : ((pre.length : Int) + 1 == x) = false := by simpa using hx
                    clear hx
                    gi_wp2
                    exact ⟨(KeepsOthers.setCell _ _ _).from _, KpN.set _ _ _, hon.out, by simpa using hset, hkp, hbl⟩
                · have hno : Hid (¬ (pre ++ [y] <+: numTo F F.length)) := prefix_not (by rw [hget]; intro h; cases h; exact e2 rfl)
                  have hf : ((⟨y.2.toArray⟩ : ByteArray).toList == (⟨F[pre.length].toArray⟩ : ByteArray).toList) = false := by rw [toList_mk, toList_mk, beq_eq_false_iff_ne]; exact e2
                  generalize (⟨y.2.toArray⟩ : ByteArray) = f at *
                  generalize (⟨F[pre.length].toArray⟩ : ByteArray) = g at *
                  clear hget e1 e2 hgc
                  gi_wp2
                  exact ⟨(KeepsOthers.setCell _ _ _).from _, .inl hno.out⟩
              · have t1 : ((y.1 : Int) != (pre.length : Int)) = true := by simp; omega
                have hno : Hid (¬ (pre ++ [y] <+: numTo F F.length)) := prefix_not (by rw [hget]; intro h; cases h; exact e1 rfl)
                clear hget e1 hgc
                gi_wp2
                exact ⟨(KeepsOthers.setCell _ _ _).from _, .inl hno.out⟩
            · exact absurd hlN hn
          case done_c2 =>
            rintro D ys W hD rfl ⟨_, hbx, hkW, hBW⟩ hK
            have cN := hbx.cell
            rw [numTo_length] at cN
            have hmm : ((F.length : Int) != (F.length : Int)) = false := by simp
            have cL' := (kV.trans hkW).cell cWY (by show W3.heap.size ≠ Y.heap.size + 1; omega)
            have cO' := hkW.cell cO (by show Y.heap.size ≠ Y.heap.size + 1; omega)
            have cS' := (kV.trans hkW).cell cSY (by show w.heap.size ≠ Y.heap.size + 1; omega)
            have hDW := lt_of_block hK
            have sW := hBW.size
            have HK : Hid (W.heap[D]? = some (.deferred (some []))) := hK
            clear hK
            gi_wp2_with fail
            rw [roundsIn_succ]
            gi_wp2_with fail
            refine ⟨trivial, (callsIn_wide.2 (HAL.out _)).mono ?_⟩
            rintro e V2 ⟨B2, v2, rfl, hcB2, hBge2, hOv2, hBV2⟩
            gi_wp2_with fail
            have sV2 := hBV2.size
            simp only [World.size_alloc] at hBge2 hOv2 sV2
            have kV2 : KpN (W.heap.size + 1) W V2 := (KpN.of_below (((Below.refl _ W).alloc (Nat.le_refl _) _).alloc (by simp) _)).trans (KpN.of_below hBV2)
            have bW : Below w.heap.size w W := bV.trans (hBW.mono (by omega))
            have bV2 : Below w.heap.size w V2 := ((bW.alloc bW.size _).alloc (by have := bW.size; simp; omega) _).trans (hBV2.mono (by have := bW.size; simp; omega))
            have cO2 : V2.cell? ⟨W.heap.size, 0, none⟩ = some (.int .i64 1) := (hBV2.cell (p := ⟨W.heap.size, 0, none⟩) (by simp; omega)).trans (by simp)
            have bN2 : Boxed V2 (W.heap.size + 1) 3 (.int .i64 0) := (hBV2.block (W.heap.size + 1) (by simp)).trans (by have := Boxed.new (W.alloc (.cells #[.int .i64 1] 3)) 3 (.int .i64 0); rwa [World.size_alloc] at this)
            have hK2 : V2.heap[D]? = some (.deferred (some [])) := (hBV2.block D (by simp; omega)).trans (((((Below.refl _ W).alloc (Nat.le_refl _) _).alloc (by simp) _).block D hDW).trans HK.out)
            have cW2 := kV2.cell cL' (by show W3.heap.size ≠ W.heap.size + 1; omega)
            have cR2 := kV2.cell ((kV.trans hkW).cell cRY (by show w.heap.size + 1 ≠ Y.heap.size + 1; omega)) (by show w.heap.size + 1 ≠ W.heap.size + 1; omega)
            have fR2 := kV2.frozen ((kV.trans hkW).cell cRY (by show w.heap.size + 1 ≠ Y.heap.size + 1; omega)) ((kV.trans hkW).frozen cRY fRY (by show w.heap.size + 1 ≠ Y.heap.size + 1; omega)) (by show w.heap.size + 1 ≠ W.heap.size + 1; omega)
            have cS2 := kV2.cell cS' (by show w.heap.size ≠ W.heap.size + 1; omega)
            have HR2 : Hid (0 < F.length → ∃ gl, a4 = some ⟨gl, 0, none⟩ ∧ gl < Y.heap.size ∧ ∀ j (h : j < F.length), V2.cell? ⟨gl, j, none⟩ = some (.string ⟨F[j].toArray⟩)) := fun h0 => by
              obtain ⟨gl, e0, hgb, _, hgc⟩ := (HasT.of HOY.out).at h0
              exact ⟨gl, e0, hgb, fun j hj => kV2.cell ((kV.trans hkW).cell (hgc j hj) (by show gl ≠ Y.heap.size + 1; omega)) (by show gl ≠ W.heap.size + 1; omega)⟩
            clear hBV2
            refine wpIn_rangeFunc_ownG rfl (by omega) (gf := 25) (lb := #[.pointer (some ⟨B2, 0, none⟩)]) rfl trivial (enters_of Try.func25 (by kernel_rfl) rfl)
              (all_stops _ (by omega) B2 v2 F (by omega) (KpN (W.heap.size + 1)) V2 (HasT.of hOv2) hcB2 (fun b cap e A B' hk j u hu => KpN.cell hk hu (by show b ≠ W.heap.size + 1; have := (hOv2.lt b (by rw [e]; rfl)).1; omega)))
              KpN.trans (fun W l o o' h1 h2 h3 h4 => KpN.book W l o o' h1 h2 h3 h4) (Below.refl _ _) (fun _ => rfl)
              (fun (pre : List (Nat × List UInt8)) U => (pre <+: numTo F F.length) ∧ Boxed U (W.heap.size + 1) 3 (.int .i64 (pre.length : Int)) ∧ KpN (W.heap.size + 1) V2 U ∧ Below (W.heap.size + 1) V2 U ∧ U.heap[D]? = some (.deferred (some [])))
              (fun _ (pre : List (Nat × List UInt8)) _ => ¬ (pre <+: numTo F F.length))
              (OwnFrom.and (ownFrom_pure _ _) (OwnFrom.and (Own.from (boxed_own _ _ _) _) (OwnFrom.and (KpN.own _ _ _) (OwnFrom.and (ownFrom_below (by omega) (by omega)) (fun _ A A' row hs hg hr => (hg.block D (lt_of_block hs) (fun e => by have := (hr D e.symm).1; omega)).trans hs)))))
              (fun _ => ownFrom_pure _ _)
              ⟨List.nil_prefix, bN2, KpN.refl _ _, Below.refl _ _, hK2⟩ ?a2_3_c2 ?assign2_3_c2 ?body2_3_c2 ?done2_3_c2 ?stop2_3_c2
            case assign2_3_c2 =>
              intro l y W K hK
              gi_wp2
              exact hK
            case body2_3_c2 =>
              rintro l pre y U ⟨hpre, hbx2, hkU, hBU, hKU⟩ hlN
              have cN := hbx2.cell
              have fN := hbx2.frozen
              have cL' := hkU.cell cW2 (by show W3.heap.size ≠ W.heap.size + 1; omega)
              have cO' := hkU.cell cO2 (by show W.heap.size ≠ W.heap.size + 1; omega)
              have cR' := hkU.cell cR2 (by show w.heap.size + 1 ≠ W.heap.size + 1; omega)
              have fR' := hkU.frozen cR2 fR2 (by show w.heap.size + 1 ≠ W.heap.size + 1; omega)
              have HKU : Hid (U.heap[D]? = some (.deferred (some []))) := hKU
              clear hKU
              obtain ⟨gl, e0, hgb, hgc⟩ := HR2.out (by omega)
              have hget := numTo_get F pre.length hlN
              have r1 := hkU.cell (hgc pre.length hlN) (by show gl ≠ W.heap.size + 1; omega)
              subst e0
              by_cases e1 : y.1 = pre.length
              · have t1 : ((y.1 : Int) != (pre.length : Int)) = false := by simp [e1]
                by_cases e2 : y.2 = F[pre.length]
                · have hon : Hid (pre ++ [y] <+: numTo F F.length) := prefix_on hpre (by rw [hget, ← e2, ← e1])
                  have hset := hbx2.set (.int .i64 ((pre.length : Int) + 1))
                  have hbl : Below (W.heap.size + 1) V2 (U.setCell ⟨W.heap.size + 1, 0, none⟩ (.int .i64 ((pre.length : Int) + 1))) := hBU.setCell (p := ⟨W.heap.size + 1, 0, none⟩) (Nat.le_refl _) _
                  have hkp : KpN (W.heap.size + 1) V2 (U.setCell ⟨W.heap.size + 1, 0, none⟩ (.int .i64 ((pre.length : Int) + 1))) := hkU.trans (KpN.set _ _ _)
                  rw [← e2] at r1
                  generalize (⟨y.2.toArray⟩ : ByteArray) = f at *
                  have hf : (f.toList == f.toList) = true := by simp
                  clear hget e1 e2 hgc HR2
                  gi_wp2
                  exact ⟨(KeepsOthers.setCell _ _ _).from _, KpN.set _ _ _, hon.out, by simpa using hset, hkp, hbl, (Below.heap_setCell _ _ _ D (by show D ≠ W.heap.size + 1; omega)).trans HKU.out⟩
                · have hno : Hid (¬ (pre ++ [y] <+: numTo F F.length)) := prefix_not (by rw [hget]; intro h; cases h; exact e2 rfl)
                  have hf : ((⟨y.2.toArray⟩ : ByteArray).toList == (⟨F[pre.length].toArray⟩ : ByteArray).toList) = false := by rw [toList_mk, toList_mk, beq_eq_false_iff_ne]; exact e2
                  generalize (⟨y.2.toArray⟩ : ByteArray) = f at *
                  generalize (⟨F[pre.length].toArray⟩ : ByteArray) = g at *
                  clear hget e1 e2 hgc HR2
                  gi_wp2
                  exact ⟨(KeepsOthers.setCell _ _ _).from _, hno.out⟩
              · have t1 : ((y.1 : Int) != (pre.length : Int)) = true := by simp; omega
                have hno : Hid (¬ (pre ++ [y] <+: numTo F F.length)) := prefix_not (by rw [hget]; intro h; cases h; exact e1 rfl)
                clear hget e1 hgc HR2
                gi_wp2
                exact ⟨(KeepsOthers.setCell _ _ _).from _, hno.out⟩
            case stop2_3_c2 =>
              rintro D2 c pre U hD2 hSp hIx hK3
              exact absurd hSp hIx
            case done2_3_c2 =>
              rintro D2 ys U hD2 rfl ⟨_, hbx2, hkU, hBU, hKU⟩ hK3
              have cN := hbx2.cell
              rw [numTo_length] at cN
              have hmm2 : ((F.length : Int) != (F.length : Int)) = false := by simp
              have cL3 := hkU.cell cW2 (by show W3.heap.size ≠ W.heap.size + 1; omega)
              have cO3 := hkU.cell cO2 (by show W.heap.size ≠ W.heap.size + 1; omega)
              have cR3 := hkU.cell cR2 (by show w.heap.size + 1 ≠ W.heap.size + 1; omega)
              have fR3 := hkU.frozen cR2 fR2 (by show w.heap.size + 1 ≠ W.heap.size + 1; omega)
              have cS3 := hkU.cell cS2 (by show w.heap.size ≠ W.heap.size + 1; omega)
              have hDU := lt_of_block hKU
              have hDU2 := lt_of_block hK3
              have HKU : Hid (U.heap[D]? = some (.deferred (some []))) := hKU
              have HKU2 : Hid (U.heap[D2]? = some (.deferred (some []))) := hK3
              have sU := hBU.size
              have bU : Below w.heap.size w U := bV2.trans (hBU.mono (by omega))
              clear hKU hK3 HR2 hkU hBU
              gi_wp2_with fail
              rw [roundsIn_succ]
              gi_wp2_with fail
              have bU1 : Below w.heap.size w (U.alloc (.cells #[.int .i64 2] 3)) := bU.alloc bU.size _
              refine ⟨trivial, (callsIn_wide.2 (awake_calls _ (HM.out.below bU1))).mono ?_⟩
              rintro e w6 ⟨rfl, hb6⟩
              have J6 : Below U.heap.size U w6 := ((Below.refl _ U).alloc (Nat.le_refl _) _).trans (hb6.mono (by simp))
              have cR6 := (J6.cell (p := ⟨w.heap.size + 1, 0, none⟩) (cell_lt cR3)).trans cR3
              have fR6 := (J6.frozen (p := ⟨w.heap.size + 1, 0, none⟩) (cell_lt cR3)).trans fR3
              have hKa := (J6.block D hDU).trans HKU.out
              have hKb := (J6.block D2 hDU2).trans HKU2.out
              have hW6 : Below w.heap.size w w6 := bU.trans (J6.mono bU.size)
              have hDne : D ≠ D2 := by omega
              clear hb6 J6 bU1
              gi_wp2
              have hKb' : (w6.setCell ⟨w.heap.size + 1, 0, none⟩ (.bool true)).heap[D2]? = some (.deferred (some [])) := (Below.heap_setCell _ _ _ D2 (by show D2 ≠ w.heap.size + 1; omega)).trans hKb
              have hKa' : ((w6.setCell ⟨w.heap.size + 1, 0, none⟩ (.bool true)).putObj D2 (.deferred none)).heap[D]? = some (.deferred (some [])) := (World.putObj_heap_other hDne).trans ((Below.heap_setCell _ _ _ D (by show D ≠ w.heap.size + 1; omega)).trans hKa)
              refine ⟨by simp, .inl ⟨_, _, rfl, run_takeDeferred hKb', ?_⟩⟩
              refine ⟨by simp, .inl ⟨_, _, rfl, run_takeDeferred hKa', ?_⟩⟩
              have hc9 : (((w6.setCell ⟨w.heap.size + 1, 0, none⟩ (.bool true)).putObj D2 (.deferred none)).putObj D (.deferred none)).cell? ⟨w.heap.size + 1, 0, none⟩ = some (.bool true) := by
                rw [World.cell?_of_block (w := (w6.setCell ⟨w.heap.size + 1, 0, none⟩ (.bool true)).putObj D2 (.deferred none)) (a := ⟨w.heap.size + 1, 0, none⟩) (World.putObj_heap_other (by show w.heap.size + 1 ≠ D; omega)), World.cell?_of_block (w := w6.setCell ⟨w.heap.size + 1, 0, none⟩ (.bool true)) (a := ⟨w.heap.size + 1, 0, none⟩) (World.putObj_heap_other (by show w.heap.size + 1 ≠ D2; omega))]
                exact cs_same cR6
              refine ⟨.bool true, by simp [results, Try.f3, go_sem, hc9], rfl, ?_⟩
              have z1 := lt_of_block hKb'
              have z2 := lt_of_block hKa'
              exact (((hW6.setCell (p := ⟨w.heap.size + 1, 0, none⟩) (by simp) _).grown (grownBy_putObj' _ D2 _) (by omega) (fun k e => by cases e; omega)).grown (grownBy_putObj' _ D _) (by omega) (fun k e => by cases e; omega))
          case stop_c2 =>
            rintro D c pre W hD hSp hIx hK
            obtain ⟨rfl, hbx, hkW, hBW⟩ := hIx.resolve_left (fun h => h hSp)
            have cN := hbx.cell
            have hxx : (x != x) = false := by simp
            by_cases hmx : x = (F.length : Int)
            · have hmm : (x != (F.length : Int)) = false := by simp [hmx]
              clear hmx
              have cL' := (kV.trans hkW).cell cWY (by show W3.heap.size ≠ Y.heap.size + 1; omega)
              have cO' := hkW.cell cO (by show Y.heap.size ≠ Y.heap.size + 1; omega)
              have cS' := (kV.trans hkW).cell cSY (by show w.heap.size ≠ Y.heap.size + 1; omega)
              have hDW := lt_of_block hK
              have sW := hBW.size
              have HK : Hid (W.heap[D]? = some (.deferred (some []))) := hK
              clear hK
              gi_wp2_with fail
              rw [roundsIn_succ]
              gi_wp2_with fail
              refine ⟨trivial, (callsIn_wide.2 (HAL.out _)).mono ?_⟩
              rintro e V2 ⟨B2, v2, rfl, hcB2, hBge2, hOv2, hBV2⟩
              gi_wp2_with fail
              have sV2 := hBV2.size
              simp only [World.size_alloc] at hBge2 hOv2 sV2
              have kV2 : KpN (W.heap.size + 1) W V2 := (KpN.of_below (((Below.refl _ W).alloc (Nat.le_refl _) _).alloc (by simp) _)).trans (KpN.of_below hBV2)
              have bW : Below w.heap.size w W := bV.trans (hBW.mono (by omega))
              have bV2 : Below w.heap.size w V2 := ((bW.alloc bW.size _).alloc (by have := bW.size; simp; omega) _).trans (hBV2.mono (by have := bW.size; simp; omega))
              have cO2 : V2.cell? ⟨W.heap.size, 0, none⟩ = some (.int .i64 1) := (hBV2.cell (p := ⟨W.heap.size, 0, none⟩) (by simp; omega)).trans (by simp)
              have bN2 : Boxed V2 (W.heap.size + 1) 3 (.int .i64 0) := (hBV2.block (W.heap.size + 1) (by simp)).trans (by have := Boxed.new (W.alloc (.cells #[.int .i64 1] 3)) 3 (.int .i64 0); rwa [World.size_alloc] at this)
              have hK2 : V2.heap[D]? = some (.deferred (some [])) := (hBV2.block D (by simp; omega)).trans (((((Below.refl _ W).alloc (Nat.le_refl _) _).alloc (by simp) _).block D hDW).trans HK.out)
              have cW2 := kV2.cell cL' (by show W3.heap.size ≠ W.heap.size + 1; omega)
              have cR2 := kV2.cell ((kV.trans hkW).cell cRY (by show w.heap.size + 1 ≠ Y.heap.size + 1; omega)) (by show w.heap.size + 1 ≠ W.heap.size + 1; omega)
              have fR2 := kV2.frozen ((kV.trans hkW).cell cRY (by show w.heap.size + 1 ≠ Y.heap.size + 1; omega)) ((kV.trans hkW).frozen cRY fRY (by show w.heap.size + 1 ≠ Y.heap.size + 1; omega)) (by show w.heap.size + 1 ≠ W.heap.size + 1; omega)
              have cS2 := kV2.cell cS' (by show w.heap.size ≠ W.heap.size + 1; omega)
              have HR2 : Hid (0 < F.length → ∃ gl, a4 = some ⟨gl, 0, none⟩ ∧ gl < Y.heap.size ∧ ∀ j (h : j < F.length), V2.cell? ⟨gl, j, none⟩ = some (.string ⟨F[j].toArray⟩)) := fun h0 => by
                obtain ⟨gl, e0, hgb, _, hgc⟩ := (HasT.of HOY.out).at h0
                exact ⟨gl, e0, hgb, fun j hj => kV2.cell ((kV.trans hkW).cell (hgc j hj) (by show gl ≠ Y.heap.size + 1; omega)) (by show gl ≠ W.heap.size + 1; omega)⟩
              clear hBV2
              refine wpIn_rangeFunc_ownG rfl (by omega) (gf := 25) (lb := #[.pointer (some ⟨B2, 0, none⟩)]) rfl trivial (enters_of Try.func25 (by kernel_rfl) rfl)
                (all_stops _ (by omega) B2 v2 F (by omega) (KpN (W.heap.size + 1)) V2 (HasT.of hOv2) hcB2 (fun b cap e A B' hk j u hu => KpN.cell hk hu (by show b ≠ W.heap.size + 1; have := (hOv2.lt b (by rw [e]; rfl)).1; omega)))
                KpN.trans (fun W l o o' h1 h2 h3 h4 => KpN.book W l o o' h1 h2 h3 h4) (Below.refl _ _) (fun _ => rfl)
                (fun (pre : List (Nat × List UInt8)) U => (pre <+: numTo F F.length) ∧ Boxed U (W.heap.size + 1) 3 (.int .i64 (pre.length : Int)) ∧ KpN (W.heap.size + 1) V2 U ∧ Below (W.heap.size + 1) V2 U ∧ U.heap[D]? = some (.deferred (some [])))
                (fun _ (pre : List (Nat × List UInt8)) _ => ¬ (pre <+: numTo F F.length))
                (OwnFrom.and (ownFrom_pure _ _) (OwnFrom.and (Own.from (boxed_own _ _ _) _) (OwnFrom.and (KpN.own _ _ _) (OwnFrom.and (ownFrom_below (by omega) (by omega)) (fun _ A A' row hs hg hr => (hg.block D (lt_of_block hs) (fun e => by have := (hr D e.symm).1; omega)).trans hs)))))
                (fun _ => ownFrom_pure _ _)
                ⟨List.nil_prefix, bN2, KpN.refl _ _, Below.refl _ _, hK2⟩ ?a2_1_c2 ?assign2_1_c2 ?body2_1_c2 ?done2_1_c2 ?stop2_1_c2
              case assign2_1_c2 =>
                intro l y W K hK
                gi_wp2
                exact hK
              case body2_1_c2 =>
                rintro l pre y U ⟨hpre, hbx2, hkU, hBU, hKU⟩ hlN
                have cN := hbx2.cell
                have fN := hbx2.frozen
                have cL' := hkU.cell cW2 (by show W3.heap.size ≠ W.heap.size + 1; omega)
                have cO' := hkU.cell cO2 (by show W.heap.size ≠ W.heap.size + 1; omega)
                have cR' := hkU.cell cR2 (by show w.heap.size + 1 ≠ W.heap.size + 1; omega)
                have fR' := hkU.frozen cR2 fR2 (by show w.heap.size + 1 ≠ W.heap.size + 1; omega)
                have HKU : Hid (U.heap[D]? = some (.deferred (some []))) := hKU
                clear hKU
                obtain ⟨gl, e0, hgb, hgc⟩ := HR2.out (by omega)
                have hget := numTo_get F pre.length hlN
                have r1 := hkU.cell (hgc pre.length hlN) (by show gl ≠ W.heap.size + 1; omega)
                subst e0
                by_cases e1 : y.1 = pre.length
                · have t1 : ((y.1 : Int) != (pre.length : Int)) = false := by simp [e1]
                  by_cases e2 : y.2 = F[pre.length]
                  · have hon : Hid (pre ++ [y] <+: numTo F F.length) := prefix_on hpre (by rw [hget, ← e2, ← e1])
                    have hset := hbx2.set (.int .i64 ((pre.length : Int) + 1))
                    have hbl : Below (W.heap.size + 1) V2 (U.setCell ⟨W.heap.size + 1, 0, none⟩ (.int .i64 ((pre.length : Int) + 1))) := hBU.setCell (p := ⟨W.heap.size + 1, 0, none⟩) (Nat.le_refl _) _
                    have hkp : KpN (W.heap.size + 1) V2 (U.setCell ⟨W.heap.size + 1, 0, none⟩ (.int .i64 ((pre.length : Int) + 1))) := hkU.trans (KpN.set _ _ _)
                    rw [← e2] at r1
                    generalize (⟨y.2.toArray⟩ : ByteArray) = f at *
                    have hf : (f.toList == f.toList) = true := by simp
                    clear hget e1 e2 hgc HR2
                    gi_wp2
                    exact ⟨(KeepsOthers.setCell _ _ _).from _, KpN.set _ _ _, hon.out, by simpa using hset, hkp, hbl, (Below.heap_setCell _ _ _ D (by show D ≠ W.heap.size + 1; omega)).trans HKU.out⟩
                  · have hno : Hid (¬ (pre ++ [y] <+: numTo F F.length)) := prefix_not (by rw [hget]; intro h; cases h; exact e2 rfl)
                    have hf : ((⟨y.2.toArray⟩ : ByteArray).toList == (⟨F[pre.length].toArray⟩ : ByteArray).toList) = false := by rw [toList_mk, toList_mk, beq_eq_false_iff_ne]; exact e2
                    generalize (⟨y.2.toArray⟩ : ByteArray) = f at *
                    generalize (⟨F[pre.length].toArray⟩ : ByteArray) = g at *
                    clear hget e1 e2 hgc HR2
                    gi_wp2
                    exact ⟨(KeepsOthers.setCell _ _ _).from _, hno.out⟩
                · have t1 : ((y.1 : Int) != (pre.length : Int)) = true := by simp; omega
                  have hno : Hid (¬ (pre ++ [y] <+: numTo F F.length)) := prefix_not (by rw [hget]; intro h; cases h; exact e1 rfl)
                  clear hget e1 hgc HR2
                  gi_wp2
                  exact ⟨(KeepsOthers.setCell _ _ _).from _, hno.out⟩
              case stop2_1_c2 =>
                rintro D2 c pre U hD2 hSp hIx hK3
                exact absurd hSp hIx
              case done2_1_c2 =>
                rintro D2 ys U hD2 rfl ⟨_, hbx2, hkU, hBU, hKU⟩ hK3
                have cN := hbx2.cell
                rw [numTo_length] at cN
                have hmm2 : ((F.length : Int) != (F.length : Int)) = false := by simp
                have cL3 := hkU.cell cW2 (by show W3.heap.size ≠ W.heap.size + 1; omega)
                have cO3 := hkU.cell cO2 (by show W.heap.size ≠ W.heap.size + 1; omega)
                have cR3 := hkU.cell cR2 (by show w.heap.size + 1 ≠ W.heap.size + 1; omega)
                have fR3 := hkU.frozen cR2 fR2 (by show w.heap.size + 1 ≠ W.heap.size + 1; omega)
                have cS3 := hkU.cell cS2 (by show w.heap.size ≠ W.heap.size + 1; omega)
                have hDU := lt_of_block hKU
                have hDU2 := lt_of_block hK3
                have HKU : Hid (U.heap[D]? = some (.deferred (some []))) := hKU
                have HKU2 : Hid (U.heap[D2]? = some (.deferred (some []))) := hK3
                have sU := hBU.size
                have bU : Below w.heap.size w U := bV2.trans (hBU.mono (by omega))
                clear hKU hK3 HR2 hkU hBU
                gi_wp2_with fail
                rw [roundsIn_succ]
                gi_wp2_with fail
                have bU1 : Below w.heap.size w (U.alloc (.cells #[.int .i64 2] 3)) := bU.alloc bU.size _
                refine ⟨trivial, (callsIn_wide.2 (awake_calls _ (HM.out.below bU1))).mono ?_⟩
                rintro e w6 ⟨rfl, hb6⟩
                have J6 : Below U.heap.size U w6 := ((Below.refl _ U).alloc (Nat.le_refl _) _).trans (hb6.mono (by simp))
                have cR6 := (J6.cell (p := ⟨w.heap.size + 1, 0, none⟩) (cell_lt cR3)).trans cR3
                have fR6 := (J6.frozen (p := ⟨w.heap.size + 1, 0, none⟩) (cell_lt cR3)).trans fR3
                have hKa := (J6.block D hDU).trans HKU.out
                have hKb := (J6.block D2 hDU2).trans HKU2.out
                have hW6 : Below w.heap.size w w6 := bU.trans (J6.mono bU.size)
                have hDne : D ≠ D2 := by omega
                clear hb6 J6 bU1
                gi_wp2
                have hKb' : (w6.setCell ⟨w.heap.size + 1, 0, none⟩ (.bool true)).heap[D2]? = some (.deferred (some [])) := (Below.heap_setCell _ _ _ D2 (by show D2 ≠ w.heap.size + 1; omega)).trans hKb
                have hKa' : ((w6.setCell ⟨w.heap.size + 1, 0, none⟩ (.bool true)).putObj D2 (.deferred none)).heap[D]? = some (.deferred (some [])) := (World.putObj_heap_other hDne).trans ((Below.heap_setCell _ _ _ D (by show D ≠ w.heap.size + 1; omega)).trans hKa)
                refine ⟨by simp, .inl ⟨_, _, rfl, run_takeDeferred hKb', ?_⟩⟩
                refine ⟨by simp, .inl ⟨_, _, rfl, run_takeDeferred hKa', ?_⟩⟩
                have hc9 : (((w6.setCell ⟨w.heap.size + 1, 0, none⟩ (.bool true)).putObj D2 (.deferred none)).putObj D (.deferred none)).cell? ⟨w.heap.size + 1, 0, none⟩ = some (.bool true) := by
                  rw [World.cell?_of_block (w := (w6.setCell ⟨w.heap.size + 1, 0, none⟩ (.bool true)).putObj D2 (.deferred none)) (a := ⟨w.heap.size + 1, 0, none⟩) (World.putObj_heap_other (by show w.heap.size + 1 ≠ D; omega)), World.cell?_of_block (w := w6.setCell ⟨w.heap.size + 1, 0, none⟩ (.bool true)) (a := ⟨w.heap.size + 1, 0, none⟩) (World.putObj_heap_other (by show w.heap.size + 1 ≠ D2; omega))]
                  exact cs_same cR6
                refine ⟨.bool true, by simp [results, Try.f3, go_sem, hc9], rfl, ?_⟩
                have z1 := lt_of_block hKb'
                have z2 := lt_of_block hKa'
                exact (((hW6.setCell (p := ⟨w.heap.size + 1, 0, none⟩) (by simp) _).grown (grownBy_putObj' _ D2 _) (by omega) (fun k e => by cases e; omega)).grown (grownBy_putObj' _ D _) (by omega) (fun k e => by cases e; omega))
            · have hmm : (x != (F.length : Int)) = true := by simp [hmx]
              clear hmx
              have cL' := (kV.trans hkW).cell cWY (by show W3.heap.size ≠ Y.heap.size + 1; omega)
              have cO' := hkW.cell cO (by show Y.heap.size ≠ Y.heap.size + 1; omega)
              have cS' := (kV.trans hkW).cell cSY (by show w.heap.size ≠ Y.heap.size + 1; omega)
              have hDW := lt_of_block hK
              have sW := hBW.size
              have HK : Hid (W.heap[D]? = some (.deferred (some []))) := hK
              clear hK
              gi_wp2_with fail
              rw [roundsIn_succ]
              gi_wp2_with fail
              refine ⟨trivial, (callsIn_wide.2 (HAL.out _)).mono ?_⟩
              rintro e V2 ⟨B2, v2, rfl, hcB2, hBge2, hOv2, hBV2⟩
              gi_wp2_with fail
              have sV2 := hBV2.size
              simp only [World.size_alloc] at hBge2 hOv2 sV2
              have kV2 : KpN (W.heap.size + 1) W V2 := (KpN.of_below (((Below.refl _ W).alloc (Nat.le_refl _) _).alloc (by simp) _)).trans (KpN.of_below hBV2)
              have bW : Below w.heap.size w W := bV.trans (hBW.mono (by omega))
              have bV2 : Below w.heap.size w V2 := ((bW.alloc bW.size _).alloc (by have := bW.size; simp; omega) _).trans (hBV2.mono (by have := bW.size; simp; omega))
              have cO2 : V2.cell? ⟨W.heap.size, 0, none⟩ = some (.int .i64 1) := (hBV2.cell (p := ⟨W.heap.size, 0, none⟩) (by simp; omega)).trans (by simp)
              have bN2 : Boxed V2 (W.heap.size + 1) 3 (.int .i64 0) := (hBV2.block (W.heap.size + 1) (by simp)).trans (by have := Boxed.new (W.alloc (.cells #[.int .i64 1] 3)) 3 (.int .i64 0); rwa [World.size_alloc] at this)
              have hK2 : V2.heap[D]? = some (.deferred (some [])) := (hBV2.block D (by simp; omega)).trans (((((Below.refl _ W).alloc (Nat.le_refl _) _).alloc (by simp) _).block D hDW).trans HK.out)
              have cW2 := kV2.cell cL' (by show W3.heap.size ≠ W.heap.size + 1; omega)
              have cR2 := kV2.cell ((kV.trans hkW).cell cRY (by show w.heap.size + 1 ≠ Y.heap.size + 1; omega)) (by show w.heap.size + 1 ≠ W.heap.size + 1; omega)
              have fR2 := kV2.frozen ((kV.trans hkW).cell cRY (by show w.heap.size + 1 ≠ Y.heap.size + 1; omega)) ((kV.trans hkW).frozen cRY fRY (by show w.heap.size + 1 ≠ Y.heap.size + 1; omega)) (by show w.heap.size + 1 ≠ W.heap.size + 1; omega)
              have cS2 := kV2.cell cS' (by show w.heap.size ≠ W.heap.size + 1; omega)
              have HR2 : Hid (0 < F.length → ∃ gl, a4 = some ⟨gl, 0, none⟩ ∧ gl < Y.heap.size ∧ ∀ j (h : j < F.length), V2.cell? ⟨gl, j, none⟩ = some (.string ⟨F[j].toArray⟩)) := fun h0 => by
                obtain ⟨gl, e0, hgb, _, hgc⟩ := (HasT.of HOY.out).at h0
                exact ⟨gl, e0, hgb, fun j hj => kV2.cell ((kV.trans hkW).cell (hgc j hj) (by show gl ≠ Y.heap.size + 1; omega)) (by show gl ≠ W.heap.size + 1; omega)⟩
              clear hBV2
              refine wpIn_rangeFunc_ownG rfl (by omega) (gf := 25) (lb := #[.pointer (some ⟨B2, 0, none⟩)]) rfl trivial (enters_of Try.func25 (by kernel_rfl) rfl)
                (all_stops _ (by omega) B2 v2 F (by omega) (KpN (W.heap.size + 1)) V2 (HasT.of hOv2) hcB2 (fun b cap e A B' hk j u hu => KpN.cell hk hu (by show b ≠ W.heap.size + 1; have := (hOv2.lt b (by rw [e]; rfl)).1; omega)))
                KpN.trans (fun W l o o' h1 h2 h3 h4 => KpN.book W l o o' h1 h2 h3 h4) (Below.refl _ _) (fun _ => rfl)
                (fun (pre : List (Nat × List UInt8)) U => (pre <+: numTo F F.length) ∧ Boxed U (W.heap.size + 1) 3 (.int .i64 (pre.length : Int)) ∧ KpN (W.heap.size + 1) V2 U ∧ Below (W.heap.size + 1) V2 U ∧ U.heap[D]? = some (.deferred (some [])))
                (fun _ (pre : List (Nat × List UInt8)) _ => ¬ (pre <+: numTo F F.length))
                (OwnFrom.and (ownFrom_pure _ _) (OwnFrom.and (Own.from (boxed_own _ _ _) _) (OwnFrom.and (KpN.own _ _ _) (OwnFrom.and (ownFrom_below (by omega) (by omega)) (fun _ A A' row hs hg hr => (hg.block D (lt_of_block hs) (fun e => by have := (hr D e.symm).1; omega)).trans hs)))))
                (fun _ => ownFrom_pure _ _)
                ⟨List.nil_prefix, bN2, KpN.refl _ _, Below.refl _ _, hK2⟩ ?a2_2_c2 ?assign2_2_c2 ?body2_2_c2 ?done2_2_c2 ?stop2_2_c2
              case assign2_2_c2 =>
                intro l y W K hK
                gi_wp2
                exact hK
              case body2_2_c2 =>
                rintro l pre y U ⟨hpre, hbx2, hkU, hBU, hKU⟩ hlN
                have cN := hbx2.cell
                have fN := hbx2.frozen
                have cL' := hkU.cell cW2 (by show W3.heap.size ≠ W.heap.size + 1; omega)
                have cO' := hkU.cell cO2 (by show W.heap.size ≠ W.heap.size + 1; omega)
                have cR' := hkU.cell cR2 (by show w.heap.size + 1 ≠ W.heap.size + 1; omega)
                have fR' := hkU.frozen cR2 fR2 (by show w.heap.size + 1 ≠ W.heap.size + 1; omega)
                have HKU : Hid (U.heap[D]? = some (.deferred (some []))) := hKU
                clear hKU
                obtain ⟨gl, e0, hgb, hgc⟩ := HR2.out (by omega)
                have hget := numTo_get F pre.length hlN
                have r1 := hkU.cell (hgc pre.length hlN) (by show gl ≠ W.heap.size + 1; omega)
                subst e0
                by_cases e1 : y.1 = pre.length
                · have t1 : ((y.1 : Int) != (pre.length : Int)) = false := by simp [e1]
                  by_cases e2 : y.2 = F[pre.length]
                  · have hon : Hid (pre ++ [y] <+: numTo F F.length) := prefix_on hpre (by rw [hget, ← e2, ← e1])
                    have hset := hbx2.set (.int .i64 ((pre.length : Int) + 1))
                    have hbl : Below (W.heap.size + 1) V2 (U.setCell ⟨W.heap.size + 1, 0, none⟩ (.int .i64 ((pre.length : Int) + 1))) := hBU.setCell (p := ⟨W.heap.size + 1, 0, none⟩) (Nat.le_refl _) _
                    have hkp : KpN (W.heap.size + 1) V2 (U.setCell ⟨W.heap.size + 1, 0, none⟩ (.int .i64 ((pre.length : Int) + 1))) := hkU.trans (KpN.set _ _ _)
                    rw [← e2] at r1
                    generalize (⟨y.2.toArray⟩ : ByteArray) = f at *
                    have hf : (f.toList == f.toList) = true := by simp
                    clear hget e1 e2 hgc HR2
                    gi_wp2
                    exact ⟨(KeepsOthers.setCell _ _ _).from _, KpN.set _ _ _, hon.out, by simpa using hset, hkp, hbl, (Below.heap_setCell _ _ _ D (by show D ≠ W.heap.size + 1; omega)).trans HKU.out⟩
                  · have hno : Hid (¬ (pre ++ [y] <+: numTo F F.length)) := prefix_not (by rw [hget]; intro h; cases h; exact e2 rfl)
                    have hf : ((⟨y.2.toArray⟩ : ByteArray).toList == (⟨F[pre.length].toArray⟩ : ByteArray).toList) = false := by rw [toList_mk, toList_mk, beq_eq_false_iff_ne]; exact e2
                    generalize (⟨y.2.toArray⟩ : ByteArray) = f at *
                    generalize (⟨F[pre.length].toArray⟩ : ByteArray) = g at *
                    clear hget e1 e2 hgc HR2
                    gi_wp2
                    exact ⟨(KeepsOthers.setCell _ _ _).from _, hno.out⟩
                · have t1 : ((y.1 : Int) != (pre.length : Int)) = true := by simp; omega
                  have hno : Hid (¬ (pre ++ [y] <+: numTo F F.length)) := prefix_not (by rw [hget]; intro h; cases h; exact e1 rfl)
                  clear hget e1 hgc HR2
                  gi_wp2
                  exact ⟨(KeepsOthers.setCell _ _ _).from _, hno.out⟩
              case stop2_2_c2 =>
                rintro D2 c pre U hD2 hSp hIx hK3
                exact absurd hSp hIx
              case done2_2_c2 =>
                rintro D2 ys U hD2 rfl ⟨_, hbx2, hkU, hBU, hKU⟩ hK3
                have cN := hbx2.cell
                rw [numTo_length] at cN
                have hmm2 : ((F.length : Int) != (F.length : Int)) = false := by simp
                have cL3 := hkU.cell cW2 (by show W3.heap.size ≠ W.heap.size + 1; omega)
                have cO3 := hkU.cell cO2 (by show W.heap.size ≠ W.heap.size + 1; omega)
                have cR3 := hkU.cell cR2 (by show w.heap.size + 1 ≠ W.heap.size + 1; omega)
                have fR3 := hkU.frozen cR2 fR2 (by show w.heap.size + 1 ≠ W.heap.size + 1; omega)
                have cS3 := hkU.cell cS2 (by show w.heap.size ≠ W.heap.size + 1; omega)
                have hDU := lt_of_block hKU
                have hDU2 := lt_of_block hK3
                have HKU : Hid (U.heap[D]? = some (.deferred (some []))) := hKU
                have HKU2 : Hid (U.heap[D2]? = some (.deferred (some []))) := hK3
                have sU := hBU.size
                have bU : Below w.heap.size w U := bV2.trans (hBU.mono (by omega))
                clear hKU hK3 HR2 hkU hBU
                gi_wp2_with fail
                rw [roundsIn_succ]
                gi_wp2_with fail
                have bU1 : Below w.heap.size w (U.alloc (.cells #[.int .i64 2] 3)) := bU.alloc bU.size _
                refine ⟨trivial, (callsIn_wide.2 (awake_calls _ (HM.out.below bU1))).mono ?_⟩
                rintro e w6 ⟨rfl, hb6⟩
                have J6 : Below U.heap.size U w6 := ((Below.refl _ U).alloc (Nat.le_refl _) _).trans (hb6.mono (by simp))
                have cR6 := (J6.cell (p := ⟨w.heap.size + 1, 0, none⟩) (cell_lt cR3)).trans cR3
                have fR6 := (J6.frozen (p := ⟨w.heap.size + 1, 0, none⟩) (cell_lt cR3)).trans fR3
                have hKa := (J6.block D hDU).trans HKU.out
                have hKb := (J6.block D2 hDU2).trans HKU2.out
                have hW6 : Below w.heap.size w w6 := bU.trans (J6.mono bU.size)
                have hDne : D ≠ D2 := by omega
                clear hb6 J6 bU1
                gi_wp2
                have hKb' : (w6.setCell ⟨w.heap.size + 1, 0, none⟩ (.bool true)).heap[D2]? = some (.deferred (some [])) := (Below.heap_setCell _ _ _ D2 (by show D2 ≠ w.heap.size + 1; omega)).trans hKb
                have hKa' : ((w6.setCell ⟨w.heap.size + 1, 0, none⟩ (.bool true)).putObj D2 (.deferred none)).heap[D]? = some (.deferred (some [])) := (World.putObj_heap_other hDne).trans ((Below.heap_setCell _ _ _ D (by show D ≠ w.heap.size + 1; omega)).trans hKa)
                refine ⟨by simp, .inl ⟨_, _, rfl, run_takeDeferred hKb', ?_⟩⟩
                refine ⟨by simp, .inl ⟨_, _, rfl, run_takeDeferred hKa', ?_⟩⟩
                have hc9 : (((w6.setCell ⟨w.heap.size + 1, 0, none⟩ (.bool true)).putObj D2 (.deferred none)).putObj D (.deferred none)).cell? ⟨w.heap.size + 1, 0, none⟩ = some (.bool true) := by
                  rw [World.cell?_of_block (w := (w6.setCell ⟨w.heap.size + 1, 0, none⟩ (.bool true)).putObj D2 (.deferred none)) (a := ⟨w.heap.size + 1, 0, none⟩) (World.putObj_heap_other (by show w.heap.size + 1 ≠ D; omega)), World.cell?_of_block (w := w6.setCell ⟨w.heap.size + 1, 0, none⟩ (.bool true)) (a := ⟨w.heap.size + 1, 0, none⟩) (World.putObj_heap_other (by show w.heap.size + 1 ≠ D2; omega))]
                  exact cs_same cR6
                refine ⟨.bool true, by simp [results, Try.f3, go_sem, hc9], rfl, ?_⟩
                have z1 := lt_of_block hKb'
                have z2 := lt_of_block hKa'
                exact (((hW6.setCell (p := ⟨w.heap.size + 1, 0, none⟩) (by simp) _).grown (grownBy_putObj' _ D2 _) (by omega) (fun k e => by cases e; omega)).grown (grownBy_putObj' _ D _) (by omega) (fun k e => by cases e; omega))

set_option maxRecDepth 100000 in
theorem contract (H : Type) (enc : TypeId × Value → H) (W : World) (base : Nat) (args : Array Value) (ds gs : List (DataW H)) (before : List MemPlace)
    (hval : ∀ (j : Nat) t v, Try.f3.params[j]? = some t → args[j]? = some v → Value.okWide Try.prog W .any base t v)
    (hW : DataW.Whole enc Try.prog Try.f3.params.toList Rows.namesSetsSpec.vars false W args.toList ds gs before) (hsh : W.ShapedOpen Try.prog) :
    Calls Try.prog 3 args W fun e W' => ∃ v, e = .returned v ∧ Rows.namesSetsSpec.post enc Try.prog Try.f3 false true false false W args v W' := by
  have hW' := hW
  have hlt := hW.lt
  obtain ⟨p, q, hA0, hV, rfl, hfz, hnd⟩ := hW
  have hA : DataW.TrodAll enc Try.prog W 0 (fun _ => true) true Try.f3.params.toList args.toList ds p := hA0
  rw [Try.params3] at hA hval
  obtain ⟨v0, vs0, d0, ds0, p0, q0, hargs, rfl, rfl, h0, r0⟩ := trodAll_cons hA
  obtain ⟨v1, vs1, d1, ds1, p1, q1, rfl, rfl, rfl, h1, r1⟩ := trodAll_cons r0
  obtain ⟨v2, vs2, d2, ds2, p2, q2, rfl, rfl, rfl, h2, r2⟩ := trodAll_cons r1
  obtain ⟨rfl, rfl, rfl⟩ := trodAll_nil r2
  obtain rfl : args = #[v0, v1, v2] := by cases args; simp_all
  obtain ⟨rfl, rfl⟩ := trodVars_none hV
  clear hA0
  simp only [List.append_nil] at hW' hlt
  have h0' := h0
  obtain ⟨s0, rfl, rfl, e0, ws0⟩ := Go.ChangeMaps.open_string Try.underlying9 (hval 0 9 v0 rfl rfl) h0
  have h1' := h1
  obtain ⟨x1, rfl, e1, -, w1⟩ := open_int Try.underlying3 (hval 1 3 v1 rfl rfl) h1
  have h2' := h2
  obtain ⟨x2, rfl, e2, -, w2⟩ := open_int Try.underlying3 (hval 2 3 v2 rfl rfl) h2
  refine (walk W (Try.laysM144.s1_3 W hsh) s0 ws0 x1 w1 x2 w2).mono fun e W' ⟨he, hb⟩ => ?_
  subst he
  exact ⟨_, rfl, post_below hW' (fun _ _ _ => trodAll_cons_mk (shut_bool Try.underlying4 _) trodAll_mk0) (trodAll_cons_mk (stays (by kernel_rfl) (of_decide_eq_true (by kernel_rfl)) h0' hb (fun x hx => hlt x (by simp [hx]))) (trodAll_cons_mk (stays (by kernel_rfl) (of_decide_eq_true (by kernel_rfl)) h1' hb (fun x hx => hlt x (by simp [hx]))) (trodAll_cons_mk (stays (by kernel_rfl) (of_decide_eq_true (by kernel_rfl)) h2' hb (fun x hx => hlt x (by simp [hx]))) trodAll_mk0))) rfl hb⟩

set_option maxRecDepth 100000 in
theorem laid_met (os : Os) : laidMet Try.prog Rows.namesSetsRow.laid ((World.holding Try.prog os ⟨#[], #[], []⟩).forCall (fun _ _ => 0) ⟨#[], #[Value.string ⟨#[]⟩, Value.int .i64 0, Value.int .i64 0], []⟩).memory :=
  laidMet_of_run' 8 (by kernel_rfl) (by kernel_rfl)
set_option maxRecDepth 100000 in
theorem reads (os : Os) {H : Type} (enc : TypeId × Value → H) : ∃ places, DataW.whole enc Try.prog ((World.holding Try.prog os ⟨#[], #[], []⟩).forCall (fun _ _ => 0) ⟨#[], #[Value.string ⟨#[]⟩, Value.int .i64 0, Value.int .i64 0], []⟩).memory Try.f3.params.toList Rows.namesSetsSpec.vars false #[Value.string ⟨#[]⟩, Value.int .i64 0, Value.int .i64 0].toList 8 = some ([.lit (.string []), .lit (.int .i64 0), .lit (.int .i64 0)], [], places) :=
  ⟨[], by kernel_rfl⟩

set_option maxRecDepth 100000 in
theorem lifted (os : Os) (started : os.Started) (H : Type) (enc : TypeId × Value → H) (F : Stop.Interp) :
    ReturnsInHanded {} Try.checked os 3 .any ((OpenSpec.ofChange Rows.namesSetsSpec).preRow enc Try.prog Try.f3 Rows.namesSetsRow.domain false Rows.namesSetsRow.laid) (((OpenSpec.ofChange Rows.namesSetsSpec).at F).post enc Try.prog Try.f3 false true false false) := by
  obtain ⟨places, hx⟩ := reads os enc
  refine returnsInHanded_of_row (C := Try.checked) (s := OpenSpec.ofChange Rows.namesSetsSpec) own started (by kernel_rfl) Try.func3
    (witness_row_at (enc := enc) (C := Try.checked) false (World.holding Try.prog os ⟨#[], #[], []⟩) #[Value.string ⟨#[]⟩, Value.int .i64 0, Value.int .i64 0] rfl (by kernel_rfl) (by kernel_rfl) (by kernel_rfl)
      (OpenSpec.preRow_of_cond 8 hx (by kernel_rfl) (fun k hk => by cases hk) (by kernel_rfl) (laid_met os))) ?_
  intro W base args ds gs before hval hW _ _ _ hL hsh _
  exact contract H enc W base args ds gs before hval hW hsh

set_option maxRecDepth 100000 in
theorem said : Rows.NamesSetsSaid :=
  OpenClaim.holds_of_cond 3 Try.f3 rfl rfl rfl rfl rfl rfl rfl ⟨rfl, rfl, rfl, rfl, rfl⟩ rfl rfl rfl rfl rfl (by kernel_rfl) Try.func3 (by kernel_rfl)
    (of_decide_eq_true (by kernel_rfl)) (by unfold Func.isWrapper; first | (rw [if_pos (by decide +kernel)]; kernel_rfl) | (rw [if_neg (by decide +kernel)]; exact ⟨rfl, rfl⟩))
    (fun os started H enc _ F => by rw [OpenClaim.pre_eq_preRow]; exact lifted os started H enc F)


end Go.Proofs.Ytjgppdjbcmadcaa.NSetsL
