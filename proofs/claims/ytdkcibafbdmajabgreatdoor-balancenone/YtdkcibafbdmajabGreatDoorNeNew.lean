/- What is proved here: a new table. -/
import Derived.Test.YtdkcibafbdmajabGreatDoorNeElem2
namespace Go.Proofs.YtdkcibafbdmajabGreatDoor.E
open Go.RowKit Go.Shelf Go.WideMaps Go.Maps Go.Proofs.YtdkcibafbdmajabGreatDoor.N Go.Proofs.YtdkcibafbdmajabGreatDoor.C

theorem wpList_insert_own (w : World) {ops : Array Oper} {rest : List Oper} {o : Oper} {a : Act} {Q : Exit → Act → World → Prop}
    (hg : o.guard = none) (m x v : Operand) (t : TypeId) (hop : o.op = Op.insert t m x v)
    (k e : TypeId) (K : Keyed Tryz.prog k) (ht : Tryz.prog.underlying t = some (.map k e)) (R : Value → Option (DataW Unit × List MemPlace)) (b n : Nat) (D : DataW Unit)
    (hm : a.eval m = .map (some b)) (hown : w.ownsMap Tryz.prog k R b n D) (hn : n < maxLen) (key val : Value) (kl : Lit) (hx : a.eval x = key) (hv : a.eval v = val) (hkey : keyOf Tryz.prog k key = some kl)
    (d : DataW Unit) (ps : List MemPlace) (hval : R val = some (d, ps))
    (hK : ∀ w', w'.ownsMap Tryz.prog k R b (n + 1) (D.put kl d) → w.grownBy w' (some b) → wpList Tryz.prog ops Q rest (a.put o.dst undef) w') :
    wpList Tryz.prog ops Q (o :: rest) a w := by
  refine wpList_plain hg fun K' hK' => ?_
  obtain ⟨w', hrun, r1, r2⟩ := hown.update K ht hn hkey hval
  unfold Oper.wp
  simp [execOp, hop, hm, hx, hv, hrun, Result.andThen]
  exact hK' _ _ (hK w' r1 r2)
set_option maxRecDepth 100000 in
set_option maxHeartbeats 4000000 in
/-- **places.** -/
theorem places_calls (w : World) : Calls Tryz.prog 114 #[] w fun e w' => e = .returned (.map (some w.heap.size)) ∧ PM w.heap.size w' ∧ Below w.heap.size w w' := by
  have hmm := @run_makeMap Tryz.prog
  have HN0 : Hid (PT w.heap.size 0 (w.alloc (.map #[] 0)) [] (.map [])) := PT.new w
  have HB0 : Hid (Below w.heap.size w (w.alloc (.map #[] 0))) := (Below.refl _ _).alloc (Nat.le_refl _) _
  have HK0 := key_tx [108, 105] (by decide)
  have HK1 := key_tx [100, 116] (by decide)
  have HK2 := key_tx [100, 100] (by decide)
  have HK3 := key_tx [99, 97, 112, 116, 105, 111, 110] (by decide)
  have HK4 := key_tx [99, 111, 108, 103, 114, 111, 117, 112] (by decide)
  have HK5 := key_tx [116, 104, 101, 97, 100] (by decide)
  have HK6 := key_tx [116, 98, 111, 100, 121] (by decide)
  have HK7 := key_tx [116, 102, 111, 111, 116] (by decide)
  have HK8 := key_tx [99, 111, 108] (by decide)
  have HK9 := key_tx [116, 114] (by decide)
  have HK10 := key_tx [116, 100] (by decide)
  have HK11 := key_tx [116, 104] (by decide)
  go_enter Tryz.func114, Tryz.ntmps114
  go_wp2_with (first
    | (refine wpList_insert_own _ rfl _ _ _ 151 rfl 9 131 lawE Tryz.underlying151 codeP w.heap.size 0 _ rfl HN0.out.own (by unfold maxLen; omega) _ (fnV 136) _ rfl rfl HK0 (.lit (.int .i64 ((136 : Nat) : Int))) [] (codeP_fn _) ?_; intro w1 hown hgrow; have HN1 := hid_of (HN0.out.put [108, 105] 136 hown); have HB1 : Hid (Below w.heap.size w w1) := HB0.out.grown hgrow HB0.out.size (fun j hj => by cases hj; exact Nat.le_refl _); clear HN0 HB0 HK0 hown hgrow)
    | (refine wpList_insert_own _ rfl _ _ _ 151 rfl 9 131 lawE Tryz.underlying151 codeP w.heap.size 1 _ rfl HN1.out.own (by unfold maxLen; omega) _ (fnV 137) _ rfl rfl HK1 (.lit (.int .i64 ((137 : Nat) : Int))) [] (codeP_fn _) ?_; intro w2 hown hgrow; have HN2 := hid_of (HN1.out.put [100, 116] 137 hown); have HB2 : Hid (Below w.heap.size w w2) := HB1.out.grown hgrow HB1.out.size (fun j hj => by cases hj; exact Nat.le_refl _); clear HN1 HB1 HK1 hown hgrow)
    | (refine wpList_insert_own _ rfl _ _ _ 151 rfl 9 131 lawE Tryz.underlying151 codeP w.heap.size 2 _ rfl HN2.out.own (by unfold maxLen; omega) _ (fnV 137) _ rfl rfl HK2 (.lit (.int .i64 ((137 : Nat) : Int))) [] (codeP_fn _) ?_; intro w3 hown hgrow; have HN3 := hid_of (HN2.out.put [100, 100] 137 hown); have HB3 : Hid (Below w.heap.size w w3) := HB2.out.grown hgrow HB2.out.size (fun j hj => by cases hj; exact Nat.le_refl _); clear HN2 HB2 HK2 hown hgrow)
    | (refine wpList_insert_own _ rfl _ _ _ 151 rfl 9 131 lawE Tryz.underlying151 codeP w.heap.size 3 _ rfl HN3.out.own (by unfold maxLen; omega) _ (fnV 138) _ rfl rfl HK3 (.lit (.int .i64 ((138 : Nat) : Int))) [] (codeP_fn _) ?_; intro w4 hown hgrow; have HN4 := hid_of (HN3.out.put [99, 97, 112, 116, 105, 111, 110] 138 hown); have HB4 : Hid (Below w.heap.size w w4) := HB3.out.grown hgrow HB3.out.size (fun j hj => by cases hj; exact Nat.le_refl _); clear HN3 HB3 HK3 hown hgrow)
    | (refine wpList_insert_own _ rfl _ _ _ 151 rfl 9 131 lawE Tryz.underlying151 codeP w.heap.size 4 _ rfl HN4.out.own (by unfold maxLen; omega) _ (fnV 138) _ rfl rfl HK4 (.lit (.int .i64 ((138 : Nat) : Int))) [] (codeP_fn _) ?_; intro w5 hown hgrow; have HN5 := hid_of (HN4.out.put [99, 111, 108, 103, 114, 111, 117, 112] 138 hown); have HB5 : Hid (Below w.heap.size w w5) := HB4.out.grown hgrow HB4.out.size (fun j hj => by cases hj; exact Nat.le_refl _); clear HN4 HB4 HK4 hown hgrow)
    | (refine wpList_insert_own _ rfl _ _ _ 151 rfl 9 131 lawE Tryz.underlying151 codeP w.heap.size 5 _ rfl HN5.out.own (by unfold maxLen; omega) _ (fnV 138) _ rfl rfl HK5 (.lit (.int .i64 ((138 : Nat) : Int))) [] (codeP_fn _) ?_; intro w6 hown hgrow; have HN6 := hid_of (HN5.out.put [116, 104, 101, 97, 100] 138 hown); have HB6 : Hid (Below w.heap.size w w6) := HB5.out.grown hgrow HB5.out.size (fun j hj => by cases hj; exact Nat.le_refl _); clear HN5 HB5 HK5 hown hgrow)
    | (refine wpList_insert_own _ rfl _ _ _ 151 rfl 9 131 lawE Tryz.underlying151 codeP w.heap.size 6 _ rfl HN6.out.own (by unfold maxLen; omega) _ (fnV 138) _ rfl rfl HK6 (.lit (.int .i64 ((138 : Nat) : Int))) [] (codeP_fn _) ?_; intro w7 hown hgrow; have HN7 := hid_of (HN6.out.put [116, 98, 111, 100, 121] 138 hown); have HB7 : Hid (Below w.heap.size w w7) := HB6.out.grown hgrow HB6.out.size (fun j hj => by cases hj; exact Nat.le_refl _); clear HN6 HB6 HK6 hown hgrow)
    | (refine wpList_insert_own _ rfl _ _ _ 151 rfl 9 131 lawE Tryz.underlying151 codeP w.heap.size 7 _ rfl HN7.out.own (by unfold maxLen; omega) _ (fnV 138) _ rfl rfl HK7 (.lit (.int .i64 ((138 : Nat) : Int))) [] (codeP_fn _) ?_; intro w8 hown hgrow; have HN8 := hid_of (HN7.out.put [116, 102, 111, 111, 116] 138 hown); have HB8 : Hid (Below w.heap.size w w8) := HB7.out.grown hgrow HB7.out.size (fun j hj => by cases hj; exact Nat.le_refl _); clear HN7 HB7 HK7 hown hgrow)
    | (refine wpList_insert_own _ rfl _ _ _ 151 rfl 9 131 lawE Tryz.underlying151 codeP w.heap.size 8 _ rfl HN8.out.own (by unfold maxLen; omega) _ (fnV 139) _ rfl rfl HK8 (.lit (.int .i64 ((139 : Nat) : Int))) [] (codeP_fn _) ?_; intro w9 hown hgrow; have HN9 := hid_of (HN8.out.put [99, 111, 108] 139 hown); have HB9 : Hid (Below w.heap.size w w9) := HB8.out.grown hgrow HB8.out.size (fun j hj => by cases hj; exact Nat.le_refl _); clear HN8 HB8 HK8 hown hgrow)
    | (refine wpList_insert_own _ rfl _ _ _ 151 rfl 9 131 lawE Tryz.underlying151 codeP w.heap.size 9 _ rfl HN9.out.own (by unfold maxLen; omega) _ (fnV 140) _ rfl rfl HK9 (.lit (.int .i64 ((140 : Nat) : Int))) [] (codeP_fn _) ?_; intro w10 hown hgrow; have HN10 := hid_of (HN9.out.put [116, 114] 140 hown); have HB10 : Hid (Below w.heap.size w w10) := HB9.out.grown hgrow HB9.out.size (fun j hj => by cases hj; exact Nat.le_refl _); clear HN9 HB9 HK9 hown hgrow)
    | (refine wpList_insert_own _ rfl _ _ _ 151 rfl 9 131 lawE Tryz.underlying151 codeP w.heap.size 10 _ rfl HN10.out.own (by unfold maxLen; omega) _ (fnV 141) _ rfl rfl HK10 (.lit (.int .i64 ((141 : Nat) : Int))) [] (codeP_fn _) ?_; intro w11 hown hgrow; have HN11 := hid_of (HN10.out.put [116, 100] 141 hown); have HB11 : Hid (Below w.heap.size w w11) := HB10.out.grown hgrow HB10.out.size (fun j hj => by cases hj; exact Nat.le_refl _); clear HN10 HB10 HK10 hown hgrow)
    | (refine wpList_insert_own _ rfl _ _ _ 151 rfl 9 131 lawE Tryz.underlying151 codeP w.heap.size 11 _ rfl HN11.out.own (by unfold maxLen; omega) _ (fnV 141) _ rfl rfl HK11 (.lit (.int .i64 ((141 : Nat) : Int))) [] (codeP_fn _) ?_; intro w12 hown hgrow; have HN12 := hid_of (HN11.out.put [116, 104] 141 hown); have HB12 : Hid (Below w.heap.size w w12) := HB11.out.grown hgrow HB11.out.size (fun j hj => by cases hj; exact Nat.le_refl _); clear HN11 HB11 HK11 hown hgrow))
  go_ret
  exact ⟨rfl, PT.pm HN12.out, HB12.out⟩
set_option maxRecDepth 100000 in
set_option maxHeartbeats 4000000 in
/-- **newTable.** -/
theorem newTable_calls (w : World) (hm : MaxOk w) : Calls Tryz.prog 93 #[] w fun e w' => ∃ B pb lb, e = .returned (.pointer (some ⟨B, 0, none⟩)) ∧ Tb w'.heap.size B pb lb none [] 0 [] 0 w' ∧ Below w.heap.size w w' ∧ w.heap.size ≤ B ∧ w.heap.size ≤ lb := by
  have hmm := @run_makeMap Tryz.prog
  go_enter Tryz.func93, Tryz.ntmps93
  go_wp2_with fail
  (go_at_call 114; refine (places_calls w).mono ?_; rintro e w1 ⟨rfl, hpm, hb1⟩)
  go_wp2_with fail
  go_ret
  have b2 : Below w1.heap.size w1 (w1.alloc (.map #[] 0)) := (Below.refl _ _).alloc (Nat.le_refl _) _
  have z2 : (w1.alloc (.map #[] 0)).heap.size = w1.heap.size + 1 := by simp
  have hL := LM.new w1
  obtain ⟨W2, hW2⟩ : ∃ W, w1.alloc (.map #[] 0) = W := ⟨_, rfl⟩
  rw [hW2] at b2 z2 hL ⊢
  have b3 : Below W2.heap.size W2 (W2.alloc (.cells #[.map (some w.heap.size), .map (some w1.heap.size), .slice none 0 0, .slice none 0 0] 155)) := (Below.refl _ _).alloc (Nat.le_refl _) _
  have hb := Blk.new W2 #[.map (some w.heap.size), .map (some w1.heap.size), .slice none 0 0, .slice none 0 0] 155
  have z3 : (W2.alloc (.cells #[.map (some w.heap.size), .map (some w1.heap.size), .slice none 0 0, .slice none 0 0] 155)).heap.size = W2.heap.size + 1 := by simp
  obtain ⟨W3, hW3⟩ : ∃ W, W2.alloc (.cells #[.map (some w.heap.size), .map (some w1.heap.size), .slice none 0 0, .slice none 0 0] 155) = W := ⟨_, rfl⟩
  rw [hW3] at b3 z3 hb ⊢
  rw [z2] at hb
  have s1 := hb1.size
  have b13 : Below w1.heap.size w1 W3 := b2.trans (b3.mono (by omega))
  have b03 : Below w.heap.size w W3 := hb1.trans (b13.mono s1)
  have hp1 := hpm.lt
  obtain ⟨z, hz⟩ := hm
  refine ⟨w1.heap.size + 1, w.heap.size, w1.heap.size, rfl, ⟨⟨⟨0, _, Nat.le_refl _, hb, World.ownsRow_nil _ _ _ _⟩, hpm.same (b13.block _ hp1), hL.same (b3.block _ (by omega)), fun j hj => absurd hj (by simp), by simp, by omega, by omega, by omega, by omega, Nat.le_refl _, fun b off e _ => by cases e⟩, ⟨z, (b03.cell (cell_lt hz)).trans hz⟩, ?_⟩, b03, by omega, s1⟩
  have := cell_lt hz
  show Tryz.laysM144_ren.g 1 < _
  have h2 : Tryz.laysM144_ren.g 1 < w.heap.size := this
  omega
end Go.Proofs.YtdkcibafbdmajabGreatDoor.E
