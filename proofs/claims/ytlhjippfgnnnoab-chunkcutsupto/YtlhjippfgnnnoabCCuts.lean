/- What is proved here: the statement ChunkCuts (what is cut is the data again, in one step more than there are cuts) holds for any bytes and places, where the argument holds at most 1048576 values, with no other condition. -/
import Derived.Test.YtlhjippfgnnnoabCOpen
import Derived.Test.YtlhjippfgnnnoabCBytes
namespace Go.Proofs.Ytlhjippfgnnnoab.CCuts
open Go.ChangeShapes Go.WideShapes Go.ChangeAt Go.RowKit C

theorem cut_length (bs : List UInt8) (cs : List Int) (f : Bool) : (cut bs cs f).length = cs.length + 1 := by simp [cut, cutL_length]
theorem head_cutL (bs : List UInt8) (cs : List Int) : ∀ k, (cutL bs cs k).flatMap Prod.fst = bs.take (cutAt bs.length cs k)
  | 0 => by simp [cutL, cutAt]
  | k + 1 => by
    rw [cutL_succ, List.flatMap_append, head_cutL bs cs k]
    have h1 := cutAt_mono bs.length cs k
    simp only [List.flatMap_cons, List.flatMap_nil, List.append_nil, cutS]
    rw [← List.take_add]
    congr 1; omega
theorem bytes_one (d : List UInt8) (f : Bool) : bytesOf [(d, f)] = (d, f) := by cases f <;> simp [bytesOf]
theorem bytes_cut (bs : List UInt8) (cs : List Int) (f : Bool) : bytesOf (cut bs cs f) = (bs, f) := by
  have ht : (cut bs cs f).take cs.length = cutL bs cs cs.length := by unfold cut; rw [List.take_left' (cutL_length _ _ _)]
  have hd : (cut bs cs f).drop cs.length = [(bs.drop (cutAt bs.length cs cs.length), f)] := by unfold cut; rw [List.drop_left' (cutL_length _ _ _)]
  rw [bytesOf_split _ cs.length (fun x hx => by rw [ht] at hx; obtain ⟨i, _, rfl⟩ := List.mem_map.1 hx; rfl), hd, bytes_one]
  unfold headB
  rw [ht, head_cutL]
  simp
theorem sum_cut (bs : List UInt8) (cs : List Int) (f : Bool) : ((cut bs cs f).map fun x => x.1.length).sum = bs.length := by
  have h : ∀ l : List (List UInt8 × Bool), (l.map fun x => x.1.length).sum = (l.flatMap Prod.fst).length := fun l => by
    induction l with
    | nil => rfl
    | cons x r ih => simp only [List.map_cons, List.sum_cons, List.flatMap_cons, List.length_append, ih]
  rw [h]
  unfold cut
  rw [List.flatMap_append, head_cutL]
  simp
theorem cut_none (bs : List UInt8) (f : Bool) : cut bs [] f = [(bs, f)] := by simp [cut, cutL, cutAt]
theorem neq_self (b : Bool) : (b == b) = true := by simp

set_option maxRecDepth 100000 in
set_option maxHeartbeats 1000000 in
theorem walk (w : World) (dv av : Value) (f : Bool) (bs : List UInt8) (cs : List Int) (hb : HasB w.heap.size w dv bs) (hc : HasI .i64 w av cs) (hl : bs.length + cs.length ≤ 1048576) :
    Calls Try.prog 5 #[.agg #[dv, av, .bool f]] w fun e w' => e = .returned (.bool true) ∧ Below w.heap.size w w' := by
  obtain ⟨da, dc, rfl⟩ := hb.slice
  obtain ⟨aa, ac, rfl⟩ : ∃ a c, av = .slice a cs.length c := by
    rcases hc with ⟨rfl, a, cap, rfl⟩ | ⟨hp, b, off, cap, rfl, _⟩
    · exact ⟨a, cap, rfl⟩
    · exact ⟨_, cap, rfl⟩
  have HB : Hid (HasB w.heap.size w (.slice da bs.length dc) bs) := hb
  have HC : Hid (HasI .i64 w (.slice aa cs.length ac) cs) := hc
  clear hb hc
  go_enter Try.func5, Try.ntmps5
  go_wp2_with fail
  obtain ⟨w0, hw0⟩ : ∃ w0, w.alloc (.cells #[.slice da bs.length dc, .slice aa cs.length ac, .bool f] 44) = w0 := ⟨_, rfl⟩
  have b0 : Below w.heap.size w w0 := by rw [← hw0]; exact (Below.refl _ w).alloc (Nat.le_refl _) _
  have x1 : w0.cell? ⟨w.heap.size, 1, none⟩ = some (.slice aa cs.length ac) := by rw [← hw0, cell_new]; rfl
  have x2 : w0.cell? ⟨w.heap.size, 2, none⟩ = some (.bool f) := by rw [← hw0, cell_new]; rfl
  have z0 : w.heap.size < w0.heap.size := cell_lt x1
  rw [hw0]
  clear hw0
  refine (cut_calls _ _ bs cs w.heap.size f w0 (by omega) (by omega) (HB.out.below b0) (HC.out.below b0)).mono ?_
  rintro e w1 ⟨lv, rfl, hS1, hb1⟩
  obtain ⟨la, lc, rfl⟩ := hS1.slice
  rw [cut_length] at *
  have S1 : Hid (OwnS w0.heap.size 69 w1 (.slice la (cs.length + 1) lc) (cut bs cs f)) := hS1
  have y2 := (hb1.cell (p := ⟨w.heap.size, 2, none⟩) z0).trans x2
  have y1 := (hb1.cell (p := ⟨w.heap.size, 1, none⟩) z0).trans x1
  have z1 := hb1.size
  clear hS1 x1 x2
  go_wp2_with fail
  refine (bytes_calls (cut bs cs f) _ w0.heap.size w1 S1.out (by rw [cut_length]; omega) (by rw [sum_cut]; omega)).mono ?_
  rintro e w2 ⟨bv, rfl, hO2, hb2⟩
  rw [bytes_cut] at *
  have O2 : Hid (HasB w2.heap.size w2 bv bs) := hasB_owns hO2
  have y2' := (hb2.cell (p := ⟨w.heap.size, 2, none⟩) (by simp; omega)).trans y2
  have y1' := (hb2.cell (p := ⟨w.heap.size, 1, none⟩) (by simp; omega)).trans y1
  have z2 := hb2.size
  have k2 : Below w.heap.size w w2 := b0.trans ((hb1.trans (hb2.mono z1)).mono (by omega))
  clear hO2 y1 y2
  go_wp2_with fail
  refine (cut_calls _ _ bs [] w.heap.size f w2 (by omega) (by simp) (HB.out.below k2) (.inl ⟨rfl, none, 0, rfl⟩)).mono ?_
  rintro e w3 ⟨ov, rfl, hS3, hb3⟩
  rw [cut_none] at hS3
  obtain ⟨oa, oc, rfl⟩ := hS3.slice
  have S3 : Hid (OwnS w2.heap.size 69 w3 (.slice oa 1 oc) [(bs, f)]) := hS3
  have y2 := (hb3.cell (p := ⟨w.heap.size, 2, none⟩) (by simp; omega)).trans y2'
  have y1 := (hb3.cell (p := ⟨w.heap.size, 1, none⟩) (by simp; omega)).trans y1'
  have z3 := hb3.size
  have q1 := conv_bytes (O2.out.below hb3)
  have k3 : Below w.heap.size w w3 := k2.trans (hb3.mono (by omega))
  have q2 := conv_bytes (HB.out.below k3)
  have T1 : Hid (OwnS w0.heap.size 69 w3 (.slice la (cs.length + 1) lc) (cut bs cs f)) := (S1.out.below hb2).below hb3
  have SC : Hid (Calls Try.prog 21 #[.slice la (cs.length + 1) lc, .slice oa 1 oc] w3 fun e W' => e = .returned (.bool true) ∧ Below w3.heap.size w3 W') := by
    have := same_calls (cut bs cs f) [(bs, f)] _ _ w0.heap.size w2.heap.size w3 T1.out S3.out (by rw [cut_length]; omega) (by simp) (by rw [sum_cut]; omega) (by simp; omega)
    rw [bytes_cut, bytes_one, decide_eq_true rfl] at this
    exact this
  clear hS3 y1' y2'
  simp only [List.length_cons, List.length_nil, Nat.zero_add]
  go_wp2_with (first
    | (go_at_call 21; refine SC.out.mono ?_; rintro e w4 ⟨rfl, k4⟩)
    | (go_at_call 7; refine (awake_calls _).mono ?_; rintro e w5 ⟨rfl, k5⟩))
  go_ret
  exact ⟨rfl, (k3.trans (k4.mono k3.size)).trans (k5.mono (by have := k3.size; have := k4.size; omega))⟩

set_option maxRecDepth 100000 in
theorem contract (H : Type) (enc : TypeId × Value → H) (W : World) (base : Nat) (args : Array Value) (ds gs : List (DataW H)) (before : List MemPlace)
    (hval : ∀ (j : Nat) t v, Try.f5.params[j]? = some t → args[j]? = some v → Value.okWide Try.prog W .any base t v)
    (hW : DataW.Whole enc Try.prog Try.f5.params.toList Rows.chunkCutsSpec.vars false W args.toList ds gs before)  (hk : Rows.uptoSmall H (ds ++ gs) = true) :
    Calls Try.prog 5 args W fun e W' => ∃ v, e = .returned v ∧ Rows.chunkCutsSpec.post enc Try.prog Try.f5 false true false false W args v W' := by
  have hW' := hW
  have hlt := hW.lt
  obtain ⟨p, q, hA0, hV, rfl, hfz, hnd⟩ := hW
  have hA : DataW.TrodAll enc Try.prog W 0 (fun _ => true) true Try.f5.params.toList args.toList ds p := hA0
  rw [Try.params5] at hA hval
  obtain ⟨v0, vs0, d0, ds0, p0, q0, hargs, rfl, rfl, h0, r0⟩ := trodAll_cons hA
  obtain ⟨rfl, rfl, rfl⟩ := trodAll_nil r0
  obtain rfl : args = #[v0] := by cases args; simp_all
  obtain ⟨rfl, rfl⟩ := trodVars_none hV
  clear hA0
  simp only [List.append_nil] at hW' hlt hk
  have hbulk := of_decide_eq_true hk
  simp only [Rows.uptoBulkAll] at hbulk
  obtain ⟨dv0, av0, f0, b0, c0, rfl, hb0, hc0, l0⟩ := cuts_of_read (hval 0 44 v0 rfl rfl) h0
  refine (walk W dv0 av0 f0 b0 c0 hb0 hc0 (by omega)).mono fun e W' ⟨he, hb⟩ => ?_
  subst he
  exact ⟨_, rfl, post_below hW' (fun _ _ _ => trodAll_cons_mk (shut_bool Try.underlying4 _) trodAll_mk0) (trodAll_cons_mk (stays (by kernel_rfl) (of_decide_eq_true (by kernel_rfl)) h0 hb (fun x hx => hlt x (by simp [hx]))) trodAll_mk0) rfl hb⟩

set_option maxRecDepth 100000 in
theorem laid_met (os : Os) : laidMet Try.prog Rows.chunkCutsUptoRow.laid ((World.holding Try.prog os ⟨#[], #[], []⟩).forCall (fun _ _ => 0) ⟨#[], #[Value.agg #[.slice none 0 0, .slice none 0 0, .bool false]], []⟩).memory :=
  laidMet_of_run' 8 (by kernel_rfl) (by kernel_rfl)
set_option maxRecDepth 100000 in
theorem reads (os : Os) {H : Type} (enc : TypeId × Value → H) : ∃ places, DataW.whole enc Try.prog ((World.holding Try.prog os ⟨#[], #[], []⟩).forCall (fun _ _ => 0) ⟨#[], #[Value.agg #[.slice none 0 0, .slice none 0 0, .bool false]], []⟩).memory Try.f5.params.toList Rows.chunkCutsSpec.vars false #[Value.agg #[.slice none 0 0, .slice none 0 0, .bool false]].toList 8 = some ([.agg [.nil, .nil, .lit (.bool false)]], [], places) :=
  ⟨[], by kernel_rfl⟩

set_option maxRecDepth 100000 in
theorem lifted (os : Os) (started : os.Started) (H : Type) (enc : TypeId × Value → H) (F : Stop.Interp) :
    ReturnsInHanded {} Try.checked os 5 .any ((Rows.OpenSpec.upto Rows.chunkCutsSpec).preRow enc Try.prog Try.f5 Rows.chunkCutsUptoRow.domain false Rows.chunkCutsUptoRow.laid) (((Rows.OpenSpec.upto Rows.chunkCutsSpec).at F).post enc Try.prog Try.f5 false true false false) := by
  obtain ⟨places, hx⟩ := reads os enc
  refine returnsInHanded_of_row (C := Try.checked) (s := Rows.OpenSpec.upto Rows.chunkCutsSpec) own started (by kernel_rfl) Try.func5
    (witness_row_at (enc := enc) (C := Try.checked) false (World.holding Try.prog os ⟨#[], #[], []⟩) #[Value.agg #[.slice none 0 0, .slice none 0 0, .bool false]] rfl (by kernel_rfl) (by kernel_rfl) (by kernel_rfl)
      (OpenSpec.preRow_of_cond 8 hx (by kernel_rfl) (fun k hk => by cases hk; kernel_rfl) (by kernel_rfl) (laid_met os))) ?_
  intro W base args ds gs before hval hW _ hcond _ hL _ _
  exact contract H enc W base args ds gs before hval hW (hcond _ rfl)

set_option maxRecDepth 100000 in
theorem said : Rows.ChunkCutsUptoSaid :=
  OpenClaim.holds_of_cond 5 Try.f5 rfl rfl rfl rfl rfl rfl rfl ⟨rfl, rfl, rfl, rfl, rfl⟩ rfl rfl rfl rfl rfl (by kernel_rfl) Try.func5 (by kernel_rfl)
    (of_decide_eq_true (by kernel_rfl)) (by unfold Func.isWrapper; first | (rw [if_pos (by decide +kernel)]; kernel_rfl) | (rw [if_neg (by decide +kernel)]; exact ⟨rfl, rfl⟩))
    (fun os started H enc _ F => by rw [OpenClaim.pre_eq_preRow]; exact lifted os started H enc F)


end Go.Proofs.Ytlhjippfgnnnoab.CCuts
