/- What is proved here: the document's End and Whole of layer 10, of every name whose content has no tags. -/
import Derived.Test.YtegkdgmpkfpjmaaDoorREnd
namespace Go.Proofs.YtegkdgmpkfpjmaaDoor.R
open Go.RowKit Go.Shelf Go.Proofs.YtegkdgmpkfpjmaaDoor.U Go.Proofs.YtegkdgmpkfpjmaaDoor.N

set_option maxRecDepth 100000 in
set_option maxHeartbeats 1000000 in
/-- **The document's End.** -/
theorem rend_calls (l : List UInt8) (hw : whZ l ≠ 0) (a : Option Addr) (n cap : Nat) (zs : List Int) (w : World) (hI : HasR w a n cap zs) (hz : ∀ z ∈ zs, -2147483648 ≤ z ∧ z ≤ 2147483647) (hl : zs.length ≤ 1000000000) :
    Calls Tryd.prog 19 #[.string ⟨l.toArray⟩, .slice a n cap] w fun e w' => e = .returned (endV (refR (R.zs l) (p0 l) zs) zs.length) ∧ Below w.heap.size w w' := by
  by_cases h4 : whZ l = 4
  · obtain rfl := hasR_len hI
    have HWH := hid_of (rwhere_calls l w)
    rw [h4] at HWH
    have hr : refR (R.zs l) (p0 l) zs = none := by
      unfold refR p0
      rw [h4]
      rfl
    rw [hr]
    clear hI hz hw h4 hr
    go_enter Tryd.func19, Tryd.ntmps19
    go_wp2_with fail
    (go_at_call 11; refine HWH.out.mono ?_; rintro e w1 ⟨rfl, hb1⟩)
    go_wp2_with fail
    go_ret2
    exact ⟨rfl, hb1⟩
  · have hs : whZ l = 3 → l = script := fun h => by
      unfold whZ at h
      split at h
      · omega
      · split at h
        · omega
        · split at h
          · assumption
          · split at h <;> omega
    have h := rend_most (decide (whZ l = 3)) l (whZ l) rfl h4 rfl hs (wh_len l hw) a n cap zs w hI hz hl
    have hr : refR (R.zs l) (p0 l) zs = refF (decide (whZ l = 3)) (R.zs l) 0 0 zs := by
      unfold refR p0
      by_cases h3 : whZ l = 3
      · rw [if_pos h3, h3]; rfl
      · rw [if_neg h3, if_neg h4, show decide (whZ l = 3) = false by simpa using h3]; rfl
    rw [hr]
    exact h
theorem hasI_take {q : IntKind} {w : World} {a : Option Addr} {n cap : Nat} {zs : List Int} (h : HasI q w (.slice a n cap) zs) (k : Nat) (hk : k ≤ zs.length) : HasI q w (.slice a k cap) (zs.take k) := by
  by_cases h0 : k = 0
  · subst h0; exact .inl ⟨by simp, a, cap, rfl⟩
  · rcases h with ⟨e, _⟩ | ⟨hp, b, off, cap', e, hcap, hx⟩
    · subst e; simp at hk; omega
    · simp only [Value.slice.injEq] at e
      obtain ⟨rfl, _, rfl⟩ := e
      have hl : (zs.take k).length = k := by simp; omega
      refine .inr ⟨by omega, b, off, cap, by rw [hl], by omega, fun j hj => ?_⟩
      rw [hl] at hj
      rw [show zAt (zs.take k) j = zAt zs j by simp [zAt, hj]]
      exact hx j (by omega)
theorem hasR_cap {w : World} {a : Option Addr} {n cap : Nat} {zs : List Int} (h : HasR w a n cap zs) (h0 : 0 < zs.length) : n ≤ cap := by
  rcases h with ⟨e, _⟩ | ⟨hp, b, off, cap', e, hcap, hx⟩
  · subst e; simp at h0
  · simp only [Value.slice.injEq] at e
    obtain ⟨rfl, rfl, rfl⟩ := e
    exact hcap
theorem slice_runes (a : Option Addr) (n cap k : Nat) (h2 : k ≤ cap) (w : World) : (Instr.slice 32 (.slice a n cap) none (some (.int .i64 (k : Int))) none).run Tryd.prog w = .ok (.slice a k cap) w := by
  have hs : (sizeOf (Tryd.prog.elem 32)).run Tryd.prog w = .ok 1 w := by kernel_rfl
  rw [run_slice_h w _ _ _ _ (by kernel_rfl) _ _ (by omega) (by omega), hs]
  have hz : ∀ o : Option Addr, o.map (fun x => x.add 0) = o := fun o => by
    cases o with
    | none => rfl
    | some x => obtain ⟨b, off, sp⟩ := x; cases sp <;> simp [Addr.add]
  simp [Result.andThen, sliced, hz]
/-- What the document's Whole tells. -/
def rwV (l : List UInt8) (zs : List Int) (r : Option Nat) : Value :=
  .tuple #[.string ⟨(encs (zs.take (r.getD zs.length))).toArray⟩, .int .i64 ((match r with | none => zs.length | some k => k + 2 + l.length + 1 : Nat) : Int), .bool r.isSome]
theorem refR_lt {nm : List Int} (hnm : NmOk nm) {p : Nat} (h1 : 1 ≤ p) (h3 : p ≤ 3) {l : List Int} {k : Nat} (h : refR nm p l = some k) : k + 2 + nm.length < l.length := by
  obtain ⟨l1, r, l2, n, e0, _, _, e3⟩ := ref_some hnm h1 h3 h
  rw [e0]; simp; omega
set_option maxRecDepth 100000 in
set_option maxHeartbeats 1000000 in
/-- **The document's Whole.** -/
theorem rwhole_calls (l : List UInt8) (hw : whZ l ≠ 0) (a : Option Addr) (n cap : Nat) (zs : List Int) (w : World) (hI : HasR w a n cap zs) (hz : ∀ z ∈ zs, -2147483648 ≤ z ∧ z ≤ 2147483647) (hl : zs.length ≤ 1000000000) :
    Calls Tryd.prog 16 #[.string ⟨l.toArray⟩, .slice a n cap] w fun e w' => e = .returned (rwV l zs (refR (R.zs l) (p0 l) zs)) ∧ Below w.heap.size w w' := by
  have HE := hid_of (rend_calls l hw a n cap zs w hI hz hl)
  have hln := wh_len l hw
  have hsz := arr_size l
  obtain rfl := hasR_len hI
  cases hr : refR (R.zs l) (p0 l) zs with
  | none =>
    rw [hr] at HE
    have HC : Hid (∀ W, Below w.heap.size w W → (convert 32 9 (.slice a zs.length cap)).run Tryd.prog W = .ok (.string ⟨(encs zs).toArray⟩) W) := fun W hb => conv_runes (hI.below hb)
    have HV : Hid (rwV l zs none = .tuple #[.string ⟨(encs zs).toArray⟩, .int .i64 zs.length, .bool false]) := by
      show rwV l zs none = _
      unfold rwV
      simp
    clear hI hz hw hr
    go_enter Tryd.func16, Tryd.ntmps16
    go_wp2_with fail
    (go_at_call 19; refine HE.out.mono ?_; rintro e w1 ⟨rfl, hb1⟩)
    unfold endV
    have hcv := HC.out w1 hb1
    go_wp2_with fail
    refine bodyPost_ret (results_tmp3 rfl _ _ _) rfl ?_
    exact ⟨ret_is (by rw [HV.out]; rfl), hb1⟩
  | some k =>
    rw [hr] at HE
    have hk := refR_lt (wh_ok l hw) (p0_range l).1 (p0_range l).2 hr
    rw [zs_length] at hk
    have hcap := hasR_cap hI (by omega)
    have hsl := slice_runes a zs.length cap k (by omega)
    have HC : Hid (∀ W, Below w.heap.size w W → (convert 32 9 (.slice a k cap)).run Tryd.prog W = .ok (.string ⟨(encs (zs.take k)).toArray⟩) W) := fun W hb => conv_runes (hasI_take (hI.below hb) k (by omega))
    obtain ⟨m, hm⟩ : ∃ m, k + 2 + l.length + 1 = m := ⟨_, rfl⟩
    have HV : Hid (rwV l zs (some k) = .tuple #[.string ⟨(encs (zs.take k)).toArray⟩, .int .i64 m, .bool true]) := by
      show rwV l zs (some k) = _
      unfold rwV
      simp only [Option.getD_some, Option.isSome_some, hm]
    have hw1 : IntKind.i64.wrap ((k : Int) + 2) = (k : Int) + 2 := by rw [IntKind.wrap_i64]; omega
    have hw2 : IntKind.i64.wrap ((k : Int) + 2 + (l.length : Int)) = (k : Int) + 2 + (l.length : Int) := by rw [IntKind.wrap_i64]; omega
    have hw3 : IntKind.i64.wrap ((k : Int) + 2 + (l.length : Int) + 1) = (m : Int) := by rw [IntKind.wrap_i64]; omega
    clear hI hz hw hr hm
    go_enter Tryd.func16, Tryd.ntmps16
    go_wp2_with fail
    (go_at_call 19; refine HE.out.mono ?_; rintro e w1 ⟨rfl, hb1⟩)
    unfold endV
    have hcv := HC.out w1 hb1
    simp only [Option.getD_some, Option.isSome_some]
    go_wp2_with fail
    refine bodyPost_ret (results_tmp3 rfl _ _ _) rfl ?_
    exact ⟨ret_is (by rw [HV.out]; rfl), hb1⟩
end Go.Proofs.YtegkdgmpkfpjmaaDoor.R
