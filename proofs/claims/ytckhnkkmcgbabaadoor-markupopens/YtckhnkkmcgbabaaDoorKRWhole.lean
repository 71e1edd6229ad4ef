/- What is proved here: the contract of Whole of the document's own answer for layer 9. -/
import Derived.Test.YtckhnkkmcgbabaaDoorKREnd
import Derived.Test.YtckhnkkmcgbabaaDoorKMath
namespace Go.Proofs.YtckhnkkmcgbabaaDoor.K
open Go.RowKit Go.Shelf Go.Proofs.YtckhnkkmcgbabaaDoor.U

theorem results_tmp4 {fn : Func} {t u v x : Tmp} (h : fn.results = #[.tmp t, .tmp u, .tmp v, .tmp x]) (tmps : Array Value) (P : Program) (w : World) :
    (results fn tmps).run P w = .ok (.tuple #[tmps.getD t undef, tmps.getD u undef, tmps.getD v undef, tmps.getD x undef]) w := by
  simp [results, h]
theorem R_le : ∀ (l : List Int) (q i a n : Nat), R q l i = some (a, n) → a ≤ n ∧ i < n ∧ n ≤ i + l.length
  | [], _, _, _, _, h => by cases h
  | z :: l, q, i, a, n, h => by
    rw [R_cons] at h
    split at h
    · simp only [Option.some.injEq, Prod.mk.injEq] at h
      obtain ⟨rfl, rfl⟩ := h
      simp only [List.length_cons]
      omega
    · have := R_le l _ _ _ _ h
      simp only [List.length_cons]
      omega
theorem endK_le {kind : Int} {bs : List UInt8} {a n : Nat} (h : endK kind bs = some (a, n)) : a ≤ n ∧ 0 < n ∧ n ≤ bs.length := by
  rw [← endK_R] at h
  have := R_le _ _ _ _ _ h
  rw [zs_length] at this
  omega
theorem wTo_le (kind : Int) (bs : List UInt8) : wTo kind bs ≤ bs.length := by
  unfold wTo
  split
  · rename_i h; have := endK_le h; omega
  · omega
theorem wText_le (kind : Int) (bs : List UInt8) : (wText kind bs).length ≤ bs.length := by
  unfold wText; split
  · simp
  · simp; omega
/-- The document's Whole, as data. -/
def wV (kind : Int) (bs : List UInt8) : Value := .tuple #[.string ⟨(encs (runesI (wText kind bs))).toArray⟩, .int .i64 (wN kind bs), .bool (wC kind bs), .int .i64 0]
theorem slice_h (bs : List UInt8) (k : Nat) (hk : k ≤ bs.length) (i : Int) (hi : i = k) (w : World) : (Instr.slice 9 (.string ⟨bs.toArray⟩) none (some (.int .i64 i)) none).run Tryd.prog w = .ok (.string ⟨(bs.take k).toArray⟩) w := by
  subst hi
  rw [run_slice_string_h w 9 ⟨bs.toArray⟩ Tryd.underlying9 .i64 k (by omega) (by rw [byteArr_size]; omega)]
  exact congrArg (fun x => Result.ok (Value.string x) w) (extract_take bs k)

set_option maxRecDepth 100000 in
set_option maxHeartbeats 4000000 in
theorem rwhole_closed (kind : Int) (h0 : 0 ≤ kind) (h2 : kind ≤ 2) (bs : List UInt8) (w : World) (hs : bs.length ≤ 100000000) (a n : Nat) (he : endK kind bs = some (a, n)) :
    Calls Tryd.prog 12 #[.int .i64 kind, .string ⟨bs.toArray⟩] w fun e w' => e = .returned (wV kind bs) ∧ Below w.heap.size w w' := by
  have HE : Hid (Calls Tryd.prog 25 #[.int .i64 kind, .string ⟨bs.toArray⟩] w fun e w' => e = .returned (.tuple #[.int .i64 a, .int .i64 n, .bool true]) ∧ Below w.heap.size w w') := by
    by_cases hk : kind = 0
    · subst hk
      have h := rend_comment bs w hs
      rw [show endC bs = some (a, n) from he] at h
      exact h
    · have h := rend_other kind hk bs w hs
      rw [show scanB bs 0 = some (a, n) by unfold endK at he; rwa [if_neg hk] at he] at h
      exact h
  have hle := endK_le he
  have hsl := slice_h bs a (by omega) a rfl
  have HV : Hid (wV kind bs = .tuple #[.string ⟨(encs (runesI (if kind = 1 then [] else bs.take a))).toArray⟩, .int .i64 n, .bool true, .int .i64 0]) := by
    show wV kind bs = _
    unfold wV wText wTo wN wC
    rw [he]; rfl
  have hl0 : decide (kind < 0) = false := by rw [decide_eq_false_iff_not]; omega
  have hl2 : decide (kind > 2) = false := by rw [decide_eq_false_iff_not]; omega
  have hl3 : decide (2 < kind) = false := by rw [decide_eq_false_iff_not]; omega
  have HM : Hid (∀ (ts : List UInt8) w, ts.length ≤ bs.length → Calls Tryd.prog 27 #[.string ⟨ts.toArray⟩] w fun e W' => e = .returned (.string ⟨(encs (runesI ts)).toArray⟩) ∧ Below w.heap.size w W') := fun ts w h => rmend_calls ts w (by omega)
  have htl : (bs.take a).length ≤ bs.length := by simp; omega
  clear he
  have hk : kind = 0 ∨ kind = 1 ∨ kind = 2 := by omega
  rcases hk with rfl | rfl | rfl
  · go_enter Tryd.func12, Tryd.ntmps12
    go_wp2_with (first
      | (go_at_call 25; refine HE.out.mono ?_; rintro e w1 ⟨rfl, hb1⟩)
      | (go_at_call 27; refine (HM.out _ _ htl).mono ?_; rintro e w2 ⟨rfl, hb2⟩))
    (try simp only [Exit.inBlock, Exit.then])
    refine bodyPost_ret (results_tmp4 rfl _ _ _) rfl ?_
    exact ⟨ret_is (by rw [HV.out]; rfl), hb1.trans (hb2.mono hb1.size)⟩
  · go_enter Tryd.func12, Tryd.ntmps12
    go_wp2_with (first
      | (go_at_call 25; refine HE.out.mono ?_; rintro e w1 ⟨rfl, hb1⟩)
      | (go_at_call 27; refine (HM.out [] _ (by simp)).mono ?_; rintro e w2 ⟨rfl, hb2⟩))
    (try simp only [Exit.inBlock, Exit.then])
    refine bodyPost_ret (results_tmp4 rfl _ _ _) rfl ?_
    exact ⟨ret_is (by rw [HV.out]; rfl), hb1.trans (hb2.mono hb1.size)⟩
  · go_enter Tryd.func12, Tryd.ntmps12
    go_wp2_with (first
      | (go_at_call 25; refine HE.out.mono ?_; rintro e w1 ⟨rfl, hb1⟩)
      | (go_at_call 27; refine (HM.out _ _ htl).mono ?_; rintro e w2 ⟨rfl, hb2⟩))
    (try simp only [Exit.inBlock, Exit.then])
    refine bodyPost_ret (results_tmp4 rfl _ _ _) rfl ?_
    exact ⟨ret_is (by rw [HV.out]; rfl), hb1.trans (hb2.mono hb1.size)⟩

set_option maxRecDepth 100000 in
set_option maxHeartbeats 4000000 in
theorem rwhole_open0 (bs : List UInt8) (w : World) (hs : bs.length ≤ 100000000) (he : endK 0 bs = none) :
    Calls Tryd.prog 12 #[.int .i64 0, .string ⟨bs.toArray⟩] w fun e w' => e = .returned (wV 0 bs) ∧ Below w.heap.size w w' := by
  have HE : Hid (Calls Tryd.prog 25 #[.int .i64 0, .string ⟨bs.toArray⟩] w fun e w' => e = .returned (.tuple #[.int .i64 bs.length, .int .i64 bs.length, .bool false]) ∧ Below w.heap.size w w') := by
    have h := rend_comment bs w hs
    rw [show endC bs = none from he] at h
    exact h
  have hsl : ∀ w, (Instr.slice 9 (.string ⟨bs.toArray⟩) none (some (.int .i64 bs.length)) none).run Tryd.prog w = .ok (.string ⟨bs.toArray⟩) w := fun w => by
    have h := slice_h bs bs.length (Nat.le_refl _) bs.length rfl w
    rw [List.take_length] at h
    exact h
  have hz1 := byteArr_size bs
  obtain ⟨c, hc⟩ : ∃ c, chop bs = c := ⟨_, rfl⟩
  have HV : Hid (wV 0 bs = .tuple #[.string ⟨(encs (runesI (bs.take (bs.length - c)))).toArray⟩, .int .i64 bs.length, .bool false, .int .i64 0]) := by
    show wV 0 bs = _
    have h9 := none_run 0 bs he
    unfold wV wText wTo wN wC
    rw [he, ← hc, chop_eq bs h9]; rfl
  obtain ⟨s1, hs1⟩ : ∃ b, sfx [45, 45, 33] bs = b := ⟨_, rfl⟩
  obtain ⟨s2, hs2⟩ : ∃ b, sfx [45, 45] bs = b := ⟨_, rfl⟩
  obtain ⟨s3, hs3⟩ : ∃ b, sfx [45] bs = b := ⟨_, rfl⟩
  have B1 : Hid (∀ w, Calls Tryd.prog 26 #[.string ⟨bs.toArray⟩, .string ⟨#[45, 45, 33]⟩] w fun e w' => e = .returned (.bool s1) ∧ Below w.heap.size w w') := fun w => by
    have h := ends_calls bs [45, 45, 33] w (by omega) (by simp)
    rw [hs1] at h
    exact h
  have B2 : Hid (∀ w, Calls Tryd.prog 26 #[.string ⟨bs.toArray⟩, .string ⟨#[45, 45]⟩] w fun e w' => e = .returned (.bool s2) ∧ Below w.heap.size w w') := fun w => by
    have h := ends_calls bs [45, 45] w (by omega) (by simp)
    rw [hs2] at h
    exact h
  have B3 : Hid (∀ w, Calls Tryd.prog 26 #[.string ⟨bs.toArray⟩, .string ⟨#[45]⟩] w fun e w' => e = .returned (.bool s3) ∧ Below w.heap.size w w') := fun w => by
    have h := ends_calls bs [45] w (by omega) (by simp)
    rw [hs3] at h
    exact h
  have HCC : Hid (c = if s1 = true then 3 else if s2 = true then 2 else if s3 = true then 1 else 0) := by show c = _; rw [← hc, ← hs1, ← hs2, ← hs3]; rfl
  have g1 : s1 = true → 3 ≤ bs.length := fun h => by rw [h] at hs1; exact ((sfx_iff _ _).1 hs1).length_le
  have g2 : s2 = true → 2 ≤ bs.length := fun h => by rw [h] at hs2; exact ((sfx_iff _ _).1 hs2).length_le
  have g3 : s3 = true → 1 ≤ bs.length := fun h => by rw [h] at hs3; exact ((sfx_iff _ _).1 hs3).length_le
  have HM : Hid (∀ (ts : List UInt8) w, ts.length ≤ bs.length → Calls Tryd.prog 27 #[.string ⟨ts.toArray⟩] w fun e W' => e = .returned (.string ⟨(encs (runesI ts)).toArray⟩) ∧ Below w.heap.size w W') := fun ts w h => rmend_calls ts w (by omega)
  have htl : ∀ k, (bs.take k).length ≤ bs.length := fun k => by simp; omega
  clear he hc hs1 hs2 hs3
  go_enter Tryd.func12, Tryd.ntmps12
  go_wp2_with (go_at_call 25; refine HE.out.mono ?_; rintro e w1 ⟨rfl, hb1⟩)
  (go_at_call 26; refine (B1.out _).mono ?_; rintro e w2 ⟨rfl, hb2⟩)
  have hB2 := hb1.trans (hb2.mono hb1.size)
  cases s1 with
  | true =>
    have g := g1 rfl
    have hw := slice_h bs (bs.length - 3) (by omega) ((bs.length : Int) - 3) (by omega)
    obtain rfl : c = 3 := HCC.out
    clear B1 B2 B3 HCC g1 g2 g3
    have hwr : IntKind.i64.wrap ((bs.length : Int) - 3) = (bs.length : Int) - 3 := by rw [IntKind.wrap_i64]; omega
    go_wp2_with (go_at_call 27; refine (HM.out _ _ (htl _)).mono ?_; rintro e w3 ⟨rfl, hb3⟩)
    (try simp only [Exit.inBlock, Exit.then])
    refine bodyPost_ret (results_tmp4 rfl _ _ _) rfl ?_
    exact ⟨ret_is (by rw [HV.out]; rfl), hB2.trans (hb3.mono hB2.size)⟩
  | false =>
    go_wp2_with fail
    (go_at_call 26; refine (B2.out _).mono ?_; rintro e w3 ⟨rfl, hb3⟩)
    have hB3 := hB2.trans (hb3.mono hB2.size)
    cases s2 with
    | true =>
      have g := g2 rfl
      have hw := slice_h bs (bs.length - 2) (by omega) ((bs.length : Int) - 2) (by omega)
      obtain rfl : c = 2 := HCC.out
      clear B1 B2 B3 HCC g1 g2 g3
      have hwr : IntKind.i64.wrap ((bs.length : Int) - 2) = (bs.length : Int) - 2 := by rw [IntKind.wrap_i64]; omega
      go_wp2_with (go_at_call 27; refine (HM.out _ _ (htl _)).mono ?_; rintro e w4 ⟨rfl, hb4⟩)
      (try simp only [Exit.inBlock, Exit.then])
      refine bodyPost_ret (results_tmp4 rfl _ _ _) rfl ?_
      exact ⟨ret_is (by rw [HV.out]; rfl), hB3.trans (hb4.mono hB3.size)⟩
    | false =>
      go_wp2_with fail
      (go_at_call 26; refine (B3.out _).mono ?_; rintro e w4 ⟨rfl, hb4⟩)
      have hB4 := hB3.trans (hb4.mono hB3.size)
      cases s3 with
      | true =>
        have g := g3 rfl
        have hw := slice_h bs (bs.length - 1) (by omega) ((bs.length : Int) - 1) (by omega)
        obtain rfl : c = 1 := HCC.out
        clear B1 B2 B3 HCC g1 g2 g3
        have hwr : IntKind.i64.wrap ((bs.length : Int) - 1) = (bs.length : Int) - 1 := by rw [IntKind.wrap_i64]; omega
        go_wp2_with (go_at_call 27; refine (HM.out _ _ (htl _)).mono ?_; rintro e w5 ⟨rfl, hb5⟩)
        (try simp only [Exit.inBlock, Exit.then])
        refine bodyPost_ret (results_tmp4 rfl _ _ _) rfl ?_
        exact ⟨ret_is (by rw [HV.out]; rfl), hB4.trans (hb5.mono hB4.size)⟩
      | false =>
        obtain rfl : c = 0 := HCC.out
        clear B1 B2 B3 HCC g1 g2 g3
        go_wp2_with (go_at_call 27; refine (HM.out bs _ (Nat.le_refl _)).mono ?_; rintro e w5 ⟨rfl, hb5⟩)
        (try simp only [Exit.inBlock, Exit.then])
        refine bodyPost_ret (results_tmp4 rfl _ _ _) rfl ?_
        exact ⟨ret_is (by rw [HV.out, Nat.sub_zero, List.take_length]; rfl), hB4.trans (hb5.mono hB4.size)⟩

set_option maxRecDepth 100000 in
set_option maxHeartbeats 4000000 in
theorem rwhole_open (kind : Int) (hk : kind = 1 ∨ kind = 2) (bs : List UInt8) (w : World) (hs : bs.length ≤ 100000000) (he : endK kind bs = none) :
    Calls Tryd.prog 12 #[.int .i64 kind, .string ⟨bs.toArray⟩] w fun e w' => e = .returned (wV kind bs) ∧ Below w.heap.size w w' := by
  have hk0 : kind ≠ 0 := by omega
  have HE : Hid (Calls Tryd.prog 25 #[.int .i64 kind, .string ⟨bs.toArray⟩] w fun e w' => e = .returned (.tuple #[.int .i64 bs.length, .int .i64 bs.length, .bool false]) ∧ Below w.heap.size w w') := by
    have h := rend_other kind hk0 bs w hs
    rw [show scanB bs 0 = none by unfold endK at he; rwa [if_neg hk0] at he] at h
    exact h
  have hsl : ∀ w, (Instr.slice 9 (.string ⟨bs.toArray⟩) none (some (.int .i64 bs.length)) none).run Tryd.prog w = .ok (.string ⟨bs.toArray⟩) w := fun w => by
    have h := slice_h bs bs.length (Nat.le_refl _) bs.length rfl w
    rw [List.take_length] at h
    exact h
  have HV : Hid (wV kind bs = .tuple #[.string ⟨(encs (runesI (if kind = 1 then [] else bs))).toArray⟩, .int .i64 bs.length, .bool false, .int .i64 0]) := by
    show wV kind bs = _
    unfold wV wText wTo wN wC
    rw [he, pend_other kind hk0]
    simp only [Nat.sub_zero, List.take_length]
    rfl
  have HM : Hid (∀ (ts : List UInt8) w, ts.length ≤ bs.length → Calls Tryd.prog 27 #[.string ⟨ts.toArray⟩] w fun e W' => e = .returned (.string ⟨(encs (runesI ts)).toArray⟩) ∧ Below w.heap.size w W') := fun ts w h => rmend_calls ts w (by omega)
  clear he hk0
  rcases hk with rfl | rfl
  · go_enter Tryd.func12, Tryd.ntmps12
    go_wp2_with (first
      | (go_at_call 25; refine HE.out.mono ?_; rintro e w1 ⟨rfl, hb1⟩)
      | (go_at_call 27; refine (HM.out [] _ (by simp)).mono ?_; rintro e w2 ⟨rfl, hb2⟩))
    (try simp only [Exit.inBlock, Exit.then])
    refine bodyPost_ret (results_tmp4 rfl _ _ _) rfl ?_
    exact ⟨ret_is (by rw [HV.out]; rfl), hb1.trans (hb2.mono hb1.size)⟩
  · go_enter Tryd.func12, Tryd.ntmps12
    go_wp2_with (first
      | (go_at_call 25; refine HE.out.mono ?_; rintro e w1 ⟨rfl, hb1⟩)
      | (go_at_call 27; refine (HM.out bs _ (Nat.le_refl _)).mono ?_; rintro e w2 ⟨rfl, hb2⟩))
    (try simp only [Exit.inBlock, Exit.then])
    refine bodyPost_ret (results_tmp4 rfl _ _ _) rfl ?_
    exact ⟨ret_is (by rw [HV.out]; rfl), hb1.trans (hb2.mono hb1.size)⟩
set_option maxRecDepth 100000 in
set_option maxHeartbeats 4000000 in
/-- The document's Whole of a kind that there is not. -/
theorem rwhole_arg (kind : Int) (h : kind < 0 ∨ 2 < kind) (bs : List UInt8) (w : World) :
    Calls Tryd.prog 12 #[.int .i64 kind, .string ⟨bs.toArray⟩] w fun e w' => e = .returned (.tuple #[.string ⟨#[]⟩, .int .i64 0, .bool false, .int .i64 1]) ∧ w' = w := by
  by_cases h0 : kind < 0
  · have hl0 : decide (kind < 0) = true := by rw [decide_eq_true_eq]; exact h0
    go_enter Tryd.func12, Tryd.ntmps12
    go_wp2
    (try simp only [Exit.inBlock, Exit.then])
    refine bodyPost_ret (results_tmp4 rfl _ _ _) rfl ?_
    exact ⟨rfl, rfl⟩
  · have hl0 : decide (kind < 0) = false := by rw [decide_eq_false_iff_not]; exact h0
    have hl2 : decide (kind > 2) = true := by rw [decide_eq_true_eq]; omega
    have hl3 : decide (2 < kind) = true := by rw [decide_eq_true_eq]; omega
    go_enter Tryd.func12, Tryd.ntmps12
    go_wp2
    (try simp only [Exit.inBlock, Exit.then])
    refine bodyPost_ret (results_tmp4 rfl _ _ _) rfl ?_
    exact ⟨rfl, rfl⟩
/-- **The document's Whole of any kind and text.** -/
theorem rwhole_calls (kind : Int) (h0 : 0 ≤ kind) (h2 : kind ≤ 2) (bs : List UInt8) (w : World) (hs : bs.length ≤ 100000000) :
    Calls Tryd.prog 12 #[.int .i64 kind, .string ⟨bs.toArray⟩] w fun e w' => e = .returned (wV kind bs) ∧ Below w.heap.size w w' := by
  cases he : endK kind bs with
  | some p => obtain ⟨a, n⟩ := p; exact rwhole_closed kind h0 h2 bs w hs a n he
  | none =>
    by_cases hk : kind = 0
    · subst hk; exact rwhole_open0 bs w hs he
    · exact rwhole_open kind (by omega) bs w hs he
end Go.Proofs.YtckhnkkmcgbabaaDoor.K
