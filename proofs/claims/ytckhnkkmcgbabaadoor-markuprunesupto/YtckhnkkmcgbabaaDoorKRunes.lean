/- What is proved here: the statement MarkupRunes (a scanner that is given any runes one by one: when it is over, what it says all the time, and behind the end, is what the document's Whole says of the text of these runes) holds for runes that are not too many, with no condition but that and what the card says of the listed tables. -/
import Derived.Test.YtckhnkkmcgbabaaDoorCards
import Derived.Test.YtckhnkkmcgbabaaDoorTie
import Derived.Test.YtckhnkkmcgbabaaDoorKOpen
import Derived.Test.YtckhnkkmcgbabaaDoorKLives
import Derived.Test.YtckhnkkmcgbabaaDoorKRMath
import Derived.ProofKit
import Derived.OpenShut
namespace Go.Proofs.YtckhnkkmcgbabaaDoor.KRunes
open Go.ChangeShapes Go.WideShapes Go.ChangeAt Go.RowKit U K

set_option maxRecDepth 100000 in
set_option maxHeartbeats 4000000 in
theorem walk_arg (w : World) (hT : Tb w) (kind : Int) (h : kind < 0 ∨ 2 < kind) (a : Option Addr) (n cap : Nat) :
    Calls Tryd.prog 5 #[.int .i64 kind, .slice a n cap] w fun e w' => e = .returned (.bool true) ∧ Below w.heap.size w w' := by
  have HN : Hid (Calls Tryd.prog 13 #[.int .i64 kind] w fun e W' => e = .returned (.tuple #[.pointer none, .int .i64 1]) ∧ W' = w) := new_arg kind w h
  have HL : Hid (Calls Tryd.prog 10 #[] w fun e w' => e = .returned (.bool true) ∧ Below w.heap.size w w') := lives_calls w hT
  clear hT
  by_cases h0 : kind < 0
  · have hl0 : decide (kind < 0) = true := by rw [decide_eq_true_eq]; exact h0
    clear h
    go_enter Tryd.func5, Tryd.ntmps5
    go_wp2_with fail
    (go_at_call 13; refine HN.out.mono ?_; rintro e w1 ⟨rfl, h1⟩; obtain rfl : w = w1 := h1.symm)
    go_wp2_with fail
    (go_at_call 10; refine HL.out.mono ?_; rintro e w9 ⟨rfl, hb9⟩)
    go_wp2_with fail
    go_ret
    exact ⟨rfl, hb9⟩
  · have hl0 : decide (kind < 0) = false := by rw [decide_eq_false_iff_not]; exact h0
    have hl2 : decide (kind > 2) = true := by rw [decide_eq_true_eq]; omega
    have hl3 : decide (2 < kind) = true := by rw [decide_eq_true_eq]; omega
    clear h
    go_enter Tryd.func5, Tryd.ntmps5
    go_wp2_with fail
    (go_at_call 13; refine HN.out.mono ?_; rintro e w1 ⟨rfl, h1⟩; obtain rfl : w = w1 := h1.symm)
    go_wp2_with fail
    (go_at_call 10; refine HL.out.mono ?_; rintro e w9 ⟨rfl, hb9⟩)
    go_wp2_with fail
    go_ret
    exact ⟨rfl, hb9⟩

set_option maxRecDepth 100000 in
set_option maxHeartbeats 4000000 in
theorem walk_on (w : World) (hT : Tb w) (kind : Int) (h0 : 0 ≤ kind) (h2 : kind ≤ 2) (a : Option Addr) (n cap : Nat) (zs : List Int) (hn : n = zs.length) (hcap : n ≤ cap) (hI : HasI .i32 w (.slice a n cap) zs) (hz : ∀ z ∈ zs, -2147483648 ≤ z ∧ z ≤ 2147483647) (hl : zs.length ≤ 1048576) :
    Calls Tryd.prog 5 #[.int .i64 kind, .slice a n cap] w fun e w' => e = .returned (.bool true) ∧ Below w.heap.size w w' := by
  subst hn
  have HT : Hid (Tb w) := hT
  have HI : Hid (HasI .i32 w (.slice a zs.length cap) zs) := hI
  have HZ : Hid (∀ z ∈ zs, -2147483648 ≤ z ∧ z ≤ 2147483647) := hz
  have HN : Hid (Calls Tryd.prog 13 #[.int .i64 kind] w fun e W' => e = .returned (.tuple #[.pointer (some ⟨w.heap.size, 0, none⟩), .int .i64 0]) ∧ ScAt W' w.heap.size (K.start kind : Nat) [] ∧ Below w.heap.size w W') := new_calls kind w h0 h2
  have hl0 : decide (kind < 0) = false := by rw [decide_eq_false_iff_not]; omega
  have hl2 : decide (kind > 2) = false := by rw [decide_eq_false_iff_not]; omega
  have hl3 : decide (2 < kind) = false := by rw [decide_eq_false_iff_not]; omega
  obtain ⟨m, hm⟩ : ∃ m, w.heap.size = m := ⟨_, rfl⟩
  have HA : Hid (w.heap.size = m) := hm
  rw [hm] at HN ⊢
  obtain ⟨s0, hs0⟩ : ∃ s0, K.start kind = s0 := ⟨_, rfl⟩
  have HS0 : Hid (K.start kind = s0 ∧ isQ s0) := ⟨hs0, by rw [← hs0]; exact start_isQ kind⟩
  have h9s : s0 ≠ 9 := by rw [← hs0]; exact start_ne kind
  rw [hs0] at HN
  clear hT hI hz hm hs0
  go_enter Tryd.func5, Tryd.ntmps5
  go_wp2_with fail
  (go_at_call 13; refine HN.out.mono ?_; rintro e w1 ⟨rfl, hS1, hb1⟩)
  clear HN
  go_wp2_with fail
  go_loopw [53] (fun i wr => ∃ k : Nat, k ≤ zs.length ∧ i = .int .i64 k ∧ Hid (K.run s0 (zs.take k) ≠ 9 ∧ ScAt wr m (K.run s0 (zs.take k) : Nat) (encs (sayAll s0 (zs.take k)))) ∧ Below m w wr) (fun i _ => zs.length - (intOf i).toNat)
  case atStart => exact ⟨0, by omega, rfl, ⟨h9s, hS1⟩, hb1⟩
  case round =>
    obtain ⟨k, hk, rfl, hR, hB⟩ := hrel
    by_cases hlt : k < zs.length
    · obtain ⟨b, off, ha, c0⟩ := hasI_cell HI.out k hlt
      subst ha
      have c1 : wr.cell? ⟨b, off + k, none⟩ = some (.int .i32 (zAt zs k)) := by
        rw [hB.cell (p := ⟨b, off + k, none⟩) (by rw [← HA.out]; exact cell_lt c0)]; exact c0
      have hzk := HZ.out (zAt zs k) (by simp [zAt, hlt])
      obtain ⟨z, hzz⟩ : ∃ z, zAt zs k = z := ⟨_, rfl⟩
      have htk : zs.take (k + 1) = zs.take k ++ [z] := by rw [List.take_succ_eq_append_getElem hlt, ← hzz]; simp [zAt, hlt]
      have hlen : (encs (sayAll s0 (zs.take k))).length ≤ 16 * 1048576 := by
        have h1 := encs_length (sayAll s0 (zs.take k))
        have h2 := sayAll_len (zs.take k) s0
        simp only [List.length_take] at h2
        omega
      rw [hzz] at c1 hzk
      have HP : Hid (Calls Tryd.prog 14 #[.pointer (some ⟨m, 0, none⟩), .int .i32 z] wr fun e W' => e = .returned (.tuple #[.bool (decide (K.run s0 (zs.take (k + 1)) = 9)), .int .i64 0]) ∧ ScAt W' m (K.run s0 (zs.take (k + 1)) : Nat) (encs (sayAll s0 (zs.take (k + 1)))) ∧ Below m wr W' ∧ Kept m wr W') := by
        have h := put_calls m (K.run s0 (zs.take k)) _ z wr (run_isQ _ _ HS0.out.2) hR.out.1 hR.out.2 (by omega) hzk
        rw [← run_snoc, ← encs_app, ← sayAll_snoc, ← htk] at h
        exact h
      have hsl := slice_runes (some ⟨b, off, none⟩) zs.length cap (k + 1) ((k : Int) + 1) (by omega) (by omega) hcap
      have hwr : IntKind.i64.wrap ((k : Int) + 1) = (k : Int) + 1 := by rw [IntKind.wrap_i64]; omega
      have hel : (encs (zs.take (k + 1))).length ≤ 4 * 1048576 := by
        have h1 := encs_length (zs.take (k + 1))
        simp only [List.length_take] at h1
        omega
      have HTX : Hid (∀ W, Below m w W → Calls Tryd.prog 15 #[.slice (some ⟨b, off, none⟩) (k + 1) cap] W fun e W' => e = .returned (.string ⟨(encs (zs.take (k + 1))).toArray⟩) ∧ Below W.heap.size W W') := fun W hW =>
        text_calls _ _ W (by simp; omega) (hasI_take (HasI.below (by rw [HA.out]; exact hW) HI.out) (k + 1) (by omega) (by omega))
      obtain ⟨so, hso⟩ : ∃ so, encs (zs.take (k + 1)) = so := ⟨_, rfl⟩
      have HW : Hid (∀ W, Calls Tryd.prog 12 #[.int .i64 kind, .string ⟨so.toArray⟩] W fun e w' => e = .returned (wV kind so) ∧ Below W.heap.size W w') := fun W => rwhole_calls kind h0 h2 so W (by rw [← hso]; omega)
      have hsz := byteArr_size so
      have hsB := hB.size
      rw [HA.out] at hsB
      by_cases hc : K.run s0 (zs.take (k + 1)) = 9
      · obtain ⟨r1, r2, r3⟩ := runes_closed kind h0 h2 (zs.take k) z (by rw [HS0.out.1]; exact hR.out.1) (by rw [HS0.out.1, ← htk]; exact hc)
        rw [← htk, HS0.out.1, hso] at r3
        rw [← htk, hso] at r1 r2
        obtain ⟨tx, htx⟩ : ∃ tx, encs (sayAll s0 (zs.take (k + 1))) = tx := ⟨_, rfl⟩
        have HV : Hid (wV kind so = .tuple #[.string ⟨tx.toArray⟩, .int .i64 so.length, .bool true, .int .i64 0]) := by
          show wV kind so = _
          unfold wV
          rw [r1, r2, r3, htx]
        rw [hc, htx] at HP
        rw [show decide ((9 : Nat) = 9) = true from rfl] at HP
        rw [hso] at HTX
        have q1 : ((⟨tx.toArray⟩ : ByteArray).toList == (⟨tx.toArray⟩ : ByteArray).toList) = true := by simp
        have q3 : (!((⟨tx.toArray⟩ : ByteArray).toList == (⟨tx.toArray⟩ : ByteArray).toList)) = false := by simp
        have q2 : ((so.length : Int) != (so.length : Int)) = false := by simp
        rw [HV.out] at HW
        clear r1 r2 r3 htk hR hso htx hc HV hlen hel c0 hzz hzk
        go_wp2_with fail
        (go_at_call 14; refine HP.out.mono ?_; rintro e w2 ⟨rfl, hS2, hB2, hK2⟩)
        have hb2 := hB.trans hB2
        go_wp2_with fail
        (go_at_call 15; refine (HTX.out _ hb2).mono ?_; rintro e w3 ⟨rfl, hB3⟩)
        have s2 := hb2.size
        rw [HA.out] at s2
        have hb3 := hb2.trans (hB3.mono s2)
        have hS3 := hS2.below hB3
        have s3 := hB3.size
        go_wp2_with fail
        (go_at_call 12; refine (HW.out _).mono ?_; rintro e w4 ⟨rfl, hB4⟩)
        have hb4 := hb3.trans (hB4.mono (by omega))
        have hS4 : ScAt w4 m 9 tx := hS3.below hB4
        have TX : Hid (Calls Tryd.prog 16 #[.pointer (some ⟨m, 0, none⟩)] w4 fun e W' => e = .returned (.string ⟨tx.toArray⟩) ∧ W' = w4) := text_of m _ _ _ hS4
        have PX : Hid (Calls Tryd.prog 14 #[.pointer (some ⟨m, 0, none⟩), .int .i32 120] w4 fun e W' => e = .returned (.tuple #[.bool false, .int .i64 3]) ∧ W' = w4) := put_refused _ 3 120 w4 (by decide) (ready_over m tx w4 hS4)
        have EX : Hid (Calls Tryd.prog 17 #[.pointer (some ⟨m, 0, none⟩)] w4 fun e W' => e = .returned (.int .i64 3) ∧ W' = w4) := end_refused _ 3 w4 (by decide) (ready_over m tx w4 hS4)
        have LX : Hid (Calls Tryd.prog 10 #[] w4 fun e w' => e = .returned (.bool true) ∧ Below w4.heap.size w4 w') := lives_calls w4 (HT.out.below (by rw [HA.out]; exact hb4))
        have s4 := hB4.size
        clear HP HTX HW hS2 hS3 hS4
        go_wp2_with fail
        (go_at_call 16; refine TX.out.mono ?_; rintro e w5 ⟨rfl, h5⟩; obtain rfl : w4 = w5 := h5.symm)
        go_wp2_with fail
        (go_at_call 14; refine PX.out.mono ?_; rintro e w5 ⟨rfl, h5⟩; obtain rfl : w4 = w5 := h5.symm)
        go_wp2_with fail
        (go_at_call 17; refine EX.out.mono ?_; rintro e w5 ⟨rfl, h5⟩; obtain rfl : w4 = w5 := h5.symm)
        go_wp2_with fail
        (go_at_call 16; refine TX.out.mono ?_; rintro e w5 ⟨rfl, h5⟩; obtain rfl : w4 = w5 := h5.symm)
        go_wp2_with fail
        (go_at_call 10; refine LX.out.mono ?_; rintro e w9 ⟨rfl, hb9⟩)
        go_wp2_with fail
        go_ret
        exact ⟨rfl, hb4.trans (hb9.mono (by omega))⟩
      · obtain ⟨r1, r3⟩ := runes_open kind h0 h2 (zs.take (k + 1)) (by rw [HS0.out.1]; exact hc)
        rw [HS0.out.1, hso] at r3
        rw [hso] at r1
        obtain ⟨tx, htx⟩ : ∃ tx, encs (sayAll s0 (zs.take (k + 1))) = tx := ⟨_, rfl⟩
        have HV : Hid (wV kind so = .tuple #[.string ⟨tx.toArray⟩, .int .i64 (wN kind so), .bool false, .int .i64 0]) := by
          show wV kind so = _
          unfold wV
          rw [r1, r3, htx]
        have HX : Hid (encs (sayAll s0 (zs.take (k + 1))) = tx) := htx
        have hcb : decide (K.run s0 (zs.take (k + 1)) = 9) = false := decide_eq_false hc
        have HC : Hid (K.run s0 (zs.take (k + 1)) ≠ 9) := hc
        rw [hcb, htx] at HP
        rw [hso] at HTX
        have q1 : ((⟨tx.toArray⟩ : ByteArray).toList == (⟨tx.toArray⟩ : ByteArray).toList) = true := by simp
        have q3 : (!((⟨tx.toArray⟩ : ByteArray).toList == (⟨tx.toArray⟩ : ByteArray).toList)) = false := by simp
        rw [HV.out] at HW
        obtain ⟨nn, hnn⟩ : ∃ nn, wN kind so = nn := ⟨_, rfl⟩
        rw [hnn] at HW
        clear r1 r3 htk hR hso htx hc HV hlen hel c0 hzz hzk hcb hnn
        go_wp2_with fail
        (go_at_call 14; refine HP.out.mono ?_; rintro e w2 ⟨rfl, hS2, hB2, hK2⟩)
        have hb2 := hB.trans hB2
        go_wp2_with fail
        (go_at_call 15; refine (HTX.out _ hb2).mono ?_; rintro e w3 ⟨rfl, hB3⟩)
        have s2 := hb2.size
        rw [HA.out] at s2
        have hb3 := hb2.trans (hB3.mono s2)
        have hS3 := hS2.below hB3
        have s3 := hB3.size
        go_wp2_with fail
        (go_at_call 12; refine (HW.out _).mono ?_; rintro e w4 ⟨rfl, hB4⟩)
        have hb4 := hb3.trans (hB4.mono (by omega))
        have hS4 : Hid (ScAt w4 m (K.run s0 (zs.take (k + 1)) : Nat) tx) := hS3.below hB4
        have TX : Hid (Calls Tryd.prog 16 #[.pointer (some ⟨m, 0, none⟩)] w4 fun e W' => e = .returned (.string ⟨tx.toArray⟩) ∧ W' = w4) := text_of m _ _ _ hS4.out
        clear HP HTX HW hS2 hS3
        go_wp2_with fail
        (go_at_call 16; refine TX.out.mono ?_; rintro e w5 ⟨rfl, h5⟩; obtain rfl : w4 = w5 := h5.symm)
        go_wp2_with fail
        go_roundw
        case rel => exact ⟨k + 1, by omega, by go_num, ⟨HC.out, by rw [HX.out]; exact hS4.out⟩, hb4⟩
        case measure => simp [intOf]; omega
    · obtain rfl : k = zs.length := by omega
      have hRo := hR.out
      rw [List.take_length] at hRo
      obtain ⟨r1, r3⟩ := runes_open kind h0 h2 zs (by rw [HS0.out.1]; exact hRo.1)
      rw [HS0.out.1] at r3
      obtain ⟨so, hso⟩ : ∃ so, encs zs = so := ⟨_, rfl⟩
      obtain ⟨tx, htx⟩ : ∃ tx, encs (sayAll s0 zs) = tx := ⟨_, rfl⟩
      have hel : (encs zs).length ≤ 4 * 1048576 := by have h1 := encs_length zs; omega
      have HTX : Hid (∀ W, Below m w W → Calls Tryd.prog 15 #[.slice a zs.length cap] W fun e W' => e = .returned (.string ⟨so.toArray⟩) ∧ Below W.heap.size W W') := fun W hW => by
        rw [← hso]
        exact text_calls _ _ W (by omega) (HasI.below (by rw [HA.out]; exact hW) HI.out)
      have HW : Hid (∀ W, Calls Tryd.prog 12 #[.int .i64 kind, .string ⟨so.toArray⟩] W fun e w' => e = .returned (.tuple #[.string ⟨tx.toArray⟩, .int .i64 (wN kind so), .bool false, .int .i64 0]) ∧ Below W.heap.size W w') := fun W => by
        have h := rwhole_calls kind h0 h2 so W (by rw [← hso]; omega)
        unfold wV at h
        rw [← hso, r1, r3, htx, hso] at h
        exact h
      have hSr := hRo.2
      rw [htx] at hSr
      obtain ⟨nn, hnn⟩ : ∃ nn, wN kind so = nn := ⟨_, rfl⟩
      rw [hnn] at HW
      have HQ : Hid (isQ (K.run s0 zs) ∧ K.run s0 zs ≠ 9) := ⟨run_isQ _ _ HS0.out.2, hRo.1⟩
      have q1 : ((⟨tx.toArray⟩ : ByteArray).toList == (⟨tx.toArray⟩ : ByteArray).toList) = true := by simp
      have s1 := hB.size
      rw [HA.out] at s1
      clear hR hRo r1 r3 hso htx hel hnn
      go_wp2_with fail
      (go_at_call 15; refine (HTX.out _ hB).mono ?_; rintro e w3 ⟨rfl, hB3⟩)
      have hb3 := hB.trans (hB3.mono s1)
      have hS3 := hSr.below hB3
      have s3 := hB3.size
      go_wp2_with fail
      (go_at_call 12; refine (HW.out _).mono ?_; rintro e w4 ⟨rfl, hB4⟩)
      have hb4 := hb3.trans (hB4.mono (by omega))
      have hS4 := hS3.below hB4
      have s4 := hB4.size
      have EX : Hid (Calls Tryd.prog 17 #[.pointer (some ⟨m, 0, none⟩)] w4 fun e W' => e = .returned (.int .i64 0) ∧ ScAt W' m 9 tx ∧ Below m w4 W' ∧ Kept m w4 W') := end_calls m _ tx w4 HQ.out.1 HQ.out.2 hS4
      clear hS3 hS4 HTX HW hSr
      go_wp2_with fail
      (go_at_call 17; refine EX.out.mono ?_; rintro e w5 ⟨rfl, hS5, hB5, _⟩)
      have hb5 := hb4.trans hB5
      have s5 := hB5.size
      have TX : Hid (Calls Tryd.prog 16 #[.pointer (some ⟨m, 0, none⟩)] w5 fun e W' => e = .returned (.string ⟨tx.toArray⟩) ∧ W' = w5) := text_of m _ _ _ hS5
      have PX : Hid (Calls Tryd.prog 14 #[.pointer (some ⟨m, 0, none⟩), .int .i32 120] w5 fun e W' => e = .returned (.tuple #[.bool false, .int .i64 3]) ∧ W' = w5) := put_refused _ 3 120 w5 (by decide) (ready_over m tx w5 hS5)
      have E2 : Hid (Calls Tryd.prog 17 #[.pointer (some ⟨m, 0, none⟩)] w5 fun e W' => e = .returned (.int .i64 3) ∧ W' = w5) := end_refused _ 3 w5 (by decide) (ready_over m tx w5 hS5)
      have LX : Hid (Calls Tryd.prog 10 #[] w5 fun e w' => e = .returned (.bool true) ∧ Below w5.heap.size w5 w') := lives_calls w5 (HT.out.below (by rw [HA.out]; exact hb5))
      clear EX hS5
      go_wp2_with fail
      (go_at_call 14; refine PX.out.mono ?_; rintro e w6 ⟨rfl, h6⟩; obtain rfl : w5 = w6 := h6.symm)
      go_wp2_with fail
      (go_at_call 16; refine TX.out.mono ?_; rintro e w6 ⟨rfl, h6⟩; obtain rfl : w5 = w6 := h6.symm)
      go_wp2_with fail
      (go_at_call 17; refine E2.out.mono ?_; rintro e w6 ⟨rfl, h6⟩; obtain rfl : w5 = w6 := h6.symm)
      go_wp2_with fail
      (go_at_call 10; refine LX.out.mono ?_; rintro e w9 ⟨rfl, hb9⟩)
      go_wp2_with fail
      go_ret
      exact ⟨rfl, hb5.trans (hb9.mono (by omega))⟩
theorem walk (w : World) (hT : Tb w) (kind : Int) (_hk : (Lit.int .i64 kind).wf = true) (v : Value) (zs : List Int) (hI : HasI .i32 w v zs) (hz : ∀ z ∈ zs, (Lit.int .i32 z).wf = true) (hl : zs.length ≤ 1048576) :
    Calls Tryd.prog 5 #[.int .i64 kind, v] w fun e w' => e = .returned (.bool true) ∧ Below w.heap.size w w' := by
  have hb : ∀ z ∈ zs, -2147483648 ≤ z ∧ z ≤ 2147483647 := fun z h => wf_bounds (hz z h)
  have hv : ∃ a cap, v = .slice a zs.length cap ∧ zs.length ≤ cap := by
    rcases hI with ⟨rfl, a, cap, rfl⟩ | ⟨_, b, off, cap, rfl, h, _⟩
    · exact ⟨a, cap, rfl, by simp⟩
    · exact ⟨_, cap, rfl, h⟩
  obtain ⟨a, cap, rfl, hc⟩ := hv
  by_cases h : 0 ≤ kind ∧ kind ≤ 2
  · exact walk_on w hT kind h.1 h.2 a _ cap zs rfl hc hI hb hl
  · exact walk_arg w hT kind (by omega) a _ cap

set_option maxRecDepth 100000 in
theorem contract (H : Type) (enc : TypeId × Value → H) (W : World) (base : Nat) (args : Array Value) (ds gs : List (DataW H)) (before : List MemPlace)
    (hval : ∀ (j : Nat) t v, Tryd.f5.params[j]? = some t → args[j]? = some v → Value.okWide Tryd.prog W .any base t v)
    (hW : DataW.Whole enc Tryd.prog Tryd.f5.params.toList Rows.markupRunesSpec.vars false W args.toList ds gs before) (hL : laidMetH Tryd.prog Rows.markupRunesUptoRow.laid W) (hk : Rows.uptoSmall H (ds ++ gs) = true) :
    Calls Tryd.prog 5 args W fun e W' => ∃ v, e = .returned v ∧ Rows.markupRunesSpec.post enc Tryd.prog Tryd.f5 false true false false W args v W' := by
  have hW' := hW
  have hlt := hW.lt
  obtain ⟨p, q, hA0, hV, rfl, hfz, hnd⟩ := hW
  have hA : DataW.TrodAll enc Tryd.prog W 0 (fun _ => true) true Tryd.f5.params.toList args.toList ds p := hA0
  rw [Tryd.params5] at hA hval
  obtain ⟨v0, vs0, d0, ds0, p0, q0, hargs, rfl, rfl, h0, r0⟩ := trodAll_cons hA
  obtain ⟨v1, vs1, d1, ds1, p1, q1, rfl, rfl, rfl, h1, r1⟩ := trodAll_cons r0
  obtain ⟨rfl, rfl, rfl⟩ := trodAll_nil r1
  obtain rfl : args = #[v0, v1] := by cases args; simp_all
  obtain ⟨rfl, rfl⟩ := trodVars_none hV
  clear hA0
  simp only [List.append_nil] at hW' hlt hk
  have hbulk := of_decide_eq_true hk
  simp only [Rows.uptoBulkAll] at hbulk
  have h0' := h0
  obtain ⟨x0, rfl, e0, -, w0⟩ := open_int Tryd.underlying3 (hval 0 3 v0 rfl rfl) h0
  have e1 := okWide_slice Tryd.underlying32 (hval 1 32 v1 rfl rfl)
  obtain ⟨z1, hb1, l1, w1⟩ := ints_of_read Tryd.underlying32 Tryd.underlying21 (by kernel_rfl) e1 h1
  refine (walk W (tabs_of_laid hL) x0 w0 v1 z1 hb1 w1 (by omega)).mono fun e W' ⟨he, hb⟩ => ?_
  subst he
  exact ⟨_, rfl, post_below hW' (fun _ _ _ => trodAll_cons_mk (shut_bool Tryd.underlying4 _) trodAll_mk0) (trodAll_cons_mk (stays (by kernel_rfl) (of_decide_eq_true (by kernel_rfl)) h0' hb (fun x hx => hlt x (by simp [hx]))) (trodAll_cons_mk (stays (by kernel_rfl) (of_decide_eq_true (by kernel_rfl)) h1 hb (fun x hx => hlt x (by simp [hx]))) trodAll_mk0)) rfl hb⟩

set_option maxRecDepth 100000 in
theorem laid_met (os : Os) : laidMet Tryd.prog Rows.markupRunesUptoRow.laid ((withTabs (World.holding Tryd.prog os ⟨moreBlocks, #[], []⟩)).forCall (fun _ _ => 0) ⟨#[], #[Value.int .i64 0, Value.slice none 0 0], []⟩).memory :=
  laid_all os _
set_option maxRecDepth 100000 in
theorem reads (os : Os) {H : Type} (enc : TypeId × Value → H) : ∃ places, DataW.whole enc Tryd.prog ((withTabs (World.holding Tryd.prog os ⟨moreBlocks, #[], []⟩)).forCall (fun _ _ => 0) ⟨#[], #[Value.int .i64 0, Value.slice none 0 0], []⟩).memory Tryd.f5.params.toList Rows.markupRunesSpec.vars false #[Value.int .i64 0, Value.slice none 0 0].toList 8 = some ([.lit (.int .i64 0), .nil], [], places) :=
  ⟨[], by kernel_rfl⟩

set_option maxRecDepth 100000 in
theorem lifted (os : Os) (started : os.Started) (H : Type) (enc : TypeId × Value → H) (F : Stop.Interp) :
    ReturnsInHanded {} Tryd.checked os 5 .any ((Rows.OpenSpec.upto Rows.markupRunesSpec).preRow enc Tryd.prog Tryd.f5 Rows.markupRunesUptoRow.domain false Rows.markupRunesUptoRow.laid) (((Rows.OpenSpec.upto Rows.markupRunesSpec).at F).post enc Tryd.prog Tryd.f5 false true false false) := by
  obtain ⟨places, hx⟩ := reads os enc
  refine returnsInHanded_of_row (C := Tryd.checked) (s := Rows.OpenSpec.upto Rows.markupRunesSpec) own started (by kernel_rfl) Tryd.func5
    (witness_row_atRef (enc := enc) (C := Tryd.checked) false (withTabs (World.holding Tryd.prog os ⟨moreBlocks, #[], []⟩)) #[Value.int .i64 0, Value.slice none 0 0] rfl (by kernel_rfl) (by kernel_rfl) (by kernel_rfl)
      (OpenSpec.preRow_of_cond 8 hx (by kernel_rfl) (fun k hk => by cases hk; kernel_rfl) (by kernel_rfl) (laid_met os))) ?_
  intro W base args ds gs before hval hW _ hcond _ hL _ _
  exact contract H enc W base args ds gs before hval hW hL (hcond _ rfl)

set_option maxRecDepth 100000 in
theorem said : Rows.MarkupRunesUptoSaid :=
  OpenClaim.holds_of_cond 5 Tryd.f5 rfl rfl rfl rfl rfl rfl rfl ⟨rfl, rfl, rfl, rfl, rfl⟩ rfl rfl rfl rfl rfl (by kernel_rfl) Tryd.func5 (by kernel_rfl)
    (of_decide_eq_true (by kernel_rfl)) (by unfold Func.isWrapper; first | (rw [if_pos (by decide +kernel)]; kernel_rfl) | (rw [if_neg (by decide +kernel)]; exact ⟨rfl, rfl⟩))
    (fun os started H enc _ F => by rw [OpenClaim.pre_eq_preRow]; exact lifted os started H enc F)

theorem plain (f : FuncId) (fn : Func) (hf : Tryd.pinned.checked.prog.funcNamed "sieve/sievelaw09.MarkupRunes" = some f) (hfn : Tryd.pinned.checked.prog.funcs[f]? = some fn) :
    false = Tryd.pinned.checked.prog.looks [] ∧ ∀ (j : Nat) t, fn.params[j]? = some t → Tryd.pinned.checked.prog.wantsStandIn t = false := by
  obtain rfl : f = 5 := Option.some.inj ((show Tryd.prog.funcNamed "sieve/sievelaw09.MarkupRunes" = some 5 by kernel_rfl).symm.trans hf) |>.symm
  obtain rfl : fn = Tryd.f5 := (Option.some.inj (Tryd.func5.symm.trans hfn)).symm
  refine ⟨by kernel_rfl, fun j t ht => ?_⟩
  rw [Tryd.params5] at ht
  have hm := Array.mem_of_getElem? ht
  simp only [List.mem_toArray, List.mem_cons, List.not_mem_nil, or_false] at hm
  rcases hm with rfl | rfl
  · exact (show Tryd.prog.wantsStandIn 3 = false by kernel_rfl)
  · exact (show Tryd.prog.wantsStandIn 32 = false by kernel_rfl)

theorem card : Rows.MarkupRunesUptoCardSaid :=
  Claim7.holds_tied_plain_at .later [] _ _ _ _ said (fun _ h => by cases h) (by kernel_rfl) (fun _ h => by cases h) markupRunesUpto_row_tie rfl ⟨rfl, rfl⟩ (by kernel_rfl) rfl plain (by kernel_rfl)

end Go.Proofs.YtckhnkkmcgbabaaDoor.KRunes
