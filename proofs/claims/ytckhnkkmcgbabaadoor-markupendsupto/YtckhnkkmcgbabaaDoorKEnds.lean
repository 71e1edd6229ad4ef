/- What is proved here: the statement MarkupEnds (what a closed comment says has no end in it; nothing behind the end counts; a comment of a text without the signs that matter says it) holds for texts that are not too great, with no condition but that and what the card says of the listed tables. (Written by wip/gen_ends.py.) -/
import Derived.Test.YtckhnkkmcgbabaaDoorCards
import Derived.Test.YtckhnkkmcgbabaaDoorTie
import Derived.Test.YtckhnkkmcgbabaaDoorKOpen
import Derived.Test.YtckhnkkmcgbabaaDoorKEMath
import Derived.ProofKit
import Derived.OpenShut
import Derived.Deep.RegionHeld3
namespace Go.Proofs.YtckhnkkmcgbabaaDoor.KEnds
open Go.ChangeShapes Go.WideShapes Go.ChangeAt Go.RowKit U K

theorem arr_app (a b : List UInt8) : (⟨a.toArray⟩ : ByteArray) ++ ⟨b.toArray⟩ = ⟨(a ++ b).toArray⟩ := by
  apply ByteArray.ext
  rw [ByteArray.data_append]
  simp
/-- What the last part of the law needs. -/
structure Rest (s : List UInt8) (w : World) (p1 p2 ok : Bool) : Prop where
  b1 : ∀ W, Calls Tryd.prog 18 #[.string ⟨s.toArray⟩, .string ⟨#[45]⟩] W fun e w' => e = .returned (.bool p1) ∧ Below W.heap.size W w'
  b2 : ∀ W, Calls Tryd.prog 18 #[.string ⟨s.toArray⟩, .string ⟨#[62]⟩] W fun e w' => e = .returned (.bool p2) ∧ Below W.heap.size W w'
  v : ∀ W cap, s.length ≤ cap → Calls Tryd.prog 19 #[.slice (some ⟨W.heap.size, 0, none⟩) s.length cap] (Lib.bytesWorld W 5 ⟨s.toArray⟩) fun e w' => e = .returned (.bool ok) ∧ Below (Lib.bytesWorld W 5 ⟨s.toArray⟩).heap.size (Lib.bytesWorld W 5 ⟨s.toArray⟩) w'
  l : ∀ W, Below w.heap.size w W → Calls Tryd.prog 10 #[] W fun e w' => e = .returned (.bool true) ∧ Below W.heap.size W w'
  e : p1 = false → p2 = false → ok = true → ∀ W, Below w.heap.size w W → Calls Tryd.prog 11 #[.int .i64 0, .string ⟨(s ++ [45, 45, 62]).toArray⟩] W fun e w' => e = .returned (.tuple #[.string ⟨s.toArray⟩, .int .i64 (s.length + 3 : Nat), .bool true, .int .i64 0]) ∧ Below W.heap.size W w'
theorem rest_of (s : List UInt8) (w : World) (hT : Tb w) (hs : s.length ≤ 1048576) : ∃ p1 p2 ok, Rest s w p1 p2 ok := by
  refine ⟨hasB [45] s, hasB [62] s, (pcs s).all Pc.ok, ?_⟩
  refine ⟨fun W => has_calls s [45] W (by omega) (by simp) (by simp), fun W => has_calls s [62] W (by omega) (by simp) (by simp), fun W cap hc => ?_, fun W hW => lives_calls W (hT.below hW), fun h1 h2 h3 W hW => ?_⟩
  · exact rvalid_calls _ s (W.heap.size + 1) _ (by omega) (RowB.hasB0 rfl (bytesWorld_row W 5 s) hc _ (Nat.lt_succ_self _))
  · have h := whole_calls 0 (by omega) (by omega) (s ++ [45, 45, 62]) W (by simp; omega) (hT.below hW).1
    have he := plain_end s h1 h2
    have hv : encs (runesI s) = s := by
      have := again_iff s
      rw [h3] at this
      exact of_decide_eq_true this
    have : wV 0 (s ++ [45, 45, 62]) = .tuple #[.string ⟨s.toArray⟩, .int .i64 (s.length + 3 : Nat), .bool true, .int .i64 0] := by
      unfold wV wText wTo wN wC
      rw [he]
      simp only [show ¬ (0 : Int) = 1 by decide, if_false, List.take_left, hv, Option.isSome_some]
    rw [this] at h
    exact h

set_option maxRecDepth 100000 in
set_option maxHeartbeats 8000000 in
/-- A comment that is not closed. -/
theorem open_on (s : List UInt8) (more : ByteArray) (w : World) (hs : s.length ≤ 1048576) (T : ByteArray)
    (h1 : Calls Tryd.prog 11 #[.int .i64 0, .string ⟨s.toArray⟩] w fun e w' => e = .returned (.tuple #[.string T, .int .i64 s.length, .bool false, .int .i64 0]) ∧ Below w.heap.size w w')
    (p1 p2 ok : Bool) (hR : Rest s w p1 p2 ok) :
    Calls Tryd.prog 7 #[.string ⟨s.toArray⟩, .string more] w fun e w' => e = .returned (.bool true) ∧ Below w.heap.size w w' := by
  have H1 : Hid (Calls Tryd.prog 11 #[.int .i64 0, .string ⟨s.toArray⟩] w fun e w' => e = .returned (.tuple #[.string T, .int .i64 s.length, .bool false, .int .i64 0]) ∧ Below w.heap.size w w') := h1
  have HR : Hid (Rest s w p1 p2 ok) := hR
  clear h1 hR
  have hz1 := byteArr_size s
  obtain ⟨S3, hS3⟩ : ∃ S3 : ByteArray, (⟨(s ++ [45, 45, 62]).toArray⟩ : ByteArray) = S3 := ⟨_, rfl⟩
  have HS3 : Hid ((⟨(s ++ [45, 45, 62]).toArray⟩ : ByteArray) = S3) := hS3
  have hadd : (⟨s.toArray⟩ : ByteArray) ++ ⟨#[45, 45, 62]⟩ = S3 := by rw [← hS3]; exact arr_app s [45, 45, 62]
  have hsz3 : (⟨s.toArray⟩ : ByteArray).size + (⟨#[45, 45, 62]⟩ : ByteArray).size ≤ 9223372036854775807 := by
    rw [hz1, show (⟨#[45, 45, 62]⟩ : ByteArray).size = 3 from rfl]; omega
  have q1 : ((⟨s.toArray⟩ : ByteArray).toList == (⟨s.toArray⟩ : ByteArray).toList) = true := by simp
  have hw3 : IntKind.i64.wrap ((s.length : Int) + 3) = (s.length : Int) + 3 := by rw [IntKind.wrap_i64]; omega
  have q2 : (((s.length + 3 : Nat) : Int) == (s.length : Int) + 3) = true := by simp
  clear hS3
  have hn0 : decide ((s.length : Int) < 0) = false := by rw [decide_eq_false_iff_not]; omega
  have hn1 : decide ((s.length : Int) > (s.length : Int)) = false := by rw [decide_eq_false_iff_not]; omega
  have hn2 : decide ((s.length : Int) < (s.length : Int)) = false := by rw [decide_eq_false_iff_not]; omega
  go_enter Tryd.func7, Tryd.ntmps7
  go_wp2_with fail
  (go_at_call 11; refine H1.out.mono ?_; rintro e w1 ⟨rfl, hb1⟩)
  have HCV : Hid (∀ W, (convert 9 43 (.string ⟨s.toArray⟩)).run Tryd.prog W = .ok (.slice (some ⟨W.heap.size, 0, none⟩) s.length (grownCap W s.length 0 5)) (Lib.bytesWorld W 5 ⟨s.toArray⟩)) := fun W => by
    have := Lib.run_convert_string_bytes (P := Tryd.prog) W 9 43 5 ⟨s.toArray⟩ Tryd.underlying9 Tryd.underlying43 Tryd.underlying5
    rw [byteArr_size] at this
    exact this
  go_wp2_with fail
  (go_at_call 18; refine (HR.out.b1 _).mono ?_; rintro e x1 ⟨rfl, hx1⟩)
  have hX1 := hb1.trans (hx1.mono hb1.size)
  cases p1 with
  | true =>
    go_wp2_with fail
    (go_at_call 10; refine (HR.out.l _ hX1).mono ?_; rintro e w9 ⟨rfl, hb9⟩)
    go_wp2_with fail
    go_ret
    exact ⟨rfl, hX1.trans (hb9.mono hX1.size)⟩
  | false =>
    go_wp2_with fail
    (go_at_call 18; refine (HR.out.b2 _).mono ?_; rintro e x2 ⟨rfl, hx2⟩)
    have hX2 := hX1.trans (hx2.mono hX1.size)
    cases p2 with
    | true =>
      go_wp2_with fail
      (go_at_call 10; refine (HR.out.l _ hX2).mono ?_; rintro e w9 ⟨rfl, hb9⟩)
      go_wp2_with fail
      go_ret
      exact ⟨rfl, hX2.trans (hb9.mono hX2.size)⟩
    | false =>
      have hcv := HCV.out x2
      have hX3 := hX2.trans ((bytesWorld_below x2 5 ⟨s.toArray⟩).mono hX2.size)
      have HX3 : Hid (Below w.heap.size w (Lib.bytesWorld x2 5 ⟨s.toArray⟩)) := hX3
      clear hX3
      go_wp2_with fail
      (go_at_call 19; refine (HR.out.v _ _ (grownCap_ge _ _ _ _)).mono ?_; rintro e x4 ⟨rfl, hx4⟩)
      have hX4 := HX3.out.trans (hx4.mono HX3.out.size)
      clear hcv
      cases ok with
      | false =>
        go_wp2_with fail
        (go_at_call 10; refine (HR.out.l _ hX4).mono ?_; rintro e w9 ⟨rfl, hb9⟩)
        go_wp2_with fail
        go_ret
        exact ⟨rfl, hX4.trans (hb9.mono hX4.size)⟩
      | true =>
        have HE : Hid (∀ W, Below w.heap.size w W → Calls Tryd.prog 11 #[.int .i64 0, .string S3] W fun e w' => e = .returned (.tuple #[.string ⟨s.toArray⟩, .int .i64 (s.length + 3 : Nat), .bool true, .int .i64 0]) ∧ Below W.heap.size W w') := by
          have h := HR.out.e rfl rfl rfl
          rw [HS3.out] at h
          exact h
        go_wp2_with fail
        (go_at_call 11; refine (HE.out _ hX4).mono ?_; rintro e x5 ⟨rfl, hx5⟩)
        have hX5 := hX4.trans (hx5.mono hX4.size)
        go_wp2_with fail
        (go_at_call 10; refine (HR.out.l _ hX5).mono ?_; rintro e w9 ⟨rfl, hb9⟩)
        go_wp2_with fail
        go_ret
        exact ⟨rfl, hX5.trans (hb9.mono hX5.size)⟩

set_option maxRecDepth 100000 in
set_option maxHeartbeats 8000000 in
/-- A comment that is closed. -/
theorem closed_nil (s : List UInt8) (more : ByteArray) (w : World) (hs : s.length ≤ 1048576) (n : Nat) (hn : n ≤ s.length) 
    (X : ByteArray) (hX : (⟨(s.take n).toArray⟩ : ByteArray) = X) (hsz : X.size + more.size ≤ 9223372036854775807)
    (h1 : Calls Tryd.prog 11 #[.int .i64 0, .string ⟨s.toArray⟩] w fun e w' => e = .returned (.tuple #[.string ⟨([] : List UInt8).toArray⟩, .int .i64 n, .bool true, .int .i64 0]) ∧ Below w.heap.size w w')
    (h2 : ∀ W, Below w.heap.size w W → Calls Tryd.prog 11 #[.int .i64 0, .string (X ++ more)] W fun e w' => e = .returned (.tuple #[.string ⟨([] : List UInt8).toArray⟩, .int .i64 n, .bool true, .int .i64 0]) ∧ Below W.heap.size W w')
    (hA : ∀ W, Calls Tryd.prog 18 #[.string ⟨([] : List UInt8).toArray⟩, .string ⟨#[45, 45, 62]⟩] W fun e w' => e = .returned (.bool false) ∧ Below W.heap.size W w')
    (hB : ∀ W, Calls Tryd.prog 18 #[.string ⟨([] : List UInt8).toArray⟩, .string ⟨#[45, 45, 33, 62]⟩] W fun e w' => e = .returned (.bool false) ∧ Below W.heap.size W w')
    (p1 p2 ok : Bool) (hR : Rest s w p1 p2 ok) :
    Calls Tryd.prog 7 #[.string ⟨s.toArray⟩, .string more] w fun e w' => e = .returned (.bool true) ∧ Below w.heap.size w w' := by
  have H1 : Hid (Calls Tryd.prog 11 #[.int .i64 0, .string ⟨s.toArray⟩] w fun e w' => e = .returned (.tuple #[.string ⟨([] : List UInt8).toArray⟩, .int .i64 n, .bool true, .int .i64 0]) ∧ Below w.heap.size w w') := h1
  have H2 : Hid (∀ W, Below w.heap.size w W → Calls Tryd.prog 11 #[.int .i64 0, .string (X ++ more)] W fun e w' => e = .returned (.tuple #[.string ⟨([] : List UInt8).toArray⟩, .int .i64 n, .bool true, .int .i64 0]) ∧ Below W.heap.size W w') := h2
  have HA : Hid (∀ W, Calls Tryd.prog 18 #[.string ⟨([] : List UInt8).toArray⟩, .string ⟨#[45, 45, 62]⟩] W fun e w' => e = .returned (.bool false) ∧ Below W.heap.size W w') := hA
  have HB : Hid (∀ W, Calls Tryd.prog 18 #[.string ⟨([] : List UInt8).toArray⟩, .string ⟨#[45, 45, 33, 62]⟩] W fun e w' => e = .returned (.bool false) ∧ Below W.heap.size W w') := hB
  have HR : Hid (Rest s w p1 p2 ok) := hR
  have hslX : ∀ w, (Instr.slice 9 (.string ⟨s.toArray⟩) none (some (.int .i64 n)) none).run Tryd.prog w = .ok (.string X) w := fun w => by
    rw [← hX]; exact slice_h s n hn n rfl w
  clear h1 h2 hA hB hR hX
  have hz1 := byteArr_size s
  obtain ⟨S3, hS3⟩ : ∃ S3 : ByteArray, (⟨(s ++ [45, 45, 62]).toArray⟩ : ByteArray) = S3 := ⟨_, rfl⟩
  have HS3 : Hid ((⟨(s ++ [45, 45, 62]).toArray⟩ : ByteArray) = S3) := hS3
  have hadd : (⟨s.toArray⟩ : ByteArray) ++ ⟨#[45, 45, 62]⟩ = S3 := by rw [← hS3]; exact arr_app s [45, 45, 62]
  have hsz3 : (⟨s.toArray⟩ : ByteArray).size + (⟨#[45, 45, 62]⟩ : ByteArray).size ≤ 9223372036854775807 := by
    rw [hz1, show (⟨#[45, 45, 62]⟩ : ByteArray).size = 3 from rfl]; omega
  have q1 : ((⟨s.toArray⟩ : ByteArray).toList == (⟨s.toArray⟩ : ByteArray).toList) = true := by simp
  have hw3 : IntKind.i64.wrap ((s.length : Int) + 3) = (s.length : Int) + 3 := by rw [IntKind.wrap_i64]; omega
  have q2 : (((s.length + 3 : Nat) : Int) == (s.length : Int) + 3) = true := by simp
  clear hS3
  have hn0 : decide ((n : Int) < 0) = false := by rw [decide_eq_false_iff_not]; omega
  have hn1 : decide ((n : Int) > (s.length : Int)) = false := by rw [decide_eq_false_iff_not]; omega
  have hn2 : decide ((s.length : Int) < (n : Int)) = false := by rw [decide_eq_false_iff_not]; omega

  go_enter Tryd.func7, Tryd.ntmps7
  go_wp2_with fail
  (go_at_call 11; refine H1.out.mono ?_; rintro e w1 ⟨rfl, hb1⟩)
  go_wp2_with fail
  (go_at_call 18; refine (HA.out _).mono ?_; rintro e w2 ⟨rfl, hc2⟩)
  have hb2 := hb1.trans (hc2.mono hb1.size)
  go_wp2_with fail
  (go_at_call 18; refine (HB.out _).mono ?_; rintro e w3 ⟨rfl, hc3⟩)
  have hb3 := hb2.trans (hc3.mono hb2.size)
  go_wp2_with fail
  (go_at_call 11; refine (H2.out _ hb3).mono ?_; rintro e w4 ⟨rfl, hc4⟩)
  have hb4 := hb3.trans (hc4.mono hb3.size)
  clear H1 H2 HA HB
  have HCV : Hid (∀ W, (convert 9 43 (.string ⟨s.toArray⟩)).run Tryd.prog W = .ok (.slice (some ⟨W.heap.size, 0, none⟩) s.length (grownCap W s.length 0 5)) (Lib.bytesWorld W 5 ⟨s.toArray⟩)) := fun W => by
    have := Lib.run_convert_string_bytes (P := Tryd.prog) W 9 43 5 ⟨s.toArray⟩ Tryd.underlying9 Tryd.underlying43 Tryd.underlying5
    rw [byteArr_size] at this
    exact this
  go_wp2_with fail
  (go_at_call 18; refine (HR.out.b1 _).mono ?_; rintro e x1 ⟨rfl, hx1⟩)
  have hX1 := hb4.trans (hx1.mono hb4.size)
  cases p1 with
  | true =>
    go_wp2_with fail
    (go_at_call 10; refine (HR.out.l _ hX1).mono ?_; rintro e w9 ⟨rfl, hb9⟩)
    go_wp2_with fail
    go_ret
    exact ⟨rfl, hX1.trans (hb9.mono hX1.size)⟩
  | false =>
    go_wp2_with fail
    (go_at_call 18; refine (HR.out.b2 _).mono ?_; rintro e x2 ⟨rfl, hx2⟩)
    have hX2 := hX1.trans (hx2.mono hX1.size)
    cases p2 with
    | true =>
      go_wp2_with fail
      (go_at_call 10; refine (HR.out.l _ hX2).mono ?_; rintro e w9 ⟨rfl, hb9⟩)
      go_wp2_with fail
      go_ret
      exact ⟨rfl, hX2.trans (hb9.mono hX2.size)⟩
    | false =>
      have hcv := HCV.out x2
      have hX3 := hX2.trans ((bytesWorld_below x2 5 ⟨s.toArray⟩).mono hX2.size)
      have HX3 : Hid (Below w.heap.size w (Lib.bytesWorld x2 5 ⟨s.toArray⟩)) := hX3
      clear hX3
      go_wp2_with fail
      (go_at_call 19; refine (HR.out.v _ _ (grownCap_ge _ _ _ _)).mono ?_; rintro e x4 ⟨rfl, hx4⟩)
      have hX4 := HX3.out.trans (hx4.mono HX3.out.size)
      clear hcv
      cases ok with
      | false =>
        go_wp2_with fail
        (go_at_call 10; refine (HR.out.l _ hX4).mono ?_; rintro e w9 ⟨rfl, hb9⟩)
        go_wp2_with fail
        go_ret
        exact ⟨rfl, hX4.trans (hb9.mono hX4.size)⟩
      | true =>
        have HE : Hid (∀ W, Below w.heap.size w W → Calls Tryd.prog 11 #[.int .i64 0, .string S3] W fun e w' => e = .returned (.tuple #[.string ⟨s.toArray⟩, .int .i64 (s.length + 3 : Nat), .bool true, .int .i64 0]) ∧ Below W.heap.size W w') := by
          have h := HR.out.e rfl rfl rfl
          rw [HS3.out] at h
          exact h
        go_wp2_with fail
        (go_at_call 11; refine (HE.out _ hX4).mono ?_; rintro e x5 ⟨rfl, hx5⟩)
        have hX5 := hX4.trans (hx5.mono hX4.size)
        go_wp2_with fail
        (go_at_call 10; refine (HR.out.l _ hX5).mono ?_; rintro e w9 ⟨rfl, hb9⟩)
        go_wp2_with fail
        go_ret
        exact ⟨rfl, hX5.trans (hb9.mono hX5.size)⟩

set_option maxRecDepth 100000 in
set_option maxHeartbeats 8000000 in
/-- A comment that is closed. -/
theorem closed_one (s : List UInt8) (more : ByteArray) (w : World) (hs : s.length ≤ 1048576) (n : Nat) (hn : n ≤ s.length) (b : UInt8) (hb : b ≠ 62)
    (X : ByteArray) (hX : (⟨(s.take n).toArray⟩ : ByteArray) = X) (hsz : X.size + more.size ≤ 9223372036854775807)
    (h1 : Calls Tryd.prog 11 #[.int .i64 0, .string ⟨s.toArray⟩] w fun e w' => e = .returned (.tuple #[.string ⟨([b] : List UInt8).toArray⟩, .int .i64 n, .bool true, .int .i64 0]) ∧ Below w.heap.size w w')
    (h2 : ∀ W, Below w.heap.size w W → Calls Tryd.prog 11 #[.int .i64 0, .string (X ++ more)] W fun e w' => e = .returned (.tuple #[.string ⟨([b] : List UInt8).toArray⟩, .int .i64 n, .bool true, .int .i64 0]) ∧ Below W.heap.size W w')
    (hA : ∀ W, Calls Tryd.prog 18 #[.string ⟨([b] : List UInt8).toArray⟩, .string ⟨#[45, 45, 62]⟩] W fun e w' => e = .returned (.bool false) ∧ Below W.heap.size W w')
    (hB : ∀ W, Calls Tryd.prog 18 #[.string ⟨([b] : List UInt8).toArray⟩, .string ⟨#[45, 45, 33, 62]⟩] W fun e w' => e = .returned (.bool false) ∧ Below W.heap.size W w')
    (p1 p2 ok : Bool) (hR : Rest s w p1 p2 ok) :
    Calls Tryd.prog 7 #[.string ⟨s.toArray⟩, .string more] w fun e w' => e = .returned (.bool true) ∧ Below w.heap.size w w' := by
  have H1 : Hid (Calls Tryd.prog 11 #[.int .i64 0, .string ⟨s.toArray⟩] w fun e w' => e = .returned (.tuple #[.string ⟨([b] : List UInt8).toArray⟩, .int .i64 n, .bool true, .int .i64 0]) ∧ Below w.heap.size w w') := h1
  have H2 : Hid (∀ W, Below w.heap.size w W → Calls Tryd.prog 11 #[.int .i64 0, .string (X ++ more)] W fun e w' => e = .returned (.tuple #[.string ⟨([b] : List UInt8).toArray⟩, .int .i64 n, .bool true, .int .i64 0]) ∧ Below W.heap.size W w') := h2
  have HA : Hid (∀ W, Calls Tryd.prog 18 #[.string ⟨([b] : List UInt8).toArray⟩, .string ⟨#[45, 45, 62]⟩] W fun e w' => e = .returned (.bool false) ∧ Below W.heap.size W w') := hA
  have HB : Hid (∀ W, Calls Tryd.prog 18 #[.string ⟨([b] : List UInt8).toArray⟩, .string ⟨#[45, 45, 33, 62]⟩] W fun e w' => e = .returned (.bool false) ∧ Below W.heap.size W w') := hB
  have HR : Hid (Rest s w p1 p2 ok) := hR
  have hslX : ∀ w, (Instr.slice 9 (.string ⟨s.toArray⟩) none (some (.int .i64 n)) none).run Tryd.prog w = .ok (.string X) w := fun w => by
    rw [← hX]; exact slice_h s n hn n rfl w
  clear h1 h2 hA hB hR hX
  have hz1 := byteArr_size s
  obtain ⟨S3, hS3⟩ : ∃ S3 : ByteArray, (⟨(s ++ [45, 45, 62]).toArray⟩ : ByteArray) = S3 := ⟨_, rfl⟩
  have HS3 : Hid ((⟨(s ++ [45, 45, 62]).toArray⟩ : ByteArray) = S3) := hS3
  have hadd : (⟨s.toArray⟩ : ByteArray) ++ ⟨#[45, 45, 62]⟩ = S3 := by rw [← hS3]; exact arr_app s [45, 45, 62]
  have hsz3 : (⟨s.toArray⟩ : ByteArray).size + (⟨#[45, 45, 62]⟩ : ByteArray).size ≤ 9223372036854775807 := by
    rw [hz1, show (⟨#[45, 45, 62]⟩ : ByteArray).size = 3 from rfl]; omega
  have q1 : ((⟨s.toArray⟩ : ByteArray).toList == (⟨s.toArray⟩ : ByteArray).toList) = true := by simp
  have hw3 : IntKind.i64.wrap ((s.length : Int) + 3) = (s.length : Int) + 3 := by rw [IntKind.wrap_i64]; omega
  have q2 : (((s.length + 3 : Nat) : Int) == (s.length : Int) + 3) = true := by simp
  clear hS3
  have hn0 : decide ((n : Int) < 0) = false := by rw [decide_eq_false_iff_not]; omega
  have hn1 : decide ((n : Int) > (s.length : Int)) = false := by rw [decide_eq_false_iff_not]; omega
  have hn2 : decide ((s.length : Int) < (n : Int)) = false := by rw [decide_eq_false_iff_not]; omega
  have hix : ∀ w, (Instr.index 9 (.string ⟨([b] : List UInt8).toArray⟩) (.int .i64 0)).run Tryd.prog w = .ok (.int .u8 (b.toNat : Int)) w := fun w => run_byte w 9 ⟨([b] : List UInt8).toArray⟩ .i64 0 0 b Tryd.underlying9 rfl (by rw [byteArr_size]; simp) rfl
  have hbb : ((b.toNat : Int) == 62) = false := by
    have : b.toNat ≠ 62 := fun e => hb (UInt8.toNat_inj.1 e)
    simp; omega
  go_enter Tryd.func7, Tryd.ntmps7
  go_wp2_with fail
  (go_at_call 11; refine H1.out.mono ?_; rintro e w1 ⟨rfl, hb1⟩)
  go_wp2_with fail
  (go_at_call 18; refine (HA.out _).mono ?_; rintro e w2 ⟨rfl, hc2⟩)
  have hb2 := hb1.trans (hc2.mono hb1.size)
  go_wp2_with fail
  (go_at_call 18; refine (HB.out _).mono ?_; rintro e w3 ⟨rfl, hc3⟩)
  have hb3 := hb2.trans (hc3.mono hb2.size)
  go_wp2_with fail
  (go_at_call 11; refine (H2.out _ hb3).mono ?_; rintro e w4 ⟨rfl, hc4⟩)
  have hb4 := hb3.trans (hc4.mono hb3.size)
  clear H1 H2 HA HB
  have HCV : Hid (∀ W, (convert 9 43 (.string ⟨s.toArray⟩)).run Tryd.prog W = .ok (.slice (some ⟨W.heap.size, 0, none⟩) s.length (grownCap W s.length 0 5)) (Lib.bytesWorld W 5 ⟨s.toArray⟩)) := fun W => by
    have := Lib.run_convert_string_bytes (P := Tryd.prog) W 9 43 5 ⟨s.toArray⟩ Tryd.underlying9 Tryd.underlying43 Tryd.underlying5
    rw [byteArr_size] at this
    exact this
  go_wp2_with fail
  (go_at_call 18; refine (HR.out.b1 _).mono ?_; rintro e x1 ⟨rfl, hx1⟩)
  have hX1 := hb4.trans (hx1.mono hb4.size)
  cases p1 with
  | true =>
    go_wp2_with fail
    (go_at_call 10; refine (HR.out.l _ hX1).mono ?_; rintro e w9 ⟨rfl, hb9⟩)
    go_wp2_with fail
    go_ret
    exact ⟨rfl, hX1.trans (hb9.mono hX1.size)⟩
  | false =>
    go_wp2_with fail
    (go_at_call 18; refine (HR.out.b2 _).mono ?_; rintro e x2 ⟨rfl, hx2⟩)
    have hX2 := hX1.trans (hx2.mono hX1.size)
    cases p2 with
    | true =>
      go_wp2_with fail
      (go_at_call 10; refine (HR.out.l _ hX2).mono ?_; rintro e w9 ⟨rfl, hb9⟩)
      go_wp2_with fail
      go_ret
      exact ⟨rfl, hX2.trans (hb9.mono hX2.size)⟩
    | false =>
      have hcv := HCV.out x2
      have hX3 := hX2.trans ((bytesWorld_below x2 5 ⟨s.toArray⟩).mono hX2.size)
      have HX3 : Hid (Below w.heap.size w (Lib.bytesWorld x2 5 ⟨s.toArray⟩)) := hX3
      clear hX3
      go_wp2_with fail
      (go_at_call 19; refine (HR.out.v _ _ (grownCap_ge _ _ _ _)).mono ?_; rintro e x4 ⟨rfl, hx4⟩)
      have hX4 := HX3.out.trans (hx4.mono HX3.out.size)
      clear hcv
      cases ok with
      | false =>
        go_wp2_with fail
        (go_at_call 10; refine (HR.out.l _ hX4).mono ?_; rintro e w9 ⟨rfl, hb9⟩)
        go_wp2_with fail
        go_ret
        exact ⟨rfl, hX4.trans (hb9.mono hX4.size)⟩
      | true =>
        have HE : Hid (∀ W, Below w.heap.size w W → Calls Tryd.prog 11 #[.int .i64 0, .string S3] W fun e w' => e = .returned (.tuple #[.string ⟨s.toArray⟩, .int .i64 (s.length + 3 : Nat), .bool true, .int .i64 0]) ∧ Below W.heap.size W w') := by
          have h := HR.out.e rfl rfl rfl
          rw [HS3.out] at h
          exact h
        go_wp2_with fail
        (go_at_call 11; refine (HE.out _ hX4).mono ?_; rintro e x5 ⟨rfl, hx5⟩)
        have hX5 := hX4.trans (hx5.mono hX4.size)
        go_wp2_with fail
        (go_at_call 10; refine (HR.out.l _ hX5).mono ?_; rintro e w9 ⟨rfl, hb9⟩)
        go_wp2_with fail
        go_ret
        exact ⟨rfl, hX5.trans (hb9.mono hX5.size)⟩

set_option maxRecDepth 100000 in
set_option maxHeartbeats 8000000 in
/-- A comment that is closed. -/
theorem closed_two (s : List UInt8) (more : ByteArray) (w : World) (hs : s.length ≤ 1048576) (n : Nat) (hn : n ≤ s.length) (b c : UInt8) (t : List UInt8) (hb : b ≠ 62) (hbc : ¬ (b = 45 ∧ c = 62))
    (X : ByteArray) (hX : (⟨(s.take n).toArray⟩ : ByteArray) = X) (hsz : X.size + more.size ≤ 9223372036854775807)
    (h1 : Calls Tryd.prog 11 #[.int .i64 0, .string ⟨s.toArray⟩] w fun e w' => e = .returned (.tuple #[.string ⟨(b :: c :: t : List UInt8).toArray⟩, .int .i64 n, .bool true, .int .i64 0]) ∧ Below w.heap.size w w')
    (h2 : ∀ W, Below w.heap.size w W → Calls Tryd.prog 11 #[.int .i64 0, .string (X ++ more)] W fun e w' => e = .returned (.tuple #[.string ⟨(b :: c :: t : List UInt8).toArray⟩, .int .i64 n, .bool true, .int .i64 0]) ∧ Below W.heap.size W w')
    (hA : ∀ W, Calls Tryd.prog 18 #[.string ⟨(b :: c :: t : List UInt8).toArray⟩, .string ⟨#[45, 45, 62]⟩] W fun e w' => e = .returned (.bool false) ∧ Below W.heap.size W w')
    (hB : ∀ W, Calls Tryd.prog 18 #[.string ⟨(b :: c :: t : List UInt8).toArray⟩, .string ⟨#[45, 45, 33, 62]⟩] W fun e w' => e = .returned (.bool false) ∧ Below W.heap.size W w')
    (p1 p2 ok : Bool) (hR : Rest s w p1 p2 ok) :
    Calls Tryd.prog 7 #[.string ⟨s.toArray⟩, .string more] w fun e w' => e = .returned (.bool true) ∧ Below w.heap.size w w' := by
  have H1 : Hid (Calls Tryd.prog 11 #[.int .i64 0, .string ⟨s.toArray⟩] w fun e w' => e = .returned (.tuple #[.string ⟨(b :: c :: t : List UInt8).toArray⟩, .int .i64 n, .bool true, .int .i64 0]) ∧ Below w.heap.size w w') := h1
  have H2 : Hid (∀ W, Below w.heap.size w W → Calls Tryd.prog 11 #[.int .i64 0, .string (X ++ more)] W fun e w' => e = .returned (.tuple #[.string ⟨(b :: c :: t : List UInt8).toArray⟩, .int .i64 n, .bool true, .int .i64 0]) ∧ Below W.heap.size W w') := h2
  have HA : Hid (∀ W, Calls Tryd.prog 18 #[.string ⟨(b :: c :: t : List UInt8).toArray⟩, .string ⟨#[45, 45, 62]⟩] W fun e w' => e = .returned (.bool false) ∧ Below W.heap.size W w') := hA
  have HB : Hid (∀ W, Calls Tryd.prog 18 #[.string ⟨(b :: c :: t : List UInt8).toArray⟩, .string ⟨#[45, 45, 33, 62]⟩] W fun e w' => e = .returned (.bool false) ∧ Below W.heap.size W w') := hB
  have HR : Hid (Rest s w p1 p2 ok) := hR
  have hslX : ∀ w, (Instr.slice 9 (.string ⟨s.toArray⟩) none (some (.int .i64 n)) none).run Tryd.prog w = .ok (.string X) w := fun w => by
    rw [← hX]; exact slice_h s n hn n rfl w
  clear h1 h2 hA hB hR hX
  have hz1 := byteArr_size s
  obtain ⟨S3, hS3⟩ : ∃ S3 : ByteArray, (⟨(s ++ [45, 45, 62]).toArray⟩ : ByteArray) = S3 := ⟨_, rfl⟩
  have HS3 : Hid ((⟨(s ++ [45, 45, 62]).toArray⟩ : ByteArray) = S3) := hS3
  have hadd : (⟨s.toArray⟩ : ByteArray) ++ ⟨#[45, 45, 62]⟩ = S3 := by rw [← hS3]; exact arr_app s [45, 45, 62]
  have hsz3 : (⟨s.toArray⟩ : ByteArray).size + (⟨#[45, 45, 62]⟩ : ByteArray).size ≤ 9223372036854775807 := by
    rw [hz1, show (⟨#[45, 45, 62]⟩ : ByteArray).size = 3 from rfl]; omega
  have q1 : ((⟨s.toArray⟩ : ByteArray).toList == (⟨s.toArray⟩ : ByteArray).toList) = true := by simp
  have hw3 : IntKind.i64.wrap ((s.length : Int) + 3) = (s.length : Int) + 3 := by rw [IntKind.wrap_i64]; omega
  have q2 : (((s.length + 3 : Nat) : Int) == (s.length : Int) + 3) = true := by simp
  clear hS3
  have hn0 : decide ((n : Int) < 0) = false := by rw [decide_eq_false_iff_not]; omega
  have hn1 : decide ((n : Int) > (s.length : Int)) = false := by rw [decide_eq_false_iff_not]; omega
  have hn2 : decide ((s.length : Int) < (n : Int)) = false := by rw [decide_eq_false_iff_not]; omega
  have hix : ∀ w, (Instr.index 9 (.string ⟨(b :: c :: t : List UInt8).toArray⟩) (.int .i64 0)).run Tryd.prog w = .ok (.int .u8 (b.toNat : Int)) w := fun w => run_byte w 9 ⟨(b :: c :: t : List UInt8).toArray⟩ .i64 0 0 b Tryd.underlying9 rfl (by rw [byteArr_size]; simp) rfl
  have hbb : ((b.toNat : Int) == 62) = false := by
    have : b.toNat ≠ 62 := fun e => hb (UInt8.toNat_inj.1 e)
    simp; omega
  have hslT : ∀ w, (Instr.slice 9 (.string ⟨(b :: c :: t : List UInt8).toArray⟩) none (some (.int .i64 2)) none).run Tryd.prog w = .ok (.string ⟨([b, c] : List UInt8).toArray⟩) w := fun w => slice_h (b :: c :: t) 2 (by simp) 2 rfl w
  have hbc2 : (([b, c] : List UInt8) == [45, 62]) = false := by
    rw [Bool.eq_false_iff]
    intro h
    simp at h
    exact hbc h
  go_enter Tryd.func7, Tryd.ntmps7
  go_wp2_with fail
  (go_at_call 11; refine H1.out.mono ?_; rintro e w1 ⟨rfl, hb1⟩)
  go_wp2_with fail
  (go_at_call 18; refine (HA.out _).mono ?_; rintro e w2 ⟨rfl, hc2⟩)
  have hb2 := hb1.trans (hc2.mono hb1.size)
  go_wp2_with fail
  (go_at_call 18; refine (HB.out _).mono ?_; rintro e w3 ⟨rfl, hc3⟩)
  have hb3 := hb2.trans (hc3.mono hb2.size)
  go_wp2_with fail
  (go_at_call 11; refine (H2.out _ hb3).mono ?_; rintro e w4 ⟨rfl, hc4⟩)
  have hb4 := hb3.trans (hc4.mono hb3.size)
  clear H1 H2 HA HB
  have HCV : Hid (∀ W, (convert 9 43 (.string ⟨s.toArray⟩)).run Tryd.prog W = .ok (.slice (some ⟨W.heap.size, 0, none⟩) s.length (grownCap W s.length 0 5)) (Lib.bytesWorld W 5 ⟨s.toArray⟩)) := fun W => by
    have := Lib.run_convert_string_bytes (P := Tryd.prog) W 9 43 5 ⟨s.toArray⟩ Tryd.underlying9 Tryd.underlying43 Tryd.underlying5
    rw [byteArr_size] at this
    exact this
  go_wp2_with fail
  (go_at_call 18; refine (HR.out.b1 _).mono ?_; rintro e x1 ⟨rfl, hx1⟩)
  have hX1 := hb4.trans (hx1.mono hb4.size)
  cases p1 with
  | true =>
    go_wp2_with fail
    (go_at_call 10; refine (HR.out.l _ hX1).mono ?_; rintro e w9 ⟨rfl, hb9⟩)
    go_wp2_with fail
    go_ret
    exact ⟨rfl, hX1.trans (hb9.mono hX1.size)⟩
  | false =>
    go_wp2_with fail
    (go_at_call 18; refine (HR.out.b2 _).mono ?_; rintro e x2 ⟨rfl, hx2⟩)
    have hX2 := hX1.trans (hx2.mono hX1.size)
    cases p2 with
    | true =>
      go_wp2_with fail
      (go_at_call 10; refine (HR.out.l _ hX2).mono ?_; rintro e w9 ⟨rfl, hb9⟩)
      go_wp2_with fail
      go_ret
      exact ⟨rfl, hX2.trans (hb9.mono hX2.size)⟩
    | false =>
      have hcv := HCV.out x2
      have hX3 := hX2.trans ((bytesWorld_below x2 5 ⟨s.toArray⟩).mono hX2.size)
      have HX3 : Hid (Below w.heap.size w (Lib.bytesWorld x2 5 ⟨s.toArray⟩)) := hX3
      clear hX3
      go_wp2_with fail
      (go_at_call 19; refine (HR.out.v _ _ (grownCap_ge _ _ _ _)).mono ?_; rintro e x4 ⟨rfl, hx4⟩)
      have hX4 := HX3.out.trans (hx4.mono HX3.out.size)
      clear hcv
      cases ok with
      | false =>
        go_wp2_with fail
        (go_at_call 10; refine (HR.out.l _ hX4).mono ?_; rintro e w9 ⟨rfl, hb9⟩)
        go_wp2_with fail
        go_ret
        exact ⟨rfl, hX4.trans (hb9.mono hX4.size)⟩
      | true =>
        have HE : Hid (∀ W, Below w.heap.size w W → Calls Tryd.prog 11 #[.int .i64 0, .string S3] W fun e w' => e = .returned (.tuple #[.string ⟨s.toArray⟩, .int .i64 (s.length + 3 : Nat), .bool true, .int .i64 0]) ∧ Below W.heap.size W w') := by
          have h := HR.out.e rfl rfl rfl
          rw [HS3.out] at h
          exact h
        go_wp2_with fail
        (go_at_call 11; refine (HE.out _ hX4).mono ?_; rintro e x5 ⟨rfl, hx5⟩)
        have hX5 := hX4.trans (hx5.mono hX4.size)
        go_wp2_with fail
        (go_at_call 10; refine (HR.out.l _ hX5).mono ?_; rintro e w9 ⟨rfl, hb9⟩)
        go_wp2_with fail
        go_ret
        exact ⟨rfl, hX5.trans (hb9.mono hX5.size)⟩

theorem walk (w : World) (hT : Tb w) (s : ByteArray) (_hs0 : s.size ≤ 9223372036854775807) (hs : s.size ≤ 1048576) (more : ByteArray) (_hm0 : more.size ≤ 9223372036854775807) (hm : more.size ≤ 1048576) :
    Calls Tryd.prog 7 #[.string s, .string more] w fun e w' => e = .returned (.bool true) ∧ Below w.heap.size w w' := by
  obtain ⟨l, rfl⟩ : ∃ l : List UInt8, s = ⟨l.toArray⟩ := ⟨s.data.toList, (arr_eta s).symm⟩
  have hl : l.length ≤ 1048576 := by rw [← byteArr_size l]; exact hs
  obtain ⟨p1, p2, ok, hR⟩ := rest_of l w hT hl
  have hw := whole_calls 0 (by omega) (by omega) l w (by omega) hT.1
  cases he : endK 0 l with
  | none =>
    have hv : wV 0 l = .tuple #[.string ⟨(encs (runesI (wText 0 l))).toArray⟩, .int .i64 l.length, .bool false, .int .i64 0] := by
      unfold wV wN wC
      rw [he]; rfl
    rw [hv] at hw
    exact open_on l more w hl _ hw p1 p2 ok hR
  | some p =>
    obtain ⟨a, n⟩ := p
    obtain ⟨Z, m, e1, e2, e3, e4, e5, e6⟩ := closed_facts l a n he
    obtain ⟨T, hTT⟩ : ∃ T, T = encs (runesI (l.take a)) := ⟨_, rfl⟩
    have hv : wV 0 l = .tuple #[.string ⟨T.toArray⟩, .int .i64 n, .bool true, .int .i64 0] := by
      unfold wV wText wTo wN wC
      rw [he, hTT]; rfl
    rw [hv] at hw
    have hmz : more.data.toList.length = more.size := size_data more
    have h2 : ∀ W, Below w.heap.size w W → Calls Tryd.prog 11 #[.int .i64 0, .string (⟨(l.take n).toArray⟩ ++ more)] W fun e w' => e = .returned (.tuple #[.string ⟨T.toArray⟩, .int .i64 n, .bool true, .int .i64 0]) ∧ Below W.heap.size W w' := fun W hW => by
      have h := whole_calls 0 (by omega) (by omega) (l.take n ++ more.data.toList) W (by rw [List.length_append, List.length_take]; omega) (hT.below hW).1
      have hv2 : wV 0 (l.take n ++ more.data.toList) = .tuple #[.string ⟨T.toArray⟩, .int .i64 n, .bool true, .int .i64 0] := by
        unfold wV wText wTo wN wC
        rw [e6]
        simp only [show ¬ (0 : Int) = 1 by decide, if_false, Option.isSome_some]
        rw [List.take_append_of_le_length (by rw [List.length_take]; omega), List.take_take, Nat.min_eq_left (by omega), hTT]
      rw [hv2, ← arr_app, arr_eta] at h
      exact h
    obtain ⟨n1, n2, n3, n4⟩ := no_end l a n he T hTT
    have htl : T.length ≤ 4 * 1048576 := by
      have g1 := encs_length (runesI (l.take a))
      have g2 := pcs_length (l.take a)
      rw [runesI_length] at g1
      rw [List.length_take] at g2
      rw [hTT]; omega
    have hA : ∀ W, Calls Tryd.prog 18 #[.string ⟨T.toArray⟩, .string ⟨#[45, 45, 62]⟩] W fun e w' => e = .returned (.bool false) ∧ Below W.heap.size W w' := fun W => by
      have h := has_calls T [45, 45, 62] W (by omega) (by simp) (by simp)
      rw [n1] at h
      exact h
    have hB : ∀ W, Calls Tryd.prog 18 #[.string ⟨T.toArray⟩, .string ⟨#[45, 45, 33, 62]⟩] W fun e w' => e = .returned (.bool false) ∧ Below W.heap.size W w' := fun W => by
      have h := has_calls T [45, 45, 33, 62] W (by omega) (by simp) (by simp)
      rw [n2] at h
      exact h
    have hsz : (⟨(l.take n).toArray⟩ : ByteArray).size + more.size ≤ 9223372036854775807 := by
      rw [byteArr_size, List.length_take]; omega
    clear hTT hv
    clear e1 e2 e4 e5 e6 n1 n2 htl he hs hm
    rcases T with _ | ⟨b, _ | ⟨c, t⟩⟩
    · exact closed_nil l more w hl n e3 _ rfl hsz hw h2 hA hB p1 p2 ok hR
    · refine closed_one l more w hl n e3 b (fun e => ?_) _ rfl hsz hw h2 hA hB p1 p2 ok hR
      rw [pfx_one, e] at n3
      exact absurd n3 (by decide)
    · refine closed_two l more w hl n e3 b c t (fun e => ?_) (fun e => ?_) _ rfl hsz hw h2 hA hB p1 p2 ok hR
      · rw [pfx_one, e] at n3
        exact absurd n3 (by decide)
      · rw [e.1, e.2] at n4
        simp [pfx, List.isPrefixOf] at n4

set_option maxRecDepth 100000 in
theorem contract (H : Type) (enc : TypeId × Value → H) (W : World) (base : Nat) (args : Array Value) (ds gs : List (DataW H)) (before : List MemPlace)
    (hval : ∀ (j : Nat) t v, Tryd.f7.params[j]? = some t → args[j]? = some v → Value.okWide Tryd.prog W .any base t v)
    (hW : DataW.Whole enc Tryd.prog Tryd.f7.params.toList Rows.markupEndsSpec.vars false W args.toList ds gs before) (hL : laidMetH Tryd.prog Rows.markupEndsUptoRow.laid W) (hk : Rows.uptoSmall H (ds ++ gs) = true) :
    Calls Tryd.prog 7 args W fun e W' => ∃ v, e = .returned v ∧ Rows.markupEndsSpec.post enc Tryd.prog Tryd.f7 false true false false W args v W' := by
  have hW' := hW
  have hlt := hW.lt
  obtain ⟨p, q, hA0, hV, rfl, hfz, hnd⟩ := hW
  have hA : DataW.TrodAll enc Tryd.prog W 0 (fun _ => true) true Tryd.f7.params.toList args.toList ds p := hA0
  rw [Tryd.params7] at hA hval
  obtain ⟨v0, vs0, d0, ds0, p0, q0, hargs, rfl, rfl, h0, r0⟩ := trodAll_cons hA
  obtain ⟨v1, vs1, d1, ds1, p1, q1, rfl, rfl, rfl, h1, r1⟩ := trodAll_cons r0
  obtain ⟨rfl, rfl, rfl⟩ := trodAll_nil r1
  obtain rfl : args = #[v0, v1] := by cases args; simp_all
  obtain ⟨rfl, rfl⟩ := trodVars_none hV
  clear hA0
  simp only [List.append_nil] at hW' hlt hk
  have hbulk := of_decide_eq_true hk
  simp only [Rows.uptoBulkAll] at hbulk
  have h0' := h0
  obtain ⟨s0, rfl, rfl, e0, ws0⟩ := Go.ChangeMaps.open_string Tryd.underlying9 (hval 0 9 v0 rfl rfl) h0
  have h1' := h1
  obtain ⟨s1, rfl, rfl, e1, ws1⟩ := Go.ChangeMaps.open_string Tryd.underlying9 (hval 1 9 v1 rfl rfl) h1
  refine (walk W (tabs_of_laid hL) s0 ws0 (by simp only [K.bulk_str, K.size_data] at hbulk; omega) s1 ws1 (by simp only [K.bulk_str, K.size_data] at hbulk; omega)).mono fun e W' ⟨he, hb⟩ => ?_
  subst he
  exact ⟨_, rfl, post_below hW' (fun _ _ _ => trodAll_cons_mk (shut_bool Tryd.underlying4 _) trodAll_mk0) (trodAll_cons_mk (stays (by kernel_rfl) (of_decide_eq_true (by kernel_rfl)) h0' hb (fun x hx => hlt x (by simp [hx]))) (trodAll_cons_mk (stays (by kernel_rfl) (of_decide_eq_true (by kernel_rfl)) h1' hb (fun x hx => hlt x (by simp [hx]))) trodAll_mk0)) rfl hb⟩

set_option maxRecDepth 100000 in
theorem laid_met (os : Os) : laidMet Tryd.prog Rows.markupEndsUptoRow.laid ((withTabs (World.holding Tryd.prog os ⟨moreBlocks, #[], []⟩)).forCall (fun _ _ => 0) ⟨#[], #[Value.string ⟨#[]⟩, Value.string ⟨#[]⟩], []⟩).memory :=
  laid_all os _
set_option maxRecDepth 100000 in
theorem reads (os : Os) {H : Type} (enc : TypeId × Value → H) : ∃ places, DataW.whole enc Tryd.prog ((withTabs (World.holding Tryd.prog os ⟨moreBlocks, #[], []⟩)).forCall (fun _ _ => 0) ⟨#[], #[Value.string ⟨#[]⟩, Value.string ⟨#[]⟩], []⟩).memory Tryd.f7.params.toList Rows.markupEndsSpec.vars false #[Value.string ⟨#[]⟩, Value.string ⟨#[]⟩].toList 8 = some ([.lit (.string []), .lit (.string [])], [], places) :=
  ⟨[], by kernel_rfl⟩

set_option maxRecDepth 100000 in
theorem lifted (os : Os) (started : os.Started) (H : Type) (enc : TypeId × Value → H) (F : Stop.Interp) :
    ReturnsInHanded {} Tryd.checked os 7 .any ((Rows.OpenSpec.upto Rows.markupEndsSpec).preRow enc Tryd.prog Tryd.f7 Rows.markupEndsUptoRow.domain false Rows.markupEndsUptoRow.laid) (((Rows.OpenSpec.upto Rows.markupEndsSpec).at F).post enc Tryd.prog Tryd.f7 false true false false) := by
  obtain ⟨places, hx⟩ := reads os enc
  refine returnsInHanded_of_row (C := Tryd.checked) (s := Rows.OpenSpec.upto Rows.markupEndsSpec) own started (by kernel_rfl) Tryd.func7
    (witness_row_atRef (enc := enc) (C := Tryd.checked) false (withTabs (World.holding Tryd.prog os ⟨moreBlocks, #[], []⟩)) #[Value.string ⟨#[]⟩, Value.string ⟨#[]⟩] rfl (by kernel_rfl) (by kernel_rfl) (by kernel_rfl)
      (OpenSpec.preRow_of_cond 8 hx (by kernel_rfl) (fun k hk => by cases hk; kernel_rfl) (by kernel_rfl) (laid_met os))) ?_
  intro W base args ds gs before hval hW _ hcond _ hL _ _
  exact contract H enc W base args ds gs before hval hW hL (hcond _ rfl)

set_option maxRecDepth 100000 in
theorem said : Rows.MarkupEndsUptoSaid :=
  OpenClaim.holds_of_cond 7 Tryd.f7 rfl rfl rfl rfl rfl rfl rfl ⟨rfl, rfl, rfl, rfl, rfl⟩ rfl rfl rfl rfl rfl (by kernel_rfl) Tryd.func7 (by kernel_rfl)
    (of_decide_eq_true (by kernel_rfl)) (by unfold Func.isWrapper; first | (rw [if_pos (by decide +kernel)]; kernel_rfl) | (rw [if_neg (by decide +kernel)]; exact ⟨rfl, rfl⟩))
    (fun os started H enc _ F => by rw [OpenClaim.pre_eq_preRow]; exact lifted os started H enc F)

theorem plain (f : FuncId) (fn : Func) (hf : Tryd.pinned.checked.prog.funcNamed "sieve/sievelaw09.MarkupEnds" = some f) (hfn : Tryd.pinned.checked.prog.funcs[f]? = some fn) :
    false = Tryd.pinned.checked.prog.looks [] ∧ ∀ (j : Nat) t, fn.params[j]? = some t → Tryd.pinned.checked.prog.wantsStandIn t = false := by
  obtain rfl : f = 7 := Option.some.inj ((show Tryd.prog.funcNamed "sieve/sievelaw09.MarkupEnds" = some 7 by kernel_rfl).symm.trans hf) |>.symm
  obtain rfl : fn = Tryd.f7 := (Option.some.inj (Tryd.func7.symm.trans hfn)).symm
  refine ⟨by kernel_rfl, fun j t ht => ?_⟩
  rw [Tryd.params7] at ht
  have hm := Array.mem_of_getElem? ht
  simp only [List.mem_toArray, List.mem_cons, List.not_mem_nil, or_false] at hm
  rcases hm with rfl | rfl
  · exact (show Tryd.prog.wantsStandIn 9 = false by kernel_rfl)
  · exact (show Tryd.prog.wantsStandIn 9 = false by kernel_rfl)

theorem card : Rows.MarkupEndsUptoCardSaid :=
  Claim7.holds_tied_plain_at .later [] _ _ _ _ said (fun _ h => by cases h) (by kernel_rfl) (fun _ h => by cases h) markupEndsUpto_row_tie rfl ⟨rfl, rfl⟩ (by kernel_rfl) rfl plain (by kernel_rfl)

end Go.Proofs.YtckhnkkmcgbabaaDoor.KEnds
