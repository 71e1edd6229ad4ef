/- What is proved here: laws and contracts of RRefM, RAwake, one behind the other (each says its own). -/
import Derived.Test.YtegkdgmpkfpjmaaDoorBun12
import Derived.Test.YtegkdgmpkfpjmaaDoorRWhole
import Derived.Test.YtegkdgmpkfpjmaaDoorBun1
import Derived.Deep.RegionHeld3
/- What is proved here: plain facts: what Whole answers by the machine is what the document's search says; and the examples. -/
namespace Go.Proofs.YtegkdgmpkfpjmaaDoor.R
open Go.RowKit Go.Shelf Go.Proofs.YtegkdgmpkfpjmaaDoor.U Go.Proofs.YtegkdgmpkfpjmaaDoor.N

theorem s0_pend (nm : List Int) (p : Nat) (h2 : 2 ≤ p) (h3 : p ≤ 3) : Pend nm (s0 p) [] := .none rfl rfl h2 (by simp only [s0]; omega)
/-- The document's search, from the beginning; in plain text nothing ends. -/
def refR (nm : List Int) (p : Nat) (l : List Int) : Option Nat := if p = 1 then none else refF (decide (2 < p)) nm 0 0 l
theorem plain_run (nm : List Int) : ∀ (l : List Int) (s : St), s.p = 1 → s.b = 0 → (s.run nm l).p = 1 ∧ (s.run nm l).b = 0
  | [], s, h1, h2 => ⟨h1, h2⟩
  | r :: l, s, h1, h2 => by
    rw [run_cons]
    have : s.next nm r = { s.tell r 0 with n := 0 } := by
      unfold St.next St.step St.begin
      rw [if_neg (by omega), if_pos h2, if_neg (by omega), if_neg (by omega), if_neg (by omega)]
    rw [this]
    exact plain_run nm l _ h1 rfl
theorem plain_not (nm : List Int) (l : List Int) : ((s0 1).run nm l).p ≠ 6 := by rw [(plain_run nm l (s0 1) rfl rfl).1]; omega
/-- What a search that finds an end says of the machine. -/
theorem ref_some {nm : List Int} (hnm : NmOk nm) {p : Nat} (h1 : 1 ≤ p) (h3 : p ≤ 3) {l : List Int} {k : Nat} (h : refR nm p l = some k) :
    ∃ l1 r l2 n, l = l1 ++ r :: l2 ∧ ((s0 p).run nm l1).p ≠ 6 ∧ (s0 p).run nm (l1 ++ [r]) = ⟨6, 0, n, l.take k, [], r⟩ ∧ l1.length = k + 2 + nm.length := by
  unfold refR at h
  by_cases hp : p = 1
  · rw [if_pos hp] at h; cases h
  · rw [if_neg hp] at h
    have hm := main nm hnm l (s0 p) [] [] (s0_pend nm p (by omega) h3) rfl
    have e0 : (s0 p).p - 3 = 0 := by show p - 3 = 0; omega
    rw [e0, show (s0 p).p = p from rfl, List.nil_append, h] at hm
    obtain ⟨l1, r, l2, n, x', base', i0, i1, i2, i3, i4, i5, i6, i7⟩ := hm
    refine ⟨l1, r, l2, n, i0, pend_ne6 i1, ?_, by simpa using i7⟩
    rw [i5]
    have : base' = l.take k := by
      have hl : base'.length = k := by simpa using i6
      rw [i0, ← hl]
      have : l1 = base' ++ x' := by rw [i3]; simp
      rw [this, List.append_assoc, List.take_left]
    rw [this]
theorem ref_none {nm : List Int} (hnm : NmOk nm) {p : Nat} (h1 : 1 ≤ p) (h3 : p ≤ 3) {l : List Int} (h : refR nm p l = none) : ((s0 p).run nm l).p ≠ 6 := by
  unfold refR at h
  by_cases hp : p = 1
  · subst hp; exact plain_not nm l
  · rw [if_neg hp] at h
    have hm := main nm hnm l (s0 p) [] [] (s0_pend nm p (by omega) h3) rfl
    have e0 : (s0 p).p - 3 = 0 := by show p - 3 = 0; omega
    rw [e0, show (s0 p).p = p from rfl, List.nil_append, h] at hm
    obtain ⟨x', base', i1, _⟩ := hm
    exact pend_ne6 i1
theorem over_more {nm : List Int} {s : St} {a : List Int} (h : (s.run nm a).p = 6) (b : List Int) : (s.run nm (a ++ b)).p = 6 := by rw [run_append, run_over nm _ h]; exact h
/-- Two beginnings with which a content first ends are one. -/
theorem first_one {nm : List Int} {s : St} {l l1 l2 m1 m2 : List Int} {r q : Int} (hl : l = l1 ++ r :: l2) (hm : l = m1 ++ q :: m2) (a1 : (s.run nm l1).p ≠ 6) (a2 : (s.run nm (l1 ++ [r])).p = 6) (b1 : (s.run nm m1).p ≠ 6) (b2 : (s.run nm (m1 ++ [q])).p = 6) : l1 = m1 ∧ r = q := by
  have pl : ∀ n, n ≤ l1.length → l1.take n = l.take n := fun n hn => by rw [hl, List.take_append_of_le_length hn]
  have pm : ∀ n, n ≤ m1.length → m1.take n = l.take n := fun n hn => by rw [hm, List.take_append_of_le_length hn]
  have ql : l1 ++ [r] = l.take (l1.length + 1) := by rw [hl, show l1 ++ r :: l2 = (l1 ++ [r]) ++ l2 by simp, List.take_left' (by simp)]
  have qm : m1 ++ [q] = l.take (m1.length + 1) := by rw [hm, show m1 ++ q :: m2 = (m1 ++ [q]) ++ m2 by simp, List.take_left' (by simp)]
  rcases Nat.lt_trichotomy l1.length m1.length with h | h | h
  · exfalso
    apply b1
    rw [← List.take_append_drop (l1.length + 1) m1, pm _ (by omega), ← ql]
    exact over_more a2 _
  · have : l1 ++ [r] = m1 ++ [q] := by rw [ql, qm, h]
    exact ⟨(List.append_inj' this rfl).1, by simpa using (List.append_inj' this rfl).2⟩
  · exfalso
    apply a1
    rw [← List.take_append_drop (m1.length + 1) l1, pl _ (by omega), ← qm]
    exact over_more b2 _
/-- **Where the document's search finds an end, Whole tells it.** -/
theorem whole_some {nm : List Int} (hnm : NmOk nm) {p : Nat} (h1 : 1 ≤ p) (h3 : p ≤ 3) {bs t : List UInt8} {n : Nat} {ok : Bool} (hW : WholeIs nm p bs t n ok) {k : Nat} (h : refR nm p (runesI bs) = some k) :
    ok = true ∧ t = encs ((runesI bs).take k) ∧ n ≤ bs.length ∧ Cut (bs.take n) ∧ (runesI (bs.take n)).length = k + 3 + nm.length := by
  obtain ⟨l1, r, l2, m, i0, i1, i2, i3⟩ := ref_some hnm h1 h3 h
  rcases hW with ⟨w1, w2, w3, m1, q, w4, w5, w6, w7⟩ | ⟨w1, w2, w3, w4⟩
  · have hb : runesI bs = m1 ++ q :: runesI (bs.drop n) := by
      have := w3 (bs.drop n)
      rw [List.take_append_drop, w4, List.append_assoc] at this
      exact this
    obtain ⟨rfl, rfl⟩ := first_one i0 hb i1 (by rw [i2]) w5 w6
    refine ⟨w1, ?_, w2, w3, by rw [w4]; simp; omega⟩
    rw [w7, i2]
  · exfalso
    apply w3
    have := over_more (nm := nm) (s := s0 p) (a := l1 ++ [r]) (by rw [i2]) l2
    rw [List.append_assoc] at this
    rw [i0]; exact this
/-- **Where it finds none, Whole tells none.** -/
theorem whole_none {nm : List Int} (hnm : NmOk nm) {p : Nat} (h1 : 1 ≤ p) (h3 : p ≤ 3) {bs t : List UInt8} {n : Nat} {ok : Bool} (hW : WholeIs nm p bs t n ok) (h : refR nm p (runesI bs) = none) :
    ok = false ∧ n = bs.length ∧ t = encs (runesI bs) := by
  have hn := ref_none hnm h1 h3 h
  rcases hW with ⟨w1, w2, w3, m1, q, w4, w5, w6, w7⟩ | ⟨w1, w2, w3, w4⟩
  · exfalso
    apply hn
    have := w3 (bs.drop n)
    rw [List.take_append_drop, w4] at this
    rw [this]
    exact over_more w6 _
  · exact ⟨w1, w2, w4⟩
end Go.Proofs.YtegkdgmpkfpjmaaDoor.R

/- What is proved here: that the document's examples come out as it says (sievelaw10.awake). -/
namespace Go.Proofs.YtegkdgmpkfpjmaaDoor.R
open Go.RowKit Go.Shelf Go.Proofs.YtegkdgmpkfpjmaaDoor.U Go.Proofs.YtegkdgmpkfpjmaaDoor.N

theorem bulk_str {H : Type} (l : List UInt8) : Rows.uptoBulk (H := H) (.lit (.string l)) = l.length + 1 := rfl
theorem arr_eta (s : ByteArray) : (⟨s.data.toList.toArray⟩ : ByteArray) = s := by cases s; simp
/-- The tables, and what strings.Contains asks for. -/
abbrev Tb (W : World) : Prop := Lib.Utf8Tabs (Tryd.lays32_ren.g 2) (Tryd.lays32_ren.g 3) W
theorem max_below {W W' : World} (h : MaxOk W) (hb : Below W.heap.size W W') : MaxOk W' := h.below hb
theorem ex1 : refR (zs [116, 105, 116, 108, 101]) (p0 [116, 105, 116, 108, 101]) (runesI [97, 60, 47, 98, 62, 60, 47, 84, 73, 84, 76, 69, 32, 120, 62, 99]) = some 5 := by decide +kernel
theorem ex1t : encs ((runesI [97, 60, 47, 98, 62, 60, 47, 84, 73, 84, 76, 69, 32, 120, 62, 99]).take 5) = [97, 60, 47, 98, 62] := by kernel_rfl
theorem ex1n : ∀ n, n ≤ 16 → (runesI (([97, 60, 47, 98, 62, 60, 47, 84, 73, 84, 76, 69, 32, 120, 62, 99] : List UInt8).take n)).length = 13 → n = 13 := by decide +kernel
theorem ex2 : refR (zs [115, 99, 114, 105, 112, 116]) (p0 [115, 99, 114, 105, 112, 116]) (runesI [60, 33, 45, 45, 62, 60, 115, 99, 114, 105, 112, 116, 62, 60, 47, 115, 99, 114, 105, 112, 116, 62]) = some 13 := by decide +kernel
theorem ex2t : encs ((runesI [60, 33, 45, 45, 62, 60, 115, 99, 114, 105, 112, 116, 62, 60, 47, 115, 99, 114, 105, 112, 116, 62]).take 13) = [60, 33, 45, 45, 62, 60, 115, 99, 114, 105, 112, 116, 62] := by kernel_rfl
theorem ex2n : ∀ n, n ≤ 22 → (runesI (([60, 33, 45, 45, 62, 60, 115, 99, 114, 105, 112, 116, 62, 60, 47, 115, 99, 114, 105, 112, 116, 62] : List UInt8).take n)).length = 22 → n = 22 := by decide +kernel
theorem ex1w (w : World) (hT : Tb w) (hm : MaxOk w) : Calls Tryd.prog 13 #[.string ⟨#[116, 105, 116, 108, 101]⟩, .string ⟨#[97, 60, 47, 98, 62, 60, 47, 84, 73, 84, 76, 69, 32, 120, 62, 99]⟩] w fun e w' => e = .returned (.tuple #[.string ⟨#[97, 60, 47, 98, 62]⟩, .int .i64 13, .bool true, .int .i64 0]) ∧ Below w.heap.size w w' := by
  have hw : whZ [116, 105, 116, 108, 101] ≠ 0 := by decide +kernel
  refine (whole_calls [116, 105, 116, 108, 101] hw [97, 60, 47, 98, 62, 60, 47, 84, 73, 84, 76, 69, 32, 120, 62, 99] w (by decide) hT hm).mono ?_
  rintro e w' ⟨t, n, ok, rfl, hW, hb⟩
  obtain ⟨rfl, rfl, h3, _, h5⟩ := whole_some (wh_ok _ hw) (p0_range _).1 (p0_range _).2 hW ex1
  obtain rfl := ex1n n h3 h5
  exact ⟨by rw [ex1t]; rfl, hb⟩
theorem ex2w (w : World) (hT : Tb w) (hm : MaxOk w) : Calls Tryd.prog 13 #[.string ⟨#[115, 99, 114, 105, 112, 116]⟩, .string ⟨#[60, 33, 45, 45, 62, 60, 115, 99, 114, 105, 112, 116, 62, 60, 47, 115, 99, 114, 105, 112, 116, 62]⟩] w fun e w' => e = .returned (.tuple #[.string ⟨#[60, 33, 45, 45, 62, 60, 115, 99, 114, 105, 112, 116, 62]⟩, .int .i64 22, .bool true, .int .i64 0]) ∧ Below w.heap.size w w' := by
  have hw : whZ [115, 99, 114, 105, 112, 116] ≠ 0 := by decide +kernel
  refine (whole_calls [115, 99, 114, 105, 112, 116] hw [60, 33, 45, 45, 62, 60, 115, 99, 114, 105, 112, 116, 62, 60, 47, 115, 99, 114, 105, 112, 116, 62] w (by decide) hT hm).mono ?_
  rintro e w' ⟨t, n, ok, rfl, hW, hb⟩
  obtain ⟨rfl, rfl, h3, _, h5⟩ := whole_some (wh_ok _ hw) (p0_range _).1 (p0_range _).2 hW ex2
  obtain rfl := ex2n n h3 h5
  exact ⟨by rw [ex2t]; rfl, hb⟩
set_option maxRecDepth 100000 in
set_option maxHeartbeats 1000000 in
theorem num_calls (x : Int) (w : World) (h0 : -9223372036854775808 ≤ x) (h1 : x ≤ 9223372036854775807) : Calls Tryd.prog 9 #[.int .i64 x] w fun e w' => e = .returned (.int .i64 x) ∧ w' = w := by
  have hwr : IntKind.i64.wrap x = x := by rw [IntKind.wrap_i64]; omega
  go_enter Tryd.func9, Tryd.ntmps9
  go_wp2
  go_ret
  exact ⟨rfl, rfl⟩
set_option maxRecDepth 100000 in
set_option maxHeartbeats 2000000 in
/-- **awake.** -/
theorem awake_calls (w : World) (hT : Tb w) (hm : MaxOk w) : Calls Tryd.prog 10 #[] w fun e w' => e = .returned (.bool true) ∧ Below w.heap.size w w' := by
  have H1 := hid_of (ex1w w hT hm)
  have H2 : Hid (∀ W, Below w.heap.size w W → _) := fun W hb => ex2w W (tabs_below hT hb) (max_below hm hb)
  clear hT hm
  go_enter Tryd.func10, Tryd.ntmps10
  go_wp2_with fail
  (go_at_call 13; refine H1.out.mono ?_; rintro e w1 ⟨rfl, hb1⟩)
  go_wp2_with fail
  (go_at_call 13; refine (H2.out _ hb1).mono ?_; rintro e w2 ⟨rfl, hb2⟩)
  have hB : Below w.heap.size w w2 := hb1.trans (hb2.mono hb1.size)
  go_wp2_with fail
  (go_at_call 9; refine (num_calls 0 _ (by decide) (by decide)).mono ?_; rintro e w3 ⟨rfl, h3⟩; obtain rfl : w2 = w3 := h3.symm)
  go_wp2_with fail
  (go_at_call 9; refine (num_calls 0 _ (by decide) (by decide)).mono ?_; rintro e w3 ⟨rfl, h3⟩; obtain rfl : w2 = w3 := h3.symm)
  go_wp2_with fail
  go_ret
  exact ⟨rfl, hB⟩
end Go.Proofs.YtegkdgmpkfpjmaaDoor.R
