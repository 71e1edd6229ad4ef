/- What is proved here: the contract of write of token: the line that it adds to a builder. -/
import Derived.Test.YtelfejbhlolppaaDoorTCheck2
import Derived.Test.YtelfejbhlolppaaDoorTQuote
namespace Go.Proofs.YtelfejbhlolppaaDoor.T
open Go.RowKit N

/-- The words that a line begins with, in memory. -/
def Words (w : World) : Prop := 0 < w.heap.size ∧ w.cell? ⟨0, 0, none⟩ = some (.string ⟨#[116, 101, 120, 116]⟩) ∧ w.cell? ⟨0, 1, none⟩ = some (.string ⟨#[115, 116, 97, 114, 116]⟩) ∧ w.cell? ⟨0, 2, none⟩ = some (.string ⟨#[101, 110, 100]⟩) ∧ w.cell? ⟨0, 3, none⟩ = some (.string ⟨#[99, 111, 109, 109, 101, 110, 116]⟩) ∧ w.cell? ⟨0, 4, none⟩ = some (.string ⟨#[100, 111, 99, 116, 121, 112, 101]⟩)
theorem Words.below {w w' : World} (h : Words w) (hb : Below w.heap.size w w') : Words w' := by
  obtain ⟨h0, h1, h2, h3, h4, h5⟩ := h
  have hz := hb.size
  exact ⟨by omega, (hb.cell (p := ⟨0, 0, none⟩) h0).trans h1, (hb.cell (p := ⟨0, 1, none⟩) h0).trans h2, (hb.cell (p := ⟨0, 2, none⟩) h0).trans h3, (hb.cell (p := ⟨0, 3, none⟩) h0).trans h4, (hb.cell (p := ⟨0, 4, none⟩) h0).trans h5⟩

def wordB (k : Int) : List UInt8 := if k = 0 then [116, 101, 120, 116] else if k = 1 then [115, 116, 97, 114, 116] else if k = 2 then [101, 110, 100] else if k = 3 then [99, 111, 109, 109, 101, 110, 116] else [100, 111, 99, 116, 121, 112, 101]
def headB (t : Tok) : List UInt8 := wordB t.kind ++ if t.kind = 1 ∨ t.kind = 2 then [32] ++ quoteB t.name.data.toList else if t.kind = 0 ∨ t.kind = 3 then [32] ++ quoteB t.text.data.toList else []
def attrL (a : ByteArray × ByteArray) : List UInt8 := [32] ++ quoteB a.1.data.toList ++ [61] ++ quoteB a.2.data.toList
def attrsL (l : AL) : List UInt8 := l.flatMap attrL
def selfL (b : Bool) : List UInt8 := match b with | true => [32, 47] | false => []
def lineB (t : Tok) (l : AL) : List UInt8 := headB t ++ attrsL l ++ selfL t.self

def sumA (l : AL) : Nat := (l.map fun a => a.1.size + a.2.size).sum
theorem sumA_take (l : AL) (k : Nat) : sumA (l.take k) ≤ sumA l := by
  unfold sumA
  conv => rhs; rw [← List.take_append_drop k l, List.map_append, List.sum_append]
  omega
theorem sumA_succ (l : AL) (k : Nat) (h : k < l.length) : sumA (l.take (k + 1)) = sumA (l.take k) + (l[k].1.size + l[k].2.size) := by
  unfold sumA
  rw [List.take_succ_eq_append_getElem h, List.map_append, List.sum_append]; simp
theorem attrL_len (a : ByteArray × ByteArray) : (attrL a).length ≤ 2 * (a.1.size + a.2.size) + 6 := by
  have h1 := quoteB_len a.1.data.toList
  have h2 := quoteB_len a.2.data.toList
  rw [size_data] at h1 h2
  simp only [attrL, List.length_append, List.length_cons, List.length_nil]; omega
theorem attrsL_len (l : AL) : (attrsL l).length ≤ 2 * sumA l + 6 * l.length := by
  unfold attrsL sumA
  induction l with
  | nil => simp
  | cons a r ih => have := attrL_len a; simp only [List.flatMap_cons, List.length_append, List.map_cons, List.sum_cons, List.length_cons]; omega
theorem attrsL_succ (l : AL) (k : Nat) (h : k < l.length) : attrsL (l.take (k + 1)) = attrsL (l.take k) ++ attrL l[k] := by
  unfold attrsL
  rw [List.take_succ_eq_append_getElem h, List.flatMap_append]; simp
theorem headB_len (t : Tok) : (headB t).length ≤ 2 * (t.name.size + t.text.size) + 10 := by
  have h1 := quoteB_len t.name.data.toList
  have h2 := quoteB_len t.text.data.toList
  rw [size_data] at h1 h2
  have h3 : (wordB t.kind).length ≤ 7 := by unfold wordB; repeat' split
                                            all_goals simp
  unfold headB
  rw [List.length_append]
  split
  · simp only [List.length_append, List.length_cons, List.length_nil]; omega
  · split
    · simp only [List.length_append, List.length_cons, List.length_nil]; omega
    · simp only [List.length_nil]; omega
def sizeT (t : Tok) (l : AL) : Nat := 2 * (t.name.size + t.text.size) + 2 * sumA l + 6 * l.length + 12
theorem lineB_len (t : Tok) (l : AL) : (lineB t l).length ≤ sizeT t l := by
  have h1 := headB_len t
  have h2 := attrsL_len l
  have h3 : (selfL t.self).length ≤ 2 := by unfold selfL; split <;> simp
  simp only [lineB, List.length_append, sizeT]; omega

theorem Bld.alloc {B b : Nat} {l : List UInt8} {w : World} (h : Bld B b l w) (o : Obj) : Bld B b l (w.alloc o) := by
  rcases h with h | h
  · obtain ⟨hB, v, hb, hown, hne⟩ := h
    exact .inl ⟨hB, v, (Lib.alloc_old w o b (C.lt_of_block hb)).trans hb, hown.alloc o, hne⟩
  · obtain ⟨hB, v, hb, hown, hne⟩ := h
    exact .inr ⟨hB, v, (Lib.alloc_old w o b (C.lt_of_block hb)).trans hb, hown.alloc o, hne⟩
theorem Bld.lt {B b : Nat} {l : List UInt8} {w : World} (h : Bld B b l w) : b < w.heap.size := by
  rcases h with h | h
  · exact h.lt
  · exact h.lt
/-- A block that is no builder's and no row of bytes. -/
theorem Kept.block {b k : Nat} {w w' : World} {cs : Array Value} {ty : TypeId} {fz : Nat × Nat} (h : Kept b w w') (hk : w.heap[k]? = some (.cells cs ty fz)) (hne : k ≠ b) (ht : ty ≠ 5) : w'.heap[k]? = some (.cells cs ty fz) :=
  h k _ hk (fun e => hne (Option.some.inj e)) (fun c fz' e => by injection e with _ e2 _; exact ht e2)
theorem cell_at {w : World} {k i : Nat} {cs : Array Value} {ty : TypeId} {fz : Nat × Nat} (h : w.heap[k]? = some (.cells cs ty fz)) : w.cell? ⟨k, i, none⟩ = cs[i]? := by
  simp [World.cell?, h]
theorem new_at (w : World) (cs : Array Value) (ty : TypeId) : (w.alloc (.cells cs ty)).heap[w.heap.size]? = some (.cells cs ty (0, 0)) := World.alloc_heap_new w _

set_option maxRecDepth 100000 in
set_option maxHeartbeats 4000000 in
/-- **write of any token that may be.** -/
theorem write_calls (w0 : World) (b : Nat) (L : List UInt8) (t : Tok) (l : AL) (av : Value) (w : World) (h0 : Below w0.heap.size w0 w) (hW : Words w0) (hH : HasA w0 av l) (hBl : Bld w0.heap.size b L w) (hk : 0 ≤ t.kind ∧ t.kind ≤ 4) (hll : (l.length : Int) ≤ 1000000000000) (hlen : L.length + sizeT t l ≤ 140737488355328) :
    Calls Tryd.prog 35 #[.pointer (some ⟨b, 0, none⟩), t.val av] w fun e w' => e = .returned (.tuple #[]) ∧ Bld w0.heap.size b (L ++ lineB t l) w' ∧ Below w0.heap.size w w' ∧ Kept b w w' := by
  obtain ⟨la, lc, rfl⟩ := hH.slice
  have HS : Hid (HasA w0 (.slice la l.length lc) l) := hH
  have HW : Hid (Words w0) := hW
  have H0 : Hid (Below w0.heap.size w0 w) := h0
  have hz0 := h0.size
  have hbw := hBl.lt
  have HSZ : Hid (sizeT t l = 2 * (t.name.size + t.text.size) + 2 * sumA l + 6 * l.length + 12) := rfl
  have HLN : Hid (L.length + (2 * (t.name.size + t.text.size) + 2 * sumA l + 6 * l.length + 12) ≤ 140737488355328) := hlen
  have HHL : Hid ((headB t).length ≤ 2 * (t.name.size + t.text.size) + 10) := headB_len t
  have HLB : Hid (lineB t l = headB t ++ attrsL l ++ selfL t.self) := rfl
  clear hH hW hlen
  obtain ⟨kind, name, text, self, p0, p1, p2⟩ := t
  unfold Tok.val
  simp only at hk HSZ HLN HHL HLB ⊢
  have hln := HLN.out
  obtain ⟨W0, hW0⟩ : ∃ W0, w.alloc (.cells #[.int .i64 kind, .string name, .string text, .slice la l.length lc, .bool self, .int .i64 p0, .int .i64 p1, .int .i64 p2] 28) = W0 := ⟨_, rfl⟩
  have hT0 : W0.heap[w.heap.size]? = some (.cells #[.int .i64 kind, .string name, .string text, .slice la l.length lc, .bool self, .int .i64 p0, .int .i64 p1, .int .i64 p2] 28 (0, 0)) := by rw [← hW0]; exact new_at _ _ _
  have HT0 : Hid (W0.heap[w.heap.size]? = some (.cells #[.int .i64 kind, .string name, .string text, .slice la l.length lc, .bool self, .int .i64 p0, .int .i64 p1, .int .i64 p2] 28 (0, 0))) := hT0
  have b0 : Below w0.heap.size w W0 := by rw [← hW0]; exact (Below.refl _ w).alloc hz0 _
  have k0 : Kept b w W0 := by rw [← hW0]; exact (Lib.OthersKept.refl _ _ w).alloc _
  have HB0 : Hid (Bld w0.heap.size b L W0) := by rw [← hW0]; exact hBl.alloc _
  have HBe0 : Hid (Below w0.heap.size w W0) := b0
  have HK0 : Hid (Kept b w W0) := k0
  have t0 : W0.cell? ⟨w.heap.size, 0, none⟩ = some (.int .i64 kind) := cell_at hT0
  obtain ⟨_, g0, g1, g2, g3, g4⟩ := HW.out.below (H0.out.trans b0)
  have hzW : w0.heap.size ≤ W0.heap.size := by have := b0.size; omega
  have hnb : w.heap.size ≠ b := by omega
  clear hT0 b0 k0 hBl h0
  have hk5 : kind = 0 ∨ kind = 1 ∨ kind = 2 ∨ kind = 3 ∨ kind = 4 := by omega
  clear hk
  go_enter Tryd.func35, Tryd.ntmps35
  rcases hk5 with rfl | rfl | rfl | rfl | rfl
  case' inl =>
    go_wp2_with fail
    refine (writeString_calls w0.heap.size b L ⟨#[116, 101, 120, 116]⟩ W0 HB0.out (by rw [show (⟨#[116, 101, 120, 116]⟩ : ByteArray).size = 4 from rfl]; omega) hzW).mono ?_
    rintro e w1 ⟨⟨v1, rfl⟩, h1, b1, k1⟩
    have hT1 := k1.block HT0.out hnb (by decide)
    have u0 : w1.cell? ⟨w.heap.size, 0, none⟩ = some (.int .i64 0) := cell_at hT1
    have u2 : w1.cell? ⟨w.heap.size, 2, none⟩ = some (.string text) := cell_at hT1
    have hz1 := b1.size
    go_wp2_with fail
    refine (writeByte_calls w0.heap.size b _ 32 _ rfl w1 h1 (by simp; omega) (by omega)).mono ?_
    rintro e w2 ⟨rfl, h2, b2, k2⟩
    have hT2 := k2.block hT1 hnb (by decide)
    have x2 : w2.cell? ⟨w.heap.size, 2, none⟩ = some (.string text) := cell_at hT2
    have hz2 := b2.size
    clear u0 u2
    go_wp2_with fail
    refine (quote_calls w0.heap.size b _ text w2 h2 (by simp; omega) (by omega)).mono ?_
    rintro e w3 ⟨rfl, h3, b3, k3⟩
    have H3 : Hid (Bld w0.heap.size b (L ++ headB ⟨0, name, text, self, p0, p1, p2⟩) w3) := by show Bld _ _ _ _; simpa [headB, wordB, List.append_assoc] using h3
    have B3 : Hid (Below w0.heap.size w w3) := ((HBe0.out.trans b1).trans b2).trans b3
    have K3 : Hid (Kept b w w3) := ((HK0.out.trans k1).trans k2).trans k3
    have HT3 : Hid (w3.heap[w.heap.size]? = some (.cells #[.int .i64 0, .string name, .string text, .slice la l.length lc, .bool self, .int .i64 p0, .int .i64 p1, .int .i64 p2] 28 (0, 0))) := k3.block hT2 hnb (by decide)
    clear h1 b1 k1 h2 b2 k2 h3 b3 k3 hT1 hT2 x2
  case' inr.inl =>
    go_wp2_with fail
    refine (writeString_calls w0.heap.size b L ⟨#[115, 116, 97, 114, 116]⟩ W0 HB0.out (by rw [show (⟨#[115, 116, 97, 114, 116]⟩ : ByteArray).size = 5 from rfl]; omega) hzW).mono ?_
    rintro e w1 ⟨⟨v1, rfl⟩, h1, b1, k1⟩
    have hT1 := k1.block HT0.out hnb (by decide)
    have u0 : w1.cell? ⟨w.heap.size, 0, none⟩ = some (.int .i64 1) := cell_at hT1
    have hz1 := b1.size
    go_wp2_with fail
    refine (writeByte_calls w0.heap.size b _ 32 _ rfl w1 h1 (by simp; omega) (by omega)).mono ?_
    rintro e w2 ⟨rfl, h2, b2, k2⟩
    have hT2 := k2.block hT1 hnb (by decide)
    have x2 : w2.cell? ⟨w.heap.size, 1, none⟩ = some (.string name) := cell_at hT2
    have hz2 := b2.size
    clear u0
    go_wp2_with fail
    refine (quote_calls w0.heap.size b _ name w2 h2 (by simp; omega) (by omega)).mono ?_
    rintro e w3 ⟨rfl, h3, b3, k3⟩
    have H3 : Hid (Bld w0.heap.size b (L ++ headB ⟨1, name, text, self, p0, p1, p2⟩) w3) := by show Bld _ _ _ _; simpa [headB, wordB, List.append_assoc] using h3
    have B3 : Hid (Below w0.heap.size w w3) := ((HBe0.out.trans b1).trans b2).trans b3
    have K3 : Hid (Kept b w w3) := ((HK0.out.trans k1).trans k2).trans k3
    have HT3 : Hid (w3.heap[w.heap.size]? = some (.cells #[.int .i64 1, .string name, .string text, .slice la l.length lc, .bool self, .int .i64 p0, .int .i64 p1, .int .i64 p2] 28 (0, 0))) := k3.block hT2 hnb (by decide)
    clear h1 b1 k1 h2 b2 k2 h3 b3 k3 hT1 hT2 x2
  case' inr.inr.inl =>
    go_wp2_with fail
    refine (writeString_calls w0.heap.size b L ⟨#[101, 110, 100]⟩ W0 HB0.out (by rw [show (⟨#[101, 110, 100]⟩ : ByteArray).size = 3 from rfl]; omega) hzW).mono ?_
    rintro e w1 ⟨⟨v1, rfl⟩, h1, b1, k1⟩
    have hT1 := k1.block HT0.out hnb (by decide)
    have u0 : w1.cell? ⟨w.heap.size, 0, none⟩ = some (.int .i64 2) := cell_at hT1
    have hz1 := b1.size
    go_wp2_with fail
    refine (writeByte_calls w0.heap.size b _ 32 _ rfl w1 h1 (by simp; omega) (by omega)).mono ?_
    rintro e w2 ⟨rfl, h2, b2, k2⟩
    have hT2 := k2.block hT1 hnb (by decide)
    have x2 : w2.cell? ⟨w.heap.size, 1, none⟩ = some (.string name) := cell_at hT2
    have hz2 := b2.size
    clear u0
    go_wp2_with fail
    refine (quote_calls w0.heap.size b _ name w2 h2 (by simp; omega) (by omega)).mono ?_
    rintro e w3 ⟨rfl, h3, b3, k3⟩
    have H3 : Hid (Bld w0.heap.size b (L ++ headB ⟨2, name, text, self, p0, p1, p2⟩) w3) := by show Bld _ _ _ _; simpa [headB, wordB, List.append_assoc] using h3
    have B3 : Hid (Below w0.heap.size w w3) := ((HBe0.out.trans b1).trans b2).trans b3
    have K3 : Hid (Kept b w w3) := ((HK0.out.trans k1).trans k2).trans k3
    have HT3 : Hid (w3.heap[w.heap.size]? = some (.cells #[.int .i64 2, .string name, .string text, .slice la l.length lc, .bool self, .int .i64 p0, .int .i64 p1, .int .i64 p2] 28 (0, 0))) := k3.block hT2 hnb (by decide)
    clear h1 b1 k1 h2 b2 k2 h3 b3 k3 hT1 hT2 x2
  case' inr.inr.inr.inl =>
    go_wp2_with fail
    refine (writeString_calls w0.heap.size b L ⟨#[99, 111, 109, 109, 101, 110, 116]⟩ W0 HB0.out (by rw [show (⟨#[99, 111, 109, 109, 101, 110, 116]⟩ : ByteArray).size = 7 from rfl]; omega) hzW).mono ?_
    rintro e w1 ⟨⟨v1, rfl⟩, h1, b1, k1⟩
    have hT1 := k1.block HT0.out hnb (by decide)
    have u0 : w1.cell? ⟨w.heap.size, 0, none⟩ = some (.int .i64 3) := cell_at hT1
    have u2 : w1.cell? ⟨w.heap.size, 2, none⟩ = some (.string text) := cell_at hT1
    have hz1 := b1.size
    go_wp2_with fail
    refine (writeByte_calls w0.heap.size b _ 32 _ rfl w1 h1 (by simp; omega) (by omega)).mono ?_
    rintro e w2 ⟨rfl, h2, b2, k2⟩
    have hT2 := k2.block hT1 hnb (by decide)
    have x2 : w2.cell? ⟨w.heap.size, 2, none⟩ = some (.string text) := cell_at hT2
    have hz2 := b2.size
    clear u0 u2
    go_wp2_with fail
    refine (quote_calls w0.heap.size b _ text w2 h2 (by simp; omega) (by omega)).mono ?_
    rintro e w3 ⟨rfl, h3, b3, k3⟩
    have H3 : Hid (Bld w0.heap.size b (L ++ headB ⟨3, name, text, self, p0, p1, p2⟩) w3) := by show Bld _ _ _ _; simpa [headB, wordB, List.append_assoc] using h3
    have B3 : Hid (Below w0.heap.size w w3) := ((HBe0.out.trans b1).trans b2).trans b3
    have K3 : Hid (Kept b w w3) := ((HK0.out.trans k1).trans k2).trans k3
    have HT3 : Hid (w3.heap[w.heap.size]? = some (.cells #[.int .i64 3, .string name, .string text, .slice la l.length lc, .bool self, .int .i64 p0, .int .i64 p1, .int .i64 p2] 28 (0, 0))) := k3.block hT2 hnb (by decide)
    clear h1 b1 k1 h2 b2 k2 h3 b3 k3 hT1 hT2 x2
  case' inr.inr.inr.inr =>
    go_wp2_with fail
    refine (writeString_calls w0.heap.size b L ⟨#[100, 111, 99, 116, 121, 112, 101]⟩ W0 HB0.out (by rw [show (⟨#[100, 111, 99, 116, 121, 112, 101]⟩ : ByteArray).size = 7 from rfl]; omega) hzW).mono ?_
    rintro e w3 ⟨⟨v1, rfl⟩, h1, b1, k1⟩
    have hT1 := k1.block HT0.out hnb (by decide)
    have u0 : w3.cell? ⟨w.heap.size, 0, none⟩ = some (.int .i64 4) := cell_at hT1
    have H3 : Hid (Bld w0.heap.size b (L ++ headB ⟨4, name, text, self, p0, p1, p2⟩) w3) := by show Bld _ _ _ _; simpa [headB, wordB, List.append_assoc] using h1
    have B3 : Hid (Below w0.heap.size w w3) := (HBe0.out.trans b1)
    have K3 : Hid (Kept b w w3) := (HK0.out.trans k1)
    have HT3 : Hid (w3.heap[w.heap.size]? = some (.cells #[.int .i64 4, .string name, .string text, .slice la l.length lc, .bool self, .int .i64 p0, .int .i64 p1, .int .i64 p2] 28 (0, 0))) := hT1
    clear h1 b1 k1 hT1
  all_goals
    have y3 : w3.cell? ⟨w.heap.size, 3, none⟩ = some (.slice la l.length lc) := cell_at HT3.out
    have hz3 := B3.out.size
    clear t0 g0 g1 g2 g3 g4 HB0 HBe0 HK0 HT0 hW0 hzW
    generalize hHd : headB _ = Hd at H3 HHL HLB
    have hhl := HHL.out
    clear hHd
    go_wp2
    go_loopw [5, 35] (fun _ i wr => ∃ k : Nat, k ≤ l.length ∧ i = .int .i64 k ∧ Hid (Bld w0.heap.size b (L ++ Hd ++ attrsL (l.take k)) wr) ∧ Hid (Below w0.heap.size w wr) ∧ Hid (Kept b w wr) ∧ Hid (wr.heap[w.heap.size]? = w3.heap[w.heap.size]?)) (fun _ i _ => l.length - (intOf i).toNat)
    case atStart => exact ⟨0, by omega, rfl, (by show Bld _ _ _ _; simpa [attrsL] using H3.out), B3, K3, rfl⟩
    case round =>
      obtain ⟨k, hk, rfl, hb, hbe, hke, hT⟩ := hrel
      have hT' := hT.out.trans HT3.out
      have hzr := hbe.out.size
      have hal := attrsL_len (l.take k)
      obtain ⟨Lk, hLk⟩ : ∃ Lk, L ++ Hd ++ attrsL (l.take k) = Lk := ⟨_, rfl⟩
      have hlk : Lk.length ≤ L.length + (2 * (name.size + text.size) + 10) + 2 * sumA (l.take k) + 6 * k := by
        rw [← hLk]; simp only [List.length_append]; simp only [List.length_take] at hal; omega
      rw [hLk] at hb
      clear hal
      by_cases hlt : k < l.length
      · obtain ⟨ab, off, rfl, d0, d1⟩ := (HS.out.below (H0.out.trans hbe.out)).at k hlt
        have hsu := sumA_succ l k hlt
        have hst := sumA_take l (k + 1)
        have hsx := attrsL_succ l k hlt
        rcases hx : l[k] with ⟨n, x⟩
        rw [hx] at d0 d1 hsu hsx
        simp only at d0 d1 hsu
        have HN : Hid (L ++ Hd ++ attrsL (l.take (k + 1)) = Lk ++ [32] ++ quoteB n.data.toList ++ [61] ++ quoteB x.data.toList) := by
          show _ = _
          rw [hsx, ← List.append_assoc, hLk]; simp [attrL]
        have hroom : Lk.length + 2 * (n.size + x.size) + 6 ≤ 140737488355328 := by omega
        clear hsu hst hsx hx hLk hlk
        obtain ⟨W1, hW1⟩ : ∃ W1, wr.alloc (.cells #[.string n, .string x] 36) = W1 := ⟨_, rfl⟩
        have hA1 : W1.heap[wr.heap.size]? = some (.cells #[.string n, .string x] 36 (0, 0)) := by rw [← hW1]; exact new_at _ _ _
        have b1 : Below w0.heap.size wr W1 := by rw [← hW1]; exact (Below.refl _ wr).alloc (by omega) _
        have k1 : Kept b wr W1 := by rw [← hW1]; exact (Lib.OthersKept.refl _ _ wr).alloc _
        have h1 : Bld w0.heap.size b Lk W1 := by rw [← hW1]; exact hb.out.alloc _
        have hT1 := k1.block hT' hnb (by decide)
        have hz1 := b1.size
        have hnb1 : wr.heap.size ≠ b := by have := hb.out.lt; omega
        go_wp2_with fail
        refine (writeByte_calls w0.heap.size b Lk 32 _ rfl W1 h1 (by omega) (by omega)).mono ?_
        rintro e w4 ⟨rfl, h4, b4, k4⟩
        have hA4 := k4.block hA1 hnb1 (by decide)
        have hT4 := k4.block hT1 hnb (by decide)
        have hz4 := b4.size
        have c4 : w4.cell? ⟨wr.heap.size, 0, none⟩ = some (.string n) := cell_at hA4
        go_wp2_with fail
        refine (quote_calls w0.heap.size b _ n w4 h4 (by simp; omega) (by omega)).mono ?_
        rintro e w5 ⟨rfl, h5, b5, k5⟩
        have hA5 := k5.block hA4 hnb1 (by decide)
        have hT5 := k5.block hT4 hnb (by decide)
        have hz5 := b5.size
        have hq5 := quoteB_len n.data.toList
        rw [size_data] at hq5
        clear c4
        go_wp2_with fail
        refine (writeByte_calls w0.heap.size b _ 61 _ rfl w5 h5 (by simp only [List.length_append, List.length_cons, List.length_nil]; omega) (by omega)).mono ?_
        rintro e w6 ⟨rfl, h6, b6, k6⟩
        have hA6 := k6.block hA5 hnb1 (by decide)
        have hT6 := k6.block hT5 hnb (by decide)
        have hz6 := b6.size
        have c6 : w6.cell? ⟨wr.heap.size, 1, none⟩ = some (.string x) := cell_at hA6
        go_wp2_with fail
        refine (quote_calls w0.heap.size b _ x w6 h6 (by simp only [List.length_append, List.length_cons, List.length_nil]; omega) (by omega)).mono ?_
        rintro e w7 ⟨rfl, h7, b7, k7⟩
        have hT7 := k7.block hT6 hnb (by decide)
        have H7 : Hid (Bld w0.heap.size b (L ++ Hd ++ attrsL (l.take (k + 1))) w7) := by rw [HN.out]; exact h7
        have B7 : Hid (Below w0.heap.size w w7) := ((((hbe.out.trans b1).trans b4).trans b5).trans b6).trans b7
        have K7 : Hid (Kept b w w7) := ((((hke.out.trans k1).trans k4).trans k5).trans k6).trans k7
        have T7 : Hid (w7.heap[w.heap.size]? = w3.heap[w.heap.size]?) := hT7.trans HT3.out.symm
        clear c6 h4 h5 h6 h7 b1 b4 b5 b6 b7 k1 k4 k5 k6 k7 hA1 hA4 hA5 hA6 hT1 hT4 hT5 hT6 hT7
        go_wp2
        go_roundw
        case rel => exact ⟨k + 1, by omega, by go_num, H7, B7, K7, T7⟩
        case measure => simp [intOf]; omega
      · obtain rfl : k = l.length := by omega
        rw [List.take_length] at hLk hlk
        have c4 : wr.cell? ⟨w.heap.size, 4, none⟩ = some (.bool self) := cell_at hT'
        cases self with
        | false =>
          go_wp2
          go_end0
          refine ⟨rfl, ?_, hbe.out, hke.out⟩
          rw [HLB.out, ← List.append_assoc, ← List.append_assoc, hLk]
          simpa [selfL] using hb.out
        | true =>
          go_wp2_with fail
          refine (writeString_calls w0.heap.size b Lk ⟨#[32, 47]⟩ wr hb.out (by rw [show (⟨#[32, 47]⟩ : ByteArray).size = 2 from rfl]; omega) (by omega)).mono ?_
          rintro e w4 ⟨⟨v4, rfl⟩, h4, b4, k4⟩
          go_wp2
          go_end0
          refine ⟨rfl, ?_, hbe.out.trans b4, hke.out.trans k4⟩
          rw [HLB.out, ← List.append_assoc, ← List.append_assoc, hLk]
          exact h4
end Go.Proofs.YtelfejbhlolppaaDoor.T
