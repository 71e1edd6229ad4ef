/- What is proved here: the contract of acted of sievelaw02: Peek and Take of what cannot be. -/
import Derived.Test.YtkpjmcoihbebkaaBActedP
import Derived.Test.YtkpjmcoihbebkaaBActedU
namespace Go.Proofs.Ytkpjmcoihbebkaa.CInv
open Go.RowKit C

theorem grown_none {A B : World} (h : A.grownBy B none) : Below A.heap.size A B := ⟨h.os, h.tape, h.output, h.size, fun k hk => h.block k hk (fun e => by cases e)⟩
theorem alike_nil (w : World) (e f : Int) : Calls Try.prog 20 #[.slice none 0 0, .int .i64 e, .slice none 0 0, .int .i64 f] w fun r W' => r = .returned (.bool (decide (e = f))) ∧ Below w.heap.size w W' := by
  have h9 := alike_calls [] [] (.slice none 0 0) (.slice none 0 0) e f 0 0 w (by simp) (World.ownsRow_nil _ _ _ _) (.inl ⟨rfl, none, 0, rfl⟩)
  refine h9.mono ?_
  rintro r W' ⟨h1, h2⟩
  exact ⟨by simpa using h1, grown_none h2⟩
set_option maxRecDepth 100000 in
set_option maxHeartbeats 1000000 in
/-- Peek of both of what cannot be. -/
theorem acted_peekx (sb g b : Nat) (v : Value) (base top rg rb size : Nat) (l : Scr) (H : List UInt8) (i p t taken : Nat) (a : Option Addr) (cap : Nat) (hv : Value) (w : World) (hJ : J sb g b v base top rg rb size l H i p t taken a cap hv w) (n : Int) (hn : n < 0 ∨ (size : Int) < n) :
    Calls Try.prog 11 #[.pointer (some ⟨b, 0, none⟩), .pointer (some ⟨rb, 0, none⟩), .agg #[.int .i64 0, .int .i64 n]] w (AEnd sb g b v base top rg rb size l w) := by
  obtain ⟨W0, hW0⟩ : ∃ W0, w.alloc (.cells #[.int .i64 0, .int .i64 n] 43) = W0 := ⟨_, rfl⟩
  have hb0 : Below w.heap.size w W0 := by rw [← hW0]; exact (Below.refl _ w).alloc (Nat.le_refl _) _
  have c0 : W0.cell? ⟨w.heap.size, 0, none⟩ = some (.int .i64 0) := by rw [← hW0, cell_new]; rfl
  have c1 : W0.cell? ⟨w.heap.size, 1, none⟩ = some (.int .i64 n) := by rw [← hW0, cell_new]; rfl
  have hJ0 := hJ.below hb0
  have c2 : W0.cell? ⟨rb, 1, none⟩ = some (.int .i64 size) := Blk.cell hJ0.doc.buf 1
  have PC : Hid (Calls Try.prog 19 #[.pointer (some ⟨b, 0, none⟩), .int .i64 n] W0 fun e W' => e = .returned (.tuple #[.slice none 0 0, .int .i64 1]) ∧ W' = W0) := peekx_calls W0 b g size taken _ n hJ0.buf hn
  have FIN : Hid (∀ W3, Below W0.heap.size W0 W3 → AEnd sb g b v base top rg rb size l w (.returned (.bool true)) W3) := fun W3 hb => ⟨rfl, ⟨_, _, _, _, _, _, _, _, hJ0.below hb⟩, KeepP.under (hb0.trans (hb.mono hb0.size)) (KeepP.refl _ _)⟩
  have HW0 : Hid (w.alloc (.cells #[.int .i64 0, .int .i64 n] 43) = W0) := hW0
  clear hJ hJ0 hb0 hW0
  by_cases h0 : n < 0
  · have l1 : decide (n < 0) = true := by simpa using h0
    clear hn h0
    go_enter Try.func11, Try.ntmps11
    go_wp2_with fail
    rw [HW0.out]
    (go_at_call 19; refine PC.out.mono ?_; rintro e W1 ⟨rfl, hx⟩; obtain rfl : W0 = W1 := hx.symm)
    go_wp2_with fail
    go_region
    go_wp2_with fail
    (go_at_call 20; refine (alike_nil _ _ _).mono ?_; rintro e W3 ⟨rfl, hb3⟩)
    go_wp2_with fail
    go_ret
    exact FIN.out W3 ((Below.refl _ W0).drew.trans hb3)
  · have l1 : decide (n < 0) = false := by simpa using h0
    have l2 : decide ((size : Int) < n) = true := by simp; omega
    have l3 : decide (n > (size : Int)) = true := by simp; omega
    clear hn h0
    go_enter Try.func11, Try.ntmps11
    go_wp2_with fail
    rw [HW0.out]
    (go_at_call 19; refine PC.out.mono ?_; rintro e W1 ⟨rfl, hx⟩; obtain rfl : W0 = W1 := hx.symm)
    go_wp2_with fail
    go_region_held3 (fun w' => w'.cell? ⟨w.heap.size, 1, none⟩ = some (.int .i64 n) ∧ w'.cell? ⟨rb, 1, none⟩ = some (.int .i64 size)) (first | exact ⟨c1, c2⟩ | go_keep) (fail)
    go_wp2_with fail
    (go_at_call 20; refine (alike_nil _ _ _).mono ?_; rintro e W3 ⟨rfl, hb3⟩)
    go_wp2_with fail
    go_ret
    exact FIN.out W3 ((Below.refl _ W0).drew.trans hb3)
set_option maxRecDepth 100000 in
set_option maxHeartbeats 1000000 in
/-- Take of both of what cannot be. -/
theorem acted_takex (sb g b : Nat) (v : Value) (base top rg rb size : Nat) (l : Scr) (H : List UInt8) (i p t taken : Nat) (a : Option Addr) (cap : Nat) (hv : Value) (w : World) (hJ : J sb g b v base top rg rb size l H i p t taken a cap hv w) (n : Int) (hn : n < 0 ∨ (size : Int) < n) :
    Calls Try.prog 11 #[.pointer (some ⟨b, 0, none⟩), .pointer (some ⟨rb, 0, none⟩), .agg #[.int .i64 1, .int .i64 n]] w (AEnd sb g b v base top rg rb size l w) := by
  obtain ⟨W0, hW0⟩ : ∃ W0, w.alloc (.cells #[.int .i64 1, .int .i64 n] 43) = W0 := ⟨_, rfl⟩
  have hb0 : Below w.heap.size w W0 := by rw [← hW0]; exact (Below.refl _ w).alloc (Nat.le_refl _) _
  have z0 : W0.heap.size = w.heap.size + 1 := by rw [← hW0]; simp
  have c0 : W0.cell? ⟨w.heap.size, 0, none⟩ = some (.int .i64 1) := by rw [← hW0, cell_new]; rfl
  have c1 : W0.cell? ⟨w.heap.size, 1, none⟩ = some (.int .i64 n) := by rw [← hW0, cell_new]; rfl
  have hJ0 := hJ.below hb0
  have c2 : W0.cell? ⟨rb, 1, none⟩ = some (.int .i64 size) := Blk.cell hJ0.doc.buf 1
  have hrl := hJ0.doc.lt
  have PC : Hid (Calls Try.prog 19 #[.pointer (some ⟨b, 0, none⟩), .int .i64 n] W0 fun e W' => e = .returned (.tuple #[.slice none 0 0, .int .i64 1]) ∧ W' = W0) := peekx_calls W0 b g size taken _ n hJ0.buf hn
  have TC : Hid (∀ W1, Below W0.heap.size W0 W1 → Calls Try.prog 21 #[.pointer (some ⟨b, 0, none⟩), .int .i64 n] W1 fun e W' => e = .returned (.tuple #[.slice none 0 0, .int .i64 1]) ∧ W' = W1) := fun W1 hb => takex_calls W1 b g size taken _ n (hJ0.below hb).buf hn
  have FIN : Hid (∀ W3, Below W0.heap.size W0 W3 → AEnd sb g b v base top rg rb size l w (.returned (.bool true)) W3) := fun W3 hb => ⟨rfl, ⟨_, _, _, _, _, _, _, _, hJ0.below hb⟩, KeepP.under (hb0.trans (hb.mono hb0.size)) (KeepP.refl _ _)⟩
  have HW0 : Hid (w.alloc (.cells #[.int .i64 1, .int .i64 n] 43) = W0) := hW0
  clear hJ hJ0 hb0 hW0
  by_cases h0 : n < 0
  · have l1 : decide (n < 0) = true := by simpa using h0
    clear hn h0
    go_enter Try.func11, Try.ntmps11
    go_wp2_with fail
    rw [HW0.out]
    (go_at_call 19; refine PC.out.mono ?_; rintro e W1 ⟨rfl, hx⟩; obtain rfl : W0 = W1 := hx.symm)
    go_wp2_with fail
    (go_at_call 20; refine (alike_nil _ _ _).mono ?_; rintro e W2 ⟨rfl, hb2⟩)
    have hz2 := hb2.size
    have d1 : W2.cell? ⟨w.heap.size, 1, none⟩ = some (.int .i64 n) := (hb2.cell (p := ⟨w.heap.size, 1, none⟩) (by show w.heap.size < W0.heap.size; omega)).trans c1
    have d2 : W2.cell? ⟨rb, 1, none⟩ = some (.int .i64 size) := (hb2.cell (p := ⟨rb, 1, none⟩) hrl).trans c2
    go_wp2_with fail
    (go_at_call 21; refine (TC.out _ hb2).mono ?_; rintro e W1 ⟨rfl, hx⟩; obtain rfl : W2 = W1 := hx.symm)
    go_wp2_with fail
    go_region
    go_wp2_with fail
    (go_at_call 20; refine (alike_nil _ _ _).mono ?_; rintro e W3 ⟨rfl, hb3⟩)
    go_wp2_with fail
    go_ret
    exact FIN.out W3 (hb2.trans (((Below.refl _ W2).drew.trans hb3).mono hz2))
  · have l1 : decide (n < 0) = false := by simpa using h0
    have l2 : decide ((size : Int) < n) = true := by simp; omega
    have l3 : decide (n > (size : Int)) = true := by simp; omega
    clear hn h0
    go_enter Try.func11, Try.ntmps11
    go_wp2_with fail
    rw [HW0.out]
    (go_at_call 19; refine PC.out.mono ?_; rintro e W1 ⟨rfl, hx⟩; obtain rfl : W0 = W1 := hx.symm)
    go_wp2_with fail
    (go_at_call 20; refine (alike_nil _ _ _).mono ?_; rintro e W2 ⟨rfl, hb2⟩)
    have hz2 := hb2.size
    have d1 : W2.cell? ⟨w.heap.size, 1, none⟩ = some (.int .i64 n) := (hb2.cell (p := ⟨w.heap.size, 1, none⟩) (by show w.heap.size < W0.heap.size; omega)).trans c1
    have d2 : W2.cell? ⟨rb, 1, none⟩ = some (.int .i64 size) := (hb2.cell (p := ⟨rb, 1, none⟩) hrl).trans c2
    go_wp2_with fail
    (go_at_call 21; refine (TC.out _ hb2).mono ?_; rintro e W1 ⟨rfl, hx⟩; obtain rfl : W2 = W1 := hx.symm)
    go_wp2_with fail
    go_region_held3 (fun w' => w'.cell? ⟨w.heap.size, 1, none⟩ = some (.int .i64 n) ∧ w'.cell? ⟨rb, 1, none⟩ = some (.int .i64 size)) (first | exact ⟨d1, d2⟩ | go_keep) (fail)
    go_wp2_with fail
    (go_at_call 20; refine (alike_nil _ _ _).mono ?_; rintro e W3 ⟨rfl, hb3⟩)
    go_wp2_with fail
    go_ret
    exact FIN.out W3 (hb2.trans (((Below.refl _ W2).drew.trans hb3).mono hz2))
end Go.Proofs.Ytkpjmcoihbebkaa.CInv
