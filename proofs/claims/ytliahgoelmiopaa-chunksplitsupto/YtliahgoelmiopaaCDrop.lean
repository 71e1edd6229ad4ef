/- What is proved here: the contract of a buffer's drop. -/
import Derived.Deep.RegionHeld3
import Derived.Test.YtliahgoelmiopaaCBuf
namespace Go.Proofs.Ytliahgoelmiopaa.CInv
open Go.RowKit C

theorem grown_trans {A B C : World} {row : Option Nat} (h : A.grownBy B row) (k : B.grownBy C row) : A.grownBy C row :=
  ⟨k.os.trans h.os, k.tape.trans h.tape, k.output.trans h.output, Nat.le_trans h.size k.size, fun j hj hne => (k.block j (Nat.lt_of_lt_of_le hj h.size) hne).trans (h.block j hj hne)⟩
theorem slice_from (xa : Option Addr) (len xc c : Nat) (h1 : (c : Int) ≤ (len : Int)) : ∃ a1, (c < xc → a1 = xa.map (fun a => a.add c)) ∧ ∀ w, (Instr.slice 39 (.slice xa len xc) (some (.int .i64 c)) none none).run Try.prog w = .ok (.slice a1 (len - c) (xc - c)) w := by
  refine ⟨if xc = c then xa else xa.map (fun a => a.add c), fun h => if_neg (by omega), fun w => ?_⟩
  have h0 : (0 : Int) ≤ (c : Int) := by omega
  have hs : (sizeOf (Try.prog.elem 39)).run Try.prog w = .ok 1 w := by kernel_rfl
  rw [run_slice_l w _ _ _ _ (by kernel_rfl) _ _ h0 h1, hs]
  simp [Result.andThen, sliced]

set_option maxRecDepth 100000 in
set_option maxHeartbeats 1000000 in
/-- **drop**: the first n bytes are taken. -/
theorem drop_calls (w : World) (b g : Nat) (size : Int) (taken : Nat) (a : Option Addr) (len cap n : Nat) (h : BufAt w b g size taken (.slice a len cap)) (hn : n ≤ len) (ht : taken ≤ 100000000) (hl : len ≤ 100000000) :
    Calls Try.prog 41 #[.pointer (some ⟨b, 0, none⟩), .int .i64 n] w fun e W' => (∃ v, e = .returned v) ∧ ∃ a' cap', BufAt W' b g size (taken + n : Nat) (.slice a' (len - n) cap') ∧ (n < len → n < cap → a' = a.map (fun x => x.add n) ∧ cap' = cap - n) ∧ w.grownBy W' (some b) := by
  have c3 : w.cell? ⟨b, 3, none⟩ = some (.int .i64 taken) := Blk.cell h 3
  have f3 : w.frozen? ⟨b, 3, none⟩ = false := Blk.frozen h 3
  have hb1 := h.set3 ((taken : Int) + n)
  have c2 : (w.setCell ⟨b, 3, none⟩ (.int .i64 ((taken : Int) + n))).cell? ⟨b, 2, none⟩ = some (.slice a len cap) := Blk.cell hb1 2
  have f2 : (w.setCell ⟨b, 3, none⟩ (.int .i64 ((taken : Int) + n))).frozen? ⟨b, 2, none⟩ = false := Blk.frozen hb1 2
  have hwr : IntKind.i64.wrap ((taken : Int) + (n : Int)) = (taken : Int) + (n : Int) := by rw [IntKind.wrap_i64]; omega
  obtain ⟨a1, ha1, hs1⟩ := slice_from a len cap n (by omega)
  have HB1 : Hid (BufAt (w.setCell ⟨b, 3, none⟩ (.int .i64 ((taken : Int) + n))) b g size ((taken : Int) + n) (.slice a len cap)) := hb1
  clear h hb1
  have G1 : Hid (w.grownBy (w.setCell ⟨b, 3, none⟩ (.int .i64 ((taken : Int) + n))) (some b)) := grown_set w b 3 _
  by_cases hz : len - n = 0
  · have t : (((len - n : Nat) : Int) == 0) = true := by simp; omega
    go_enter Try.func41, Try.ntmps41
    go_wp2_with fail
    go_end0
    refine ⟨⟨_, rfl⟩, none, 0, ?_, fun h => by omega, ?_⟩
    · rw [hz]
      exact BufAt.set2 (BufAt.set2 HB1.out _) _
    · exact grown_trans (grown_trans G1.out (grown_set _ b 2 _)) (grown_set _ b 2 _)
  · have t : (((len - n : Nat) : Int) == 0) = false := by simp; omega
    go_enter Try.func41, Try.ntmps41
    go_wp2_with fail
    go_end0
    refine ⟨⟨_, rfl⟩, a1, cap - n, BufAt.set2 HB1.out _, fun _ h => ⟨ha1 h, rfl⟩, ?_⟩
    exact grown_trans G1.out (grown_set _ b 2 _)

end Go.Proofs.Ytliahgoelmiopaa.CInv
