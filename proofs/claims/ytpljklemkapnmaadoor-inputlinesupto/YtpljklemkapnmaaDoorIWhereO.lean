/- What is proved here: the contract of input.Where at a place outside. -/
import Derived.Test.YtpljklemkapnmaaDoorIWhere
namespace Go.Proofs.YtpljklemkapnmaaDoor.U
open Go.RowKit Go.Shelf

set_option maxRecDepth 100000 in
/-- **input.Where at a place outside.** -/
theorem iwhere_out (a : Option Addr) (n cap : Nat) (at0 : Int) (w : World) (hat : at0 < 0 ∨ (n : Int) < at0) :
    Calls Tryd.prog 31 #[.slice a n cap, .int .i64 at0] w fun e W' => e = .returned (.tuple #[.agg #[.int .i64 0, .int .i64 0, .int .i64 0], .int .i64 1]) ∧ Below w.heap.size w W' := by
  obtain ⟨w0, hw0⟩ : ∃ w0, ((w.alloc (.cells #[.int .i64 at0] 3)).alloc (.cells #[.int .i64 0, .int .i64 0, .int .i64 0] 34)).alloc (.cells #[.int .i64 1] 44) = w0 := ⟨_, rfl⟩
  have hb0 : Below w.heap.size w w0 := by rw [← hw0]; exact (((Below.refl _ w).alloc (Nat.le_refl _) _).alloc (by simp) _).alloc (by simp; omega) _
  have aR : w0.heap[w.heap.size + 1]? = some (.cells #[.int .i64 0, .int .i64 0, .int .i64 0] 34 (0, 0)) := by
    rw [← hw0, Below.heap_alloc _ _ _ (by simp)]
    have := World.alloc_heap_new (w.alloc (.cells #[.int .i64 at0] 3)) (.cells #[.int .i64 0, .int .i64 0, .int .i64 0] 34); rwa [World.size_alloc] at this
  have aE : w0.heap[w.heap.size + 1 + 1]? = some (.cells #[.int .i64 1] 44 (0, 0)) := by
    rw [← hw0]
    have := World.alloc_heap_new ((w.alloc (.cells #[.int .i64 at0] 3)).alloc (.cells #[.int .i64 0, .int .i64 0, .int .i64 0] 34)) (.cells #[.int .i64 1] 44); rwa [World.size_alloc, World.size_alloc] at this
  have sp : SpotAt w0 (w.heap.size + 1) 0 0 0 := ⟨by simp [World.cell?, aR], by simp [World.cell?, aR], by simp [World.cell?, aR], fun k => by simp [World.frozen?, aR]⟩
  have cE : w0.cell? ⟨w.heap.size + 1 + 1, 0, none⟩ = some (.int .i64 1) := by simp [World.cell?, aE]
  have FIN : Hid (((w.alloc (.cells #[.int .i64 at0] 3)).alloc (.cells #[.int .i64 0, .int .i64 0, .int .i64 0] 34)).alloc (.cells #[.int .i64 1] 44) = w0 ∧ Below w.heap.size w w0 ∧ SpotAt w0 (w.heap.size + 1) 0 0 0 ∧ w0.cell? ⟨w.heap.size + 1 + 1, 0, none⟩ = some (.int .i64 1)) := ⟨hw0, hb0, sp, cE⟩
  clear hw0 hb0 aR aE sp cE
  by_cases h0 : at0 < 0
  · have ta : decide (at0 < 0) = true := by simp; omega
    go_enter Tryd.func31, Tryd.ntmps31
    go_wp2
    obtain ⟨hw0, hb0, sp, cE⟩ := FIN.out
    rw [hw0]
    (try simp only [Exit.inBlock, Exit.then])
    exact bodyPost_ret (results_iwhere rfl rfl sp cE) rfl ⟨rfl, hb0⟩
  · have ta : decide (at0 < 0) = false := by simp; omega
    have tb : decide ((n : Int) < at0) = true := by simp; omega
    go_enter Tryd.func31, Tryd.ntmps31
    go_wp2
    obtain ⟨hw0, hb0, sp, cE⟩ := FIN.out
    rw [hw0]
    (try simp only [Exit.inBlock, Exit.then])
    exact bodyPost_ret (results_iwhere rfl rfl sp cE) rfl ⟨rfl, hb0⟩

end Go.Proofs.YtpljklemkapnmaaDoor.U
