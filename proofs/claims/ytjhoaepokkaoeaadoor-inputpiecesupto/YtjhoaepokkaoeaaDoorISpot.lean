/- What is proved here: contracts of package input's 'beginning' and 'pass': where the next cell stands. -/
import Derived.WalkKit
import Derived.Below
import Derived.Test.YtjhoaepokkaoeaaDoorIPlain
namespace Go.Proofs.YtjhoaepokkaoeaaDoor.U
open Go.RowKit

/-- A spot in memory: its byte, line and column. -/
structure SpotAt (W : World) (sb : Nat) (y l c : Int) : Prop where
  c0 : W.cell? ⟨sb, 0, none⟩ = some (.int .i64 y)
  c1 : W.cell? ⟨sb, 1, none⟩ = some (.int .i64 l)
  c2 : W.cell? ⟨sb, 2, none⟩ = some (.int .i64 c)
  fz : ∀ k, W.frozen? ⟨sb, k, none⟩ = false

def passW (w : World) (sb : Nat) (l c r : Int) : World :=
  if r = 10 then ((w.setCell ⟨sb, 2, none⟩ (.int .i64 (c + 1))).setCell ⟨sb, 1, none⟩ (.int .i64 (l + 1))).setCell ⟨sb, 2, none⟩ (.int .i64 1) else w.setCell ⟨sb, 2, none⟩ (.int .i64 (c + 1))

set_option maxRecDepth 100000 in
set_option maxHeartbeats 1000000 in
theorem pass_calls (sb : Nat) (y l c r : Int) (w : World) (h : SpotAt w sb y l c) (hl : 0 ≤ l ∧ l ≤ 4611686018427387904) (hc : 0 ≤ c ∧ c ≤ 4611686018427387904) :
    Calls Tryd.prog 65 #[.pointer (some ⟨sb, 0, none⟩), .int .i32 r] w fun e w' => e = .returned (.tuple #[]) ∧ w' = passW w sb l c r := by
  obtain ⟨c0, c1, c2, fz⟩ := h
  have f1 := fz 1; have f2 := fz 2
  obtain ⟨hl0, hl1⟩ := hl
  obtain ⟨hc0, hc1⟩ := hc
  go_enter Tryd.func65, Tryd.ntmps65
  go_wp2
  all_goals go_end0
  all_goals refine ⟨rfl, ?_⟩
  all_goals unfold passW
  all_goals simp_all

set_option maxRecDepth 100000 in
theorem beginning_calls (w : World) :
    Calls Tryd.prog 41 #[] w fun e w' => e = .returned (.agg #[.int .i64 0, .int .i64 1, .int .i64 1]) ∧ Below w.heap.size w w' := by
  go_enter Tryd.func41, Tryd.ntmps41
  go_wp2
  refine bodyPost_ret (v := .agg #[.int .i64 0, .int .i64 1, .int .i64 1]) (by simp [results, Tryd.results41, go_sem]) rfl ?_
  exact ⟨rfl, (Below.refl _ w).alloc (Nat.le_refl _) _⟩

end Go.Proofs.YtjhoaepokkaoeaaDoor.U
