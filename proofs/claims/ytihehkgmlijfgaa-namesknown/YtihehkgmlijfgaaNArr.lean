/- What is proved here: two arrays of sixteen numbers are the same. -/
import Derived.Test.YtihehkgmlijfgaaNCount
namespace Go.Proofs.Ytihehkgmlijfgaa.NArr
open Go.RowKit N C

theorem cell_int (xs : Array Value) (j : Nat) (w : World) (h : j < xs.size) : (part 3 xs j).run Try.prog w = .ok xs[j] w := by
  simp [part, go_sem, h, Try.sizeOf3, Try.isAgg3]
theorem arr16_get (c : Nat → Int) (j : Nat) (h : j < 16) : (arr16 c)[j]'(by simpa [arr16] using h) = .int .i64 (c j) := by
  have : j = 0 ∨ j = 1 ∨ j = 2 ∨ j = 3 ∨ j = 4 ∨ j = 5 ∨ j = 6 ∨ j = 7 ∨ j = 8 ∨ j = 9 ∨ j = 10 ∨ j = 11 ∨ j = 12 ∨ j = 13 ∨ j = 14 ∨ j = 15 := by omega
  rcases this with rfl | rfl | rfl | rfl | rfl | rfl | rfl | rfl | rfl | rfl | rfl | rfl | rfl | rfl | rfl | rfl <;> rfl
theorem cell_arr (c : Nat → Int) (j : Nat) (w : World) (h : j < 16) : (part 3 (arr16 c) j).run Try.prog w = .ok (.int .i64 (c j)) w := by
  rw [cell_int _ j w (by simpa [arr16] using h), arr16_get c j h]
theorem arr_eqd (d d' : Nat) (hd : d = d' + 1) (c : Nat → Int) (w : World) : (Op.equalIn (d + 1) 39 (.agg (arr16 c)) (.agg (arr16 c))).run Try.prog w = .ok true w := by
  rw [Op.equalIn]
  simp only [Sem.run_bind, run_underlying Try.underlying39, Result.andThen_ok, Try.sizeOf3]
  have key : ∀ js : List Nat, (∀ j ∈ js, j < 16) → (forIn js ((none, ()) : Option Bool × Unit) fun i __s => do
      let a ← part 3 (arr16 c) (i * 1)
      let b ← part 3 (arr16 c) (i * 1)
      let r ← Op.equalIn d 3 a b
      if (!r) = true then pure (ForInStep.done (some false, ())) else pure (ForInStep.yield (none, ()))).run Try.prog w = .ok (none, ()) w := by
    intro js
    induction js with
    | nil => intro _; rfl
    | cons j r ih =>
      intro h
      have hj := h j (by simp)
      have h1 := cell_arr c (j * 1) w (by omega)
      have h2 := run_equalIn_int (P := Try.prog) w d' 3 .i64 .i64 (c (j * 1)) (c (j * 1)) Try.underlying3
      rw [← hd] at h2
      rw [List.forIn_cons]
      simp only [Sem.run_bind, h1, Result.andThen_ok, h2, beq_self_eq_true, Bool.not_true, Bool.false_eq_true, if_false, Sem.run_pure]
      exact ih (fun i hi => h i (by simp [hi]))
  first
    | rw [Std.Legacy.Range.forIn_eq_forIn_range']
    | rw [Std.Range.forIn_eq_forIn_range']
  have hk := key (List.range' 0 16) (fun j hj => by simpa using List.mem_range'_1.1 hj)
  have e : (List.range' [:16].start [:16].size [:16].step) = List.range' 0 16 := rfl
  rw [e, hk]
  rfl
theorem arr_eq (c : Nat → Int) (w : World) : (Op.equalIn 10000 39 (.agg (arr16 c)) (.agg (arr16 c))).run Try.prog w = .ok true w := arr_eqd 9999 9998 rfl c w


end Go.Proofs.Ytihehkgmlijfgaa.NArr
