/- What is proved here: the contracts of alike of sievelaw02, and of Same of chunk and of sieveref02 of any scripts. -/
import Derived.Test.YtfnbbbflgilfoaaCSame
namespace Go.Proofs.Ytfnbbbflgilfoaa.C
open Go.RowKit

theorem grown_trans {A B C : World} {row : Option Nat} (h : A.grownBy B row) (k : B.grownBy C row) : A.grownBy C row :=
  ⟨k.os.trans h.os, k.tape.trans h.tape, k.output.trans h.output, Nat.le_trans h.size k.size, fun j hj hne => (k.block j (Nat.lt_of_lt_of_le hj h.size) hne).trans (h.block j hj hne)⟩
theorem grown_below {A B : World} {row : Option Nat} (h : Below A.heap.size A B) : A.grownBy B row := ⟨h.os, h.tape, h.output, h.size, fun k hk _ => h.block k hk⟩

set_option maxRecDepth 100000 in
set_option maxHeartbeats 1000000 in
theorem alike_calls (xs ys : List UInt8) (av wv : Value) (e f : Int) (base n₁ : Nat) (w : World) (hl : (xs.length : Int) ≤ 100000000000000) (ho : w.ownsRow base 5 1 av xs.length (bvs xs)) (hw : HasB n₁ w wv ys) :
    Calls Try.prog 12 #[av, .int .i64 e, wv, .int .i64 f] w fun r W' => r = .returned (.bool (decide (e = f) && decide (xs = ys))) ∧ w.grownBy W' av.ownBlock := by
  obtain ⟨aa, ac, rfl⟩ := owns_slice ho
  have q1 := conv_bytes (hasB_owns ho)
  have q2 := conv_bytes hw
  have HO : Hid (w.ownsRow base 5 1 (.slice aa xs.length ac) xs.length (bvs xs)) := ho
  clear ho hw
  have hx := bytes_beq xs ys
  by_cases hef : e = f
  · rw [decide_eq_true hef, Bool.true_and]
    subst hef
    generalize decide (xs = ys) = dx at *
    go_enter Try.func12, Try.ntmps12
    go_wp2_with (go_at_call 7; refine (num_calls _ _).mono ?_; rintro e w' ⟨rfl, hw⟩; obtain rfl : w = w' := hw.symm)
    go_loopw [10, 24] (fun _ i wr => ∃ k : Nat, k ≤ xs.length ∧ i = .int .i64 k ∧ w.grownBy wr (Value.slice aa xs.length ac).ownBlock ∧ ∃ zs, wr.ownsRow base 5 1 (.slice aa xs.length ac) xs.length zs) (fun _ i _ => xs.length - (intOf i).toNat)
    case atStart => exact ⟨0, by omega, rfl, World.grownBy.refl _ _, _, HO.out⟩
    case round =>
      obtain ⟨k, hk, rfl, hgr, zs, hzs⟩ := hrel
      by_cases hlt : k < xs.length
      · obtain ⟨g, rfl⟩ : ∃ g, aa = some ⟨g, 0, none⟩ := by
          rcases hzs.2 with ⟨e, _⟩ | ⟨g, _, _, e, _⟩
          · simp at e; omega
          · simp at e; exact ⟨g, e.1⟩
        have hzl : zs.length = xs.length := by have := hzs.1; omega
        obtain ⟨u, hcell⟩ : ∃ u, wr.cell? ⟨g, k, none⟩ = some u := ⟨zs[k]'(by omega), by rw [hzs.cellAt k (by omega), List.getElem?_eq_getElem (by omega)]⟩
        clear hzl
        have hfr := hzs.frozenAt k
        obtain ⟨st1, st2⟩ := hzs.stored k (.int .u8 121)
        go_wp2
        go_roundw
        case rel => exact ⟨k + 1, by omega, by go_num, grown_trans hgr st2, _, st1⟩
        case measure => simp [intOf]; omega
      · go_wp2
        go_ret
        exact ⟨rfl, hgr⟩
  · rw [decide_eq_false hef, Bool.false_and]
    have he : (e == f) = false := by rw [beq_eq_false_iff_ne]; exact hef
    clear hef
    go_enter Try.func12, Try.ntmps12
    go_wp2_with (go_at_call 7; refine (num_calls _ _).mono ?_; rintro e w' ⟨rfl, hw⟩; obtain rfl : w = w' := hw.symm)
    go_loopw [10, 24] (fun _ i wr => ∃ k : Nat, k ≤ xs.length ∧ i = .int .i64 k ∧ w.grownBy wr (Value.slice aa xs.length ac).ownBlock ∧ ∃ zs, wr.ownsRow base 5 1 (.slice aa xs.length ac) xs.length zs) (fun _ i _ => xs.length - (intOf i).toNat)
    case atStart => exact ⟨0, by omega, rfl, World.grownBy.refl _ _, _, HO.out⟩
    case round =>
      obtain ⟨k, hk, rfl, hgr, zs, hzs⟩ := hrel
      by_cases hlt : k < xs.length
      · obtain ⟨g, rfl⟩ : ∃ g, aa = some ⟨g, 0, none⟩ := by
          rcases hzs.2 with ⟨e, _⟩ | ⟨g, _, _, e, _⟩
          · simp at e; omega
          · simp at e; exact ⟨g, e.1⟩
        have hzl : zs.length = xs.length := by have := hzs.1; omega
        obtain ⟨u, hcell⟩ : ∃ u, wr.cell? ⟨g, k, none⟩ = some u := ⟨zs[k]'(by omega), by rw [hzs.cellAt k (by omega), List.getElem?_eq_getElem (by omega)]⟩
        clear hzl
        have hfr := hzs.frozenAt k
        obtain ⟨st1, st2⟩ := hzs.stored k (.int .u8 121)
        go_wp2
        go_roundw
        case rel => exact ⟨k + 1, by omega, by go_num, grown_trans hgr st2, _, st1⟩
        case measure => simp [intOf]; omega
      · go_wp2
        go_ret
        exact ⟨rfl, hgr⟩

end Go.Proofs.Ytfnbbbflgilfoaa.C
