/- What is proved here: the contracts of alike of sievelaw02, and of Same of chunk and of sieveref02 of any scripts. -/
import Derived.Test.YtliahgoelmiopaaCSame
namespace Go.Proofs.Ytliahgoelmiopaa.C
open Go.RowKit

theorem grown_trans {A B C : World} {row : Option Nat} (h : A.grownBy B row) (k : B.grownBy C row) : A.grownBy C row :=
  ⟨k.os.trans h.os, k.tape.trans h.tape, k.output.trans h.output, Nat.le_trans h.size k.size, fun j hj hne => (k.block j (Nat.lt_of_lt_of_le hj h.size) hne).trans (h.block j hj hne)⟩
theorem grown_below {A B : World} {row : Option Nat} (h : Below A.heap.size A B) : A.grownBy B row := ⟨h.os, h.tape, h.output, h.size, fun k hk _ => h.block k hk⟩

set_option maxRecDepth 100000 in
set_option maxHeartbeats 1000000 in
theorem alike_calls (xs ys : List UInt8) (av wv : Value) (e f : Int) (base n₁ : Nat) (w : World) (hl : (xs.length : Int) ≤ 100000000000000) (ho : w.ownsRow base 5 1 av xs.length (bvs xs)) (hw : HasB n₁ w wv ys) :
    Calls Try.prog 19 #[av, .int .i64 e, wv, .int .i64 f] w fun r W' => r = .returned (.bool (decide (e = f) && decide (xs = ys))) ∧ w.grownBy W' av.ownBlock := by
  obtain ⟨aa, ac, rfl⟩ := owns_slice ho
  have q1 := conv_bytes (hasB_owns ho)
  have q2 := conv_bytes hw
  have HO : Hid (w.ownsRow base 5 1 (.slice aa xs.length ac) xs.length (bvs xs)) := ho
  clear ho hw
  have hx := bytes_beq xs ys
  by_cases hef : e = f
  · rw [decide_eq_true hef, Bool.true_and]
    subst hef
    generalize decide (xs = ys) = dx at *
    go_enter Try.func19, Try.ntmps19
    go_wp2_with (go_at_call 11; refine (num_calls _ _).mono ?_; rintro e w' ⟨rfl, hw⟩; obtain rfl : w = w' := hw.symm)
    go_loopw [10, 24] (fun _ i wr => ∃ k : Nat, k ≤ xs.length ∧ i = .int .i64 k ∧ w.grownBy wr (Value.slice aa xs.length ac).ownBlock ∧ ∃ zs, wr.ownsRow base 5 1 (.slice aa xs.length ac) xs.length zs) (fun _ i _ => xs.length - (intOf i).toNat)
    case atStart => exact ⟨0, by omega, rfl, World.grownBy.refl _ _, _, HO.out⟩
    case round =>
      obtain ⟨k, hk, rfl, hgr, zs, hzs⟩ := hrel
      by_cases hlt : k < xs.length
      · obtain ⟨g, rfl⟩ : ∃ g, aa = some ⟨g, 0, none⟩ := by
          rcases hzs.2 with ⟨e, _⟩ | ⟨g, _, _, e, _⟩
          · simp at e; omega
          · simp at e; exact ⟨g, e.1⟩
        have hzl : zs.length = xs.length := by have := hzs.1; omega
        obtain ⟨u, hcell⟩ : ∃ u, wr.cell? ⟨g, k, none⟩ = some u := ⟨zs[k]'(by omega), by rw [hzs.cellAt k (by omega), List.getElem?_eq_getElem (by omega)]⟩
        clear hzl
        have hfr := hzs.frozenAt k
        obtain ⟨st1, st2⟩ := hzs.stored k (.int .u8 121)
        go_wp2
        go_roundw
        case rel => exact ⟨k + 1, by omega, by go_num, grown_trans hgr st2, _, st1⟩
        case measure => simp [intOf]; omega
      · go_wp2
        go_ret
        exact ⟨rfl, hgr⟩
  · rw [decide_eq_false hef, Bool.false_and]
    have he : (e == f) = false := by rw [beq_eq_false_iff_ne]; exact hef
    clear hef
    go_enter Try.func19, Try.ntmps19
    go_wp2_with (go_at_call 11; refine (num_calls _ _).mono ?_; rintro e w' ⟨rfl, hw⟩; obtain rfl : w = w' := hw.symm)
    go_loopw [10, 24] (fun _ i wr => ∃ k : Nat, k ≤ xs.length ∧ i = .int .i64 k ∧ w.grownBy wr (Value.slice aa xs.length ac).ownBlock ∧ ∃ zs, wr.ownsRow base 5 1 (.slice aa xs.length ac) xs.length zs) (fun _ i _ => xs.length - (intOf i).toNat)
    case atStart => exact ⟨0, by omega, rfl, World.grownBy.refl _ _, _, HO.out⟩
    case round =>
      obtain ⟨k, hk, rfl, hgr, zs, hzs⟩ := hrel
      by_cases hlt : k < xs.length
      · obtain ⟨g, rfl⟩ : ∃ g, aa = some ⟨g, 0, none⟩ := by
          rcases hzs.2 with ⟨e, _⟩ | ⟨g, _, _, e, _⟩
          · simp at e; omega
          · simp at e; exact ⟨g, e.1⟩
        have hzl : zs.length = xs.length := by have := hzs.1; omega
        obtain ⟨u, hcell⟩ : ∃ u, wr.cell? ⟨g, k, none⟩ = some u := ⟨zs[k]'(by omega), by rw [hzs.cellAt k (by omega), List.getElem?_eq_getElem (by omega)]⟩
        clear hzl
        have hfr := hzs.frozenAt k
        obtain ⟨st1, st2⟩ := hzs.stored k (.int .u8 121)
        go_wp2
        go_roundw
        case rel => exact ⟨k + 1, by omega, by go_num, grown_trans hgr st2, _, st1⟩
        case measure => simp [intOf]; omega
      · go_wp2
        go_ret
        exact ⟨rfl, hgr⟩

set_option maxRecDepth 100000 in
set_option maxHeartbeats 1000000 in
/-- **chunk.Same of any two scripts in memory.** -/
theorem sameH_calls (l l' : List (List UInt8 × Bool)) (r r' : Value) (w : World) (hS : HasS w r l) (hS' : HasS w r' l') (hl : (l.length : Int) ≤ 1000000000000) (hl' : (l'.length : Int) ≤ 1000000000000) (hn : (l.map fun x => x.1.length).sum ≤ 100000000000000) (hn' : (l'.map fun x => x.1.length).sum ≤ 100000000000000) :
    Calls Try.prog 26 #[r, r'] w fun e W' => e = .returned (.bool (decide (bytesOf l = bytesOf l'))) ∧ Below w.heap.size w W' := by
  have he : decide (bytesOf l = bytesOf l') = (((bytesOf l).2 == (bytesOf l').2) && decide ((bytesOf l).1 = (bytesOf l').1)) := by
    rw [Bool.eq_iff_iff]
    simp only [decide_eq_true_eq, Bool.and_eq_true, beq_iff_eq, Prod.ext_iff]
    exact And.comm
  rw [he]
  clear he
  have HS : Hid (HasS w r l) := hS
  have HS' : Hid (HasS w r' l') := hS'
  have HN : Hid ((l.map fun x => x.1.length).sum ≤ 100000000000000 ∧ (l'.map fun x => x.1.length).sum ≤ 100000000000000) := ⟨hn, hn'⟩
  clear hS hS' hn hn'
  go_enter Try.func26, Try.ntmps26
  go_wp2_with fail
  refine (bytesH_calls l r w HS.out hl HN.out.1).mono ?_
  rintro e w1 ⟨v1, rfl, ho1, hb1⟩
  go_wp2_with fail
  refine (bytesH_calls l' r' w1 (HS'.out.below hb1) hl' HN.out.2).mono ?_
  rintro e w2 ⟨v2, rfl, ho2, hb2⟩
  have hA : Hid (HasB w1.heap.size w2 v1 (bytesOf l).1) := (hasB_owns ho1).below hb2
  have hB : Hid (HasB w2.heap.size w2 v2 (bytesOf l').1) := hasB_owns ho2
  have hb : Below w.heap.size w w2 := hb1.trans (hb2.mono hb1.size)
  clear ho1 ho2 hb1 hb2
  cases e1 : (bytesOf l).2 == (bytesOf l').2 with
  | true =>
    have e2 : (bytesOf l).2 = (bytesOf l').2 := by simpa using e1
    have E1 : Hid (((bytesOf l).2 == (bytesOf l').2) = true) := e1
    rw [e2]
    generalize (bytesOf l').2 = f
    clear e1 e2
    go_wp2_with (go_at_call 42; refine (equal_calls _ _ _ _ _ _ _ hA.out hB.out).mono ?_; rintro e w3 ⟨rfl, hw⟩; obtain rfl : w2 = w3 := hw.symm)
    go_ret
    exact ⟨by rw [E1.out]; simp, hb⟩
  | false =>
    have E1 : Hid (((bytesOf l).2 == (bytesOf l').2) = false) := e1
    go_wp2
    go_ret
    exact ⟨by rw [E1.out]; simp, hb⟩

end Go.Proofs.Ytliahgoelmiopaa.C
