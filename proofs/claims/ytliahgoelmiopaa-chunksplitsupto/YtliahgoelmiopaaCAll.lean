/- What is proved here: contracts of (*chunk.Source).All and of its iterator: each round is told what Read tells, until it tells an error or the round says 'no more'. -/
import Derived.RangeFuncNested
import Derived.RangeFuncBound
import Derived.RangeFuncBox
import Derived.RangeFuncCalls
import Derived.RangeFuncLeaves
import Derived.OwnWalkIn
import Derived.TacticsInMore
import Derived.LoopNIn
import Derived.LoopIn
import Derived.Test.YtliahgoelmiopaaCInv
namespace Go.Proofs.Ytliahgoelmiopaa.CInv
open Go.RowKit C
attribute [local go_sem] Oper.semAt_some

set_option maxRecDepth 100000 in
/-- **All of a source.** -/
theorem all_calls {base : Nat} (w : World) (g : Nat) (l : Scr) (i part told : Nat) (n : Int) (h : Src base w g l i part told) :
    Calls Try.prog 18 #[.pointer (some ⟨g, 0, none⟩), .int .i64 n] w fun e W' => e = .returned (.func (.func 38) #[] #[.pointer (some ⟨w.heap.size + 2, 0, none⟩), .pointer (some ⟨w.heap.size, 0, none⟩), .pointer (some ⟨w.heap.size + 1, 0, none⟩)]) ∧
      W' = ((w.alloc (.cells #[.pointer (some ⟨g, 0, none⟩)] 24)).alloc (.cells #[.int .i64 n] 3)).alloc (.cells #[.bool true] 4) := by
  have HS : Hid (Src base w g l i part told) := h
  clear h
  go_enter Try.func18, Try.ntmps18
  go_wp2_with (go_at_call 32; refine (isMade_calls _ g l i part told (HS.out.below (((Below.refl _ w).alloc (Nat.le_refl _) _).alloc (by simp) _))).mono ?_; rintro e w' ⟨rfl, rfl⟩)
  go_ret
  exact ⟨rfl, rfl⟩

/-- .. its boxes by name. -/
theorem all_boxes {base : Nat} (w : World) (g : Nat) (l : Scr) (i part told : Nat) (n : Int) (h : Src base w g l i part told) :
    Calls Try.prog 18 #[.pointer (some ⟨g, 0, none⟩), .int .i64 n] w fun e W' => ∃ Bm Bs Bn, e = .returned (.func (.func 38) #[] #[.pointer (some ⟨Bm, 0, none⟩), .pointer (some ⟨Bs, 0, none⟩), .pointer (some ⟨Bn, 0, none⟩)]) ∧
      Boxed W' Bm 4 (.bool true) ∧ Boxed W' Bs 24 (.pointer (some ⟨g, 0, none⟩)) ∧ Boxed W' Bn 3 (.int .i64 n) ∧ w.heap.size ≤ Bm ∧ w.heap.size ≤ Bs ∧ w.heap.size ≤ Bn ∧ Below w.heap.size w W' := by
  refine (all_calls w g l i part told n h).mono ?_
  rintro e W' ⟨rfl, rfl⟩
  refine ⟨_, _, _, rfl, ?_, ((Boxed.new w _ _).alloc _).alloc _, ?_, by omega, Nat.le_refl _, by omega, (((Below.refl _ w).alloc (Nat.le_refl _) _).alloc (by simp) _).alloc (by simp; omega) _⟩
  · have := Boxed.new ((w.alloc (.cells #[.pointer (some ⟨g, 0, none⟩)] 24)).alloc (.cells #[.int .i64 n] 3)) 4 (.bool true)
    simpa using this
  · have := (Boxed.new (w.alloc (.cells #[.pointer (some ⟨g, 0, none⟩)] 24)) 3 (.int .i64 n)).alloc (.cells #[.bool true] 4)
    simpa using this

theorem Src.cellAt {base : Nat} {w : World} {g : Nat} {l : Scr} {i part told : Nat} (h : Src base w g l i part told) : w.cell? ⟨g, 2, none⟩ = some (.int .i64 i) ∧ w.cell? ⟨g, 4, none⟩ = some (.int .i64 told) := by
  obtain ⟨v, hB, _⟩ := h
  exact ⟨hB.cell 2, hB.cell 4⟩
/-- A read that tells no error goes on. -/
theorem rd_goes (l : Scr) (i part n : Nat) (hn : 1 ≤ n) (hp : ∀ h : i < l.length, part ≤ l[i].1.length) (he : rdE l i part = 0) : i < (rdN l i part n).1 ∨ (i = (rdN l i part n).1 ∧ 1 ≤ rdK l i part n) := by
  unfold rdE at he
  by_cases h : i < l.length
  · rw [dif_pos h] at he
    by_cases hf : (l[i].2 && decide (part = l[i].1.length)) = true
    · rw [if_pos hf] at he; omega
    · have hpl := hp h
      simp only [rdN, rdK, dif_pos h, if_neg hf]
      unfold nxt
      split
      · left; show i < i + 1; omega
      · rename_i hx
        right
        refine ⟨rfl, ?_⟩
        by_cases hz : part = l[i].1.length
        · exfalso
          apply hx
          refine ⟨by omega, ?_⟩
          cases hf2 : l[i].2 with
          | false => rfl
          | true => exact absurd (by rw [hf2, decide_eq_true hz]; rfl) hf
        · omega
  · rw [dif_neg h] at he; omega

/-- What stands whenever the iterator is about to read. -/
def StandsOn (g base n Bm Bs Bn : Nat) (l : Scr) (J : Nat → Nat → Nat → World → Prop) : Prop :=
  ∀ i p t W, J i p t W → Inv l i p t ∧ Src base W g (reach l) i p t ∧ W.cell? ⟨Bm, 0, none⟩ = some (.bool true) ∧ W.cell? ⟨Bs, 0, none⟩ = some (.pointer (some ⟨g, 0, none⟩)) ∧ W.cell? ⟨Bn, 0, none⟩ = some (.int .i64 n)
/-- What a round does with what a read tells. -/
def TellsOn (m L g base n : Nat) (l : Scr) (J : Nat → Nat → Nat → World → Prop) (Je Jx : World → Prop) : Prop :=
  ∀ i p t W1, J i p t W1 → ∀ d Wa, Wa.ownsRow W1.heap.size 5 1 d (rdX l i p n).length (bvs (rdX l i p n)) → Src base Wa g (reach l) (rdN l i p n).1 (rdN l i p n).2 (t + rdK l i p n) → W1.grownBy Wa (some g) →
      YieldAt Fence.wide (m - 1) Try.prog L #[d, .int .i64 (rdE l i p)] Wa fun e W' => (e = .returned (.bool true) ∧ (rdE l i p = 0 → J (rdN l i p n).1 (rdN l i p n).2 (t + rdK l i p n) W') ∧ (rdE l i p ≠ 0 → Je W')) ∨ (e = .returned (.bool false) ∧ Jx W')

set_option maxRecDepth 100000 in
set_option maxHeartbeats 2000000 in
theorem all1_in (m : Nat) (hm : 1 ≤ m) (L g base n Bm Bs Bn : Nat) (l : Scr) (J : Nat → Nat → Nat → World → Prop) (Je Jx : World → Prop)
    (hJ : StandsOn g base n Bm Bs Bn l J)
    (hY : TellsOn m L g base n l J Je Jx)
    (hn : 1 ≤ n) (hn' : n ≤ 9223372036854775807) (hd : ∀ x ∈ l, x.1.length ≤ 100000000000000) (hl : l.length ≤ 100000000) (hs : sizeS l l.length ≤ 100000000) (i0 p0 t0 : Nat) (W : World) (h0 : J i0 p0 t0 W) :
    CallsIn Fence.wide m Try.prog 38 #[.func (.yield L) #[] #[], .pointer (some ⟨Bm, 0, none⟩), .pointer (some ⟨Bs, 0, none⟩), .pointer (some ⟨Bn, 0, none⟩)] W fun e W' => (∃ v, e = .returned v) ∧ (Je W' ∨ Jx W') := by
  have HRD : Hid (∀ x ∈ reach l, x.1.length ≤ 100000000000000) := fun x hx => by
    obtain ⟨j, hj, rfl⟩ := List.mem_iff_getElem.1 hx
    obtain ⟨h', e⟩ := reach_get l j hj
    rw [← e]; exact hd _ (List.getElem_mem _)
  have HRL : Hid ((reach l).length ≤ l.length) := by
    show _ ≤ _
    by_cases h0 : (reach l).length = 0
    · omega
    · obtain ⟨h', _⟩ := reach_get l ((reach l).length - 1) (by omega)
      omega
  clear hd
  refine callsIn_of_wp Try.func38 rfl trivial ?_ rfl
  simp only [Try.ntmps38, List.size_toArray, List.length_cons, List.length_nil, Nat.reduceAdd, Nat.reduceSub, Array.replicate_succ, Array.replicate_zero, List.push_toArray, List.append_toArray, List.nil_append, List.cons_append]
  gi_wp2
  gi_loopw [5] (fun _ wr => ∃ i p t : Nat, J i p t wr) (fun _ wr => sizeS l l.length + (reach l).length - (intOf ((wr.cell? ⟨g, 2, none⟩).getD (.int .i64 0))).toNat - (intOf ((wr.cell? ⟨g, 4, none⟩).getD (.int .i64 0))).toNat)
  case atStart => exact ⟨i0, p0, t0, h0⟩
  case round =>
    obtain ⟨i, p, t, hj⟩ := hrel
    obtain ⟨hI, hS, c1, c2, c3⟩ := hJ i p t _ hj
    have hSM := hI.same n
    have hbd := hI.bound
    have HIN : Inv l (rdN l i p n).1 (rdN l i p n).2 (t + rdK l i p n) := hI.step n
    have hpl : ∀ h : i < l.length, p ≤ l[i].1.length := fun h => by
      rcases hI.cases with ⟨h1, h2, e⟩ | ⟨h1, _⟩
      · rw [e]; exact hI.part_le h1
      · omega
    have HGO : Hid (rdE l i p = 0 → i < (rdN l i p n).1 ∨ (i = (rdN l i p n).1 ∧ 1 ≤ rdK l i p n)) := rd_goes l i p n hn hpl
    have hle := HIN.le
    have hbd2 := HIN.bound
    have HC : Hid (wr.cell? ⟨g, 2, none⟩ = some (.int .i64 i) ∧ wr.cell? ⟨g, 4, none⟩ = some (.int .i64 t)) := Src.cellAt hS
    have RC : Hid (Calls Try.prog 22 #[.pointer (some ⟨g, 0, none⟩), .int .i64 n] wr fun e W' => ∃ d, e = .returned (.tuple #[d, .int .i64 (rdE l i p)]) ∧ W'.ownsRow wr.heap.size 5 1 d (rdX l i p n).length (bvs (rdX l i p n)) ∧ Src base W' g (reach l) (rdN l i p n).1 (rdN l i p n).2 (t + rdK l i p n) ∧ wr.grownBy W' (some g)) := by
      have h := cread_calls wr g (reach l) i p t n hS hn hI.le hI.part_le HRD.out (by omega) (by have := HRL.out; omega) hn'
      obtain ⟨q1, q2, q3, q4, q5⟩ := hSM
      rw [q1, q2, q3, q4] at h
      exact h
    have HJ1 : Hid (J i p t wr) := hj
    clear hI hS hSM hpl HIN hj
    gi_wp2_with (refine ⟨trivial, ?_⟩; gi_at_call 22; refine (callsIn_wide.2 RC.out).mono ?_; rintro e w1 ⟨d, rfl, ho1, hS1, hg1⟩; obtain ⟨fn, tmps, assign, body, hy, hR⟩ := hY i p t wr HJ1.out d w1 ho1 hS1 hg1)
    refine hR.mono ?_
    rintro e W3 (⟨rfl, hJ3, hE3⟩ | ⟨rfl, hJx3⟩)
    · by_cases he : rdE l i p = 0
      · have hj3 := hJ3 he
        have hgo := HGO.out he
        obtain ⟨k1, k2⟩ := Src.cellAt (hJ _ _ _ _ hj3).2.1
        have HK : Hid (W3.cell? ⟨g, 2, none⟩ = some (.int .i64 ((rdN l i p n).1 : Nat)) ∧ W3.cell? ⟨g, 4, none⟩ = some (.int .i64 ((t + rdK l i p n : Nat)))) := ⟨k1, k2⟩
        clear k1 k2 hJ3 hE3
        rw [he]
        gi_wp2
        go_roundw
        case rel => exact ⟨_, _, _, hj3⟩
        case measure =>
          rw [HK.out.1, HK.out.2, HC.out.1, HC.out.2]
          simp [intOf]
          omega
      · have te : (rdE l i p != 0) = true := by simpa using he
        have hE := hE3 he
        clear hJ3 hE3
        gi_wp2
        refine bodyPost_ret (results_none rfl _ _ _) rfl ?_
        exact ⟨⟨_, rfl⟩, .inl hE⟩
    · gi_wp2
      refine bodyPost_ret (results_none rfl _ _ _) rfl ?_
      exact ⟨⟨_, rfl⟩, .inr hJx3⟩

set_option maxRecDepth 100000 in
set_option maxHeartbeats 2000000 in
/-- .. where the number is below 1. -/
theorem all1_arg (m : Nat) (hm : 1 ≤ m) (L g base Bm Bs Bn : Nat) (n : Int) (l : Scr) (i p t : Nat) (Je Jx : World → Prop) (W : World)
    (hS : Src base W g l i p t) (c1 : W.cell? ⟨Bm, 0, none⟩ = some (.bool true)) (c2 : W.cell? ⟨Bs, 0, none⟩ = some (.pointer (some ⟨g, 0, none⟩))) (c3 : W.cell? ⟨Bn, 0, none⟩ = some (.int .i64 n)) (hn : n < 1)
    (hY : ∀ Wa, Below W.heap.size W Wa → YieldAt Fence.wide (m - 1) Try.prog L #[.slice none 0 0, .int .i64 1] Wa fun e W' => (e = .returned (.bool true) ∧ Je W') ∨ (e = .returned (.bool false) ∧ Jx W')) :
    CallsIn Fence.wide m Try.prog 38 #[.func (.yield L) #[] #[], .pointer (some ⟨Bm, 0, none⟩), .pointer (some ⟨Bs, 0, none⟩), .pointer (some ⟨Bn, 0, none⟩)] W fun e W' => (∃ v, e = .returned v) ∧ (Je W' ∨ Jx W') := by
  have HY : Hid (∀ Wa, Below W.heap.size W Wa → YieldAt Fence.wide (m - 1) Try.prog L #[.slice none 0 0, .int .i64 1] Wa fun e W' => (e = .returned (.bool true) ∧ Je W') ∨ (e = .returned (.bool false) ∧ Jx W')) := hY
  have RC : Hid (Calls Try.prog 22 #[.pointer (some ⟨g, 0, none⟩), .int .i64 n] W fun e W' => e = .returned (.tuple #[.slice none 0 0, .int .i64 1]) ∧ Below W.heap.size W W') := read_arg W g l i p t n hS hn
  clear hY hS
  refine callsIn_of_wp Try.func38 rfl trivial ?_ rfl
  simp only [Try.ntmps38, List.size_toArray, List.length_cons, List.length_nil, Nat.reduceAdd, Nat.reduceSub, Array.replicate_succ, Array.replicate_zero, List.push_toArray, List.append_toArray, List.nil_append, List.cons_append]
  gi_wp2
  gi_loopw [5] (fun _ wr => wr = W) (fun _ _ => 0)
  case atStart => rfl
  case round =>
    subst hrel
    gi_wp2_with (refine ⟨trivial, ?_⟩; gi_at_call 22; refine (callsIn_wide.2 RC.out).mono ?_; rintro e w1 ⟨rfl, hb1⟩; obtain ⟨fn, tmps, assign, body, hy, hR⟩ := HY.out w1 hb1)
    refine hR.mono ?_
    rintro e W3 (⟨rfl, hE⟩ | ⟨rfl, hJx3⟩)
    · gi_wp2
      refine bodyPost_ret (results_none rfl _ _ _) rfl ?_
      exact ⟨⟨_, rfl⟩, .inl hE⟩
    · gi_wp2
      refine bodyPost_ret (results_none rfl _ _ _) rfl ?_
      exact ⟨⟨_, rfl⟩, .inr hJx3⟩

end Go.Proofs.Ytliahgoelmiopaa.CInv
