/- What is proved here: the iterator of slices.All over texts: what a loop over it is told, for any round that keeps the row; names.All gives such an iterator over the names of a set. -/
import Derived.RangeFuncBox
import Derived.RangeFuncLeaves
import Derived.RangeFuncKeeps
import Derived.Shelf.Abstract
import Derived.WalkKit
import Derived.OwnWalkIn
import Derived.TacticsInMore
import Derived.LoopNIn
import Derived.LoopIn
import Derived.Test.YtjgppdjbcmadcaaNMembers
namespace Go.Proofs.Ytjgppdjbcmadcaa.N
open Go.RowKit Go.Shelf C
attribute [local go_sem] Oper.semAt_some

/-- The first k texts with their numbers. -/
def numTo (L : List (List UInt8)) (k : Nat) : List (Nat × List UInt8) := (List.range k).map fun j => (j, L.getD j [])
theorem numTo_succ (L : List (List UInt8)) (k : Nat) (h : k < L.length) : numTo L (k + 1) = numTo L k ++ [(k, L[k])] := by simp [numTo, List.range_succ, List.getD, h]
theorem numTo_length (L : List (List UInt8)) (k : Nat) : (numTo L k).length = k := by simp [numTo]
theorem numTo_prefix (L : List (List UInt8)) (k : Nat) (h : k ≤ L.length) : numTo L k <+: numTo L L.length := by
  have e : numTo L k = (numTo L L.length).take k := by
    unfold numTo
    rw [← List.map_take, List.take_range, Nat.min_eq_left h]
  rw [e]
  exact List.take_prefix _ _

set_option maxRecDepth 100000 in
set_option maxHeartbeats 2000000 in
theorem all1_in (n : Nat) (hn : 1 ≤ n) (l Bs b cap : Nat) (L : List (List UInt8)) (hl : L.length ≤ 1000000) (_ : L.length ≤ cap) (Kp : World → World → Prop) (HKp : Hid (∀ A B, Kp A B → ∀ j u, A.cell? ⟨b, j, none⟩ = some u → B.cell? ⟨b, j, none⟩ = some u))
    (J Jx : List (Nat × List UInt8) → World → Prop) (W : World)
    (hY : ∀ pre x W1, J pre W1 → pre.length < L.length → YieldAt Fence.wide (n - 1) Try.prog l #[.int .i64 (x.1 : Int), .string ⟨x.2.toArray⟩] W1 fun e W' =>
      (e = .returned (.bool true) ∧ J (pre ++ [x]) W' ∧ Kp W1 W') ∨ (e = .returned (.bool false) ∧ Jx (pre ++ [x]) W'))
    (hBs : W.cell? ⟨Bs, 0, none⟩ = some (.slice (some ⟨b, 0, none⟩) L.length cap)) (HC : Hid (∀ j (h : j < L.length), W.cell? ⟨b, j, none⟩ = some (.string ⟨L[j].toArray⟩))) (h0 : J [] W) :
    CallsIn Fence.wide n Try.prog 25 #[.func (.yield l) #[] #[], .pointer (some ⟨Bs, 0, none⟩)] W fun e W' => (∃ v, e = .returned v) ∧
      ((∃ ys, ys = numTo L L.length ∧ J ys W') ∨ (∃ pre, pre <+: numTo L L.length ∧ Jx pre W')) := by
  refine callsIn_of_wp Try.func25 rfl trivial ?_ rfl
  simp only [Try.ntmps25, List.size_toArray, List.length_cons, List.length_nil, Nat.reduceAdd, Nat.reduceSub, Array.replicate_succ, Array.replicate_zero, List.push_toArray, List.append_toArray, List.nil_append, List.cons_append]
  gi_wp2
  gi_loopw [3, 4, 7] (fun _ _ i wr => ∃ k : Nat, k ≤ L.length ∧ i = .int .i64 k ∧ J (numTo L k) wr ∧ Hid (∀ j (h : j < L.length), wr.cell? ⟨b, j, none⟩ = some (.string ⟨L[j].toArray⟩))) (fun _ _ i _ => L.length - (intOf i).toNat)
  case atStart => exact ⟨0, by omega, rfl, h0, HC⟩
  case round =>
    clear HC
    obtain ⟨k, hk, rfl, hJs, HC⟩ := hrel
    by_cases hlt : k < L.length
    · obtain ⟨fn, tmps, assign, body, hy, hR⟩ := hY _ (k, L[k]) wr hJs (by rw [numTo_length]; exact hlt)
      have hc := HC.out k hlt
      gi_wp2
      refine hR.mono ?_
      rintro e W3 (⟨rfl, hJ3, hk3⟩ | ⟨rfl, hJx3⟩)
      · gi_wp2
        go_roundw
        case rel => exact ⟨k + 1, by omega, by go_num, by rw [numTo_succ L k hlt]; exact hJ3, fun j hj => HKp.out _ _ hk3 j _ (HC.out j hj)⟩
        case measure => simp [intOf]; omega
      · gi_wp2
        refine bodyPost_ret (results_none rfl _ _ _) rfl ?_
        exact ⟨⟨_, rfl⟩, .inr ⟨_, by rw [← numTo_succ L k hlt]; exact numTo_prefix L (k + 1) (by omega), hJx3⟩⟩
    · obtain rfl : k = L.length := by omega
      gi_wp2
      go_end0
      exact ⟨⟨_, rfl⟩, .inl ⟨_, rfl, hJs⟩⟩

set_option maxRecDepth 100000 in
set_option maxHeartbeats 1000000 in
theorem all1_nil (n l Bs : Nat) (a : Option Addr) (cap : Nat) (J : List (Nat × List UInt8) → World → Prop) (W : World) (hBs : W.cell? ⟨Bs, 0, none⟩ = some (.slice a 0 cap)) (h0 : J [] W) :
    CallsIn Fence.wide n Try.prog 25 #[.func (.yield l) #[] #[], .pointer (some ⟨Bs, 0, none⟩)] W fun e W' => (∃ v, e = .returned v) ∧ J [] W' := by
  refine callsIn_of_wp Try.func25 rfl trivial ?_ rfl
  simp only [Try.ntmps25, List.size_toArray, List.length_cons, List.length_nil, Nat.reduceAdd, Nat.reduceSub, Array.replicate_succ, Array.replicate_zero, List.push_toArray, List.append_toArray, List.nil_append, List.cons_append]
  gi_wp2
  gi_loopw [3, 4, 7] (fun _ _ i wr => i = .int .i64 0 ∧ wr = W) (fun _ _ _ _ => 0)
  case atStart => exact ⟨rfl, rfl⟩
  case round =>
    obtain ⟨rfl, rfl⟩ := hrel
    gi_wp2
    go_end0
    exact ⟨⟨_, rfl⟩, h0⟩

/-- **The iterator of slices.All over texts in memory.** -/
theorem all_stops (n : Nat) (hn : 1 ≤ n) (Bs : Nat) (v : Value) (L : List (List UInt8)) (hl : L.length ≤ 1000000) (Kp : World → World → Prop) (w : World) (hT : HasT w v L) (hBs : w.cell? ⟨Bs, 0, none⟩ = some v)
    (hKp : ∀ b cap, v = .slice (some ⟨b, 0, none⟩) L.length cap → ∀ A B, Kp A B → ∀ j u, A.cell? ⟨b, j, none⟩ = some u → B.cell? ⟨b, j, none⟩ = some u) :
    SeqStopsK Fence.wide n Try.prog 25 #[.pointer (some ⟨Bs, 0, none⟩)] (fun x : Nat × List UInt8 => #[Value.int .i64 (x.1 : Int), Value.string ⟨x.2.toArray⟩]) Kp (fun ys => ys = numTo L L.length) (fun pre => pre <+: numTo L L.length) L.length w := fun l J Jx W hW _ _ hY h0 => by
  have hlt := cell_lt hBs
  have hc := (hW.cell (p := ⟨Bs, 0, none⟩) hlt).trans hBs
  rcases hT.below hW with ⟨rfl, a, cap, rfl⟩ | ⟨b, cap, rfl, hcap, hb, hx⟩
  · exact (all1_nil n l Bs a cap J W hc h0).mono fun e W' ⟨he, hj⟩ => ⟨he, .inl ⟨_, rfl, hj⟩⟩
  · exact all1_in n hn l Bs b cap L hl hcap Kp (hKp b cap rfl) J Jx W hY hc hx h0
theorem sall_calls (a : Option Addr) (n cap : Nat) (w : World) : Calls Try.prog 18 #[.slice a n cap] w fun e w' => e = .returned (.func (.func 25) #[] #[.pointer (some ⟨w.heap.size, 0, none⟩)]) ∧ w' = w.alloc (.cells #[.slice a n cap] 23) := by
  go_enter Try.func18, Try.ntmps18
  go_wp2
  go_ret
  exact ⟨rfl, rfl⟩
set_option maxRecDepth 100000 in
set_option maxHeartbeats 1000000 in
/-- **names.All: the names of a set, boxed.** -/
theorem nall_calls (z : Int) (w : World) :
    Calls Try.prog 9 #[.int .i64 z] w fun e w' => ∃ B v, e = .returned (.func (.func 25) #[] #[.pointer (some ⟨B, 0, none⟩)]) ∧ w'.cell? ⟨B, 0, none⟩ = some v ∧ w.heap.size ≤ B ∧ OwnT w.heap.size w' v (fields (txtZ z).data.toList) ∧ Below w.heap.size w w' := by
  have HLC : Hid (∀ w, Calls Try.prog 4 #[.int .i64 z] w fun e w' => ∃ v c, e = .returned (.tuple #[v, .int .i64 c]) ∧ OwnT w.heap.size w' v (fields (txtZ z).data.toList) ∧ Below w.heap.size w w') := fun w => (list_calls z w).mono fun _ _ ⟨v, c, h1, h2, _, h4⟩ => ⟨v, c, h1, h2, h4⟩
  generalize fields (txtZ z).data.toList = F at *
  go_enter Try.func9, Try.ntmps9
  go_wp2_with fail
  refine (HLC.out w).mono ?_
  rintro e W1 ⟨v, c, rfl, hO, hB⟩
  obtain ⟨va, vc, rfl⟩ := owns_slice hO
  go_wp2_with fail
  refine (sall_calls _ _ _ _).mono ?_
  rintro e W2 ⟨rfl, rfl⟩
  go_wp2
  go_ret
  exact ⟨W1.heap.size, _, rfl, by rw [cell_new]; rfl, hB.size, World.ownsRow.alloc hO _, hB.alloc hB.size _⟩
end Go.Proofs.Ytjgppdjbcmadcaa.N
