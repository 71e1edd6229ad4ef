/- What is proved here: slices.Backward over texts in memory: what a loop over it is told. -/
import Derived.RangeFuncNested
import Derived.RangeFuncBound
import Derived.RangeFuncBox
import Derived.RangeFuncLeaves
import Derived.RangeFuncKeeps
import Derived.Shelf.Abstract
import Derived.WalkKit
import Derived.OwnWalkIn
import Derived.TacticsInMore
import Derived.LoopNIn
import Derived.LoopIn
import Derived.Test.YtdkcibafbdmajabGreatDoorNeTab
namespace Go.Proofs.YtdkcibafbdmajabGreatDoor.E
open Go.RowKit Go.Shelf Go.WideMaps Go.Maps Go.Proofs.YtdkcibafbdmajabGreatDoor.N Go.Proofs.YtdkcibafbdmajabGreatDoor.C
attribute [local go_sem] Oper.semAt_some

/-- All that lies in cells stays. -/
def KpC (A B : World) : Prop := ∀ (k : Nat) (o : Obj), A.heap[k]? = some o → o.isCells = true → B.heap[k]? = some o
theorem KpC.refl (A : World) : KpC A A := fun _ _ h _ => h
theorem KpC.trans {A B C : World} (h : KpC A B) (k : KpC B C) : KpC A C := fun j o hj hc => k j o (h j o hj hc) hc
theorem KpC.book {n₀ : Nat} (W : World) (l : Nat) (o o' : Obj) (_ : n₀ ≤ l) (h : W.heap[l]? = some o) (hc : o.isCells = false) (_ : o.isWalk = false) : KpC W (W.putObj l o') := fun k ok hk hkc => by
  have : k ≠ l := by rintro rfl; rw [hk] at h; cases h; rw [hkc] at hc; cases hc
  rw [World.putObj_heap_other this]; exact hk
theorem KpC.of_below {A B : World} (h : Below A.heap.size A B) : KpC A B := fun k _ hk _ => (h.block k (lt_of_block hk)).trans hk
theorem KpC.grown {A B : World} {lb : Nat} {o : Obj} (h : A.grownBy B (some lb)) (hl : A.heap[lb]? = some o) (ho : o.isCells = false) : KpC A B := fun k ok hk hkc => by
  refine (h.block k (lt_of_block hk) (fun e => ?_)).trans hk
  cases e
  rw [hl] at hk
  cases hk
  rw [ho] at hkc
  cases hkc
theorem block_of_cell {W : World} {p : Addr} {v : Value} (h : W.cell? p = some v) : ∃ o, W.heap[p.block]? = some o ∧ o.isCells = true := by
  unfold World.cell? at h
  split at h
  · rename_i c e f hb; exact ⟨_, hb, rfl⟩
  · cases h
theorem KpC.cell {A B : World} (h : KpC A B) {p : Addr} {v : Value} (hc : A.cell? p = some v) : B.cell? p = some v := by
  obtain ⟨o, ho, hi⟩ := block_of_cell hc
  rw [World.cell?_of_block (w := A) ((h _ o ho hi).trans ho.symm)]; exact hc
theorem KpC.frozen {A B : World} (h : KpC A B) {p : Addr} {v : Value} (hc : A.cell? p = some v) (hf : A.frozen? p = false) : B.frozen? p = false := by
  obtain ⟨o, ho, hi⟩ := block_of_cell hc
  have e := (h _ o ho hi).trans ho.symm
  unfold World.frozen? at hf ⊢
  rw [e]; exact hf
theorem KpC.own {β : Type} (B : Nat) (w₀ : World) : OwnFrom B (fun (_ : β) W => KpC w₀ W) := fun _ W W' row hs hg hr k o hk hc => by
  have h1 := hs k o hk hc
  refine (hg.block k (lt_of_block h1) (fun e => ?_)).trans h1
  obtain ⟨_, o', ho', hi⟩ := hr k e.symm
  rw [h1] at ho'; cases ho'; rw [hc] at hi; cases hi
theorem KpC.texts {A B : World} (h : KpC A B) {a : Option Addr} {S : List Txt} (ht : TextsAt A a S) : TextsAt B a S := fun j hj => by
  obtain ⟨b, off, e, hc⟩ := ht j hj
  exact ⟨b, off, e, h.cell hc⟩
/-- The last t of the first k places, from behind. -/
def downs (k t : Nat) : List Nat := (List.range t).map fun j => k - 1 - j
theorem downs_succ (k t : Nat) : downs k (t + 1) = downs k t ++ [k - 1 - t] := by simp [downs, List.range_succ]
theorem downs_length (k t : Nat) : (downs k t).length = t := by simp [downs]
theorem downs_prefix (k t : Nat) (h : t ≤ k) : downs k t <+: downs k k := by
  have e : downs k t = (downs k k).take t := by
    unfold downs
    rw [← List.map_take, List.take_range, Nat.min_eq_left h]
  rw [e]
  exact List.take_prefix _ _
theorem mem_downs (k j : Nat) : j ∈ downs k k ↔ j < k := by
  simp only [downs, List.mem_map, List.mem_range]
  constructor
  · rintro ⟨i, hi, rfl⟩; omega
  · intro h; exact ⟨k - 1 - j, by omega, by omega⟩
/-- What is told, place by place, with the text that lies there. -/
def encB (S : List Txt) (j : Nat) : Array Value := #[.int .i64 (j : Int), .string ⟨(S.getD j []).toArray⟩]

set_option maxRecDepth 100000 in
set_option maxHeartbeats 2000000 in
theorem back1_in (n : Nat) (hn : 1 ≤ n) (l Bs : Nat) (a : Option Addr) (cap k : Nat) (S : List Txt) (hk : k ≤ S.length) (hl : S.length ≤ 1000000000000)
    (J Jx : List Nat → World → Prop) (W : World)
    (hY : ∀ pre x W1, J pre W1 → pre.length < k → YieldAt Fence.wide (n - 1) Tryz.prog l (encB S x) W1 fun e W' =>
      (e = .returned (.bool true) ∧ J (pre ++ [x]) W' ∧ KpC W1 W') ∨ (e = .returned (.bool false) ∧ Jx (pre ++ [x]) W'))
    (hBs : W.cell? ⟨Bs, 0, none⟩ = some (.slice a k cap)) (HT : Hid (TextsAt W a S)) (h0 : J [] W) :
    CallsIn Fence.wide n Tryz.prog 162 #[.func (.yield l) #[] #[], .pointer (some ⟨Bs, 0, none⟩)] W fun e W' => (∃ v, e = .returned v) ∧
      ((∃ ys, ys = downs k k ∧ J ys W') ∨ (∃ pre, pre <+: downs k k ∧ Jx pre W')) := by
  refine callsIn_of_wp Tryz.func162 rfl trivial ?_ rfl
  simp only [Tryz.ntmps162, List.size_toArray, List.length_cons, List.length_nil, Nat.reduceAdd, Nat.reduceSub, Array.replicate_succ, Array.replicate_zero, List.push_toArray, List.append_toArray, List.nil_append, List.cons_append]
  gi_wp2
  gi_loopw [3] (fun i wr => ∃ t : Nat, t ≤ k ∧ i = .int .i64 ((k : Int) - 1 - (t : Int)) ∧ J (downs k t) wr ∧ Hid (TextsAt wr a S) ∧ wr.cell? ⟨Bs, 0, none⟩ = some (.slice a k cap)) (fun i _ => ((intOf i) + 1).toNat)
  case atStart => exact ⟨0, by omega, by simp, h0, HT, hBs⟩
  case round =>
    clear HT hBs
    obtain ⟨t, ht, rfl, hJs, HC, hBs⟩ := hrel
    by_cases hlt : t < k
    · obtain ⟨j, hj⟩ : ∃ j : Nat, (k : Int) - 1 - (t : Int) = (j : Int) := ⟨k - 1 - t, by omega⟩
      have hjk : j < k := by omega
      have hje : k - 1 - t = j := by omega
      have HD : Hid (downs k (t + 1) = downs k t ++ [j]) := by rw [← hje]; exact downs_succ k t
      have HJ : Hid ((k : Int) - 1 - (t : Int) = (j : Int)) := hj
      rw [hj]
      clear hj hje
      obtain ⟨b, off, rfl, hc⟩ := HC.out j (by omega)
      obtain ⟨fn, tmps, assign, body, hy, hR⟩ := hY _ j wr hJs (by rw [downs_length]; exact hlt)
      unfold encB at hy
      obtain ⟨x, hx⟩ : ∃ x, S.getD j [] = x := ⟨_, rfl⟩
      rw [hx] at hc hy
      clear hx
      gi_wp2
      refine hR.mono ?_
      rintro e W3 (⟨rfl, hJ3, hk3⟩ | ⟨rfl, hJx3⟩)
      · gi_wp2
        go_roundw
        case rel => exact ⟨t + 1, by omega, by congr 1; have := HJ.out; omega, by rw [HD.out]; exact hJ3, hk3.texts HC.out, hk3.cell hBs⟩
        case measure => simp [intOf]
      · gi_wp2
        refine bodyPost_ret (results_none rfl _ _ _) rfl ?_
        exact ⟨⟨_, rfl⟩, .inr ⟨_, by rw [← HD.out]; exact downs_prefix k _ (by omega), hJx3⟩⟩
    · obtain rfl : t = k := by omega
      have e1 : (t : Int) - 1 - (t : Int) = -1 := by omega
      rw [e1]
      clear e1
      gi_wp2
      go_end0
      exact ⟨⟨_, rfl⟩, .inl ⟨_, rfl, hJs⟩⟩
/-- **The iterator of slices.Backward over texts in memory.** -/
theorem back_stops (n : Nat) (hn : 1 ≤ n) (Bs : Nat) (a : Option Addr) (cap k : Nat) (S : List Txt) (hk : k ≤ S.length) (hl : S.length ≤ 1000000000000) (w : World) (hT : TextsAt w a S) (hBs : w.cell? ⟨Bs, 0, none⟩ = some (.slice a k cap)) :
    SeqStopsK Fence.wide n Tryz.prog 162 #[.pointer (some ⟨Bs, 0, none⟩)] (encB S) KpC (fun ys => ys = downs k k) (fun pre => pre <+: downs k k) k w := fun l J Jx W hW _ _ hY h0 =>
  back1_in n hn l Bs a cap k S hk hl J Jx W hY ((hW.cell (p := ⟨Bs, 0, none⟩) (cell_lt hBs)).trans hBs) (hT.below hW) h0
theorem back_calls (a : Option Addr) (n cap : Nat) (w : World) : Calls Tryz.prog 147 #[.slice a n cap] w fun e w' => e = .returned (.func (.func 162) #[] #[.pointer (some ⟨w.heap.size, 0, none⟩)]) ∧ w' = w.alloc (.cells #[.slice a n cap] 29) := by
  go_enter Tryz.func147, Tryz.ntmps147
  go_wp2
  go_ret
  exact ⟨rfl, rfl⟩
end Go.Proofs.YtdkcibafbdmajabGreatDoor.E
